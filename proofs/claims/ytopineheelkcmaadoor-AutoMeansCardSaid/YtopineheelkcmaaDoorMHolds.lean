/- For every input the law AutoMeans of layer 3 answers true: a tree is accepted with a subtree replaced by another one if the other one has all of the states of the first one. The package-level variables al and math/bits.deBruijn64tab hold what the program's text lays (the card ties them). No condition beyond the row's own. -/
import Derived.Test.YtopineheelkcmaaDoorMAll
import Derived.Test.YtopineheelkcmaaDoorMHold
import Derived.Test.YtopineheelkcmaaDoorCards
import Derived.Test.YtopineheelkcmaaDoorTie
import Derived.SevenTiedAt
namespace Go.Proofs.YtopineheelkcmaaDoor
open Go.ChangeShapes Go.WideShapes Go.ChangeAt Go.RowKit

set_option maxRecDepth 100000 in
theorem ameans_lifted (os : Os) (started : os.Started) (H : Type) (enc : TypeId × Value → H) :
    ReturnsInHanded {} Tryd.checked os 8 .any (fun w args => (Rows.autoMeansSpec.pre enc Tryd.prog Tryd.f8 Rows.autoMeansRow.domain false w args ∧ laidMetH Tryd.prog [("math/bits.deBruijn64tab", Rows.laid_math_bits_deBruijn64tab), ("boskage/boskagelaw03.al", Rows.laid_boskage_boskagelaw03_al)] w) ∧ sizedMet enc Tryd.prog Tryd.f8 (OpenSpec.ofChange Rows.autoMeansSpec) false w args)
      (Rows.autoMeansSpec.post enc Tryd.prog Tryd.f8 false true false false) := by
  refine returnsInHanded_of_change_and (C := Tryd.checked) (X := fun w _ => laidMetH Tryd.prog [("math/bits.deBruijn64tab", Rows.laid_math_bits_deBruijn64tab), ("boskage/boskagelaw03.al", Rows.laid_boskage_boskagelaw03_al)] w) (fun _ _ _ hh h => h.of_heap hh) Tryd.own started (by kernel_rfl) Tryd.func8
    (ChangeSpec.witness_shaped (enc := enc) (C := Tryd.checked) (os := os) (X := fun w _ => laidMetH Tryd.prog [("math/bits.deBruijn64tab", Rows.laid_math_bits_deBruijn64tab), ("boskage/boskagelaw03.al", Rows.laid_boskage_boskagelaw03_al)] w) false (World.doorLaid Tryd.prog 400 os) #[.agg #[.slice none 0 0], .agg #[.int .i64 0, .slice none 0 0, .slice none 0 0], .agg #[.int .i64 0, .slice none 0 0], .agg #[.int .i64 0, .slice none 0 0], .slice none 0 0] 8 rfl (World.shaped_of_RefB (by kernel_rfl) (by kernel_rfl)) (by kernel_rfl) (by kernel_rfl) (by kernel_rfl) (door_met2 os _)) ?_
  intro W base args ds gs before hval0 hW _ _ hL _
  have hval : ∀ (j : Nat) t v, Tryd.f8.params[j]? = some t → args[j]? = some v → Value.okWide Tryd.prog W .any base t v := hval0
  have hW' := hW
  have hlt : ∀ p ∈ before, p.block < W.heap.size := fun p hp => hW.lt p hp
  obtain ⟨p, q, hA0, hV, rfl, hfz, hnd⟩ := hW
  have hA : DataW.TrodAll enc Tryd.prog W 0 (fun _ => true) true Tryd.f8.params.toList args.toList ds p := hA0
  rw [Tryd.params8] at hA hval
  obtain ⟨v0, v1, v2, v3, v4, d0, d1, d2, d3, d4, p0, p1, p2, p3, p4, rfl, rfl, rfl, h0, h1, h2, h3, h4⟩ := trodAll_five hA
  obtain ⟨rfl, rfl⟩ := trodVars_none hV
  obtain ⟨av, al, rfl, ha, _⟩ := read_alpha (hval 0 24 v0 rfl rfl) h0
  obtain ⟨A, hau⟩ := read_au (hval 1 27 v1 rfl rfl) h1
  obtain ⟨l, vk, K, rfl, hwf, hk⟩ := read_tree (hval 2 43 v2 rfl rfl) h2
  obtain ⟨lx, vx, X, rfl, hwx, hx⟩ := read_tree (hval 3 43 v3 rfl rfl) h3
  obtain ⟨pos, hp⟩ := read_pos (okWide_slice Tryd.underlying22 (hval 4 22 v4 rfl rfl)) h4
  clear hA0 hval0
  simp only [List.append_nil] at hW' hlt
  refine (means_walk al A l lx K X pos av v1 vk vx _ W (al_of_laid2 hL) (tab_of_laid2 hL) hwf hwx ha hau hk hx hp).mono fun e W' ⟨he, hb⟩ => ?_
  subst he
  refine ⟨_, rfl, post_of_below (pa := _) (pv := []) hW' (fun _ _ _ => trodAll_mk1 (shut_bool Tryd.underlying4 true)) (fun sp hsp => trodAll_mk5 (trod_kept Tryd.laidOut (by kernel_rfl) (of_decide_eq_true (by kernel_rfl)) h0 hb ?_ sp ?_) (trod_kept Tryd.laidOut (by kernel_rfl) (of_decide_eq_true (by kernel_rfl)) h1 hb ?_ sp ?_) (trod_kept Tryd.laidOut (by kernel_rfl) (of_decide_eq_true (by kernel_rfl)) h2 hb ?_ sp ?_) (trod_kept Tryd.laidOut (by kernel_rfl) (of_decide_eq_true (by kernel_rfl)) h3 hb ?_ sp ?_) (trod_kept Tryd.laidOut (by kernel_rfl) (of_decide_eq_true (by kernel_rfl)) h4 hb ?_ sp ?_)) (fun _ _ => rfl) (by simp) hb (ok_one (by kernel_rfl) rfl (okWide_bool_mk Tryd.underlying4 true))⟩
  · intro x hx; exact hlt x (by simp; exact .inl hx)
  · intro x hx; exact hsp x (by simp; exact .inl hx)
  · intro x hx; exact hlt x (by simp; exact .inr (.inl hx))
  · intro x hx; exact hsp x (by simp; exact .inr (.inl hx))
  · intro x hx; exact hlt x (by simp; exact .inr (.inr (.inl hx)))
  · intro x hx; exact hsp x (by simp; exact .inr (.inr (.inl hx)))
  · intro x hx; exact hlt x (by simp; exact .inr (.inr (.inr (.inl hx))))
  · intro x hx; exact hsp x (by simp; exact .inr (.inr (.inr (.inl hx))))
  · intro x hx; exact hlt x (by simp; exact .inr (.inr (.inr (.inr hx))))
  · intro x hx; exact hsp x (by simp; exact .inr (.inr (.inr (.inr hx))))

theorem ameans_row : Rows.AutoMeansSaid :=
  OpenClaim.holds_of_wide 8 Tryd.f8 rfl rfl rfl rfl rfl rfl rfl ⟨rfl, rfl, rfl, rfl, rfl⟩ rfl rfl rfl rfl rfl (by kernel_rfl) Tryd.func8 (by kernel_rfl)
    (of_decide_eq_true (by kernel_rfl)) (by unfold Func.isWrapper; first | (rw [if_pos (by decide +kernel)]; kernel_rfl) | (rw [if_neg (by decide +kernel)]; exact ⟨rfl, rfl⟩))
    (fun os started H enc _ => ameans_lifted os started H enc)

theorem ameans_holds : Rows.AutoMeansCardSaid :=
  Claim7.holds_tied_plain_at .later [] [.data, .widerDeep] true (true, Rows.autoMeansCard.stood.harness.2) false
    ameans_row (fun _ h => by cases h) (by kernel_rfl) (fun _ h => by cases h) autoMeans_row_tie rfl ⟨rfl, rfl⟩ (by kernel_rfl) rfl
    (fun f fn hf hfn => by
      obtain rfl : f = 8 := Option.some.inj ((show Tryd.prog.funcNamed "boskage/boskagelaw03.AutoMeans" = some 8 by kernel_rfl).symm.trans hf) |>.symm
      obtain rfl : fn = Tryd.f8 := (Option.some.inj (Tryd.func8.symm.trans hfn)).symm
      exact ⟨by kernel_rfl, fun j t ht => by
        rw [Tryd.params8] at ht
        have hm : t ∈ [24, 27, 43, 43, 22] := by simpa using Array.mem_of_getElem? ht
        have hall : ([24, 27, 43, 43, 22].all fun u => !Tryd.prog.wantsStandIn u) = true := by kernel_rfl
        exact (show Tryd.prog.wantsStandIn t = false by simpa using List.all_eq_true.1 hall t hm)⟩)
    (by kernel_rfl)

end Go.Proofs.YtopineheelkcmaaDoor
