/- For every input the law AutoTrims of layer 3 answers true: a tree is accepted by the result of auto.Trim if and only if the given automaton accepts it, all states of the result are useful, and Trim of the result is the same automaton. The package-level variable al holds what the program's text lays (the card ties it). No condition beyond the row's own. -/
import Derived.Test.YtedfldbknjcnlaaDoorTrAll
import Derived.Test.YtedfldbknjcnlaaDoorAHold
import Derived.Test.YtedfldbknjcnlaaDoorCards
import Derived.Test.YtedfldbknjcnlaaDoorTie
import Derived.SevenTiedAt
namespace Go.Proofs.YtedfldbknjcnlaaDoor
open Go.ChangeShapes Go.WideShapes Go.ChangeAt Go.RowKit

set_option maxRecDepth 100000 in
theorem atrims_lifted (os : Os) (started : os.Started) (H : Type) (enc : TypeId × Value → H) :
    ReturnsInHanded {} Tryd.checked os 6 .any (fun w args => (Rows.autoTrimsSpec.pre enc Tryd.prog Tryd.f6 Rows.autoTrimsRow.domain false w args ∧ laidMetH Tryd.prog [("boskage/boskagelaw03.al", Rows.laid_boskage_boskagelaw03_al)] w) ∧ sizedMet enc Tryd.prog Tryd.f6 (OpenSpec.ofChange Rows.autoTrimsSpec) false w args)
      (Rows.autoTrimsSpec.post enc Tryd.prog Tryd.f6 false true false false) := by
  refine returnsInHanded_of_change_and (C := Tryd.checked) (X := fun w _ => laidMetH Tryd.prog [("boskage/boskagelaw03.al", Rows.laid_boskage_boskagelaw03_al)] w) (fun _ _ _ hh h => h.of_heap hh) Tryd.own started (by kernel_rfl) Tryd.func6
    (ChangeSpec.witness_shaped (enc := enc) (C := Tryd.checked) (os := os) (X := fun w _ => laidMetH Tryd.prog [("boskage/boskagelaw03.al", Rows.laid_boskage_boskagelaw03_al)] w) false (World.doorLaid Tryd.prog 400 os) #[.agg #[.slice none 0 0], .agg #[.int .i64 0, .slice none 0 0, .slice none 0 0], .agg #[.int .i64 0, .slice none 0 0]] 8 rfl (World.shaped_of_RefB (by kernel_rfl) (by kernel_rfl)) (by kernel_rfl) (by kernel_rfl) (by kernel_rfl) (door_met os _)) ?_
  intro W base args ds gs before hval0 hW _ _ hL _
  have hval : ∀ (j : Nat) t v, Tryd.f6.params[j]? = some t → args[j]? = some v → Value.okWide Tryd.prog W .any base t v := hval0
  have hW' := hW
  have hlt : ∀ p ∈ before, p.block < W.heap.size := fun p hp => hW.lt p hp
  obtain ⟨p, q, hA0, hV, rfl, hfz, hnd⟩ := hW
  have hA : DataW.TrodAll enc Tryd.prog W 0 (fun _ => true) true Tryd.f6.params.toList args.toList ds p := hA0
  rw [Tryd.params6] at hA hval
  obtain ⟨v0, v1, v2, d0, d1, d2, p0, p1, p2, rfl, rfl, rfl, h0, h1, h2⟩ := trodAll_three hA
  obtain ⟨rfl, rfl⟩ := trodVars_none hV
  obtain ⟨av, al, rfl, ha, _⟩ := read_alpha (hval 0 24 v0 rfl rfl) h0
  obtain ⟨A, hau⟩ := read_au (hval 1 27 v1 rfl rfl) h1
  obtain ⟨l, vk, K, rfl, hwf, hk⟩ := read_tree (hval 2 43 v2 rfl rfl) h2
  clear hA0 hval0
  simp only [List.append_nil] at hW' hlt
  refine (trims_walk al A l K av v1 vk W (al_of_laid hL) hwf ha hau hk).mono fun e W' ⟨he, hb⟩ => ?_
  subst he
  refine ⟨_, rfl, post_of_below (pa := _) (pv := []) hW' (fun _ _ _ => trodAll_mk1 (shut_bool Tryd.underlying4 true)) (fun sp hsp => trodAll_mk3 (trod_kept Tryd.laidOut (by kernel_rfl) (of_decide_eq_true (by kernel_rfl)) h0 hb ?_ sp ?_) (trod_kept Tryd.laidOut (by kernel_rfl) (of_decide_eq_true (by kernel_rfl)) h1 hb ?_ sp ?_) (trod_kept Tryd.laidOut (by kernel_rfl) (of_decide_eq_true (by kernel_rfl)) h2 hb ?_ sp ?_)) (fun _ _ => rfl) (by simp) hb (ok_one (by kernel_rfl) rfl (okWide_bool_mk Tryd.underlying4 true))⟩
  · intro x hx; exact hlt x (by simp; exact .inl hx)
  · intro x hx; exact hsp x (by simp; exact .inl hx)
  · intro x hx; exact hlt x (by simp; exact .inr (.inl hx))
  · intro x hx; exact hsp x (by simp; exact .inr (.inl hx))
  · intro x hx; exact hlt x (by simp; exact .inr (.inr hx))
  · intro x hx; exact hsp x (by simp; exact .inr (.inr hx))

theorem atrims_row : Rows.AutoTrimsSaid :=
  OpenClaim.holds_of_wide 6 Tryd.f6 rfl rfl rfl rfl rfl rfl rfl ⟨rfl, rfl, rfl, rfl, rfl⟩ rfl rfl rfl rfl rfl (by kernel_rfl) Tryd.func6 (by kernel_rfl)
    (of_decide_eq_true (by kernel_rfl)) (by unfold Func.isWrapper; first | (rw [if_pos (by decide +kernel)]; kernel_rfl) | (rw [if_neg (by decide +kernel)]; exact ⟨rfl, rfl⟩))
    (fun os started H enc _ => atrims_lifted os started H enc)

theorem atrims_holds : Rows.AutoTrimsCardSaid :=
  Claim7.holds_tied_plain_at .later [] [.widerDeep] true (true, Rows.autoTrimsCard.stood.harness.2) false
    atrims_row (fun _ h => by cases h) (by kernel_rfl) (fun _ h => by cases h) autoTrims_row_tie rfl ⟨rfl, rfl⟩ (by kernel_rfl) rfl
    (fun f fn hf hfn => by
      obtain rfl : f = 6 := Option.some.inj ((show Tryd.prog.funcNamed "boskage/boskagelaw03.AutoTrims" = some 6 by kernel_rfl).symm.trans hf) |>.symm
      obtain rfl : fn = Tryd.f6 := (Option.some.inj (Tryd.func6.symm.trans hfn)).symm
      exact ⟨by kernel_rfl, fun j t ht => by
        rw [Tryd.params6] at ht
        have hm : t ∈ [24, 27, 43] := by simpa using Array.mem_of_getElem? ht
        have hall : ([24, 27, 43].all fun u => !Tryd.prog.wantsStandIn u) = true := by kernel_rfl
        exact (show Tryd.prog.wantsStandIn t = false by simpa using List.all_eq_true.1 hall t hm)⟩)
    (by kernel_rfl)

end Go.Proofs.YtedfldbknjcnlaaDoor
