/- For every input the law AutoSingle of layer 3 answers true: auto.Single returns a valid deterministic automaton that accepts the given tree and no other (each of its useful states has one rule, and there are at most as many as the tree has nodes), or the specified error. The package-level variable al holds what the program's text lays (the card ties it). No condition beyond the row's own. -/
import Derived.Test.YtedfldbknjcnlaaDoorSgAll
import Derived.Test.YtedfldbknjcnlaaDoorAHold
import Derived.Test.YtedfldbknjcnlaaDoorCards
import Derived.Test.YtedfldbknjcnlaaDoorTie
import Derived.SevenTiedAt
namespace Go.Proofs.YtedfldbknjcnlaaDoor
open Go.ChangeShapes Go.WideShapes Go.ChangeAt Go.RowKit

set_option maxRecDepth 100000 in
theorem asingle_lifted (os : Os) (started : os.Started) (H : Type) (enc : TypeId × Value → H) :
    ReturnsInHanded {} Tryd.checked os 7 .any (fun w args => (Rows.autoSingleSpec.pre enc Tryd.prog Tryd.f7 Rows.autoSingleRow.domain false w args ∧ laidMetH Tryd.prog [("boskage/boskagelaw03.al", Rows.laid_boskage_boskagelaw03_al)] w) ∧ sizedMet enc Tryd.prog Tryd.f7 (OpenSpec.ofChange Rows.autoSingleSpec) false w args)
      (Rows.autoSingleSpec.post enc Tryd.prog Tryd.f7 false true false false) := by
  refine returnsInHanded_of_change_and (C := Tryd.checked) (X := fun w _ => laidMetH Tryd.prog [("boskage/boskagelaw03.al", Rows.laid_boskage_boskagelaw03_al)] w) (fun _ _ _ hh h => h.of_heap hh) Tryd.own started (by kernel_rfl) Tryd.func7
    (ChangeSpec.witness_shaped (enc := enc) (C := Tryd.checked) (os := os) (X := fun w _ => laidMetH Tryd.prog [("boskage/boskagelaw03.al", Rows.laid_boskage_boskagelaw03_al)] w) false (World.doorLaid Tryd.prog 400 os) #[.agg #[.slice none 0 0], .agg #[.int .i64 0, .slice none 0 0]] 8 rfl (World.shaped_of_RefB (by kernel_rfl) (by kernel_rfl)) (by kernel_rfl) (by kernel_rfl) (by kernel_rfl) (door_met os _)) ?_
  intro W base args ds gs before hval0 hW _ _ hL _
  have hval : ∀ (j : Nat) t v, Tryd.f7.params[j]? = some t → args[j]? = some v → Value.okWide Tryd.prog W .any base t v := hval0
  have hW' := hW
  have hlt : ∀ p ∈ before, p.block < W.heap.size := fun p hp => hW.lt p hp
  obtain ⟨p, q, hA0, hV, rfl, hfz, hnd⟩ := hW
  have hA : DataW.TrodAll enc Tryd.prog W 0 (fun _ => true) true Tryd.f7.params.toList args.toList ds p := hA0
  rw [Tryd.params7] at hA hval
  obtain ⟨v0, v1, d0, d1, p0, p1, rfl, rfl, rfl, h0, h1⟩ := trodAll_two hA
  obtain ⟨rfl, rfl⟩ := trodVars_none hV
  obtain ⟨av, al, rfl, ha, _⟩ := read_alpha (hval 0 24 v0 rfl rfl) h0
  obtain ⟨l, vk, K, rfl, hwf, hk⟩ := read_tree (hval 1 43 v1 rfl rfl) h1
  clear hA0 hval0
  simp only [List.append_nil] at hW' hlt
  refine (single_walk al l K av vk W (al_of_laid hL) hwf ha hk).mono fun e W' ⟨he, hb⟩ => ?_
  subst he
  refine ⟨_, rfl, post_of_below (pa := _) (pv := []) hW' (fun _ _ _ => trodAll_mk1 (shut_bool Tryd.underlying4 true)) (fun sp hsp => trodAll_mk2 (trod_kept Tryd.laidOut (by kernel_rfl) (of_decide_eq_true (by kernel_rfl)) h0 hb ?_ sp ?_) (trod_kept Tryd.laidOut (by kernel_rfl) (of_decide_eq_true (by kernel_rfl)) h1 hb ?_ sp ?_)) (fun _ _ => rfl) (by simp) hb (ok_one (by kernel_rfl) rfl (okWide_bool_mk Tryd.underlying4 true))⟩
  · intro x hx; exact hlt x (by simp; exact .inl hx)
  · intro x hx; exact hsp x (by simp; exact .inl hx)
  · intro x hx; exact hlt x (by simp; exact .inr hx)
  · intro x hx; exact hsp x (by simp; exact .inr hx)

theorem asingle_row : Rows.AutoSingleSaid :=
  OpenClaim.holds_of_wide 7 Tryd.f7 rfl rfl rfl rfl rfl rfl rfl ⟨rfl, rfl, rfl, rfl, rfl⟩ rfl rfl rfl rfl rfl (by kernel_rfl) Tryd.func7 (by kernel_rfl)
    (of_decide_eq_true (by kernel_rfl)) (by unfold Func.isWrapper; first | (rw [if_pos (by decide +kernel)]; kernel_rfl) | (rw [if_neg (by decide +kernel)]; exact ⟨rfl, rfl⟩))
    (fun os started H enc _ => asingle_lifted os started H enc)

theorem asingle_holds : Rows.AutoSingleCardSaid :=
  Claim7.holds_tied_plain_at .later [] [.widerDeep] true (true, Rows.autoSingleCard.stood.harness.2) false
    asingle_row (fun _ h => by cases h) (by kernel_rfl) (fun _ h => by cases h) autoSingle_row_tie rfl ⟨rfl, rfl⟩ (by kernel_rfl) rfl
    (fun f fn hf hfn => by
      obtain rfl : f = 7 := Option.some.inj ((show Tryd.prog.funcNamed "boskage/boskagelaw03.AutoSingle" = some 7 by kernel_rfl).symm.trans hf) |>.symm
      obtain rfl : fn = Tryd.f7 := (Option.some.inj (Tryd.func7.symm.trans hfn)).symm
      exact ⟨by kernel_rfl, fun j t ht => by
        rw [Tryd.params7] at ht
        have hm : t ∈ [24, 43] := by simpa using Array.mem_of_getElem? ht
        have hall : ([24, 43].all fun u => !Tryd.prog.wantsStandIn u) = true := by kernel_rfl
        exact (show Tryd.prog.wantsStandIn t = false by simpa using List.all_eq_true.1 hall t hm)⟩)
    (by kernel_rfl)

end Go.Proofs.YtedfldbknjcnlaaDoor
