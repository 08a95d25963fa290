/- For every input the law TreeTexts of layer 1 answers true: Print and Parse give what the reference gives, and parsing a printed tree gives the tree back. The package-level variable al holds what the program's text lays (the card ties it). No condition beyond the row's own. -/
import Derived.Test.YtkgoealanboolaaDoorTM7
import Derived.Test.YtkgoealanboolaaDoorTHold
import Derived.Test.YtkgoealanboolaaDoorCards
import Derived.Test.YtkgoealanboolaaDoorTie
import Derived.SevenTiedAt
import Derived.SliceStrings
import Derived.ChangeMaps5
namespace Go.Proofs.YtkgoealanboolaaDoor
open Go.ChangeShapes Go.WideShapes Go.ChangeAt Go.RowKit

theorem Tryd.cellsString : Tryd.prog.cellsOf 9 = 1 := by kernel_rfl

theorem read_strs {H : Type} {enc : TypeId × Value → H} {W : World} {v : Value} {d : DataW H} {p : List MemPlace} (h : DataW.Trod enc Tryd.prog W 0 (fun _ => true) true 51 v d p) (hv : ∃ a n c, v = .slice a n c) :
    ∃ l, IsStrs W v l := by
  obtain ⟨fuel, hf⟩ := h
  obtain ⟨a0, n0, c0, rfl⟩ := hv
  rcases open_strings Tryd.underlying51 Tryd.underlying9 Tryd.cellsString hf with ⟨hcs, _⟩ | ⟨a, len, cap, ss, hcs, _, hl, hm, hz, _, hcell, hsz⟩
  · simp only [Value.cells, List.cons.injEq, Value.slice.injEq, and_true] at hcs
    obtain ⟨rfl, rfl, rfl⟩ := hcs
    exact ⟨[], none, 0, rfl, Nat.le_refl _, by decide, fun h => absurd rfl h, fun x hx => by cases hx⟩
  · simp only [Value.cells, List.cons.injEq, Value.slice.injEq, and_true] at hcs
    obtain ⟨rfl, rfl, rfl⟩ := hcs
    have hssl : n0 ≤ ss.length := by rw [hz]; split <;> omega
    have hlen : (ss.take n0).length = n0 := by rw [List.length_take]; omega
    refine ⟨ss.take n0, some a, c0, by rw [hlen], by rw [hlen]; exact hl, hm, fun hne => ?_, fun x hx => by have := hsz x (List.mem_of_mem_take hx); unfold maxLen at this; omega⟩
    have h0 : 0 < n0 := by
      rcases Nat.eq_zero_or_pos n0 with h | h
      · rw [h] at hne; simp at hne
      · exact h
    have cz := hcell 0 (by omega)
    rw [show a.add 0 = a by unfold Addr.add; simp] at cz
    have hsp := cell_none_spot cz
    refine ⟨a.block, a.off, congrArg some (addr_eta hsp), fun i x hx => ?_⟩
    have hi : i < n0 := by
      have := (List.getElem?_eq_some_iff.1 hx).1
      omega
    have hc := hcell i (by omega)
    rw [addr_eta hsp, addr_add_plain] at hc
    rw [hc]
    rw [List.getElem?_take_of_lt hi] at hx
    rw [List.getD, hx]; rfl

set_option maxRecDepth 100000 in
theorem texts_lifted (os : Os) (started : os.Started) (H : Type) (enc : TypeId × Value → H) :
    ReturnsInHanded {} Tryd.checked os 8 .any (fun w args => (Rows.treeTextsSpec.pre enc Tryd.prog Tryd.f8 Rows.treeTextsRow.domain false w args ∧ laidMetH Tryd.prog [("boskage/boskagelaw01.al", Rows.laid_boskage_boskagelaw01_al)] w) ∧ sizedMet enc Tryd.prog Tryd.f8 (OpenSpec.ofChange Rows.treeTextsSpec) false w args)
      (Rows.treeTextsSpec.post enc Tryd.prog Tryd.f8 false true false false) := by
  refine returnsInHanded_of_change_and (C := Tryd.checked) (X := fun w _ => laidMetH Tryd.prog [("boskage/boskagelaw01.al", Rows.laid_boskage_boskagelaw01_al)] w) (fun _ _ _ hh h => h.of_heap hh) Tryd.own started (by kernel_rfl) Tryd.func8
    (ChangeSpec.witness_shaped (enc := enc) (C := Tryd.checked) (os := os) (X := fun w _ => laidMetH Tryd.prog [("boskage/boskagelaw01.al", Rows.laid_boskage_boskagelaw01_al)] w) false (World.doorLaid Tryd.prog 400 os) #[.agg #[.slice none 0 0], .slice none 0 0, .agg #[.int .i64 0, .slice none 0 0], .string ⟨#[]⟩] 8 rfl (World.shaped_of_RefB (by kernel_rfl) (by kernel_rfl)) (by kernel_rfl) (by kernel_rfl) (by kernel_rfl) (door_met os _)) ?_
  intro W base args ds gs before hval0 hW _ _ hL _
  have hval : ∀ (j : Nat) t v, Tryd.f8.params[j]? = some t → args[j]? = some v → Value.okWide Tryd.prog W .any base t v := hval0
  have hW' := hW
  have hlt : ∀ p ∈ before, p.block < W.heap.size := fun p hp => hW.lt p hp
  obtain ⟨p, q, hA0, hV, rfl, hfz, hnd⟩ := hW
  have hA : DataW.TrodAll enc Tryd.prog W 0 (fun _ => true) true Tryd.f8.params.toList args.toList ds p := hA0
  rw [Tryd.params8] at hA hval
  obtain ⟨v0, v1, v2, v3, d0, d1, d2, d3, p0, p1, p2, p3, rfl, rfl, rfl, h0, h1, h2, h3⟩ := trodAll_four hA
  obtain ⟨rfl, rfl⟩ := trodVars_none hV
  obtain ⟨av, al, rfl, ha, _⟩ := read_alpha (hval 0 24 v0 rfl rfl) h0
  obtain ⟨names, hn⟩ := read_strs h1 (okWide_slice Tryd.underlying51 (hval 1 51 v1 rfl rfl))
  obtain ⟨lt, vt, T, rfl, wlt, ht⟩ := read_tree (hval 2 27 v2 rfl rfl) h2
  obtain ⟨s, rfl, rfl, rfl, hts⟩ := Go.ChangeMaps.open_string Tryd.underlying9 (hval 3 9 v3 rfl rfl) h3
  clear hA0 hval0
  simp only [List.append_nil] at hW' hlt
  refine (texts_walk al lt T av vt v1 names s W (al_of_laid hL) ha wlt ht hn).mono fun e W' ⟨he, hb⟩ => ?_
  subst he
  refine ⟨_, rfl, post_of_below (pa := _) (pv := []) hW' (fun _ _ _ => trodAll_mk1 (shut_bool Tryd.underlying4 true)) (fun sp hsp => trodAll_mk4 (trod_kept Tryd.laidOut (by kernel_rfl) (of_decide_eq_true (by kernel_rfl)) h0 hb ?_ sp ?_) (trod_kept Tryd.laidOut (by kernel_rfl) (of_decide_eq_true (by kernel_rfl)) h1 hb ?_ sp ?_) (trod_kept Tryd.laidOut (by kernel_rfl) (of_decide_eq_true (by kernel_rfl)) h2 hb ?_ sp ?_) (Go.ChangeMaps.shut_string Tryd.underlying9 hts)) (fun _ _ => rfl) (by simp) hb (ok_one (by kernel_rfl) rfl (okWide_bool_mk Tryd.underlying4 true))⟩
  · intro x hx; exact hlt x (by simp; exact .inl hx)
  · intro x hx; exact hsp x (by simp; exact .inl hx)
  · intro x hx; exact hlt x (by simp; exact .inr (.inl hx))
  · intro x hx; exact hsp x (by simp; exact .inr (.inl hx))
  · intro x hx; exact hlt x (by simp; exact .inr (.inr hx))
  · intro x hx; exact hsp x (by simp; exact .inr (.inr hx))

theorem texts_row : Rows.TreeTextsSaid :=
  OpenClaim.holds_of_wide 8 Tryd.f8 rfl rfl rfl rfl rfl rfl rfl ⟨rfl, rfl, rfl, rfl, rfl⟩ rfl rfl rfl rfl rfl (by kernel_rfl) Tryd.func8 (by kernel_rfl)
    (of_decide_eq_true (by kernel_rfl)) (by unfold Func.isWrapper; first | (rw [if_pos (by decide +kernel)]; kernel_rfl) | (rw [if_neg (by decide +kernel)]; exact ⟨rfl, rfl⟩))
    (fun os started H enc _ => texts_lifted os started H enc)

theorem texts_holds : Rows.TreeTextsCardSaid :=
  Claim7.holds_tied_plain_at .later [] [.widerDeep] true (true, Rows.treeTextsCard.stood.harness.2) true
    texts_row (fun _ h => by cases h) (by kernel_rfl) (fun _ h => by cases h) treeTexts_row_tie rfl ⟨rfl, rfl⟩ (by kernel_rfl) rfl
    (fun f fn hf hfn => by
      obtain rfl : f = 8 := Option.some.inj ((show Tryd.prog.funcNamed "boskage/boskagelaw01.TreeTexts" = some 8 by kernel_rfl).symm.trans hf) |>.symm
      obtain rfl : fn = Tryd.f8 := (Option.some.inj (Tryd.func8.symm.trans hfn)).symm
      exact ⟨by kernel_rfl, fun j t ht => by
        rw [Tryd.params8] at ht
        have hm : t ∈ [24, 51, 27, 9] := by simpa using Array.mem_of_getElem? ht
        have hall : ([24, 51, 27, 9].all fun u => !Tryd.prog.wantsStandIn u) = true := by kernel_rfl
        exact (show Tryd.prog.wantsStandIn t = false by simpa using List.all_eq_true.1 hall t hm)⟩)
    (by kernel_rfl)

end Go.Proofs.YtkgoealanboolaaDoor
