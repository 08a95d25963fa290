/- For every input the law HedgeTexts of layer 2 answers true: Print and Parse give what the reference gives, and parsing a printed hedge gives the hedge back. No condition beyond the row's own. -/
import Derived.Test.YthdaeblfehclcabHTexts
import Derived.Test.YthdaeblfehclcabHolds
import Derived.SliceStrings
import Derived.ChangeMaps5
namespace Go.Proofs.Ythdaeblfehclcab
open Go.ChangeShapes Go.WideShapes Go.ChangeAt Go.RowKit

theorem Try.cellsString : Try.prog.cellsOf 9 = 1 := by kernel_rfl

theorem read_strs {H : Type} {enc : TypeId × Value → H} {W : World} {v : Value} {d : DataW H} {p : List MemPlace} (h : DataW.Trod enc Try.prog W 0 (fun _ => true) true 60 v d p) (hv : ∃ a n c, v = .slice a n c) :
    ∃ l, IsStrs W v l := by
  obtain ⟨fuel, hf⟩ := h
  obtain ⟨a0, n0, c0, rfl⟩ := hv
  rcases open_strings Try.underlying60 Try.underlying9 Try.cellsString hf with ⟨hcs, _⟩ | ⟨a, len, cap, ss, hcs, _, hl, hm, hz, _, hcell, hsz⟩
  · simp only [Value.cells, List.cons.injEq, Value.slice.injEq, and_true] at hcs
    obtain ⟨rfl, rfl, rfl⟩ := hcs
    exact ⟨[], none, 0, rfl, Nat.le_refl _, by decide, fun h => absurd rfl h, fun x hx => by cases hx⟩
  · simp only [Value.cells, List.cons.injEq, Value.slice.injEq, and_true] at hcs
    obtain ⟨rfl, rfl, rfl⟩ := hcs
    have hssl : n0 ≤ ss.length := by rw [hz]; split <;> omega
    have hlen : (ss.take n0).length = n0 := by rw [List.length_take]; omega
    refine ⟨ss.take n0, some a, c0, by rw [hlen], by rw [hlen]; exact hl, hm, fun hne => ?_, fun x hx => by have := hsz x (List.mem_of_mem_take hx); unfold maxLen at this; omega⟩
    have h0 : 0 < n0 := by
      rcases Nat.eq_zero_or_pos n0 with h | h
      · rw [h] at hne; simp at hne
      · exact h
    have cz := hcell 0 (by omega)
    rw [show a.add 0 = a by unfold Addr.add; simp] at cz
    have hsp := cell_none_spot cz
    refine ⟨a.block, a.off, congrArg some (addr_eta hsp), fun i x hx => ?_⟩
    have hi : i < n0 := by
      have := (List.getElem?_eq_some_iff.1 hx).1
      omega
    have hc := hcell i (by omega)
    rw [addr_eta hsp, addr_add_plain] at hc
    rw [hc]
    rw [List.getElem?_take_of_lt hi] at hx
    rw [List.getD, hx]; rfl

set_option maxRecDepth 100000 in
theorem htexts_lifted (os : Os) (started : os.Started) (H : Type) (enc : TypeId × Value → H) :
    ReturnsInHanded {} Try.checked os 7 .any (Rows.hedgeTextsSpec.pre6 enc Try.prog Try.f7 Rows.hedgeTextsRow.domain false) (Rows.hedgeTextsSpec.post enc Try.prog Try.f7 false true false false) := by
  refine returnsInHanded_of_change (C := Try.checked) Try.own started (by kernel_rfl) Try.func7
    (ChangeSpec.witness6 (enc := enc) (C := Try.checked) false ⟨#[], #[.int .i64 0, .slice none 0 0, .slice none 0 0, .string ⟨#[]⟩], []⟩ 8 (by kernel_rfl) (by kernel_rfl) (by kernel_rfl) (by kernel_rfl)) ?_
  intro W base args ds gs before hval0 hW hcnd _
  have hval : ∀ (j : Nat) t v, Try.f7.params[j]? = some t → args[j]? = some v → Value.okWide Try.prog W .any base t v := hval0
  have hW' := hW
  have hlt : ∀ p ∈ before, p.block < W.heap.size := fun p hp => hW.lt p hp
  obtain ⟨p, q, hA0, hV, rfl, hfz, hnd⟩ := hW
  have hA : DataW.TrodAll enc Try.prog W 0 (fun _ => true) true Try.f7.params.toList args.toList ds p := hA0
  rw [Try.params7] at hA hval
  obtain ⟨v0, v1, v2, v3, d0, d1, d2, d3, p0, p1, p2, p3, rfl, rfl, rfl, h0, h1, h2, h3⟩ := trodAll_four hA
  obtain ⟨rfl, rfl⟩ := trodVars_none hV
  obtain ⟨a, rfl, rfl, rfl, wa⟩ := open_int Try.underlying3 (hval 0 3 v0 rfl rfl) h0
  obtain ⟨names, hnm⟩ := read_strs h1 (okWide_slice Try.underlying60 (hval 1 60 v1 rfl rfl))
  obtain ⟨Hh, hvh⟩ := read_nodes (.inr trivial) h2 (okWide_slice Try.underlying22 (hval 2 22 v2 rfl rfl))
  obtain ⟨t, rfl, rfl, rfl, hts⟩ := Go.ChangeMaps.open_string Try.underlying9 (hval 3 9 v3 rfl rfl) h3
  clear hA0 hval0
  simp only [List.append_nil, List.nil_append] at hW' hlt
  refine (htexts_walk a names Hh t v1 v2 W hnm hvh (by unfold maxLen at hts; omega)).mono fun e W' ⟨he, hb⟩ => ?_
  subst he
  refine ⟨_, rfl, post_of_below (pa := _) (pv := []) hW' (fun _ _ _ => trodAll_mk1 (shut_bool Try.underlying4 true)) (fun sp hsp => trodAll_mk4 (shut_int Try.underlying3 wa) (trod_kept Try.laidOut (by kernel_rfl) (of_decide_eq_true (by kernel_rfl)) h1 hb ?_ sp ?_) (trod_kept Try.laidOut (by kernel_rfl) (of_decide_eq_true (by kernel_rfl)) h2 hb ?_ sp ?_) (Go.ChangeMaps.shut_string Try.underlying9 hts)) (fun _ _ => rfl) (by simp) hb (ok_one (by kernel_rfl) rfl (okWide_bool_mk Try.underlying4 true))⟩
  · intro x hx; exact hlt x (by simp; exact .inl hx)
  · intro x hx; exact hsp x (by simp; exact .inl hx)
  · intro x hx; exact hlt x (by simp; exact .inr hx)
  · intro x hx; exact hsp x (by simp; exact .inr hx)

theorem htexts_holds : Rows.HedgeTextsSaid :=
  OpenClaim.holds_of_wide 7 Try.f7 rfl rfl rfl rfl rfl rfl rfl ⟨rfl, rfl, rfl, rfl, rfl⟩ rfl rfl rfl rfl rfl (by kernel_rfl) Try.func7 (by kernel_rfl)
    (of_decide_eq_true (by kernel_rfl)) (by unfold Func.isWrapper; first | (rw [if_pos (by decide +kernel)]; kernel_rfl) | (rw [if_neg (by decide +kernel)]; exact ⟨rfl, rfl⟩))
    (fun os started H enc _ => htexts_lifted os started H enc)

end Go.Proofs.Ythdaeblfehclcab
