/- For every input the law HedgeCodes of layer 2 answers true: Encode and Decode give what the reference gives, and each undoes the other. No condition beyond the row's own. -/
import Derived.Test.YtkbcehapalcadabHCodes
import Derived.Test.YtkbcehapalcadabHolds
namespace Go.Proofs.Ytkbcehapalcadab
open Go.ChangeShapes Go.WideShapes Go.ChangeAt Go.RowKit

theorem Try.cellsTree : Try.prog.cellsOf 41 = 2 := by kernel_rfl
theorem Try.cellsTrees : Try.prog.cellsOf 39 = 1 := by kernel_rfl

set_option maxRecDepth 100000 in
theorem read_tree {H : Type} {enc : TypeId × Value → H} {W : World} {base : Nat} {v : Value} {d : DataW H} {p : List MemPlace} (hval : Value.okWide Try.prog W .any base 41 v) (h : DataW.Trod enc Try.prog W 0 (fun _ => true) true 41 v d p) :
    ∃ l vk K, v = .agg #[.int .i64 l, vk] ∧ (Lit.int .i64 l).wf = true ∧ IsH W vk K := by
  obtain ⟨c0, c1, y0, y1, mm, rfl, rfl, rfl, hy0, hy1⟩ := Joins.open_agg2 Try.underlying41 (by kernel_rfl) Try.cellsTree hval h
  obtain ⟨l, e0, _, wl⟩ := DataW.trod_int Try.underlying3 hy0
  simp at e0
  subst e0
  obtain ⟨v, K, e1, hv⟩ := read_hedge Try.underlying39 Try.underlying41 Try.underlying3 Try.cellsTree Try.cellsInt Try.cellsTrees _ _ _ hy1
  simp at e1
  subst e1
  exact ⟨l, _, K, rfl, wl, hv⟩

set_option maxRecDepth 100000 in
theorem hcodes_lifted (os : Os) (started : os.Started) (H : Type) (enc : TypeId × Value → H) :
    ReturnsInHanded {} Try.checked os 4 .any (Rows.hedgeCodesSpec.pre6 enc Try.prog Try.f4 Rows.hedgeCodesRow.domain false) (Rows.hedgeCodesSpec.post enc Try.prog Try.f4 false true false false) := by
  refine returnsInHanded_of_change (C := Try.checked) Try.own started (by kernel_rfl) Try.func4
    (ChangeSpec.witness6 (enc := enc) (C := Try.checked) false ⟨#[], #[.int .i64 0, .slice none 0 0, .agg #[.int .i64 0, .slice none 0 0]], []⟩ 8 (by kernel_rfl) (by kernel_rfl) (by kernel_rfl) (by kernel_rfl)) ?_
  intro W base args ds gs before hval0 hW hcnd _
  have hval : ∀ (j : Nat) t v, Try.f4.params[j]? = some t → args[j]? = some v → Value.okWide Try.prog W .any base t v := hval0
  have hW' := hW
  have hlt : ∀ p ∈ before, p.block < W.heap.size := fun p hp => hW.lt p hp
  obtain ⟨p, q, hA0, hV, rfl, hfz, hnd⟩ := hW
  have hA : DataW.TrodAll enc Try.prog W 0 (fun _ => true) true Try.f4.params.toList args.toList ds p := hA0
  rw [Try.params4] at hA hval
  obtain ⟨v0, v1, v2, d0, d1, d2, p0, p1, p2, rfl, rfl, rfl, h0, h1, h2⟩ := trodAll_three hA
  obtain ⟨rfl, rfl⟩ := trodVars_none hV
  obtain ⟨a, rfl, rfl, rfl, wa⟩ := open_int Try.underlying3 (hval 0 3 v0 rfl rfl) h0
  obtain ⟨Hh, hvh⟩ := read_nodes (.inr trivial) h1 (okWide_slice Try.underlying22 (hval 1 22 v1 rfl rfl))
  obtain ⟨s, vk, K, rfl, wl, hv⟩ := read_tree (hval 2 41 v2 rfl rfl) h2
  clear hA0 hval0
  simp only [List.append_nil] at hW' hlt
  refine (hcodes_walk a s Hh K v1 vk W wa wl hvh hv).mono fun e W' ⟨he, hb⟩ => ?_
  subst he
  refine ⟨_, rfl, post_of_below (pa := _) (pv := []) hW' (fun _ _ _ => trodAll_mk1 (shut_bool Try.underlying4 true)) (fun sp hsp => trodAll_mk3 (shut_int Try.underlying3 wa) (trod_kept Try.laidOut (by kernel_rfl) (of_decide_eq_true (by kernel_rfl)) h1 hb ?_ sp ?_) (trod_kept Try.laidOut (by kernel_rfl) (of_decide_eq_true (by kernel_rfl)) h2 hb ?_ sp ?_)) (fun _ _ => rfl) (by simp) hb (ok_one (by kernel_rfl) rfl (okWide_bool_mk Try.underlying4 true))⟩
  · intro x hx; exact hlt x (by simp; exact .inl hx)
  · intro x hx; exact hsp x (by simp; exact .inl hx)
  · intro x hx; exact hlt x (by simp; exact .inr hx)
  · intro x hx; exact hsp x (by simp; exact .inr hx)

theorem hcodes_holds : Rows.HedgeCodesSaid :=
  OpenClaim.holds_of_wide 4 Try.f4 rfl rfl rfl rfl rfl rfl rfl ⟨rfl, rfl, rfl, rfl, rfl⟩ rfl rfl rfl rfl rfl (by kernel_rfl) Try.func4 (by kernel_rfl)
    (of_decide_eq_true (by kernel_rfl)) (by unfold Func.isWrapper; first | (rw [if_pos (by decide +kernel)]; kernel_rfl) | (rw [if_neg (by decide +kernel)]; exact ⟨rfl, rfl⟩))
    (fun os started H enc _ => hcodes_lifted os started H enc)

end Go.Proofs.Ytkbcehapalcadab
