/- Binary, both; ref01.List of equals. -/
import Derived.Test.YtkbcehapalcadabBin
import Derived.Test.YtkbcehapalcadabRAlpha
import Derived.BigQuiet
namespace Go.Proofs.Ytkbcehapalcadab
open Go.RowKit Go.Shelf

def binErr (n : Int) : Int := if vlab n = true then 0 else 6
def binL (n : Int) : List Int := if vlab n = true then bin n.toNat else []
theorem isInts_far {w : World} {g o n c : Nat} {l : List Int} (h : IsInts w (.slice (some ⟨g, o, none⟩) n c) l) {p : Addr} (hp : ¬ g = p.block) (u : Value) : IsInts (w.setCell p u) (.slice (some ⟨g, o, none⟩) n c) l := by
  obtain ⟨q, d, e, h1, h2, h3⟩ := h
  refine ⟨q, d, e, h1, h2, fun hne => ?_⟩
  obtain ⟨b, o', e', hc⟩ := h3 hne
  refine ⟨b, o', e', fun i x hx => ?_⟩
  subst e'
  simp only [Value.slice.injEq, Option.some.injEq, Addr.mk.injEq, and_true] at e
  obtain ⟨⟨rfl, rfl⟩, _, _⟩ := e
  rw [World.cell?_of_block (Below.heap_setCell w p u g hp)]
  exact hc i x hx
theorem isInts_nil (w : World) : IsInts w (.slice none 0 0) [] := ⟨none, 0, rfl, by simp, by simp [maxLen], fun h => absurd rfl h⟩

theorem binary_ans (n : Int) (w : World) : Calls Try.prog 10 #[.int .i64 n] w fun e w' => ∃ av, e = .returned (.tuple #[.agg #[av], .int .i64 (binErr n)]) ∧ IsInts w' av (binL n) ∧ Below w.heap.size w w' :=
  (binary_ok n w).mono fun e w' ⟨hb, h⟩ => by
    rcases h with ⟨h1, av, rfl, h2⟩ | ⟨h1, rfl⟩
    · exact ⟨av, by rw [binErr, if_pos h1], by rw [binL, if_pos h1]; exact h2, hb⟩
    · exact ⟨_, by rw [binErr, if_neg (by simp [h1])], by rw [binL, if_neg (by simp [h1])]; exact isInts_nil _, hb⟩

set_option maxHeartbeats 1000000 in
theorem rbinary_ans (n : Int) (w : World) : Calls Try.prog 11 #[.int .i64 n] w fun e w' => ∃ av, e = .returned (.tuple #[.agg #[av], .int .i64 (binErr n)]) ∧ IsInts w' av (binL n) ∧ Below w.heap.size w w' := by
  have HBX := Lib.hid (Blk.new w 29 #[.slice none 0 0])
  have HB := Lib.hid ((Below.refl w.heap.size w).alloc (Nat.le_refl _) (.cells #[.slice none 0 0] 29))
  by_cases h1 : n < 1
  · have hv : Hid (vlab n = false) := Lib.hid (by simp [vlab]; omega)
    go_enter Try.func11, Try.ntmps11
    go_wp2_with fail
    refine bodyPost_ret (results_row_tmp rfl _ _ w.heap.size 29 #[.slice none 0 0] rfl HBX.out Try.underlying29 Try.infoAlphabet) rfl ?_
    exact ⟨_, by rw [binErr, if_neg (by simp [hv.out])]; rfl, by rw [binL, if_neg (by simp [hv.out])]; exact isInts_nil _, HB.out⟩
  · have h1' : 1 ≤ n := by omega
    have hd1 : decide (n < 1) = false := decide_eq_false h1
    clear h1
    by_cases h2 : 8 < n
    · have hv : Hid (vlab n = false) := Lib.hid (by simp [vlab]; omega)
      go_enter Try.func11, Try.ntmps11
      go_wp2_with fail
      refine bodyPost_ret (results_row_tmp rfl _ _ w.heap.size 29 #[.slice none 0 0] rfl HBX.out Try.underlying29 Try.infoAlphabet) rfl ?_
      exact ⟨_, by rw [binErr, if_neg (by simp [hv.out])]; rfl, by rw [binL, if_neg (by simp [hv.out])]; exact isInts_nil _, HB.out⟩
    · have h2' : n ≤ 8 := by omega
      have hd2 : decide (8 < n) = false := decide_eq_false h2
      clear h2
      obtain ⟨m, rfl⟩ := Int.eq_ofNat_of_zero_le (show 0 ≤ n by omega)
      have hv : Hid (vlab m = true) := Lib.hid (by simp [vlab]; omega)
      have HA := Lib.hid (ralphabet_new m (by omega) (w.alloc (.cells #[.slice none 0 0] 29)))
      go_enter Try.func11, Try.ntmps11
      go_wp2_with fail
      refine HA.out.mono ?_
      rintro e w1 ⟨ga, ca, rfl, hga, hi, hb⟩
      have hga' : ¬ ga = w.heap.size := by simp at hga; omega
      have hx1 := HBX.out.below hb (by simp)
      have z0 : w1.cell? ⟨w.heap.size, 0, none⟩ = some (.slice none 0 0) := by rw [hx1.cell]; rfl
      have z1 := hx1.frozen 0
      have z2 := hx1.lt
      have HX1 := Lib.hid hx1
      have HI := Lib.hid hi
      have HB1 := Lib.hid (HB.out.trans (hb.mono (by simp)))
      clear hx1 hi hb
      go_wp2_with fail
      refine bodyPost_ret (results_row_tmp rfl _ _ w.heap.size 29 _ rfl (HX1.out.set_ 0 _) Try.underlying29 Try.infoAlphabet) rfl ?_
      refine ⟨_, by rw [binErr, if_pos hv.out]; rfl, ?_, HB1.out.setCell (p := ⟨w.heap.size, 0, none⟩) (Nat.le_refl _) _⟩
      rw [binL, if_pos hv.out]
      exact isInts_far HI.out hga' _

set_option maxRecDepth 100000 in
set_option maxHeartbeats 1000000 in
theorem list01_ok (l : List Int) (v v' : Value) (w : World) (hv : IsInts w v l) (hv' : IsInts w v' l) :
    Calls Try.prog 17 #[v, v'] w fun e w' => e = .returned (.bool true) ∧ Below w.heap.size w w' := by
  obtain ⟨p, c, rfl, hc1, hc2, hcell⟩ := hv
  obtain ⟨p', c', rfl, hc1', hc2', hcell'⟩ := hv'
  unfold maxLen at hc2 hc2'
  have HC := Lib.hid hcell
  have HC' := Lib.hid hcell'
  clear hcell hcell'
  go_enter Try.func17, Try.ntmps17
  go_wp2_with fail
  go_loopw [13] (fun i wr => ∃ k : Nat, i = .int .i64 k ∧ k ≤ l.length ∧ Hid (Below w.heap.size w wr)) (fun i _ => l.length - (intOf i).toNat)
  case atStart => exact ⟨0, rfl, by omega, Lib.hid (Below.refl _ _)⟩
  case round =>
    obtain ⟨k, rfl, hk, HB⟩ := hrel
    by_cases hlt : k < l.length
    · obtain ⟨r, hr⟩ : ∃ r, l[k]? = some r := ⟨_, List.getElem?_eq_getElem hlt⟩
      obtain ⟨b, o, rfl, hcl⟩ := HC.out (fun h => by simp [h] at hlt)
      obtain ⟨b', o', rfl, hcl'⟩ := HC'.out (fun h => by simp [h] at hlt)
      have c1 := cell_later HB.out (hcl k r hr)
      have c2 := cell_later HB.out (hcl' k r hr)
      have hbl := World.block_lt_of_cell? _ _ c1
      have hbl' := World.block_lt_of_cell? _ _ c2
      simp only at hbl hbl'
      clear hr hcl hcl'
      go_wp2_with fail
      go_quiet (fail)
      go_wp2_with fail
      go_roundw
      case rel => exact ⟨k + 1, by go_num, by omega, Lib.hid (below_drewN HB.out _)⟩
      case measure => simp [intOf]; omega
    · have hge : l.length ≤ k := by omega
      clear hlt
      go_wp2_with fail
      go_ret
      exact ⟨rfl, HB.out⟩

end Go.Proofs.Ytkbcehapalcadab
