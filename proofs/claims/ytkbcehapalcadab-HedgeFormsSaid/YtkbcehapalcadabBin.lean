/- hedge.Binary. -/
import Derived.Test.YtkbcehapalcadabEncodeTop
import Derived.Test.YtkbcehapalcadabAlpha
import Derived.Test.YtkbcehapalcadabSubs
import Derived.OwnWalk
namespace Go.Proofs.Ytkbcehapalcadab
open Go.RowKit Go.Shelf

/-- The ranks of the binary alphabet of n labels. -/
def bin (n : Nat) : List Int := List.replicate n 2 ++ [0]
def binv (k m : Nat) : List Value := List.replicate k (.int .i64 2) ++ List.replicate m (.int .i64 0)
theorem binv_length (k m : Nat) : (binv k m).length = k + m := by simp [binv]
theorem binv_set (k m : Nat) : (binv k (m + 1)).set k (.int .i64 2) = binv (k + 1) m := by
  simp only [binv]
  rw [List.set_append_right _ _ (by simp)]
  rw [List.replicate_succ' (n := k)]
  simp [List.replicate_succ]
theorem binv_at (k m : Nat) : (binv k (m + 1))[k]? = some (.int .i64 0) := by
  simp only [binv]
  rw [List.getElem?_append_right (by simp)]
  simp
theorem binv_bin (n : Nat) : binv n 1 = (bin n).map (Value.int .i64) := by simp [binv, bin]
theorem bin_length (n : Nat) : (bin n).length = n + 1 := by simp [bin]

theorem isInts_own {w : World} {base g cap n : Nat} {t : TypeId} {l : List Int} (h : w.ownsRow base t 1 (.slice (some ⟨g, 0, none⟩) n cap) n (l.map (Value.int .i64))) (hn : l.length = n) : IsInts w (.slice (some ⟨g, 0, none⟩) n cap) l := by
  subst hn
  have h' := h
  rcases h.2 with ⟨h1, _⟩ | ⟨g', cap', cur, h1, _, _, hc, hm, _⟩
  · simp at h1
  · simp only [Value.slice.injEq, Option.some.injEq, Addr.mk.injEq, and_true, true_and] at h1
    obtain ⟨rfl, rfl⟩ := h1
    refine ⟨_, _, rfl, hc, hm, fun _ => ⟨g, 0, rfl, fun i x hx => ?_⟩⟩
    have hi : i < l.length := (List.getElem?_eq_some_iff.1 hx).1
    rw [Nat.zero_add, h'.cellAt i (by omega)]
    simp [hx]

theorem ownsRow_far {w : World} {base : Nat} {e : TypeId} {size : Nat} {v : Value} {n : Nat} {xs : List Value} (h : w.ownsRow base e size v n xs) {p : Addr} (hp : ¬ v.ownBlock = some p.block) (u : Value) : (w.setCell p u).ownsRow base e size v n xs := by
  refine ⟨h.1, ?_⟩
  rcases h.2 with hn | ⟨g, cap, cur, rfl, hb, hg, rest⟩
  · exact .inl hn
  · exact .inr ⟨g, cap, cur, rfl, hb, (Below.heap_setCell _ _ _ _ (fun e => hp (by rw [← e]; rfl))).trans hg, rest⟩

theorem Try.infoAlphabet : (Try.prog.info? 29).map (·.size) = some 1 := by kernel_rfl

set_option maxRecDepth 100000 in
set_option maxHeartbeats 1000000 in
theorem binary_ok (n : Int) (w : World) :
    Calls Try.prog 10 #[.int .i64 n] w fun e w' => Below w.heap.size w w' ∧
      ((vlab n = true ∧ ∃ av, e = .returned (.tuple #[.agg #[av], .int .i64 0]) ∧ IsInts w' av (bin n.toNat)) ∨
       (vlab n = false ∧ e = .returned (.tuple #[.agg #[.slice none 0 0], .int .i64 6]))) := by
  have HL := Lib.hid (fun w => validLabels_ok n w)
  have hbx := Blk.new w 29 #[.slice none 0 0]
  have hb0 := (Below.refl w.heap.size w).alloc (Nat.le_refl _) (.cells #[.slice none 0 0] 29)
  rcases Bool.eq_false_or_eq_true (vlab n) with hv | hv
  rotate_left
  · have HV := Lib.hid hv
    rw [hv] at HL
    have HBX := Lib.hid hbx
    have HB := Lib.hid hb0
    clear hv hbx hb0
    go_enter Try.func10, Try.ntmps10
    go_wp2_with fail
    refine (HL.out _).mono ?_
    rintro e w1 ⟨rfl, rfl⟩
    go_wp2_with fail
    refine bodyPost_ret (results_row_tmp rfl _ _ w.heap.size 29 #[.slice none 0 0] rfl HBX.out Try.underlying29 Try.infoAlphabet) rfl ?_
    exact ⟨HB.out, .inr ⟨HV.out, rfl⟩⟩
  · have hn : 1 ≤ n ∧ n ≤ 8 := by simpa [vlab] using hv
    obtain ⟨m, rfl⟩ := Int.eq_ofNat_of_zero_le (show 0 ≤ n by omega)
    obtain ⟨hn1, hn2⟩ := hn
    obtain ⟨i0, hi, hz0, hz1, hz2⟩ := info_parts Try.infoInt
    have HV := Lib.hid hv
    rw [hv] at HL
    have HBX := Lib.hid hbx
    have HB := Lib.hid hb0
    clear hv hbx hb0
    go_enter Try.func10, Try.ntmps10
    go_wp2_with fail
    refine (HL.out _).mono ?_
    rintro e w1 ⟨rfl, rfl⟩
    go_wp2_with (at_make; refine wpList_make_full _ rfl _ _ 27 rfl (w.heap.size + 1) 3 i0 _ 1 Try.underlying27 hi hz0 hz1 _ _ _ _ (m + 1) rfl rfl ?d1 ?d2 ?d3 ?d4 ?d5 ?_)
    case d1 => omega
    case d2 => omega
    case d3 => rw [hz2]; omega
    case d4 => simp only [maxLen]; omega
    case d5 => simp
    intro w2 hown hgrow
    have hown2 : w2.ownsRow (w.heap.size + 1) 3 1 (.slice (some ⟨w.heap.size + 1, 0, none⟩) (m + 1) (m + 1)) (m + 1) (binv 0 (m + 1)) := by
      have : (madeCells #[Value.int IntKind.i64 0] (m + 1)).toList = binv 0 (m + 1) := toList_madeCells_one _ _
      rw [← this]
      simpa using hown
    have hbx2 : Blk w2 w.heap.size 29 #[.slice none 0 0] := (hgrow.block _ (by simp) (by simp)).trans HBX.out
    have hb2 : Below w.heap.size w w2 := HB.out.grown hgrow (by simp) (fun j e => by simp at e)
    have HO := Lib.hid hown2
    have HBX2 := Lib.hid hbx2
    have HB2 := Lib.hid hb2
    clear hown hgrow hown2 hbx2 hb2
    go_wp2_with fail
    go_loopw [14] (fun i wr => ∃ k : Nat, i = .int .i64 k ∧ k ≤ m ∧ Hid (wr.ownsRow (w.heap.size + 1) 3 1 (.slice (some ⟨w.heap.size + 1, 0, none⟩) (m + 1) (m + 1)) (m + 1) (binv k (m + 1 - k))) ∧ Hid (Blk wr w.heap.size 29 #[.slice none 0 0]) ∧ Hid (Below w.heap.size w wr))
      (fun i _ => m - (intOf i).toNat)
    case atStart => exact ⟨0, rfl, by omega, HO, HBX2, HB2⟩
    case round =>
      obtain ⟨k, rfl, hk, HO1, HX1, HB1⟩ := hrel
      have z7 : w.heap.size + 1 < wr.heap.size := (HO1.out.lt _ rfl).2
      by_cases hlt : k < m
      · have hs : m + 1 - k = (m - k) + 1 := by omega
        have hs2 : m + 1 - (k + 1) = m - k := by omega
        have z3 : wr.cell? ⟨w.heap.size + 1, k, none⟩ = some (.int .i64 0) := by
          rw [HO1.out.cellAt k (by omega), hs]; exact binv_at _ _
        have z4 := HO1.out.frozenAt k
        have hst := (HO1.out.stored k (.int .i64 2)).1
        rw [hs, binv_set] at hst
        have HST := Lib.hid hst
        have HS2 := Lib.hid hs2
        clear hst hs hs2 HO1 HO HBX2 HB2
        go_wp2_with fail
        go_roundw
        case rel =>
          refine ⟨k + 1, by go_num, by omega, Lib.hid ?_, Lib.hid ?_, Lib.hid ?_⟩
          · rw [HS2.out]; exact HST.out
          · exact HX1.out.far (by simp) _
          · exact HB1.out.setCell (p := ⟨w.heap.size + 1, k, none⟩) (by simp) _
        case measure => simp [intOf]; omega
      · have hk2 : k = m := by omega
        subst hk2
        have hfin := HO1.out
        rw [show k + 1 - k = 1 by omega, binv_bin] at hfin
        have HF := Lib.hid hfin
        have x2 : wr.cell? ⟨w.heap.size, 0, none⟩ = some (.slice none 0 0) := by rw [HX1.out.cell]; rfl
        have x3 := HX1.out.frozen 0
        have x7 : w.heap.size < wr.heap.size := by omega
        clear hfin HO1 HO HBX2 HB2 hlt
        go_wp2_with fail
        refine bodyPost_ret (results_row_tmp rfl _ _ w.heap.size 29 _ rfl (HX1.out.set_ 0 _) Try.underlying29 Try.infoAlphabet) rfl ?_
        refine ⟨HB1.out.setCell (p := ⟨w.heap.size, 0, none⟩) (Nat.le_refl _) _, .inl ⟨HV.out, _, rfl, ?_⟩⟩
        refine isInts_own (base := w.heap.size + 1) (t := 3) (ownsRow_far HF.out ?_ _) (bin_length _)
        simp [Value.ownBlock]

end Go.Proofs.Ytkbcehapalcadab
