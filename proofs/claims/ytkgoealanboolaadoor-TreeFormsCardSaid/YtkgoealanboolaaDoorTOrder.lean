/- law01.TreeOrder, the walk. -/
import Derived.Test.YtkgoealanboolaaDoorTAwakeOk
namespace Go.Proofs.YtkgoealanboolaaDoor
open Go.RowKit Go.Shelf

theorem cmpI_cases (a b : Int) : (cmpI a b = -1 ∧ a < b) ∨ (cmpI a b = 0 ∧ a = b) ∨ (cmpI a b = 1 ∧ b < a) := by
  unfold cmpI
  by_cases h1 : a < b
  · exact .inl ⟨by rw [if_pos h1], h1⟩
  · by_cases h2 : b < a
    · exact .inr (.inr ⟨by rw [if_neg h1, if_pos h2], h2⟩)
    · exact .inr (.inl ⟨by rw [if_neg h1, if_neg h2], by omega⟩)
theorem cmpM_cases (x y : Int × Int) : (cmpM x y = -1 ∧ (x.1 < y.1 ∨ (x.1 = y.1 ∧ x.2 < y.2))) ∨ (cmpM x y = 0 ∧ x.1 = y.1 ∧ x.2 = y.2) ∨ (cmpM x y = 1 ∧ (y.1 < x.1 ∨ (x.1 = y.1 ∧ y.2 < x.2))) := by
  unfold cmpM orI
  rcases cmpI_cases x.1 y.1 with ⟨e, h⟩ | ⟨e, h⟩ | ⟨e, h⟩
  · rw [e]; exact .inl ⟨rfl, .inl h⟩
  · rw [e]
    rcases cmpI_cases x.2 y.2 with ⟨e2, h2⟩ | ⟨e2, h2⟩ | ⟨e2, h2⟩
    · rw [e2]; exact .inl ⟨rfl, .inr ⟨h, h2⟩⟩
    · rw [e2]; exact .inr (.inl ⟨rfl, h, h2⟩)
    · rw [e2]; exact .inr (.inr ⟨rfl, .inr ⟨h, h2⟩⟩)
  · rw [e]; exact .inr (.inr ⟨rfl, .inl h⟩)
theorem lexM_trans : ∀ (x y z : List (Int × Int)), lexM x y ≤ 0 → lexM y z ≤ 0 → lexM x z ≤ 0
  | [], _, [], _, _ => by simp [lexM]
  | [], _, _ :: _, _, _ => by simp [lexM]
  | a :: x, [], _, h, _ => by simp [lexM] at h
  | _ :: _, _ :: _, [], _, h => by simp [lexM] at h
  | a :: x, b :: y, c :: z, h1, h2 => by
    simp only [lexM] at h1 h2 ⊢
    have ih := lexM_trans x y z
    unfold orI at h1 h2 ⊢
    rcases cmpM_cases a b with ⟨e1, p1⟩ | ⟨e1, p1⟩ | ⟨e1, p1⟩
    · rcases cmpM_cases b c with ⟨e2, p2⟩ | ⟨e2, p2⟩ | ⟨e2, p2⟩
      · rcases cmpM_cases a c with ⟨e3, p3⟩ | ⟨e3, p3⟩ | ⟨e3, p3⟩
        · rw [e3]; simp
        · omega
        · omega
      · rcases cmpM_cases a c with ⟨e3, p3⟩ | ⟨e3, p3⟩ | ⟨e3, p3⟩
        · rw [e3]; simp
        · omega
        · omega
      · rw [e2] at h2; simp at h2
    · rcases cmpM_cases b c with ⟨e2, p2⟩ | ⟨e2, p2⟩ | ⟨e2, p2⟩
      · rcases cmpM_cases a c with ⟨e3, p3⟩ | ⟨e3, p3⟩ | ⟨e3, p3⟩
        · rw [e3]; simp
        · omega
        · omega
      · rcases cmpM_cases a c with ⟨e3, p3⟩ | ⟨e3, p3⟩ | ⟨e3, p3⟩
        · omega
        · rw [e3]; rw [e1] at h1; rw [e2] at h2; simp at h1 h2 ⊢; exact ih h1 h2
        · omega
      · rw [e2] at h2; simp at h2
    · rw [e1] at h1; simp at h1

/-- What stands throughout: nothing old has turned; the three trees lie in their boxes. -/
def OSt (w : World) (la lb lc : Int) (va vb vc : Value) (W : World) : Prop := Below w.heap.size w W ∧ Blk W w.heap.size 27 #[.int .i64 la, va] ∧ Blk W (w.heap.size + 1) 27 #[.int .i64 lb, vb] ∧ Blk W (w.heap.size + 1 + 1) 27 #[.int .i64 lc, vc]
theorem OSt.more {w W W' : World} {la lb lc : Int} {va vb vc : Value} (h : OSt w la lb lc va vb vc W) (hb : Below W.heap.size W W') : OSt w la lb lc va vb vc W' := ⟨h.1.trans (hb.mono h.1.size), h.2.1.below hb h.2.1.lt, h.2.2.1.below hb h.2.2.1.lt, h.2.2.2.below hb h.2.2.2.lt⟩
theorem OSt.alloc {w W : World} {la lb lc : Int} {va vb vc : Value} (h : OSt w la lb lc va vb vc W) (o : Obj) : OSt w la lb lc va vb vc (W.alloc o) := ⟨h.1.alloc h.1.size _, h.2.1.alloc _, h.2.2.1.alloc _, h.2.2.2.alloc _⟩
theorem OSt.facts {w W : World} {la lb lc : Int} {va vb vc : Value} (h : OSt w la lb lc va vb vc W) : W.cell? ⟨w.heap.size, 0, none⟩ = some (.int .i64 la) ∧ W.cell? ⟨w.heap.size, 1, none⟩ = some va ∧ W.cell? ⟨w.heap.size + 1, 0, none⟩ = some (.int .i64 lb) ∧ W.cell? ⟨w.heap.size + 1, 1, none⟩ = some vb ∧ W.cell? ⟨w.heap.size + 1 + 1, 0, none⟩ = some (.int .i64 lc) ∧ W.cell? ⟨w.heap.size + 1 + 1, 1, none⟩ = some vc ∧ w.heap.size < W.heap.size ∧ w.heap.size + 1 < W.heap.size ∧ w.heap.size + 1 + 1 < W.heap.size :=
  ⟨by rw [h.2.1.cell]; rfl, by rw [h.2.1.cell]; rfl, by rw [h.2.2.1.cell]; rfl, by rw [h.2.2.1.cell]; rfl, by rw [h.2.2.2.cell]; rfl, by rw [h.2.2.2.cell]; rfl, h.2.1.lt, h.2.2.1.lt, h.2.2.2.lt⟩
theorem ost_new (w : World) (la lb lc : Int) (va vb vc : Value) : OSt w la lb lc va vb vc (((w.alloc (.cells #[.int .i64 la, va] 27)).alloc (.cells #[.int .i64 lb, vb] 27)).alloc (.cells #[.int .i64 lc, vc] 27)) :=
  ⟨(((Below.refl _ w).alloc (Nat.le_refl _) _).alloc (by simp) _).alloc (by simp; omega) _, blk_0 w _ _ _ _, blk_1 w _ _ _ _, blk3_2 w _ _ _ _⟩

set_option maxRecDepth 100000 in
set_option maxHeartbeats 2000000 in
theorem order_walk (la lb lc : Int) (A B C : Hg) (va vb vc : Value) (w : World) (hal : AlIs w) (wa : (Lit.int .i64 la).wf = true) (wb : (Lit.int .i64 lb).wf = true) (wc : (Lit.int .i64 lc).wf = true) (ha : IsH w va A) (hb : IsH w vb B) (hc : IsH w vc C) :
    Calls Tryd.prog 4 #[.agg #[.int .i64 la, va], .agg #[.int .i64 lb, vb], .agg #[.int .i64 lc, vc]] w fun e w' => e = .returned (.bool true) ∧ Below w.heap.size w w' := by
  have HA := Lib.hid ha
  have HB := Lib.hid hb
  have HC := Lib.hid hc
  have HAL := Lib.hid hal
  have ST0 := Lib.hid (ost_new w la lb lc va vb vc)
  obtain ⟨av, hg, hai⟩ := hal
  have hF := (few_ok [0, 2] av (.cons la A (.cons lb B (.cons lc C .nil))) _ _ (hai.below (ST0.out.alloc (.cells #[.int .i64 la, va, .int .i64 lb, vb, .int .i64 lc, vc] 27)).1) (isH_three (Blk.new _ _ _) wa (ha.below (ST0.out.alloc _).1) wb (hb.below (ST0.out.alloc _).1) wc (hc.below (ST0.out.alloc _).1)))
  have e3 : (((w.alloc (.cells #[.int .i64 la, va] 27)).alloc (.cells #[.int .i64 lb, vb] 27)).alloc (.cells #[.int .i64 lc, vc] 27)).heap.size = w.heap.size + 1 + 1 + 1 := by simp
  rw [e3] at hF
  have HF := Lib.hid hF
  clear hF e3
  obtain ⟨pa, ca, rfl, _, _, _⟩ := ha
  obtain ⟨pb, cb, rfl, _, _, _⟩ := hb
  obtain ⟨pc, cc, rfl, _, _, _⟩ := hc
  obtain ⟨pal, cal, rfl, hal1, hal2, _⟩ := hai
  have g1 := cell_later ST0.out.1 hg
  have g2 := World.block_lt_of_cell? _ _ g1
  simp only at g2
  clear hg wa wb wc
  have HAW := Lib.hid (fun W (h : Below w.heap.size w W) => awake_ok W (HAL.out.below h))
  go_enter Tryd.func4, Tryd.ntmps4
  go_wp2_with fail
  refine HF.out.mono ?_
  rintro e w1 ⟨rfl, hb⟩
  have ST1 := Lib.hid ((ST0.out.alloc _).more hb)
  obtain ⟨z0, z1, z2, z3, z4, z5, z6, z7, z8⟩ := ST1.out.facts
  clear hb HF ST0 g1 g2
  by_cases hfew : (fewH (.cons la A (.cons lb B (.cons lc C .nil))) && decide ((([0, 2] : List Int).length : Int) ≤ 40)) = true
  rotate_left
  · have hd : (fewH (.cons la A (.cons lb B (.cons lc C .nil))) && decide ((([0, 2] : List Int).length : Int) ≤ 40)) = false := by simpa using hfew
    rw [hd]
    clear hd hfew
    go_wp2_with fail
    refine (HAW.out _ ST1.out.1).mono ?_
    rintro e w2 ⟨rfl, hb2⟩
    have HB2 := Lib.hid hb2
    clear hb2
    go_wp2_with fail
    go_ret
    exact ⟨rfl, (ST1.out.more HB2.out).1⟩
  rw [hfew]
  have hsz : A.size + 1 ≤ 2000 ∧ B.size + 1 ≤ 2000 ∧ C.size + 1 ≤ 2000 := by
    rw [fewH_cons, fewH_cons, fewH_cons] at hfew
    simp only [Bool.and_eq_true, decide_eq_true_eq] at hfew
    omega
  clear hfew
  have htr := lexM_trans (mkT la A) (mkT lb B) (mkT lc C)
  have C1 := Lib.hid (fun W (hW : Below w.heap.size w W) => tcompare_ok la lb A B (.slice pa A.len ca) (.slice pb B.len cb) W (HA.out.below hW) (HB.out.below hW) (by omega) (by omega))
  have C2 := Lib.hid (fun W (hW : Below w.heap.size w W) => tcompare_ok lb lc B C (.slice pb B.len cb) (.slice pc C.len cc) W (HB.out.below hW) (HC.out.below hW) (by omega) (by omega))
  have C3 := Lib.hid (fun W (hW : Below w.heap.size w W) => tcompare_ok la lc A C (.slice pa A.len ca) (.slice pc C.len cc) W (HA.out.below hW) (HC.out.below hW) (by omega) (by omega))
  generalize lexM (mkT la A) (mkT lb B) = x1 at htr C1
  generalize lexM (mkT lb B) (mkT lc C) = x2 at htr C2
  generalize lexM (mkT la A) (mkT lc C) = x3 at htr C3
  go_wp2_with fail
  refine (C1.out _ ST1.out.1).mono ?_
  rintro e w2 ⟨rfl, hb2⟩
  have ST2 := Lib.hid (ST1.out.more hb2)
  obtain ⟨y0, y1, y2, y3, y4, y5, y6, y7, y8⟩ := ST2.out.facts
  clear hb2 ST1 z0 z1 z2 z3 z4 z5 z6 z7 z8
  by_cases h1 : 0 < x1
  · have hd1 : decide (0 < x1) = true := decide_eq_true h1
    clear htr
    go_wp2_with fail
    refine (HAW.out _ ST2.out.1).mono ?_
    rintro e w3 ⟨rfl, hb3⟩
    have HB3 := Lib.hid hb3
    clear hb3
    go_wp2_with fail
    go_ret
    exact ⟨rfl, (ST2.out.more HB3.out).1⟩
  have hd1 : decide (0 < x1) = false := decide_eq_false h1
  go_wp2_with fail
  refine (C2.out _ ST2.out.1).mono ?_
  rintro e w3 ⟨rfl, hb3⟩
  have ST3 := Lib.hid (ST2.out.more hb3)
  obtain ⟨z0, z1, z2, z3, z4, z5, z6, z7, z8⟩ := ST3.out.facts
  clear hb3 ST2 y0 y1 y2 y3 y4 y5 y6 y7 y8
  by_cases h2 : 0 < x2
  · have hd2 : decide (0 < x2) = true := decide_eq_true h2
    clear htr
    go_wp2_with fail
    refine (HAW.out _ ST3.out.1).mono ?_
    rintro e w4 ⟨rfl, hb4⟩
    have HB4 := Lib.hid hb4
    clear hb4
    go_wp2_with fail
    go_ret
    exact ⟨rfl, (ST3.out.more HB4.out).1⟩
  have hd2 : decide (0 < x2) = false := decide_eq_false h2
  have h3 : x3 ≤ 0 := htr (by omega) (by omega)
  have hd3 : decide (x3 ≤ 0) = true := decide_eq_true h3
  clear htr
  go_wp2_with fail
  refine (C3.out _ ST3.out.1).mono ?_
  rintro e w4 ⟨rfl, hb4⟩
  have ST4 := Lib.hid (ST3.out.more hb4)
  clear hb4
  go_wp2_with fail
  refine (HAW.out _ ST4.out.1).mono ?_
  rintro e w5 ⟨rfl, hb5⟩
  have HB5 := Lib.hid hb5
  clear hb5
  go_wp2_with fail
  go_ret
  exact ⟨rfl, (ST4.out.more HB5.out).1⟩

end Go.Proofs.YtkgoealanboolaaDoor
