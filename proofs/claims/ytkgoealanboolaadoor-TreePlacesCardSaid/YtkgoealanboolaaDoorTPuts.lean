/- law01.TreePuts, the walk. -/
import Derived.Test.YtkgoealanboolaaDoorTAwakeOk
import Derived.Test.YtkgoealanboolaaDoorTPut
import Derived.Test.YtkgoealanboolaaDoorTLists
namespace Go.Proofs.YtkgoealanboolaaDoor
open Go.RowKit Go.Shelf

theorem putE_cases (al : List Int) (t x : Int × Hg) (pos : List Int) (h : putE al t x pos = 0) :
    tvalid al t.1 t.2 = true ∧ tvalid al x.1 x.2 = true ∧ (∃ y, getT pos t = some y) ∧ (putT pos t x).2.size + 1 ≤ 300 ∧ putR al t x pos = putT pos t x := by
  unfold putE at h
  by_cases h1 : tvalid al t.1 t.2 = true
  · rw [if_pos h1] at h
    by_cases h2 : tvalid al x.1 x.2 = true
    · rw [if_pos h2] at h
      cases hg : getT pos t with
      | none => rw [hg] at h; simp at h
      | some y =>
        rw [hg] at h
        simp only at h
        by_cases h3 : 300 < (putT pos t x).2.size + 1
        · rw [if_pos h3] at h; omega
        · refine ⟨h1, h2, ⟨y, rfl⟩, by omega, ?_⟩
          unfold putR
          rw [if_pos h1, if_pos h2, hg]
          simp only
          rw [if_neg h3]
    · rw [if_neg h2] at h; omega
  · rw [if_neg h1] at h; omega
theorem put_then_at (al : List Int) (t x : Int × Hg) (pos : List Int) (h : putE al t x pos = 0) : atE al (putR al t x pos) pos = 0 ∧ atR al (putR al t x pos) pos = x := by
  obtain ⟨h1, h2, ⟨y, hg⟩, h3, h4⟩ := putE_cases al t x pos h
  rw [h4]
  have hv := put_valid (ps := pos) h3 h1 h2
  have hgp := get_put pos t x y hg
  constructor
  · unfold atE; rw [if_pos hv, hgp]
  · unfold atR; rw [if_pos hv, hgp]
theorem atE_cases (al : List Int) (t : Int × Hg) (pos : List Int) (h : atE al t pos = 0) : tvalid al t.1 t.2 = true ∧ getT pos t = some (atR al t pos) := by
  unfold atE at h
  by_cases h1 : tvalid al t.1 t.2 = true
  · rw [if_pos h1] at h
    cases hg : getT pos t with
    | none => rw [hg] at h; simp at h
    | some y => exact ⟨h1, by unfold atR; rw [if_pos h1, hg]⟩
  · rw [if_neg h1] at h; omega
theorem at_then_put (al : List Int) (t : Int × Hg) (pos : List Int) (h : atE al t pos = 0) : putE al t (atR al t pos) pos = 0 ∧ putR al t (atR al t pos) pos = t := by
  obtain ⟨h1, hg⟩ := atE_cases al t pos h
  have hv := get_valid hg h1
  have hp := put_get pos t _ hg
  have h3 : ¬ 300 < t.2.size + 1 := by
    have := h1
    rw [tvalid_iff] at this
    simp only [Bool.and_eq_true, decide_eq_true_eq] at this
    omega
  constructor
  · unfold putE
    rw [if_pos h1, if_pos hv, hg]
    simp only
    rw [hp, if_neg h3]
  · unfold putR
    rw [if_pos h1, if_pos hv, hg]
    simp only
    rw [hp, if_neg h3]
theorem atE_range (al : List Int) (t : Int × Hg) (pos : List Int) : atE al t pos = 0 ∨ atE al t pos = 1 ∨ atE al t pos = 5 := by
  unfold atE
  split
  · split
    · exact .inl rfl
    · exact .inr (.inr rfl)
  · exact .inr (.inl rfl)

/-- What stands throughout: nothing old has turned; the alphabet and the two trees lie in their boxes. -/
def PSt (w : World) (av : Value) (lt lu : Int) (vt vu : Value) (W : World) : Prop := Below w.heap.size w W ∧ Blk W w.heap.size 24 #[av] ∧ Blk W (w.heap.size + 1) 27 #[.int .i64 lt, vt] ∧ Blk W (w.heap.size + 1 + 1) 27 #[.int .i64 lu, vu]
theorem PSt.more {w W W' : World} {av : Value} {lt lu : Int} {vt vu : Value} (h : PSt w av lt lu vt vu W) (hb : Below W.heap.size W W') : PSt w av lt lu vt vu W' := ⟨h.1.trans (hb.mono h.1.size), h.2.1.below hb h.2.1.lt, h.2.2.1.below hb h.2.2.1.lt, h.2.2.2.below hb h.2.2.2.lt⟩
theorem PSt.alloc {w W : World} {av : Value} {lt lu : Int} {vt vu : Value} (h : PSt w av lt lu vt vu W) (o : Obj) : PSt w av lt lu vt vu (W.alloc o) := ⟨h.1.alloc h.1.size _, h.2.1.alloc _, h.2.2.1.alloc _, h.2.2.2.alloc _⟩
theorem PSt.facts {w W : World} {av : Value} {lt lu : Int} {vt vu : Value} (h : PSt w av lt lu vt vu W) : W.cell? ⟨w.heap.size, 0, none⟩ = some av ∧ W.cell? ⟨w.heap.size + 1, 0, none⟩ = some (.int .i64 lt) ∧ W.cell? ⟨w.heap.size + 1, 1, none⟩ = some vt ∧ W.cell? ⟨w.heap.size + 1 + 1, 0, none⟩ = some (.int .i64 lu) ∧ W.cell? ⟨w.heap.size + 1 + 1, 1, none⟩ = some vu ∧ w.heap.size < W.heap.size ∧ w.heap.size + 1 < W.heap.size ∧ w.heap.size + 1 + 1 < W.heap.size :=
  ⟨by rw [h.2.1.cell]; rfl, by rw [h.2.2.1.cell]; rfl, by rw [h.2.2.1.cell]; rfl, by rw [h.2.2.2.cell]; rfl, by rw [h.2.2.2.cell]; rfl, h.2.1.lt, h.2.2.1.lt, h.2.2.2.lt⟩
theorem pst_new (w : World) (av : Value) (lt lu : Int) (vt vu : Value) : PSt w av lt lu vt vu (((w.alloc (.cells #[av] 24)).alloc (.cells #[.int .i64 lt, vt] 27)).alloc (.cells #[.int .i64 lu, vu] 27)) :=
  ⟨(((Below.refl _ w).alloc (Nat.le_refl _) _).alloc (by simp) _).alloc (by simp; omega) _, blk_0 w _ _ _ _, blk_1 w _ _ _ _, blk3_2 w _ _ _ _⟩

set_option maxRecDepth 100000 in
set_option maxHeartbeats 4000000 in
theorem puts_walk (al : List Int) (lt lx : Int) (T X : Hg) (av vt vx pv : Value) (pos : List Int) (w : World) (hal : AlIs w) (ha : IsInts w av al) (hlt : (Lit.int .i64 lt).wf = true) (hlx : (Lit.int .i64 lx).wf = true) (ht : IsH w vt T) (hx : IsH w vx X) (hp : IsInts w pv pos) :
    Calls Tryd.prog 6 #[.agg #[av], .agg #[.int .i64 lt, vt], .agg #[.int .i64 lx, vx], pv] w fun e w' => e = .returned (.bool true) ∧ Below w.heap.size w w' := by
  have HLT := Lib.hid hlt
  have HLX := Lib.hid hlx
  have HA := Lib.hid ha
  have HT := Lib.hid ht
  have HX := Lib.hid hx
  have HP := Lib.hid hp
  have HAL := Lib.hid hal
  have ST0 := Lib.hid (pst_new w av lt lx vt vx)
  have hF := few_ok al av (.cons lt T (.cons lx X .nil)) _ _ (ha.below (ST0.out.alloc (.cells #[.int .i64 lt, vt, .int .i64 lx, vx] 27)).1) (isH_two (Blk.new _ _ _) hlt (ht.below (ST0.out.alloc _).1) hlx (hx.below (ST0.out.alloc _).1))
  have e3 : (((w.alloc (.cells #[av] 24)).alloc (.cells #[.int .i64 lt, vt] 27)).alloc (.cells #[.int .i64 lx, vx] 27)).heap.size = w.heap.size + 1 + 1 + 1 := by simp
  rw [e3] at hF
  have HF := Lib.hid hF
  clear hF e3
  obtain ⟨pa, ca, rfl, ha1, ha2, _⟩ := ha
  obtain ⟨pt, ct, rfl, ht1, ht2, _⟩ := ht
  obtain ⟨px, cx, rfl, hx1, hx2, _⟩ := hx
  obtain ⟨pp, pc, rfl, hp1, hp2, _⟩ := hp
  clear hlt hlx
  have HAW := Lib.hid (fun W (h : Below w.heap.size w W) => awake_ok W (HAL.out.below h))
  go_enter Tryd.func6, Tryd.ntmps6
  go_wp2_with fail
  refine HF.out.mono ?_
  rintro e w1 ⟨rfl, hb⟩
  have ST1 := Lib.hid ((ST0.out.alloc _).more hb)
  obtain ⟨z0, z1, z2, z3, z4, z5, z6, z7⟩ := ST1.out.facts
  clear hb HF ST0
  by_cases hfew : (fewH (.cons lt T (.cons lx X .nil)) && decide ((al.length : Int) ≤ 40)) = true
  rotate_left
  · have hd : (fewH (.cons lt T (.cons lx X .nil)) && decide ((al.length : Int) ≤ 40)) = false := by simpa using hfew
    rw [hd]
    clear hd hfew
    go_wp2_with fail
    refine (HAW.out _ ST1.out.1).mono ?_
    rintro e w2 ⟨rfl, hb2⟩
    have HB2 := Lib.hid hb2
    clear hb2
    go_wp2_with fail
    go_ret
    exact ⟨rfl, (ST1.out.more HB2.out).1⟩
  rw [hfew]
  have hsz : T.size + 1 ≤ 2000 ∧ X.size + 1 ≤ 2000 ∧ al.length ≤ 40 := by
    rw [fewH_cons, fewH_cons] at hfew
    simp only [Bool.and_eq_true, decide_eq_true_eq] at hfew
    omega
  clear hfew
  by_cases h400 : 400 < pos.length
  · have hd : decide ((400 : Int) < (pos.length : Int)) = true := decide_eq_true (by omega)
    have hd' : (400 : Int) < (pos.length : Int) := by omega
    clear h400
    go_wp2_with fail
    refine (HAW.out _ ST1.out.1).mono ?_
    rintro e w2 ⟨rfl, hb2⟩
    have HB2 := Lib.hid hb2
    clear hb2
    go_wp2_with fail
    go_ret
    exact ⟨rfl, (ST1.out.more HB2.out).1⟩
  have hd : decide ((400 : Int) < (pos.length : Int)) = false := decide_eq_false (by omega)
  have hd' : ¬ (400 : Int) < (pos.length : Int) := by omega
  clear h400
  have CP := Lib.hid (put_ok al (.slice pa al.length ca) lt T (.slice pt T.len ct) lx X (.slice px X.len cx) pos (.slice pp pos.length pc) w1 (HA.out.below ST1.out.1) HLT.out (HT.out.below ST1.out.1) (by omega) HLX.out (HX.out.below ST1.out.1) (by omega) (HP.out.below ST1.out.1))
  go_wp2_with fail
  refine CP.out.mono ?_
  rintro e w2 ⟨r2, rfl, hr2, hb2⟩
  obtain ⟨v2, rfl, hw2, hk2⟩ := hr2
  have HK2 := Lib.hid hk2
  have HW2 := Lib.hid hw2
  obtain ⟨p2, c2, rfl, _, _, _⟩ := hk2
  have ST2 := Lib.hid ((ST1.out.more hb2).alloc (.cells #[.int .i64 (putR al (lt, T) (lx, X) pos).1, .slice p2 (putR al (lt, T) (lx, X) pos).2.len c2] 27))
  have HBK2 := Lib.hid (Blk.new w2 27 #[.int .i64 (putR al (lt, T) (lx, X) pos).1, .slice p2 (putR al (lt, T) (lx, X) pos).2.len c2])
  have HK2a := Lib.hid (HK2.out.below ((Below.refl w2.heap.size w2).alloc (Nat.le_refl _) (.cells #[.int .i64 (putR al (lt, T) (lx, X) pos).1, .slice p2 (putR al (lt, T) (lx, X) pos).2.len c2] 27)))
  have hz2 : w2.heap.size < (w2.alloc (.cells #[.int .i64 (putR al (lt, T) (lx, X) pos).1, .slice p2 (putR al (lt, T) (lx, X) pos).2.len c2] 27)).heap.size := by simp
  obtain ⟨y0, y1, y2, y3, y4, y5, y6, y7⟩ := (ST1.out.more hb2).facts
  have CA2 := Lib.hid (fun W (hW : Below w.heap.size w W) => at_ok al (.slice pa al.length ca) lt T (.slice pt T.len ct) pos (.slice pp pos.length pc) W (HA.out.below hW) HLT.out (HT.out.below hW) (by omega) (HP.out.below hW))
  clear hb2 hw2 CP HK2 ST1 z0 z1 z2 z3 z4 z5 z6 z7
  by_cases hE : putE al (lt, T) (lx, X) pos = 0
  obtain ⟨hA1, hA2⟩ := put_then_at al (lt, T) (lx, X) pos hE
  obtain ⟨_, _, _, hR1, hR2⟩ := putE_cases al (lt, T) (lx, X) pos hE
  rw [← hR2] at hR1
  have HEE := Lib.hid hE
  rw [hE]
  clear hE hR2
  generalize putR al (lt, T) (lx, X) pos = R at *
  have CA := at_ok al (.slice pa al.length ca) R.1 R.2 (.slice p2 R.2.len c2) pos (.slice pp pos.length pc) _ (HA.out.below ST2.out.1) HW2.out HK2a.out (by omega) (HP.out.below ST2.out.1)
  rw [show (R.1, R.2) = R from rfl, hA1, hA2] at CA
  have CA := Lib.hid CA
  clear hA1 hA2
  go_wp2_with fail
  refine CA.out.mono ?_
  rintro e w3 ⟨r3, rfl, hr3, hb3⟩
  obtain ⟨v3, rfl, hw3, hk3⟩ := hr3
  have HK3 := Lib.hid hk3
  obtain ⟨p3, c3, rfl, _, _, _⟩ := hk3
  simp only at hw3
  have STX := Lib.hid ((ST2.out.more hb3).alloc (.cells #[.int .i64 lx, .slice p3 X.len c3] 27))
  have HBK3 := Lib.hid (Blk.new w3 27 #[.int .i64 lx, .slice p3 X.len c3])
  have hz3 : w3.heap.size < (w3.alloc (.cells #[.int .i64 lx, .slice p3 X.len c3] 27)).heap.size := by simp
  obtain ⟨z0, z1, z2, z3, z4, z5, z6, z7⟩ := STX.out.facts
  have HSM := Lib.hid (same_eq (lx, X) (.agg #[.int .i64 lx, .slice p3 X.len c3]) (.agg #[.int .i64 lx, .slice px X.len cx]) _ ⟨_, rfl, hw3, HK3.out.below ((Below.refl w3.heap.size w3).alloc (Nat.le_refl _) (.cells #[.int .i64 lx, .slice p3 X.len c3] 27))⟩ ⟨_, rfl, hw3, HX.out.below STX.out.1⟩)
  have u1 : (w3.alloc (.cells #[.int .i64 lx, .slice p3 X.len c3] 27)).cell? ⟨w3.heap.size, 0, none⟩ = some (.int .i64 lx) := by rw [HBK3.out.cell]; rfl
  have u2 : (w3.alloc (.cells #[.int .i64 lx, .slice p3 X.len c3] 27)).cell? ⟨w3.heap.size, 1, none⟩ = some (.slice p3 X.len c3) := by rw [HBK3.out.cell]; rfl
  clear hb3 hw3 HK3 ST2 HK2a HBK2 y0 y1 y2 y3 y4 y5 y6 y7 hz2 CA HEE
  go_wp2_with fail
  refine HSM.out.mono ?_
  rintro e w4 ⟨rfl, hb4⟩
  have STY := Lib.hid (STX.out.more hb4)
  obtain ⟨x0, x1, x2, x3, x4, x5, x6, x7⟩ := STY.out.facts
  clear hb4 HSM STX HBK3 z0 z1 z2 z3 z4 z5 z6 z7 u1 u2 hz3
  go_wp2_with fail
  rotate_left
  have hE1 : (putE al (lt, T) (lx, X) pos == 0) = false := by simpa using hE
  have hE2 : decide (putE al (lt, T) (lx, X) pos = 0) = false := decide_eq_false hE
  have STY := ST2
  generalize putE al (lt, T) (lx, X) pos = E at hE hE1 hE2 ⊢
  obtain ⟨x0, x1, x2, x3, x4, x5, x6, x7⟩ := STY.out.facts
  clear hE HK2a HBK2 y0 y1 y2 y3 y4 y5 y6 y7 ST2
  go_wp2_with fail
  all_goals
    refine (CA2.out _ STY.out.1).mono ?_
    rintro e w5 ⟨r5, rfl, hr5, hb5⟩
    obtain ⟨v5, rfl, hw5, hk5⟩ := hr5
    have HK5 := Lib.hid hk5
    have HW5 := Lib.hid hw5
    obtain ⟨p5, c5, rfl, _, _, _⟩ := hk5
    have ST5 := Lib.hid ((STY.out.more hb5).alloc (.cells #[.int .i64 (atR al (lt, T) pos).1, .slice p5 (atR al (lt, T) pos).2.len c5] 27))
    have HBK5 := Lib.hid (Blk.new w5 27 #[.int .i64 (atR al (lt, T) pos).1, .slice p5 (atR al (lt, T) pos).2.len c5])
    have HK5a := Lib.hid (HK5.out.below ((Below.refl w5.heap.size w5).alloc (Nat.le_refl _) (.cells #[.int .i64 (atR al (lt, T) pos).1, .slice p5 (atR al (lt, T) pos).2.len c5] 27)))
    obtain ⟨y0, y1, y2, y3, y4, y5, y6, y7⟩ := ST5.out.facts
    clear hb5 hw5 HK5 STY x0 x1 x2 x3 x4 x5 x6 x7
    by_cases hG : atE al (lt, T) pos = 0
    · obtain ⟨hB1, hB2⟩ := at_then_put al (lt, T) pos hG
      obtain ⟨_, hgt⟩ := atE_cases al (lt, T) pos hG
      have hys := get_size pos _ _ hgt
      simp only at hys
      rw [hG]
      clear hG hgt
      generalize atR al (lt, T) pos = Y at *
      have CQ := put_ok al (.slice pa al.length ca) lt T (.slice pt T.len ct) Y.1 Y.2 (.slice p5 Y.2.len c5) pos (.slice pp pos.length pc) _ (HA.out.below ST5.out.1) HLT.out (HT.out.below ST5.out.1) (by omega) HW5.out HK5a.out (by omega) (HP.out.below ST5.out.1)
      rw [show (Y.1, Y.2) = Y from rfl, hB1, hB2] at CQ
      have CQ := Lib.hid CQ
      have u1 : (w5.alloc (.cells #[.int .i64 Y.1, .slice p5 Y.2.len c5] 27)).cell? ⟨w5.heap.size, 0, none⟩ = some (.int .i64 Y.1) := by rw [HBK5.out.cell]; rfl
      have u2 : (w5.alloc (.cells #[.int .i64 Y.1, .slice p5 Y.2.len c5] 27)).cell? ⟨w5.heap.size, 1, none⟩ = some (.slice p5 Y.2.len c5) := by rw [HBK5.out.cell]; rfl
      have hz5 : w5.heap.size < (w5.alloc (.cells #[.int .i64 Y.1, .slice p5 Y.2.len c5] 27)).heap.size := by simp
      clear hB1 hB2 hys
      go_wp2_with fail
      refine CQ.out.mono ?_
      rintro e w6 ⟨r6, rfl, hr6, hb6⟩
      obtain ⟨v6, rfl, hw6, hk6⟩ := hr6
      have HK6 := Lib.hid hk6
      obtain ⟨p6, c6, rfl, _, _, _⟩ := hk6
      simp only at hw6
      have ST6 := Lib.hid ((ST5.out.more hb6).alloc (.cells #[.int .i64 lt, .slice p6 T.len c6] 27))
      have HBK6 := Lib.hid (Blk.new w6 27 #[.int .i64 lt, .slice p6 T.len c6])
      obtain ⟨z0, z1, z2, z3, z4, z5, z6, z7⟩ := ST6.out.facts
      have HSM := Lib.hid (same_eq (lt, T) (.agg #[.int .i64 lt, .slice p6 T.len c6]) (.agg #[.int .i64 lt, .slice pt T.len ct]) _ ⟨_, rfl, hw6, HK6.out.below ((Below.refl w6.heap.size w6).alloc (Nat.le_refl _) (.cells #[.int .i64 lt, .slice p6 T.len c6] 27))⟩ ⟨_, rfl, hw6, HT.out.below ST6.out.1⟩)
      have u3 : (w6.alloc (.cells #[.int .i64 lt, .slice p6 T.len c6] 27)).cell? ⟨w6.heap.size, 0, none⟩ = some (.int .i64 lt) := by rw [HBK6.out.cell]; rfl
      have u4 : (w6.alloc (.cells #[.int .i64 lt, .slice p6 T.len c6] 27)).cell? ⟨w6.heap.size, 1, none⟩ = some (.slice p6 T.len c6) := by rw [HBK6.out.cell]; rfl
      have hz6 : w6.heap.size < (w6.alloc (.cells #[.int .i64 lt, .slice p6 T.len c6] 27)).heap.size := by simp
      clear hb6 hw6 HK6 ST5 HK5a HBK5 y0 y1 y2 y3 y4 y5 y6 y7 CQ u1 u2 hz5
      go_wp2_with fail
      refine HSM.out.mono ?_
      rintro e w7 ⟨rfl, hb7⟩
      have ST7 := Lib.hid (ST6.out.more hb7)
      clear hb7 HSM ST6 HBK6 z0 z1 z2 z3 z4 z5 z6 z7 u3 u4 hz6
      go_wp2_with fail
      refine (HAW.out _ ST7.out.1).mono ?_
      rintro e w8 ⟨rfl, hb8⟩
      have HB8 := Lib.hid hb8
      clear hb8
      go_wp2_with fail
      go_ret
      exact ⟨rfl, (ST7.out.more HB8.out).1⟩
    · have hG1 : (atE al (lt, T) pos == 0) = false := by simpa using hG
      have hG2 : decide (atE al (lt, T) pos = 0) = false := decide_eq_false hG
      generalize atE al (lt, T) pos = E5 at hG hG1 hG2 ⊢
      clear hG HK5a HBK5
      go_wp2_with fail
      refine (HAW.out _ ST5.out.1).mono ?_
      rintro e w8 ⟨rfl, hb8⟩
      have HB8 := Lib.hid hb8
      clear hb8
      go_wp2_with fail
      go_ret
      exact ⟨rfl, (ST5.out.more HB8.out).1⟩

end Go.Proofs.YtkgoealanboolaaDoor
