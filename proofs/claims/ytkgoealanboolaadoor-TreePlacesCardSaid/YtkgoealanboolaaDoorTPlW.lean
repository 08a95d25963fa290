/- law01.TreePlaces, the walk. -/
import Derived.Test.YtkgoealanboolaaDoorTPuts
import Derived.Test.YtkgoealanboolaaDoorTRPut
import Derived.Test.YtkgoealanboolaaDoorTPosOk
import Derived.Test.YtkgoealanboolaaDoorTPlaces
import Derived.Test.YtkgoealanboolaaDoorTRFind
namespace Go.Proofs.YtkgoealanboolaaDoor
open Go.RowKit Go.Shelf



set_option maxRecDepth 100000 in
set_option maxHeartbeats 4000000 in
theorem places_walk (al : List Int) (lt lx : Int) (T X : Hg) (av vt vx pv : Value) (pos : List Int) (w : World) (hal : AlIs w) (ha : IsInts w av al) (hlt : (Lit.int .i64 lt).wf = true) (hlx : (Lit.int .i64 lx).wf = true) (ht : IsH w vt T) (hx : IsH w vx X) (hp : IsInts w pv pos) :
    Calls Tryd.prog 5 #[.agg #[av], .agg #[.int .i64 lt, vt], .agg #[.int .i64 lx, vx], pv] w fun e w' => e = .returned (.bool true) ∧ Below w.heap.size w w' := by
  have HLT := Lib.hid hlt
  have HLX := Lib.hid hlx
  have HA := Lib.hid ha
  have HT := Lib.hid ht
  have HX := Lib.hid hx
  have HP := Lib.hid hp
  have HAL := Lib.hid hal
  have ST0 := Lib.hid (pst_new w av lt lx vt vx)
  have hF := few_ok al av (.cons lt T (.cons lx X .nil)) _ _ (ha.below (ST0.out.alloc (.cells #[.int .i64 lt, vt, .int .i64 lx, vx] 27)).1) (isH_two (Blk.new _ _ _) hlt (ht.below (ST0.out.alloc _).1) hlx (hx.below (ST0.out.alloc _).1))
  have e3 : (((w.alloc (.cells #[av] 24)).alloc (.cells #[.int .i64 lt, vt] 27)).alloc (.cells #[.int .i64 lx, vx] 27)).heap.size = w.heap.size + 1 + 1 + 1 := by simp
  rw [e3] at hF
  have HF := Lib.hid hF
  clear hF e3
  obtain ⟨pa, ca, rfl, ha1, ha2, _⟩ := ha
  obtain ⟨pt, ct, rfl, ht1, ht2, _⟩ := ht
  obtain ⟨px, cx, rfl, hx1, hx2, _⟩ := hx
  obtain ⟨pp, pc, rfl, hp1, hp2, _⟩ := hp
  clear hlt hlx
  have HAW := Lib.hid (fun W (h : Below w.heap.size w W) => awake_ok W (HAL.out.below h))
  go_enter Tryd.func5, Tryd.ntmps5
  go_wp2_with fail
  refine HF.out.mono ?_
  rintro e w1 ⟨rfl, hb⟩
  have ST1 := Lib.hid ((ST0.out.alloc _).more hb)
  obtain ⟨z0, z1, z2, z3, z4, z5, z6, z7⟩ := ST1.out.facts
  clear hb HF ST0
  by_cases hfew : (fewH (.cons lt T (.cons lx X .nil)) && decide ((al.length : Int) ≤ 40)) = true
  rotate_left
  · have hd : (fewH (.cons lt T (.cons lx X .nil)) && decide ((al.length : Int) ≤ 40)) = false := by simpa using hfew
    rw [hd]
    clear hd hfew
    go_wp2_with fail
    refine (HAW.out _ ST1.out.1).mono ?_
    rintro e w2 ⟨rfl, hb2⟩
    have HB2 := Lib.hid hb2
    clear hb2
    go_wp2_with fail
    go_ret
    exact ⟨rfl, (ST1.out.more HB2.out).1⟩
  rw [hfew]
  have hsz : T.size + 1 ≤ 2000 ∧ X.size + 1 ≤ 2000 ∧ al.length ≤ 40 := by
    rw [fewH_cons, fewH_cons] at hfew
    simp only [Bool.and_eq_true, decide_eq_true_eq] at hfew
    omega
  clear hfew
  by_cases h400 : 400 < pos.length
  · have hd : decide ((400 : Int) < (pos.length : Int)) = true := decide_eq_true (by omega)
    have hd' : (400 : Int) < (pos.length : Int) := by omega
    clear h400
    go_wp2_with fail
    refine (HAW.out _ ST1.out.1).mono ?_
    rintro e w2 ⟨rfl, hb2⟩
    have HB2 := Lib.hid hb2
    clear hb2
    go_wp2_with fail
    go_ret
    exact ⟨rfl, (ST1.out.more HB2.out).1⟩
  have hd : decide ((400 : Int) < (pos.length : Int)) = false := decide_eq_false (by omega)
  have hd' : ¬ (400 : Int) < (pos.length : Int) := by omega
  clear h400
  have C1 := Lib.hid (fun W (hW : Below w.heap.size w W) => positions_ok al (.slice pa al.length ca) lt (.slice pt T.len ct) T W (HA.out.below hW) HLT.out (HT.out.below hW) (by omega))
  have C2 := Lib.hid (fun W (hW : Below w.heap.size w W) => rpositions_ok al (.slice pa al.length ca) lt (.slice pt T.len ct) T W (HA.out.below hW) (HT.out.below hW))
  have C3 := Lib.hid (fun W (hW : Below w.heap.size w W) => at_ok al (.slice pa al.length ca) lt T (.slice pt T.len ct) pos (.slice pp pos.length pc) W (HA.out.below hW) HLT.out (HT.out.below hW) (by omega) (HP.out.below hW))
  have C4 := Lib.hid (fun W (hW : Below w.heap.size w W) => rat_ok al (.slice pa al.length ca) lt T (.slice pt T.len ct) pos (.slice pp pos.length pc) W (HA.out.below hW) HLT.out (HT.out.below hW) (HP.out.below hW))
  have C5 := Lib.hid (fun W (hW : Below w.heap.size w W) => put_ok al (.slice pa al.length ca) lt T (.slice pt T.len ct) lx X (.slice px X.len cx) pos (.slice pp pos.length pc) W (HA.out.below hW) HLT.out (HT.out.below hW) (by omega) HLX.out (HX.out.below hW) (by omega) (HP.out.below hW))
  have C6 := Lib.hid (fun W (hW : Below w.heap.size w W) => rput_ok al (.slice pa al.length ca) lt T (.slice pt T.len ct) lx X (.slice px X.len cx) pos (.slice pp pos.length pc) W (HA.out.below hW) HLT.out (HT.out.below hW) (by omega) HLX.out (HX.out.below hW) (HP.out.below hW))
  generalize posE al lt T = E1 at C1 C2
  generalize posL al lt T = L1 at C1 C2
  generalize atE al (lt, T) pos = E2 at C3 C4
  generalize atR al (lt, T) pos = R2 at C3 C4
  generalize putE al (lt, T) (lx, X) pos = E3 at C5 C6
  generalize putR al (lt, T) (lx, X) pos = R3 at C5 C6
  go_wp2_with fail
  refine (C1.out _ ST1.out.1).mono ?_
  rintro e w2 ⟨v2, rfl, hv2, hb2⟩
  have ST2 := Lib.hid (ST1.out.more hb2)
  have HV2 := Lib.hid hv2
  obtain ⟨p2, c2, rfl, _, _, _⟩ := hv2
  obtain ⟨y0, y1, y2, y3, y4, y5, y6, y7⟩ := ST2.out.facts
  clear hb2 ST1 z0 z1 z2 z3 z4 z5 z6 z7 C1
  go_wp2_with fail
  refine (C2.out _ ST2.out.1).mono ?_
  rintro e w3 ⟨v3, rfl, hv3, hb3⟩
  have ST3 := Lib.hid (ST2.out.more hb3)
  have HV2 := Lib.hid (HV2.out.below hb3)
  have HV3 := Lib.hid hv3
  obtain ⟨p3, c3, rfl, _, _, _⟩ := hv3
  obtain ⟨z0, z1, z2, z3, z4, z5, z6, z7⟩ := ST3.out.facts
  clear hb3 ST2 y0 y1 y2 y3 y4 y5 y6 y7 C2
  go_wp2_with fail
  refine (C3.out _ ST3.out.1).mono ?_
  rintro e w4 ⟨r4, rfl, hr4, hb4⟩
  obtain ⟨v4, rfl, hw4, hk4⟩ := hr4
  have HK4 := Lib.hid (hk4.below (below_alx (.cells #[.int .i64 R2.1, v4] 27)))
  obtain ⟨p4, c4, rfl, _, _, _⟩ := hk4
  have HW4 := Lib.hid hw4
  have HB4 := Lib.hid (Blk.new w4 27 #[.int .i64 R2.1, .slice p4 R2.2.len c4])
  have hbb4 := hb4.alloc hb4.size (.cells #[.int .i64 R2.1, .slice p4 R2.2.len c4] 27)
  have ST4 := Lib.hid (ST3.out.more hbb4)
  have HV2 := Lib.hid (HV2.out.below hbb4)
  have HV3 := Lib.hid (HV3.out.below hbb4)
  obtain ⟨y0, y1, y2, y3, y4, y5, y6, y7⟩ := ((ST3.out.more hb4)).facts
  have hz4 : w4.heap.size < (w4.alloc (.cells #[.int .i64 R2.1, .slice p4 R2.2.len c4] 27)).heap.size := by simp
  clear hb4 hbb4 hw4 ST3 z0 z1 z2 z3 z4 z5 z6 z7 C3
  go_wp2_with fail
  refine (C4.out _ ST4.out.1).mono ?_
  rintro e w5 ⟨r5, rfl, hr5, hb5⟩
  obtain ⟨v5, rfl, hw5, hk5⟩ := hr5
  have HK5 := Lib.hid (hk5.below (below_alx (.cells #[.int .i64 R2.1, v5] 27)))
  obtain ⟨p5, c5, rfl, _, _, _⟩ := hk5
  have HB5 := Lib.hid (Blk.new w5 27 #[.int .i64 R2.1, .slice p5 R2.2.len c5])
  have hbb5 := hb5.alloc hb5.size (.cells #[.int .i64 R2.1, .slice p5 R2.2.len c5] 27)
  have ST5 := Lib.hid (ST4.out.more hbb5)
  have HV2 := Lib.hid (HV2.out.below hbb5)
  have HV3 := Lib.hid (HV3.out.below hbb5)
  have HK4 := Lib.hid (HK4.out.below hbb5)
  have HB4 := Lib.hid (HB4.out.below hbb5 hz4)
  have hz5 : w5.heap.size < (w5.alloc (.cells #[.int .i64 R2.1, .slice p5 R2.2.len c5] 27)).heap.size := by simp
  have hz45 : w4.heap.size < (w5.alloc (.cells #[.int .i64 R2.1, .slice p5 R2.2.len c5] 27)).heap.size := HB4.out.lt
  obtain ⟨z0, z1, z2, z3, z4, z5, z6, z7⟩ := ((ST4.out.more hb5)).facts
  clear hb5 hbb5 hw5 ST4 y0 y1 y2 y3 y4 y5 y6 y7 C4 hz4
  go_wp2_with fail
  refine (C5.out _ ST5.out.1).mono ?_
  rintro e w6 ⟨r6, rfl, hr6, hb6⟩
  obtain ⟨v6, rfl, hw6, hk6⟩ := hr6
  have HK6 := Lib.hid (hk6.below (below_alx (.cells #[.int .i64 R3.1, v6] 27)))
  obtain ⟨p6, c6, rfl, _, _, _⟩ := hk6
  have HW6 := Lib.hid hw6
  have HB6 := Lib.hid (Blk.new w6 27 #[.int .i64 R3.1, .slice p6 R3.2.len c6])
  have hbb6 := hb6.alloc hb6.size (.cells #[.int .i64 R3.1, .slice p6 R3.2.len c6] 27)
  have ST6 := Lib.hid (ST5.out.more hbb6)
  have HV2 := Lib.hid (HV2.out.below hbb6)
  have HV3 := Lib.hid (HV3.out.below hbb6)
  have HK4 := Lib.hid (HK4.out.below hbb6)
  have HB4 := Lib.hid (HB4.out.below hbb6 hz45)
  have HK5 := Lib.hid (HK5.out.below hbb6)
  have HB5 := Lib.hid (HB5.out.below hbb6 hz5)
  have hz6 : w6.heap.size < (w6.alloc (.cells #[.int .i64 R3.1, .slice p6 R3.2.len c6] 27)).heap.size := by simp
  obtain ⟨y0, y1, y2, y3, y4, y5, y6, y7⟩ := ((ST5.out.more hb6)).facts
  clear hb6 hbb6 hw6 ST5 z0 z1 z2 z3 z4 z5 z6 z7 C5 hz5 hz45
  go_wp2_with fail
  refine (C6.out _ ST6.out.1).mono ?_
  rintro e w7 ⟨r7, rfl, hr7, hb7⟩
  obtain ⟨v7, rfl, hw7, hk7⟩ := hr7
  have HK7 := Lib.hid (hk7.below (below_alx (.cells #[.int .i64 R3.1, v7] 27)))
  obtain ⟨p7, c7, rfl, _, _, _⟩ := hk7
  have HB7 := Lib.hid (Blk.new w7 27 #[.int .i64 R3.1, .slice p7 R3.2.len c7])
  have hbb7 := hb7.alloc hb7.size (.cells #[.int .i64 R3.1, .slice p7 R3.2.len c7] 27)
  have ST7 := Lib.hid (ST6.out.more hbb7)
  have HV2 := Lib.hid (HV2.out.below hbb7)
  have HV3 := Lib.hid (HV3.out.below hbb7)
  have HK4 := Lib.hid (HK4.out.below hbb7)
  have HB4 := Lib.hid (HB4.out.below hbb7 HB4.out.lt)
  have HK5 := Lib.hid (HK5.out.below hbb7)
  have HB5 := Lib.hid (HB5.out.below hbb7 HB5.out.lt)
  have HK6 := Lib.hid (HK6.out.below hbb7)
  have HB6 := Lib.hid (HB6.out.below hbb7 hz6)
  have HSL := Lib.hid (sameLists_ok L1 (.slice p2 L1.length c2) (.slice p3 L1.length c3) _ HV2.out HV3.out)
  clear hb7 hbb7 hw7 ST6 y0 y1 y2 y3 y4 y5 y6 y7 C6 hz6
  go_wp2_with fail
  refine HSL.out.mono ?_
  rintro e w8 ⟨rfl, hb8⟩
  have ST8 := Lib.hid (ST7.out.more hb8)
  have HK4 := Lib.hid (HK4.out.below hb8)
  have HB4 := Lib.hid (HB4.out.below hb8 HB4.out.lt)
  have HK5 := Lib.hid (HK5.out.below hb8)
  have HB5 := Lib.hid (HB5.out.below hb8 HB5.out.lt)
  have HK6 := Lib.hid (HK6.out.below hb8)
  have HB6 := Lib.hid (HB6.out.below hb8 HB6.out.lt)
  have HK7 := Lib.hid (HK7.out.below hb8)
  have HB7 := Lib.hid (HB7.out.below hb8 HB7.out.lt)
  have a0 : w8.cell? ⟨w4.heap.size, 0, none⟩ = some (.int .i64 R2.1) := by rw [HB4.out.cell]; rfl
  have a1 : w8.cell? ⟨w4.heap.size, 1, none⟩ = some (.slice p4 R2.2.len c4) := by rw [HB4.out.cell]; rfl
  have a2 : w8.cell? ⟨w5.heap.size, 0, none⟩ = some (.int .i64 R2.1) := by rw [HB5.out.cell]; rfl
  have a3 : w8.cell? ⟨w5.heap.size, 1, none⟩ = some (.slice p5 R2.2.len c5) := by rw [HB5.out.cell]; rfl
  have a4 := HB4.out.lt
  have a5 := HB5.out.lt
  have HS1 := Lib.hid (same_eq R2 (.agg #[.int .i64 R2.1, .slice p4 R2.2.len c4]) (.agg #[.int .i64 R2.1, .slice p5 R2.2.len c5]) w8 ⟨_, rfl, HW4.out, HK4.out⟩ ⟨_, rfl, HW4.out, HK5.out⟩)
  clear hb8 HSL ST7 HV2 HV3
  go_wp2_with fail
  refine HS1.out.mono ?_
  rintro e w9 ⟨rfl, hb9⟩
  have ST9 := Lib.hid (ST8.out.more hb9)
  have HK6 := Lib.hid (HK6.out.below hb9)
  have HB6 := Lib.hid (HB6.out.below hb9 HB6.out.lt)
  have HK7 := Lib.hid (HK7.out.below hb9)
  have HB7 := Lib.hid (HB7.out.below hb9 HB7.out.lt)
  have b0 : w9.cell? ⟨w6.heap.size, 0, none⟩ = some (.int .i64 R3.1) := by rw [HB6.out.cell]; rfl
  have b1 : w9.cell? ⟨w6.heap.size, 1, none⟩ = some (.slice p6 R3.2.len c6) := by rw [HB6.out.cell]; rfl
  have b2 : w9.cell? ⟨w7.heap.size, 0, none⟩ = some (.int .i64 R3.1) := by rw [HB7.out.cell]; rfl
  have b3 : w9.cell? ⟨w7.heap.size, 1, none⟩ = some (.slice p7 R3.2.len c7) := by rw [HB7.out.cell]; rfl
  have b4 := HB6.out.lt
  have b5 := HB7.out.lt
  have HS2 := Lib.hid (same_eq R3 (.agg #[.int .i64 R3.1, .slice p6 R3.2.len c6]) (.agg #[.int .i64 R3.1, .slice p7 R3.2.len c7]) w9 ⟨_, rfl, HW6.out, HK6.out⟩ ⟨_, rfl, HW6.out, HK7.out⟩)
  clear hb9 HS1 ST8 a0 a1 a2 a3 a4 a5
  go_wp2_with fail
  refine HS2.out.mono ?_
  rintro e w10 ⟨rfl, hb10⟩
  have ST10 := Lib.hid (ST9.out.more hb10)
  clear hb10 HS2 ST9 b0 b1 b2 b3 b4 b5
  go_wp2_with fail
  refine (HAW.out _ ST10.out.1).mono ?_
  rintro e w11 ⟨rfl, hb11⟩
  have HB11 := Lib.hid hb11
  clear hb11
  go_wp2_with fail
  go_ret
  exact ⟨rfl, (ST10.out.more HB11.out).1⟩

end Go.Proofs.YtkgoealanboolaaDoor
