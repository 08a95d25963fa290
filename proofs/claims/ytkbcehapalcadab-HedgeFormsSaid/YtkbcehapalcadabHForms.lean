/- The walk of law02.HedgeForms. -/
import Derived.Test.YtkbcehapalcadabRCmp
import Derived.Test.YtkbcehapalcadabRBin
import Derived.Test.YtkbcehapalcadabLabelled
import Derived.Test.YtkbcehapalcadabParts
namespace Go.Proofs.Ytkbcehapalcadab
open Go.RowKit Go.Shelf

/-- What stands throughout: nothing old has turned; the two trees lie in their boxes. -/
def HSt2 (w : World) (lx ly : Int) (vx vy : Value) (W : World) : Prop := Below w.heap.size w W ∧ Blk W w.heap.size 24 #[.int .i64 lx, vx] ∧ Blk W (w.heap.size + 1) 24 #[.int .i64 ly, vy]
theorem HSt2.more {w W W' : World} {lx ly : Int} {vx vy : Value} (h : HSt2 w lx ly vx vy W) (hb : Below W.heap.size W W') : HSt2 w lx ly vx vy W' := ⟨h.1.trans (hb.mono h.1.size), h.2.1.below hb h.2.1.lt, h.2.2.below hb h.2.2.lt⟩
theorem HSt2.alloc {w W : World} {lx ly : Int} {vx vy : Value} (h : HSt2 w lx ly vx vy W) (o : Obj) : HSt2 w lx ly vx vy (W.alloc o) := ⟨h.1.alloc h.1.size _, h.2.1.alloc _, h.2.2.alloc _⟩
theorem HSt2.facts {w W : World} {lx ly : Int} {vx vy : Value} (h : HSt2 w lx ly vx vy W) : W.cell? ⟨w.heap.size, 0, none⟩ = some (.int .i64 lx) ∧ W.cell? ⟨w.heap.size, 1, none⟩ = some vx ∧ W.cell? ⟨w.heap.size + 1, 0, none⟩ = some (.int .i64 ly) ∧ W.cell? ⟨w.heap.size + 1, 1, none⟩ = some vy ∧ w.heap.size < W.heap.size ∧ w.heap.size + 1 < W.heap.size :=
  ⟨by rw [h.2.1.cell]; rfl, by rw [h.2.1.cell]; rfl, by rw [h.2.2.cell]; rfl, by rw [h.2.2.cell]; rfl, h.2.1.lt, h.2.2.lt⟩

set_option maxRecDepth 100000 in
set_option maxHeartbeats 4000000 in
theorem hforms_walk (n lx ly : Int) (H X Y : Hg) (vh' vx vy : Value) (w : World) (hlx : (Lit.int .i64 lx).wf = true) (hly : (Lit.int .i64 ly).wf = true) (hv : IsH w vh' H) (hx : IsH w vx X) (hy : IsH w vy Y) :
    Calls Try.prog 3 #[.int .i64 n, vh', .agg #[.int .i64 lx, vx], .agg #[.int .i64 ly, vy]] w (TrueLaw w) := by
  have HLX := Lib.hid hlx
  have HLY := Lib.hid hly
  have HH := Lib.hid hv
  have HX := Lib.hid hx
  have HY := Lib.hid hy
  have ST0 : Hid (HSt2 w lx ly vx vy ((w.alloc (.cells #[.int .i64 lx, vx] 24)).alloc (.cells #[.int .i64 ly, vy] 24))) := Lib.hid ⟨((Below.refl _ w).alloc (Nat.le_refl _) _).alloc (by simp) _, (Blk.new w _ _).alloc _, by have := Blk.new (w.alloc (.cells #[.int .i64 lx, vx] 24)) 24 #[.int .i64 ly, vy]; rwa [World.size_alloc] at this⟩
  have HF := Lib.hid (few_ok H _ 2000 _ (hv.below ST0.out.1) (by omega) (by omega))
  obtain ⟨ph, ch, rfl, hh1, hh2, _⟩ := hv
  obtain ⟨px, cx, rfl, hx1, hx2, _⟩ := hx
  obtain ⟨py, cy, rfl, hy1, hy2, _⟩ := hy
  clear hlx hly
  have HAW := Lib.hid (fun W => awake_ok W)
  go_enter Try.func3, Try.ntmps3
  go_wp2_with fail
  refine HF.out.mono ?_
  rintro e w1 ⟨rfl, hb⟩
  have ST1 := Lib.hid (ST0.out.more hb)
  obtain ⟨z0, z1, z2, z3, z4, z5⟩ := ST1.out.facts
  clear hb HF ST0
  by_cases hszH : H.size ≤ 2000
  rotate_left
  · have hd : decide ((H.size : Int) ≤ 2000) = false := decide_eq_false (by omega)
    rw [hd]
    clear hd
    go_wp2_with fail
    refine (HAW.out _).mono ?_
    rintro e w2 ⟨rfl, hb2⟩
    have HB2 := Lib.hid hb2
    clear hb2
    go_wp2_with fail
    go_ret
    exact ⟨rfl, (ST1.out.more HB2.out).1⟩
  have hd : decide ((H.size : Int) ≤ 2000) = true := decide_eq_true (by omega)
  rw [hd]
  clear hd
  have HF := Lib.hid (few_ok (.cons lx X (.cons ly Y .nil)) _ 2000 (w1.alloc (.cells #[.int .i64 lx, .slice px X.len cx, .int .i64 ly, .slice py Y.len cy] 24)) (isH_two (Blk.new w1 _ _) HLX.out (HX.out.below (ST1.out.alloc _).1) HLY.out (HY.out.below (ST1.out.alloc _).1)) (by omega) (by omega))
  go_wp2_with fail
  refine HF.out.mono ?_
  rintro e w2 ⟨rfl, hb⟩
  have ST2 := Lib.hid ((ST1.out.alloc _).more hb)
  clear hb HF ST1 z0 z1 z2 z3 z4 z5
  by_cases hsz : X.size + Y.size + 2 ≤ 2000
  rotate_left
  · have hd : decide (((Hg.cons lx X (.cons ly Y .nil)).size : Int) ≤ 2000) = false := decide_eq_false (by simp only [Hg.size]; omega)
    rw [hd]
    clear hd
    go_wp2_with fail
    refine (HAW.out _).mono ?_
    rintro e w3 ⟨rfl, hb2⟩
    have HB2 := Lib.hid hb2
    clear hb2
    go_wp2_with fail
    go_ret
    exact ⟨rfl, (ST2.out.more HB2.out).1⟩
  have hd : decide (((Hg.cons lx X (.cons ly Y .nil)).size : Int) ≤ 2000) = true := decide_eq_true (by simp only [Hg.size]; omega)
  rw [hd]
  clear hd
  have HBi := Lib.hid (binary_ans n w2)
  go_wp2_with fail
  refine HBi.out.mono ?_
  rintro e w3 ⟨av, rfl, hav, hb⟩
  have HAV := Lib.hid hav
  obtain ⟨pa, ca, rfl, _, _, _⟩ := hav
  have ST3 := Lib.hid (ST2.out.more hb)
  have HBA3 := Lib.hid (Blk.new w3 29 #[.slice pa (binL n).length ca])
  have HBi2 := Lib.hid (rbinary_ans n (w3.alloc (.cells #[.slice pa (binL n).length ca] 29)))
  clear hb HBi ST2
  go_wp2_with fail
  refine HBi2.out.mono ?_
  rintro e w4 ⟨bv, rfl, hbv, hb⟩
  have HBV := Lib.hid hbv
  obtain ⟨pb, cb, rfl, _, _, _⟩ := hbv
  have ST4 := Lib.hid ((ST3.out.alloc _).more hb)
  have HBA4 := Lib.hid (HBA3.out.below hb HBA3.out.lt)
  have HAV4 := Lib.hid (HAV.out.below (((Below.refl _ w3).alloc (Nat.le_refl _) _).trans (hb.mono (by simp))))
  have HBB4 := Lib.hid (Blk.new w4 29 #[.slice pb (binL n).length cb])
  obtain ⟨z0, z1, z2, z3, z4, z5⟩ := ST4.out.facts
  have HC := Lib.hid (hcompare_ok lx ly X Y (.slice px X.len cx) (.slice py Y.len cy) (w4.alloc (.cells #[.slice pb (binL n).length cb] 29)) HLX.out HLY.out (HX.out.below (ST4.out.alloc _).1) (HY.out.below (ST4.out.alloc _).1) (by omega) (by omega))
  clear hb HBi2 ST3 HBA3 HAV
  go_wp2_with fail
  refine HC.out.mono ?_
  rintro e w5 ⟨rfl, hb⟩
  have hbX : Below w4.heap.size w4 w5 := ((Below.refl _ w4).alloc (Nat.le_refl _) _).trans (hb.mono (by simp))
  have ST5 := Lib.hid ((ST4.out.alloc _).more hb)
  have HBA5 := Lib.hid (HBA4.out.below hbX HBA4.out.lt)
  have HBB5 := Lib.hid (HBB4.out.below hb HBB4.out.lt)
  have HAV5 := Lib.hid (HAV4.out.below hbX)
  have HBV5 := Lib.hid (HBV.out.below hbX)
  clear hb hbX HC ST4 HBA4 HBB4 HAV4 HBV z0 z1 z2 z3 z4 z5
  have hst : ∀ W, Below w5.heap.size w5 W → W.cell? ⟨w.heap.size, 0, none⟩ = some (.int .i64 lx) ∧ W.cell? ⟨w.heap.size, 1, none⟩ = some (.slice px X.len cx) ∧ W.cell? ⟨w.heap.size + 1, 0, none⟩ = some (.int .i64 ly) ∧ W.cell? ⟨w.heap.size + 1, 1, none⟩ = some (.slice py Y.len cy) ∧ W.cell? ⟨w3.heap.size, 0, none⟩ = some (.slice pa (binL n).length ca) ∧ W.cell? ⟨w4.heap.size, 0, none⟩ = some (.slice pb (binL n).length cb) := fun W hW => by
    obtain ⟨z0, z1, z2, z3, _, _⟩ := (ST5.out.more hW).facts
    refine ⟨z0, z1, z2, z3, ?_, ?_⟩
    · rw [(HBA5.out.below hW HBA5.out.lt).cell]; rfl
    · rw [(HBB5.out.below hW HBB5.out.lt).cell]; rfl
  have HST := Lib.hid hst
  clear hst
  have C1 := Lib.hid (fun W (hW : Below w5.heap.size w5 W) => valid_ok n lx (.slice px X.len cx) X W HLX.out (HX.out.below (ST5.out.more hW).1) (by omega))
  have C2 := Lib.hid (fun W (hW : Below w5.heap.size w5 W) => rvalid_ok n lx (.slice px X.len cx) X W HLX.out (HX.out.below (ST5.out.more hW).1))
  have C3 := Lib.hid (fun W (hW : Below w5.heap.size w5 W) => validHedge_ok n H (.slice ph H.len ch) W (HH.out.below (ST5.out.more hW).1) (by omega))
  have C4 := Lib.hid (fun W (hW : Below w5.heap.size w5 W) => rvalidHedge_ok n H (.slice ph H.len ch) W (HH.out.below (ST5.out.more hW).1))
  have C5 := Lib.hid (fun W (hW : Below w5.heap.size w5 W) => list01_ok (binL n) (.slice pa (binL n).length ca) (.slice pb (binL n).length cb) W (HAV5.out.below hW) (HBV5.out.below hW))
  have C6 := Lib.hid (fun W (hW : Below w5.heap.size w5 W) => size_ok H (.slice ph H.len ch) W (HH.out.below (ST5.out.more hW).1) (by omega))
  have C7 := Lib.hid (fun W (hW : Below w5.heap.size w5 W) => rsize_ok H (.slice ph H.len ch) W (by omega) (HH.out.below (ST5.out.more hW).1))
  have C8 := Lib.hid (fun W (hW : Below w5.heap.size w5 W) => rcompare_any (X.size + 1) lx ly X Y (.slice px X.len cx) (.slice py Y.len cy) W (by omega) (by omega) (by omega) (HX.out.below (ST5.out.more hW).1) (HY.out.below (ST5.out.more hW).1))
  have C9 : Hid (∀ W, Below w5.heap.size w5 W → Calls Try.prog 12 #[.agg #[.int .i64 ly, .slice py Y.len cy], .agg #[.int .i64 lx, .slice px X.len cx]] W fun e w' => e = .returned (.int .i64 (- cmpT lx X ly Y)) ∧ Below W.heap.size W w') :=
    Lib.hid (fun W hW => by rw [← cmpT_neg]; exact hcompare_ok ly lx Y X (.slice py Y.len cy) (.slice px X.len cx) W HLY.out HLX.out (HY.out.below (ST5.out.more hW).1) (HX.out.below (ST5.out.more hW).1) (by omega) (by omega))
  have C10 := Lib.hid (fun W (_ : Below w5.heap.size w5 W) => awake_ok W)
  have HB0 : Hid (Below w5.heap.size w5 w5.drew) := Lib.hid (Below.refl _ _).drew
  have hneg : IntKind.i64.wrap (- - cmpT lx X ly Y) = cmpT lx X ly Y := by
    have := cmpT_bound lx ly X Y
    rw [Int.neg_neg]
    exact IntWalk.i64_in _ (by omega)
  have hneg2 : IntKind.i64.wrap (cmpT lx X ly Y) = cmpT lx X ly Y := by
    have := cmpT_bound lx ly X Y
    exact IntWalk.i64_in _ (by omega)
  go_wp2_with fail
  go_region_held3 (fun W => W.cell? ⟨w.heap.size, 0, none⟩ = some (.int .i64 lx) ∧ W.cell? ⟨w.heap.size, 1, none⟩ = some (.slice px X.len cx) ∧ W.cell? ⟨w.heap.size + 1, 0, none⟩ = some (.int .i64 ly) ∧ W.cell? ⟨w.heap.size + 1, 1, none⟩ = some (.slice py Y.len cy) ∧ W.cell? ⟨w3.heap.size, 0, none⟩ = some (.slice pa (binL n).length ca) ∧ W.cell? ⟨w4.heap.size, 0, none⟩ = some (.slice pb (binL n).length cb))
    (first | exact HST.out _ HB0.out | exact HST.out _ HB1.out | exact HST.out _ HB2.out | exact HST.out _ HB3.out | exact HST.out _ HB4.out | exact HST.out _ HB5.out | exact HST.out _ HB6.out | exact HST.out _ HB7.out | exact HST.out _ HB8.out | exact HST.out _ HB9.out | exact HST.out _ HB10.out)
    (first
      | (go_at_call 13; refine (C1.out _ HB0.out).mono ?_; rintro e u1 ⟨rfl, hb⟩; have HB1 := Lib.hid (HB0.out.trans (hb.mono HB0.out.size)); clear hb)
      | (go_at_call 14; refine (C2.out _ HB1.out).mono ?_; rintro e u2 ⟨rfl, hb⟩; have HB2 := Lib.hid (HB1.out.trans (hb.mono HB1.out.size)); clear hb)
      | (go_at_call 15; refine (C3.out _ HB2.out).mono ?_; rintro e u3 ⟨rfl, hb⟩; have HB3 := Lib.hid (HB2.out.trans (hb.mono HB2.out.size)); clear hb)
      | (go_at_call 16; refine (C4.out _ HB3.out).mono ?_; rintro e u4 ⟨rfl, hb⟩; have HB4 := Lib.hid (HB3.out.trans (hb.mono HB3.out.size)); clear hb)
      | (go_at_call 17; refine (C5.out _ HB4.out).mono ?_; rintro e u5 ⟨rfl, hb⟩; have HB5 := Lib.hid (HB4.out.trans (hb.mono HB4.out.size)); clear hb)
      | (go_at_call 18; refine (C6.out _ HB5.out).mono ?_; rintro e u6 ⟨rfl, hb⟩; have HB6 := Lib.hid (HB5.out.trans (hb.mono HB5.out.size)); clear hb)
      | (go_at_call 19; refine (C7.out _ HB6.out).mono ?_; rintro e u7 ⟨rfl, hb⟩; have HB7 := Lib.hid (HB6.out.trans (hb.mono HB6.out.size)); clear hb)
      | (go_at_call 20; refine (C8.out _ HB7.out).mono ?_; rintro e u8 ⟨rfl, hb⟩; have HB8 := Lib.hid (HB7.out.trans (hb.mono HB7.out.size)); clear hb)
      | (go_at_call 12; refine (C9.out _ HB8.out).mono ?_; rintro e u9 ⟨rfl, hb⟩; have HB9 := Lib.hid (HB8.out.trans (hb.mono HB8.out.size)); clear hb)
      | (go_at_call 9; refine (C10.out _ HB9.out).mono ?_; rintro e u10 ⟨rfl, hb⟩; have HB10 := Lib.hid (HB9.out.trans (hb.mono HB9.out.size)); clear hb))
  all_goals
    go_wp2_with fail
    go_ret
    exact ⟨rfl, (ST5.out.more HB10.out).1⟩

end Go.Proofs.Ytkbcehapalcadab
