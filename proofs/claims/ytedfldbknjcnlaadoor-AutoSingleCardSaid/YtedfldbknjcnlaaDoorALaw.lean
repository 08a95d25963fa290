/- even, leaf, f, awake of boskagelaw03. -/
import Derived.Test.YtedfldbknjcnlaaDoorFG26
import Derived.Test.YtedfldbknjcnlaaDoorAHold
namespace Go.Proofs.YtedfldbknjcnlaaDoor
open Go.RowKit Go.Shelf

/-- The example's automaton. -/
def evenA : Au := ⟨2, [1], [⟨0, [], 0⟩, ⟨1, [0, 0], 1⟩, ⟨1, [1, 1], 0⟩]⟩

theorem isH_two {w : World} {g : Nat} {t : TypeId} {l l2 : Int} {v v2 : Value} {k k2 : Hg} (hb : Blk w g t #[.int .i64 l, v, .int .i64 l2, v2]) (hl : (Lit.int .i64 l).wf = true) (hk : IsH w v k) (hl2 : (Lit.int .i64 l2).wf = true) (hk2 : IsH w v2 k2) :
    IsH w (.slice (some ⟨g, 0, none⟩) 2 2) (.cons l k (.cons l2 k2 .nil)) := by
  refine ⟨_, _, rfl, by simp [Hg.len], by decide, fun _ => ⟨_, _, rfl, ?_⟩⟩
  rw [Row.cons_iff]
  refine ⟨by rw [hb.cell]; rfl, hl, ⟨v, by rw [hb.cell]; rfl, hk⟩, ?_⟩
  rw [Row.cons_iff]
  exact ⟨by rw [hb.cell]; rfl, hl2, ⟨v2, by rw [hb.cell]; rfl, hk2⟩, trivial⟩
theorem isH_no (w : World) : IsH w (.slice none 0 0) .nil := ⟨none, 0, rfl, Nat.le_refl _, by decide, fun h => absurd rfl h⟩
theorem isInts_blk {w : World} {g : Nat} {t : TypeId} (l : List Int) (hb : Blk w g t (l.map (fun x => Value.int .i64 x)).toArray) (hl : l.length ≤ maxLen) : IsInts w (.slice (some ⟨g, 0, none⟩) l.length l.length) l :=
  ⟨_, _, rfl, Nat.le_refl _, hl, fun _ => ⟨g, 0, rfl, fun i x hx => by rw [hb.cell]; simp [hx]⟩⟩
theorem blk4 (w : World) (t0 t1 t2 t3 : TypeId) (a0 a1 a2 a3 : Array Value) :
    Blk ((((w.alloc (.cells a0 t0)).alloc (.cells a1 t1)).alloc (.cells a2 t2)).alloc (.cells a3 t3)) (w.heap.size + 1) t1 a1 ∧
    Blk ((((w.alloc (.cells a0 t0)).alloc (.cells a1 t1)).alloc (.cells a2 t2)).alloc (.cells a3 t3)) (w.heap.size + 1 + 1) t2 a2 ∧
    Blk ((((w.alloc (.cells a0 t0)).alloc (.cells a1 t1)).alloc (.cells a2 t2)).alloc (.cells a3 t3)) (w.heap.size + 1 + 1 + 1) t3 a3 ∧
    Blk ((((w.alloc (.cells a0 t0)).alloc (.cells a1 t1)).alloc (.cells a2 t2)).alloc (.cells a3 t3)) w.heap.size t0 a0 := by
  refine ⟨?_, ?_, ?_, ?_⟩
  · have := ((Blk.new (w.alloc (.cells a0 t0)) t1 a1).alloc (.cells a2 t2)).alloc (.cells a3 t3)
    rwa [World.size_alloc] at this
  · have := (Blk.new ((w.alloc (.cells a0 t0)).alloc (.cells a1 t1)) t2 a2).alloc (.cells a3 t3)
    rwa [World.size_alloc, World.size_alloc] at this
  · have := Blk.new (((w.alloc (.cells a0 t0)).alloc (.cells a1 t1)).alloc (.cells a2 t2)) t3 a3
    rwa [World.size_alloc, World.size_alloc, World.size_alloc] at this
  · exact (((Blk.new w t0 a0).alloc _).alloc _).alloc _
theorem blk5 (w : World) (t0 t1 t2 t3 t4 : TypeId) (a0 a1 a2 a3 a4 : Array Value) :
    Blk (((((w.alloc (.cells a0 t0)).alloc (.cells a1 t1)).alloc (.cells a2 t2)).alloc (.cells a3 t3)).alloc (.cells a4 t4)) w.heap.size t0 a0 ∧
    Blk (((((w.alloc (.cells a0 t0)).alloc (.cells a1 t1)).alloc (.cells a2 t2)).alloc (.cells a3 t3)).alloc (.cells a4 t4)) (w.heap.size + 1) t1 a1 ∧
    Blk (((((w.alloc (.cells a0 t0)).alloc (.cells a1 t1)).alloc (.cells a2 t2)).alloc (.cells a3 t3)).alloc (.cells a4 t4)) (w.heap.size + 1 + 1) t2 a2 ∧
    Blk (((((w.alloc (.cells a0 t0)).alloc (.cells a1 t1)).alloc (.cells a2 t2)).alloc (.cells a3 t3)).alloc (.cells a4 t4)) (w.heap.size + 1 + 1 + 1) t3 a3 ∧
    Blk (((((w.alloc (.cells a0 t0)).alloc (.cells a1 t1)).alloc (.cells a2 t2)).alloc (.cells a3 t3)).alloc (.cells a4 t4)) (w.heap.size + 1 + 1 + 1 + 1) t4 a4 ∧
    Below w.heap.size w (((((w.alloc (.cells a0 t0)).alloc (.cells a1 t1)).alloc (.cells a2 t2)).alloc (.cells a3 t3)).alloc (.cells a4 t4)) := by
  obtain ⟨h1, h2, h3, h0⟩ := blk4 w t0 t1 t2 t3 a0 a1 a2 a3
  refine ⟨h0.alloc _, h1.alloc _, h2.alloc _, h3.alloc _, ?_, (((((Below.refl _ w).alloc (Nat.le_refl _) _).alloc (by simp) _).alloc (by simp; omega) _).alloc (by simp; omega) _).alloc (by simp; omega) _⟩
  have := Blk.new ((((w.alloc (.cells a0 t0)).alloc (.cells a1 t1)).alloc (.cells a2 t2)).alloc (.cells a3 t3)) t4 a4
  rwa [World.size_alloc, World.size_alloc, World.size_alloc, World.size_alloc] at this
theorem isInts_no (w : World) : IsInts w (.slice none 0 0) [] := ⟨none, 0, rfl, by simp, by decide, fun h => absurd rfl h⟩

theorem Tryd.infoAutoL : (Tryd.prog.info? 27).map (·.size) = some 3 := by kernel_rfl
theorem Tryd.infoTreeL : (Tryd.prog.info? 43).map (·.size) = some 2 := by kernel_rfl

theorem leaf_ok (w : World) : Calls Tryd.prog 48 #[] w fun e w' => e = .returned (.agg #[.int .i64 0, .slice none 0 0]) ∧ Below w.heap.size w w' := by
  have hX := Blk.new w 43 #[.int .i64 0, .slice none 0 0]
  have HX := Lib.hid hX
  have z1 := hX.frozen 0
  have z2 := hX.frozen 1
  clear hX
  go_enter Tryd.func48, Tryd.ntmps48
  go_wp2_with fail
  exact bodyPost_ret (v := .agg #[.int .i64 0, .slice none 0 0]) (results_cell_row rfl _ _ w.heap.size 43 _ (0, 0) _ rfl HX.out Tryd.underlying43 rfl Tryd.infoTreeL) rfl ⟨rfl, (Below.refl _ w).alloc (Nat.le_refl _) _⟩

set_option maxRecDepth 100000 in
set_option maxHeartbeats 1000000 in
theorem f_ok (x y : Int) (kx ky : Hg) (vx vy : Value) (w : World) (hwx : (Lit.int .i64 x).wf = true) (hwy : (Lit.int .i64 y).wf = true) (hkx : IsH w vx kx) (hky : IsH w vy ky) :
    Calls Tryd.prog 47 #[.agg #[.int .i64 x, vx], .agg #[.int .i64 y, vy]] w fun e w' => (∃ r, e = .returned (.agg #[.int .i64 1, r]) ∧ IsH w' r (.cons x kx (.cons y ky .nil))) ∧ Below w.heap.size w w' := by
  have HX := Lib.hid hkx
  have HY := Lib.hid hky
  obtain ⟨px, cx, rfl, hcx1, hcx2, _⟩ := hkx
  obtain ⟨py, cy, rfl, hcy1, hcy2, _⟩ := hky
  have HWX := Lib.hid hwx
  have HWY := Lib.hid hwy
  clear hwx hwy
  go_enter Tryd.func47, Tryd.ntmps47
  go_wp2_with fail
  obtain ⟨_, b2, b3, _⟩ := blk4 w 43 43 43 43 #[.int .i64 x, .slice px kx.len cx] #[.int .i64 y, .slice py ky.len cy] #[.int .i64 1, .slice (some ⟨w.heap.size + 1 + 1 + 1, 0, none⟩) 2 2] #[.int .i64 x, .slice px kx.len cx, .int .i64 y, .slice py ky.len cy]
  have hb : Below w.heap.size w ((((w.alloc (.cells #[.int .i64 x, .slice px kx.len cx] 43)).alloc (.cells #[.int .i64 y, .slice py ky.len cy] 43)).alloc (.cells #[.int .i64 1, .slice (some ⟨w.heap.size + 1 + 1 + 1, 0, none⟩) 2 2] 43)).alloc (.cells #[.int .i64 x, .slice px kx.len cx, .int .i64 y, .slice py ky.len cy] 43)) :=
    ((((Below.refl _ w).alloc (Nat.le_refl _) _).alloc (by simp) _).alloc (by simp; omega) _).alloc (by simp; omega) _
  exact bodyPost_ret (results_cell_row rfl _ _ (w.heap.size + 1 + 1) 43 _ (0, 0) _ rfl b2 Tryd.underlying43 rfl Tryd.infoTreeL) rfl ⟨⟨_, rfl, isH_two b3 HWX.out (HX.out.below hb) HWY.out (HY.out.below hb)⟩, hb⟩

set_option maxRecDepth 100000 in
set_option maxHeartbeats 1000000 in
theorem even_ok (w : World) : Calls Tryd.prog 46 #[] w fun e w' => (∃ v, e = .returned v ∧ IsAu w' v evenA) ∧ Below w.heap.size w w' := by
  go_enter Tryd.func46, Tryd.ntmps46
  go_wp2_with fail
  obtain ⟨b0, b1, b2, b3, b4, hb⟩ := blk5 w 27 3 3 3 70 #[.int .i64 2, .slice (some ⟨w.heap.size + 1, 0, none⟩) 1 1, .slice (some ⟨w.heap.size + 1 + 1 + 1 + 1, 0, none⟩) 3 3] #[.int .i64 1] #[.int .i64 0, .int .i64 0] #[.int .i64 1, .int .i64 1] #[.int .i64 0, .slice none 0 0, .int .i64 0, .int .i64 1, .slice (some ⟨w.heap.size + 1 + 1, 0, none⟩) 2 2, .int .i64 1, .int .i64 1, .slice (some ⟨w.heap.size + 1 + 1 + 1, 0, none⟩) 2 2, .int .i64 0]
  refine bodyPost_ret (results_cell_row rfl _ _ w.heap.size 27 _ (0, 0) _ rfl b0 Tryd.underlying27 rfl Tryd.infoAutoL) rfl ⟨⟨_, rfl, _, _, rfl, isInts_blk [1] b1 (by decide), ?_⟩, hb⟩
  refine ⟨_, 3, rfl, by decide, by decide, fun _ => ⟨_, _, rfl, fun i r hr => ?_⟩⟩
  match i, hr with
  | 0, hr =>
    simp only [evenA, List.getElem?_cons_zero, Option.some.injEq] at hr
    subst hr
    exact ⟨by rw [b4.cell]; rfl, ⟨_, by rw [b4.cell]; rfl, isInts_no _⟩, by rw [b4.cell]; rfl⟩
  | 1, hr =>
    simp only [evenA, List.getElem?_cons_succ, List.getElem?_cons_zero, Option.some.injEq] at hr
    subst hr
    exact ⟨by rw [b4.cell]; rfl, ⟨_, by rw [b4.cell]; rfl, isInts_blk [0, 0] b2 (by decide)⟩, by rw [b4.cell]; rfl⟩
  | 2, hr =>
    simp only [evenA, List.getElem?_cons_succ, List.getElem?_cons_zero, Option.some.injEq] at hr
    subst hr
    exact ⟨by rw [b4.cell]; rfl, ⟨_, by rw [b4.cell]; rfl, isInts_blk [1, 1] b3 (by decide)⟩, by rw [b4.cell]; rfl⟩
  | i + 3, hr => simp [evenA] at hr

/-- The trees of the example. -/
def kidsA : Hg := .cons 0 .nil (.cons 0 .nil .nil)
def kidsB : Hg := .cons 0 .nil (.cons 1 kidsA .nil)
theorem aw_askA : askB [0, 2] evenA 1 kidsA = true := by decide +kernel
theorem aw_askB : askB [0, 2] evenA 1 kidsB = true := by decide +kernel
theorem aw_hasA : hasB evenA 1 kidsA = true := by decide +kernel
theorem aw_hasB : hasB evenA 1 kidsB = false := by decide +kernel

set_option maxRecDepth 100000 in
set_option maxHeartbeats 2000000 in
theorem awake_ok (w : World) (hal : AlIs w) : Calls Tryd.prog 10 #[] w fun e w' => e = .returned (.bool true) ∧ Below w.heap.size w w' := by
  have HAL := Lib.hid hal
  have HLf := Lib.hid (fun w => leaf_ok w)
  have HEv := Lib.hid (fun w => even_ok w)
  obtain ⟨av, hg, hai⟩ := hal
  have HAI := Lib.hid hai
  obtain ⟨pal, cal, rfl, hal1, hal2, _⟩ := hai
  have HG := Lib.hid hg
  have HST := Lib.hid (show ∀ W, Below w.heap.size w W → W.cell? ⟨0, 0, none⟩ = some (.slice pal [0, 2].length cal) from fun W hW => cell_later hW hg)
  have HWF0 : Hid ((Lit.int .i64 0).wf = true) := Lib.hid (by decide)
  have HWF1 : Hid ((Lit.int .i64 1).wf = true) := Lib.hid (by decide)
  clear hg
  go_enter Tryd.func10, Tryd.ntmps10
  go_wp2_with fail
  go_region_held3 (fun W => W.cell? ⟨0, 0, none⟩ = some (.slice pal [0, 2].length cal))
    (first | exact HST.out _ HB5.out | exact HST.out _ HB4.out | exact HST.out _ HB3.out | exact HST.out _ HB2.out | exact HST.out _ HB1.out | exact HST.out _ (Below.refl _ _).drew)
    (first
      | (go_at_call 46; refine (HEv.out _).mono ?_; rintro e w1 ⟨⟨ve, rfl, hve⟩, hb1⟩; have HE := Lib.hid hve; have HB1 : Hid (Below w.heap.size w w1) := Lib.hid ((Below.refl _ _).drew.trans hb1); clear hb1 hve)
      | (go_at_call 48; (first | (refine (HLf.out _).mono ?_; rintro e w3 ⟨rfl, hb3⟩; have HB3 : Hid (Below w.heap.size w w3) := Lib.hid (HB2.out.trans (hb3.mono HB2.out.size)); have HE3 := Lib.hid (HE2.out.below hb3); clear hb3) | (refine (HLf.out _).mono ?_; rintro e w2 ⟨rfl, hb2⟩; have HB2 : Hid (Below w.heap.size w w2) := Lib.hid (HB1.out.trans (hb2.mono HB1.out.size)); have HE2 := Lib.hid (HE.out.below hb2); clear hb2)))
      | (go_at_call 47; refine (f_ok 0 0 .nil .nil _ _ _ HWF0.out HWF0.out (isH_no _) (isH_no _)).mono ?_; rintro e w4 ⟨⟨r4, rfl, hr4⟩, hb4⟩; have HR4 := Lib.hid hr4; have HB4 : Hid (Below w.heap.size w w4) := Lib.hid (HB3.out.trans (hb4.mono HB3.out.size)); have HE4 := Lib.hid (HE3.out.below hb4); clear hb4 hr4)
      | (go_at_call 27; refine (accepts_ok [0, 2] evenA 1 kidsA _ _ _ _ (by decide) HWF1.out (HAI.out.below HB4.out) HE4.out HR4.out).mono ?_; rintro e w5 ⟨rfl, hb5⟩; have HB5 : Hid (Below w.heap.size w w5) := Lib.hid (HB4.out.trans (hb5.mono HB4.out.size)); clear hb5; rw [aw_hasA, show askB [0, 2] evenA 1 kidsA = true from aw_askA, show askE [0, 2] evenA 1 kidsA = 0 by unfold askE; rw [aw_askA]; rfl]))
  go_wp2_with fail
  clear HB1 HB2 HB3 HB4 HE HE2 HE3 HE4 HR4
  go_region_held3 (fun W => W.cell? ⟨0, 0, none⟩ = some (.slice pal [0, 2].length cal))
    (first | exact HST.out _ HC7.out | exact HST.out _ HC6.out | exact HST.out _ HC5.out | exact HST.out _ HC4.out | exact HST.out _ HC3.out | exact HST.out _ HC2.out | exact HST.out _ HC1.out | exact HST.out _ HB5.out.drew)
    (first
      | (go_at_call 46; refine (HEv.out _).mono ?_; rintro e x1 ⟨⟨ve, rfl, hve⟩, hb1⟩; have HG1 := Lib.hid hve; have HC1 : Hid (Below w.heap.size w x1) := Lib.hid (HB5.out.trans ((Below.refl _ _).drew.trans (hb1.mono HB5.out.size))); clear hb1 hve)
      | (go_at_call 48; (first | (refine (HLf.out _).mono ?_; rintro e x4 ⟨rfl, hb⟩; have HC4 : Hid (Below w.heap.size w x4) := Lib.hid (HC3.out.trans (hb.mono HC3.out.size)); have HG4 := Lib.hid (HG3.out.below hb); clear hb) | (refine (HLf.out _).mono ?_; rintro e x3 ⟨rfl, hb⟩; have HC3 : Hid (Below w.heap.size w x3) := Lib.hid (HC2.out.trans (hb.mono HC2.out.size)); have HG3 := Lib.hid (HG2.out.below hb); clear hb) | (refine (HLf.out _).mono ?_; rintro e x2 ⟨rfl, hb⟩; have HC2 : Hid (Below w.heap.size w x2) := Lib.hid (HC1.out.trans (hb.mono HC1.out.size)); have HG2 := Lib.hid (HG1.out.below hb); clear hb)))
      | (go_at_call 47; (first | (refine (f_ok 0 1 .nil kidsA _ _ _ HWF0.out HWF1.out (isH_no _) HR5.out).mono ?_; rintro e x6 ⟨⟨r6, rfl, hr6⟩, hb⟩; have HR6 := Lib.hid hr6; have HC6 : Hid (Below w.heap.size w x6) := Lib.hid (HC5.out.trans (hb.mono HC5.out.size)); have HG6 := Lib.hid (HG5.out.below hb); clear hb hr6) | (refine (f_ok 0 0 .nil .nil _ _ _ HWF0.out HWF0.out (isH_no _) (isH_no _)).mono ?_; rintro e x5 ⟨⟨r5, rfl, hr5⟩, hb⟩; have HR5 := Lib.hid hr5; have HC5 : Hid (Below w.heap.size w x5) := Lib.hid (HC4.out.trans (hb.mono HC4.out.size)); have HG5 := Lib.hid (HG4.out.below hb); clear hb hr5)))
      | (go_at_call 27; refine (accepts_ok [0, 2] evenA 1 kidsB _ _ _ _ (by decide) HWF1.out (HAI.out.below HC6.out) HG6.out HR6.out).mono ?_; rintro e x7 ⟨rfl, hb⟩; have HC7 : Hid (Below w.heap.size w x7) := Lib.hid (HC6.out.trans (hb.mono HC6.out.size)); clear hb; rw [aw_hasB, show askB [0, 2] evenA 1 kidsB = true from aw_askB, show askE [0, 2] evenA 1 kidsB = 0 by unfold askE; rw [aw_askB]; rfl]))
  go_wp2_with fail
  go_ret
  exact ⟨ret_bool rfl, HC7.out⟩

end Go.Proofs.YtedfldbknjcnlaaDoor
