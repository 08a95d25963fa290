/- tree.Put. -/
import Derived.Test.YtkgoealanboolaaDoorTAt
import Derived.Test.YtkgoealanboolaaDoorTClone
namespace Go.Proofs.YtkgoealanboolaaDoor
open Go.RowKit Go.Shelf

/-- What Put gives. -/
def putE (al : List Int) (t x : Int × Hg) (pos : List Int) : Int :=
  if tvalid al t.1 t.2 = true then (if tvalid al x.1 x.2 = true then (match getT pos t with | none => 5 | some _ => if 300 < (putT pos t x).2.size + 1 then 3 else 0) else 1) else 1
def putR (al : List Int) (t x : Int × Hg) (pos : List Int) : Int × Hg :=
  if tvalid al t.1 t.2 = true then (if tvalid al x.1 x.2 = true then (match getT pos t with | none => noT | some _ => if 300 < (putT pos t x).2.size + 1 then noT else putT pos t x) else noT) else noT

theorem pts_isT {S : Nat → Prop} {W : World} {b o : Nat} {t : Int × Hg} {l : Int} {v : Value} (h : PTS S W b o t) (h0 : W.cell? ⟨b, o, none⟩ = some (.int .i64 l)) (h1 : W.cell? ⟨b, o + 1, none⟩ = some v) : l = t.1 ∧ (Lit.int .i64 t.1).wf = true ∧ IsHS S W v t.2 := by
  obtain ⟨g1, g2, v', g3, g4⟩ := h
  rw [h0] at g1
  rw [h1] at g3
  simp only [Option.some.injEq, Value.int.injEq, true_and] at g1 g3
  subst g3
  exact ⟨g1, g2, g4⟩
theorem setCell_off {w : World} {b i j : Nat} {v : Value} (h : i ≠ j) : (w.setCell ⟨b, i, none⟩ v).cell? ⟨b, j, none⟩ = w.cell? ⟨b, j, none⟩ :=
  World.cell?_setCell_other (h := fun e => h (by injection e)) ..

set_option maxRecDepth 100000 in
set_option maxHeartbeats 4000000 in
theorem put_ok (al : List Int) (av : Value) (s : Int) (K : Hg) (vk : Value) (xs : Int) (X : Hg) (vx : Value) (pos : List Int) (pv : Value) (w : World) (ha : IsInts w av al) (hwf : (Lit.int .i64 s).wf = true) (hv : IsH w vk K) (hs : K.size ≤ 1000000)
    (hwx : (Lit.int .i64 xs).wf = true) (hx : IsH w vx X) (hsx : X.size ≤ 1000000) (hp : IsInts w pv pos) :
    Calls Tryd.prog 28 #[.agg #[av], .agg #[.int .i64 s, vk], pv, .agg #[.int .i64 xs, vx]] w fun e w' => ∃ r, e = .returned (.tuple #[r, .int .i64 (putE al (s, K) (xs, X) pos)]) ∧ IsT w' r (putR al (s, K) (xs, X) pos) ∧ Below w.heap.size w w' := by
  have hbw : Below w.heap.size w ((((w.alloc (.cells #[av] 24)).alloc (.cells #[.int .i64 s, vk] 27)).alloc (.cells #[.int .i64 xs, vx] 27)).alloc (.cells #[.int .i64 0, .slice none 0 0] 27)) := ((((Below.refl _ w).alloc (Nat.le_refl _) _).alloc (by simp) _).alloc (by simp; omega) _).alloc (by simp; omega) _
  obtain ⟨hB1, hB2, hB3, hB0⟩ := blk4 w 24 27 27 27 #[av] #[.int .i64 s, vk] #[.int .i64 xs, vx] #[.int .i64 0, .slice none 0 0]
  have HV := Lib.hid (tvalid_ok al av s vk K _ (ha.below hbw) hwf (hv.below hbw) hs)
  have HH := Lib.hid hv
  have HX := Lib.hid hx
  have HP := Lib.hid hp
  have HA := Lib.hid ha
  have HBW := Lib.hid hbw
  have HWF := Lib.hid hwf
  have HWX := Lib.hid hwx
  have HB0 := Lib.hid hB0
  have HB1 := Lib.hid hB1
  have HB2 := Lib.hid hB2
  have HB3 := Lib.hid hB3
  obtain ⟨pa, ca, rfl, ha1, ha2, haa⟩ := ha
  obtain ⟨p, c, rfl, hc1, hc2, hrow⟩ := hv
  obtain ⟨px, cx, rfl, hx1, hx2, hrx⟩ := hx
  obtain ⟨pp, pc, rfl, hp1, hp2, hpp⟩ := hp
  clear hrow haa hbw hpp hrx hwf hwx hB0 hB1 hB2 hB3
  go_enter Tryd.func28, Tryd.ntmps28
  go_wp2_with fail
  refine HV.out.mono ?_
  rintro e w1 ⟨rfl, hb1⟩
  have hsz1 : w.heap.size + 1 + 1 + 1 + 1 ≤ w1.heap.size := by have := hb1.size; simpa using this
  have hb1' : Below w.heap.size w w1 := HBW.out.trans (hb1.mono (by simp; omega))
  have hST : ∀ W, Below w1.heap.size w1 W → Blk W w.heap.size 24 #[.slice pa al.length ca] ∧ Blk W (w.heap.size + 1) 27 #[.int .i64 s, .slice p K.len c] ∧ Blk W (w.heap.size + 1 + 1) 27 #[.int .i64 xs, .slice px X.len cx] ∧ Blk W (w.heap.size + 1 + 1 + 1) 27 #[.int .i64 0, .slice none 0 0] := fun W hW =>
    ⟨(HB0.out.below hb1 (by simp <;> omega)).below hW (by omega), (HB1.out.below hb1 (by simp <;> omega)).below hW (by omega), (HB2.out.below hb1 (by simp)).below hW (by omega), (HB3.out.below hb1 (by simp)).below hW (by omega)⟩
  have HST := Lib.hid hST
  have hcells : ∀ W, Below w1.heap.size w1 W → (W.cell? ⟨w.heap.size, 0, none⟩ = some (.slice pa al.length ca) ∧ W.cell? ⟨w.heap.size + 1, 0, none⟩ = some (.int .i64 s) ∧ W.cell? ⟨w.heap.size + 1, 1, none⟩ = some (.slice p K.len c) ∧ W.cell? ⟨w.heap.size + 1 + 1, 0, none⟩ = some (.int .i64 xs) ∧ W.cell? ⟨w.heap.size + 1 + 1, 1, none⟩ = some (.slice px X.len cx)) ∧
      (W.cell? ⟨w.heap.size + 1 + 1 + 1, 0, none⟩ = some (.int .i64 0) ∧ W.cell? ⟨w.heap.size + 1 + 1 + 1, 1, none⟩ = some (.slice none 0 0) ∧ W.frozen? ⟨w.heap.size + 1 + 1 + 1, 0, none⟩ = false ∧ W.frozen? ⟨w.heap.size + 1 + 1 + 1, 1, none⟩ = false) ∧ w.heap.size + 1 + 1 + 1 < W.heap.size := fun W hW => by
    obtain ⟨h0, h1, h2, h3⟩ := hST W hW
    exact ⟨⟨by rw [h0.cell]; rfl, by rw [h1.cell]; rfl, by rw [h1.cell]; rfl, by rw [h2.cell]; rfl, by rw [h2.cell]; rfl⟩, ⟨by rw [h3.cell]; rfl, by rw [h3.cell]; rfl, h3.frozen 0, h3.frozen 1⟩, h3.lt⟩
  have HCE := Lib.hid hcells
  obtain ⟨⟨z0, z1, z2, z3, z4⟩, ⟨y1, y2, y3, y4⟩, y5⟩ := hcells w1 (Below.refl _ _)
  have l0 : w.heap.size < w1.heap.size := by omega
  have l1 : w.heap.size + 1 < w1.heap.size := by omega
  have l2 : w.heap.size + 1 + 1 < w1.heap.size := by omega
  have HW1 := Lib.hid hb1'
  clear hb1 hb1' hST hcells HB0 HB1 HB2 HB3 HBW HV
  -- the end in an error
  have HERR : Hid (∀ (W : World), Below w1.heap.size w1 W → putR al (s, K) (xs, X) pos = noT → IsT ((W.setCell ⟨w.heap.size + 1 + 1 + 1, 0, none⟩ (.int .i64 0)).setCell ⟨w.heap.size + 1 + 1 + 1, 1, none⟩ (.slice none 0 0)) (.agg #[.int .i64 0, .slice none 0 0]) (putR al (s, K) (xs, X) pos) ∧
      Below w.heap.size w ((W.setCell ⟨w.heap.size + 1 + 1 + 1, 0, none⟩ (.int .i64 0)).setCell ⟨w.heap.size + 1 + 1 + 1, 1, none⟩ (.slice none 0 0))) := Lib.hid (fun W hW hr => by
    rw [hr]
    exact ⟨isT_no _, ((HW1.out.trans (hW.mono (by omega))).setCell (p := ⟨w.heap.size + 1 + 1 + 1, 0, none⟩) (by simp; omega) _).setCell (p := ⟨w.heap.size + 1 + 1 + 1, 1, none⟩) (by simp; omega) _⟩)
  cases hva : tvalid al s K with
  | false =>
    have HE := Lib.hid (show putE al (s, K) (xs, X) pos = 1 by simp [putE, hva])
    have HL := Lib.hid (show putR al (s, K) (xs, X) pos = noT by simp [putR, hva])
    clear hva
    go_wp2_with fail
    refine bodyPost_ret (results_row_tmp rfl _ _ (w.heap.size + 1 + 1 + 1) 27 _ rfl (((HST.out _ (Below.refl _ _)).2.2.2.set_ 0 (.int .i64 0)).set_ 1 (.slice none 0 0)) Tryd.underlying27 Tryd.infoTreeS) rfl ?_
    exact ⟨_, by rw [HE.out]; rfl, HERR.out _ (Below.refl _ _) HL.out⟩
  | true =>
    have HVA := Lib.hid hva
    have HVX := Lib.hid (tvalid_ok al (.slice pa al.length ca) xs (.slice px X.len cx) X w1 (HA.out.below HW1.out) HWX.out (HX.out.below HW1.out) hsx)
    clear hva
    go_wp2_with fail
    refine HVX.out.mono ?_
    rintro e w2 ⟨rfl, hb2⟩
    obtain ⟨⟨z0, z1, z2, z3, z4⟩, ⟨y1, y2, y3, y4⟩, y5⟩ := HCE.out w2 hb2
    have HB2 := Lib.hid hb2
    have hl2 := hb2.size
    clear hb2 HVX
    cases hvx : tvalid al xs X with
    | false =>
      have HE := Lib.hid (show putE al (s, K) (xs, X) pos = 1 by simp [putE, hvx])
      have HL := Lib.hid (show putR al (s, K) (xs, X) pos = noT by simp [putR, hvx])
      clear hvx
      go_wp2_with fail
      refine bodyPost_ret (results_row_tmp rfl _ _ (w.heap.size + 1 + 1 + 1) 27 _ rfl (((HST.out _ HB2.out).2.2.2.set_ 0 (.int .i64 0)).set_ 1 (.slice none 0 0)) Tryd.underlying27 Tryd.infoTreeS) rfl ?_
      exact ⟨_, by rw [HE.out]; rfl, HERR.out _ HB2.out HL.out⟩
    | true =>
      have HVX := Lib.hid hvx
      have HC := Lib.hid (clone_sep (K.size + 1) s K (.slice p K.len c) w2 (by omega) hs HWF.out (HH.out.below (HW1.out.trans (HB2.out.mono (by omega)))))
      clear hvx
      have l02 : w.heap.size < w2.heap.size := by omega
      have l12 : w.heap.size + 1 < w2.heap.size := by omega
      have l22 : w.heap.size + 1 + 1 < w2.heap.size := by omega
      go_wp2_with fail
      refine HC.out.mono ?_
      rintro e w3 ⟨r, rfl, ⟨vr, rfl, hwr, hqr⟩, hb3⟩
      have hqr' := hqr
      obtain ⟨pr, cr, rfl, hr1, hr2, _⟩ := hqr'
      simp only at hwr hqr hr1
      have hb3' : Below w1.heap.size w1 w3 := HB2.out.trans (hb3.mono hl2)
      have hba : Below w1.heap.size w1 (w3.alloc (.cells #[.int .i64 s, .slice pr K.len cr] 27)) := hb3'.alloc hb3'.size _
      have hbg : Blk (w3.alloc (.cells #[.int .i64 s, .slice pr K.len cr] 27)) w3.heap.size 27 #[.int .i64 s, .slice pr K.len cr] := Blk.new _ _ _
      have hPT : PTI (w3.alloc (.cells #[.int .i64 s, .slice pr K.len cr] 27)) w3.heap.size 0 (s, K) w2.heap.size w3.heap.size :=
        ⟨by rw [hbg.cell]; rfl, hwr, _, by rw [hbg.cell]; rfl, hqr.frame (fun c _ hc => Below.heap_alloc _ _ _ hc)⟩
      have hFI := find_ok pos (.slice pp pos.length pc) w3.heap.size 0 (s, K) (w3.alloc (.cells #[.int .i64 s, .slice pr K.len cr] 27)) (HP.out.below (HW1.out.trans (hba.mono (by omega)))) hPT.pt
      have hUG : Unfz (w3.alloc (.cells #[.int .i64 s, .slice pr K.len cr] 27)) w3.heap.size := ⟨_, _, hbg⟩
      have hl3 : w2.heap.size ≤ w3.heap.size := hb3.size
      have hl4 : (w3.alloc (.cells #[.int .i64 s, .slice pr K.len cr] 27)).heap.size = w3.heap.size + 1 := by simp
      have HFI := Lib.hid hFI
      have HPT := Lib.hid hPT
      have HBA := Lib.hid hba
      have HBG := Lib.hid hbg
      have HUG := Lib.hid hUG
      clear hb3 hb3' hba hbg hPT hFI hUG hqr HC
      go_wp2_with fail
      refine HFI.out.mono ?_
      obtain ⟨⟨z0, z1, z2, z3, z4⟩, ⟨y1, y2, y3, y4⟩, y5⟩ := HCE.out _ HBA.out
      generalize (w3.alloc (.cells #[.int .i64 s, .slice pr K.len cr] 27)) = w4 at HFI HPT HBA HBG HUG hl4 z0 z1 z2 z3 z4 y1 y2 y3 y4 y5 ⊢
      rintro e w5 ⟨⟨y, b', o', hg, rfl, hre, hpt⟩ | ⟨hg, rfl⟩, rfl⟩
      rotate_left
      · have HE := Lib.hid (show putE al (s, K) (xs, X) pos = 5 by simp [putE, HVA.out, HVX.out, hg])
        have HL := Lib.hid (show putR al (s, K) (xs, X) pos = noT by simp [putR, HVA.out, HVX.out, hg])
        clear hg HFI
        go_wp2_with fail
        refine bodyPost_ret (results_row_tmp rfl _ _ (w.heap.size + 1 + 1 + 1) 27 _ rfl (((HST.out _ HBA.out).2.2.2.set_ 0 (.int .i64 0)).set_ 1 (.slice none 0 0)) Tryd.underlying27 Tryd.infoTreeS) rfl ?_
        exact ⟨_, by rw [HE.out]; rfl, HERR.out _ HBA.out HL.out⟩
      have hps := put_size pos (s, K) (xs, X) y hg
      have hgs := get_size pos (s, K) y hg
      simp only at hps hgs
      have HG := Lib.hid hg
      have HRE := Lib.hid hre
      have hUB := reach_unfz pos (s, K) y w3.heap.size 0 w2.heap.size w3.heap.size b' o' HPT.out (by omega) HUG.out hg hre
      have hPM := fun (w2' : World) (vx' : Value) (T : Nat → Prop) (h1 : IsHS T w2' vx' X) => put_mem (w := w4) (w2 := w2') (vx := vx') (x := (xs, X)) (T := T) HWX.out h1 pos (s, K) y w3.heap.size 0 w2.heap.size w3.heap.size b' o' HPT.out (by omega) (by omega) hg hre
      have HUB := Lib.hid hUB
      have HPM := Lib.hid hPM
      obtain ⟨q1, q2, vy, q3, q4⟩ := hpt
      have HY := Lib.hid q4
      obtain ⟨py, cy, rfl, _, _, _⟩ := q4
      have hb'4 := World.block_lt_of_cell? _ _ q1
      simp only at hb'4
      have HBX := Lib.hid (HW1.out.trans (HBA.out.mono (by omega)))
      have hst5 : ∀ W, Below w4.heap.size w4 W → W.cell? ⟨w.heap.size + 1, 0, none⟩ = some (.int .i64 s) ∧ W.cell? ⟨w.heap.size + 1, 1, none⟩ = some (.slice p K.len c) ∧ W.cell? ⟨w.heap.size + 1 + 1, 0, none⟩ = some (.int .i64 xs) ∧ W.cell? ⟨w.heap.size + 1 + 1, 1, none⟩ = some (.slice px X.len cx) ∧ W.cell? ⟨b', o', none⟩ = some (.int .i64 y.1) ∧ W.cell? ⟨b', o' + 1, none⟩ = some (.slice py y.2.len cy) := fun W hW =>
        ⟨cell_later hW z1, cell_later hW z2, cell_later hW z3, cell_later hW z4, cell_later hW q1, cell_later hW q3⟩
      have HST5 := Lib.hid hst5
      have HS1 := Lib.hid (fun (W : World) (hW : Below w4.heap.size w4 W) => tsize_ok s (.slice p K.len c) K W HWF.out (HH.out.below (HBX.out.trans (hW.mono (by have := HBX.out.size; omega)))) hs)
      have HS2 := Lib.hid (fun (W : World) (hW : Below w4.heap.size w4 W) => tsize_ok y.1 (.slice py y.2.len cy) y.2 W q2 (HY.out.below hW) (by omega))
      have HS3 := Lib.hid (fun (W : World) (hW : Below w4.heap.size w4 W) => tsize_ok xs (.slice px X.len cx) X W HWX.out (HX.out.below (HBX.out.trans (hW.mono (by have := HBX.out.size; omega)))) hsx)
      clear hg hre hUB hPM hst5 HFI
      have hw1 : IntKind.i64.wrap ((K.size : Int) + 1 - ((y.2.size : Int) + 1)) = (K.size : Int) + 1 - ((y.2.size : Int) + 1) := IntWalk.i64_in _ (by omega)
      have hw2 : IntKind.i64.wrap ((K.size : Int) + 1 - ((y.2.size : Int) + 1) + ((X.size : Int) + 1)) = (K.size : Int) + 1 - ((y.2.size : Int) + 1) + ((X.size : Int) + 1) := IntWalk.i64_in _ (by omega)
      by_cases hfull : 300 < (putT pos (s, K) (xs, X)).2.size + 1
      · have HE := Lib.hid (show putE al (s, K) (xs, X) pos = 3 by simp [putE, HVA.out, HVX.out, HG.out, hfull])
        have HL := Lib.hid (show putR al (s, K) (xs, X) pos = noT by simp [putR, HVA.out, HVX.out, HG.out, hfull])
        have hf1 : (300 : Int) < (K.size : Int) + 1 - ((y.2.size : Int) + 1) + ((X.size : Int) + 1) := by omega
        have hf2 : decide ((300 : Int) < (K.size : Int) + 1 - ((y.2.size : Int) + 1) + ((X.size : Int) + 1)) = true := decide_eq_true hf1
        clear hfull hps
        go_wp2_with fail
        go_region_held3 (fun W => W.cell? ⟨w.heap.size + 1, 0, none⟩ = some (.int .i64 s) ∧ W.cell? ⟨w.heap.size + 1, 1, none⟩ = some (.slice p K.len c) ∧ W.cell? ⟨w.heap.size + 1 + 1, 0, none⟩ = some (.int .i64 xs) ∧ W.cell? ⟨w.heap.size + 1 + 1, 1, none⟩ = some (.slice px X.len cx) ∧ W.cell? ⟨b', o', none⟩ = some (.int .i64 y.1) ∧ W.cell? ⟨b', o' + 1, none⟩ = some (.slice py y.2.len cy))
          (first | exact HST5.out _ (Below.refl _ _).drew | exact HST5.out _ HC1.out | exact HST5.out _ HC2.out | exact HST5.out _ HC3.out)
          (first
            | (go_at_call_of 15 (Value.agg #[Value.int IntKind.i64 s, Value.slice p K.len c]); refine (HS1.out _ (Below.refl _ _).drew).mono ?_; rintro e w5 ⟨rfl, hb⟩; have HC1 : Hid (Below w4.heap.size w4 w5) := Lib.hid ((Below.refl _ _).drew.trans hb); clear hb)
            | (go_at_call_of 15 (Value.agg #[Value.int IntKind.i64 y.1, Value.slice py y.2.len cy]); refine (HS2.out _ HC1.out).mono ?_; rintro e w6 ⟨rfl, hb⟩; have HC2 : Hid (Below w4.heap.size w4 w6) := Lib.hid (HC1.out.trans (hb.mono HC1.out.size)); clear hb)
            | (go_at_call 15; refine (HS3.out _ HC2.out).mono ?_; rintro e w7 ⟨rfl, hb⟩; have HC3 : Hid (Below w4.heap.size w4 w7) := Lib.hid (HC2.out.trans (hb.mono HC2.out.size)); clear hb))
        all_goals
          obtain ⟨⟨z0, z1, z2, z3, z4⟩, ⟨y1, y2, y3, y4⟩, y5⟩ := HCE.out _ (HBA.out.trans (HC3.out.mono HBA.out.size))
          go_wp2_with fail
          refine bodyPost_ret (results_row_tmp rfl _ _ (w.heap.size + 1 + 1 + 1) 27 _ rfl (((HST.out _ (HBA.out.trans (HC3.out.mono HBA.out.size))).2.2.2.set_ 0 (.int .i64 0)).set_ 1 (.slice none 0 0)) Tryd.underlying27 Tryd.infoTreeS) rfl ?_
          exact ⟨_, by rw [HE.out]; rfl, HERR.out _ (HBA.out.trans (HC3.out.mono HBA.out.size)) HL.out⟩
      · have HE := Lib.hid (show putE al (s, K) (xs, X) pos = 0 by simp [putE, HVA.out, HVX.out, HG.out, hfull])
        have HL := Lib.hid (show putR al (s, K) (xs, X) pos = putT pos (s, K) (xs, X) by simp [putR, HVA.out, HVX.out, HG.out, hfull])
        have hf1 : ¬ (300 : Int) < (K.size : Int) + 1 - ((y.2.size : Int) + 1) + ((X.size : Int) + 1) := by omega
        have hf2 : decide ((300 : Int) < (K.size : Int) + 1 - ((y.2.size : Int) + 1) + ((X.size : Int) + 1)) = false := decide_eq_false hf1
        clear hfull hps
        go_wp2_with fail
        go_region_held3 (fun W => W.cell? ⟨w.heap.size + 1, 0, none⟩ = some (.int .i64 s) ∧ W.cell? ⟨w.heap.size + 1, 1, none⟩ = some (.slice p K.len c) ∧ W.cell? ⟨w.heap.size + 1 + 1, 0, none⟩ = some (.int .i64 xs) ∧ W.cell? ⟨w.heap.size + 1 + 1, 1, none⟩ = some (.slice px X.len cx) ∧ W.cell? ⟨b', o', none⟩ = some (.int .i64 y.1) ∧ W.cell? ⟨b', o' + 1, none⟩ = some (.slice py y.2.len cy))
          (first | exact HST5.out _ (Below.refl _ _).drew | exact HST5.out _ HC1.out | exact HST5.out _ HC2.out | exact HST5.out _ HC3.out)
          (first
            | (go_at_call_of 15 (Value.agg #[Value.int IntKind.i64 s, Value.slice p K.len c]); refine (HS1.out _ (Below.refl _ _).drew).mono ?_; rintro e w5 ⟨rfl, hb⟩; have HC1 : Hid (Below w4.heap.size w4 w5) := Lib.hid ((Below.refl _ _).drew.trans hb); clear hb)
            | (go_at_call_of 15 (Value.agg #[Value.int IntKind.i64 y.1, Value.slice py y.2.len cy]); refine (HS2.out _ HC1.out).mono ?_; rintro e w6 ⟨rfl, hb⟩; have HC2 : Hid (Below w4.heap.size w4 w6) := Lib.hid (HC1.out.trans (hb.mono HC1.out.size)); clear hb)
            | (go_at_call 15; refine (HS3.out _ HC2.out).mono ?_; rintro e w7 ⟨rfl, hb⟩; have HC3 : Hid (Below w4.heap.size w4 w7) := Lib.hid (HC2.out.trans (hb.mono HC2.out.size)); clear hb))
        all_goals
          have hb7 : Below w4.heap.size w4 w7 := HC3.out
          have HB7 := Lib.hid (HBA.out.trans (HC3.out.mono HBA.out.size))
          obtain ⟨⟨z0, z1, z2, z3, z4⟩, ⟨y1, y2, y3, y4⟩, y5⟩ := HCE.out _ HB7.out
          have HCX := Lib.hid (clone_any (X.size + 1) xs X (.slice px X.len cx) w7 (by omega) hsx HWX.out (HX.out.below (HBX.out.trans (hb7.mono (by have := HBX.out.size; omega)))))
          have hl7 := hb7.size
          clear hb7
          go_wp2_with fail
          refine HCX.out.mono ?_
          rintro e w8 ⟨r2, rfl, ⟨v2, rfl, hw2, hq2⟩, hb8⟩
          simp only at hw2 hq2
          have hq2' := hq2
          obtain ⟨p2, c2, rfl, _, _, _⟩ := hq2'
          have hb48 : Below w4.heap.size w4 w8 := HC3.out.trans (hb8.mono hl7)
          have hUB8 : Unfz w8 b' := HUB.out.heap (hb48.block b' hb'4)
          have u1 : w8.cell? ⟨b', o', none⟩ = some (.int .i64 y.1) := cell_later hb48 q1
          have u2 : w8.cell? ⟨b', o' + 1, none⟩ = some (.slice py y.2.len cy) := cell_later hb48 q3
          have u3 := hUB8.frozen o'
          have u4 := hUB8.frozen (o' + 1)
          have u5 : b' < w8.heap.size := by have := hb48.size; omega
          have hbl8 : Blk w8 w3.heap.size 27 #[.int .i64 s, .slice pr K.len cr] := HBG.out.below hb48 (by omega)
          have hfin := HPM.out ((w8.setCell ⟨b', o', none⟩ (.int .i64 xs)).setCell ⟨b', o' + 1, none⟩ (.slice p2 X.len c2)) (.slice p2 X.len c2) (fun c => w7.heap.size ≤ c)
            (hq2.kp (((Kp.refl _ _).setCell (p := ⟨b', o', none⟩) (fun h => by simp at h; omega) _).setCell (p := ⟨b', o' + 1, none⟩) (fun h => by simp at h; omega) _))
          obtain ⟨⟨z0, z1, z2, z3, z4⟩, ⟨y1, y2, y3, y4⟩, y5⟩ := HCE.out w8 (HBA.out.trans (hb48.mono HBA.out.size))
          have k0 : w8.cell? ⟨w3.heap.size, 0, none⟩ = some (.int .i64 s) := by rw [hbl8.cell]; rfl
          have k1 : w8.cell? ⟨w3.heap.size, 1, none⟩ = some (.slice pr K.len cr) := by rw [hbl8.cell]; rfl
          have k2 : w3.heap.size < w8.heap.size := hbl8.lt
          have c1 : ((w8.setCell ⟨b', o', none⟩ (.int .i64 xs)).setCell ⟨b', o' + 1, none⟩ (.slice p2 X.len c2)).cell? ⟨b', o', none⟩ = some (.int .i64 xs) := by
            rw [setCell_off (show o' + 1 ≠ o' by omega)]; exact World.cell?_setCell_same _ _ _ u1
          have c2' : ((w8.setCell ⟨b', o', none⟩ (.int .i64 xs)).setCell ⟨b', o' + 1, none⟩ (.slice p2 X.len c2)).cell? ⟨b', o' + 1, none⟩ = some (.slice p2 X.len c2) :=
            World.cell?_setCell_same _ _ _ (u := .slice py y.2.len cy) (by rw [setCell_off (show o' ≠ o' + 1 by omega)]; exact u2)
          obtain ⟨hf1', hf2'⟩ := hfin c1 c2' (fun j j1 j2 => by
            rw [setCell_off (show o' + 1 ≠ j by omega), setCell_off (show o' ≠ j by omega)]
            exact World.cell?_of_block (hb48.block b' hb'4)) (fun c hc hcl => by
            exact ((Below.heap_setCell _ _ _ _ hc).trans (Below.heap_setCell _ _ _ _ hc)).trans (hb48.block c hcl))
          have HW8 := Lib.hid (HBX.out.trans (hb48.mono (by have := HBX.out.size; omega)))
          have HBL8 := Lib.hid (HST.out w8 (HBA.out.trans (hb48.mono HBA.out.size))).2.2.2
          have n1 : ¬ w.heap.size + 1 + 1 + 1 = w3.heap.size := by omega
          have n2 : ¬ w3.heap.size = w.heap.size + 1 + 1 + 1 := by omega
          have HF1 := Lib.hid hf1'
          have hC1 := Lib.hid c1
          have hC2 := Lib.hid c2'
          clear hfin c1 c2' hf1' hb8 hb48 hq2 hbl8
          rcases hf2' with ⟨rfl, rfl⟩ | hloc
          · have HRB := Lib.hid ((HBL8.out.far (p := ⟨w3.heap.size, 0, none⟩) n1 (.int .i64 xs)).far (p := ⟨w3.heap.size, 0 + 1, none⟩) n1 (.slice p2 X.len c2))
            have HW9 := Lib.hid ((HW8.out.setCell (p := ⟨w3.heap.size, 0, none⟩) (by simp; omega) (.int .i64 xs)).setCell (p := ⟨w3.heap.size, 0 + 1, none⟩) (by simp; omega) (.slice p2 X.len c2))
            obtain ⟨e1, e2, e3⟩ := pts_isT HF1.out hC1.out hC2.out
            have HE1 := Lib.hid e1
            have HE3 := Lib.hid e3
            clear e1 e3
            go_wp2_with fail
            refine bodyPost_ret (results_row_tmp rfl _ _ (w.heap.size + 1 + 1 + 1) 27 _ rfl ((HRB.out.set_ 0 _).set_ 1 _) Tryd.underlying27 Tryd.infoTreeS) rfl ?_
            refine ⟨_, by rw [HE.out]; rfl, ?_, (HW9.out.setCell (p := ⟨w.heap.size + 1 + 1 + 1, 0, none⟩) (by simp; omega) _).setCell (p := ⟨w.heap.size + 1 + 1 + 1, 1, none⟩) (by simp; omega) _⟩
            rw [HL.out]
            refine ⟨.slice p2 X.len c2, ?_, e2, ?_⟩
            · rw [show (putT pos (s, K) (xs, X)).1 = xs from HE1.out.symm]; rfl
            · exact (HE3.out.kp (((Kp.refl _ _).setCell (p := ⟨w.heap.size + 1 + 1 + 1, 0, none⟩) (fun h => by simp at h; omega) _).setCell (p := ⟨w.heap.size + 1 + 1 + 1, 1, none⟩) (fun h => by simp at h; omega) _)).isH
          · have n3 : ¬ b' = w3.heap.size := by omega
            have n4 : ¬ w3.heap.size = b' := by omega
            have n5 : ¬ b' = w.heap.size + 1 + 1 + 1 := by omega
            have n6 : ¬ w.heap.size + 1 + 1 + 1 = b' := by omega
            have HRB := Lib.hid ((HBL8.out.far (p := ⟨b', o', none⟩) n6 (.int .i64 xs)).far (p := ⟨b', o' + 1, none⟩) n6 (.slice p2 X.len c2))
            have HW9 := Lib.hid ((HW8.out.setCell (p := ⟨b', o', none⟩) (by simp; omega) (.int .i64 xs)).setCell (p := ⟨b', o' + 1, none⟩) (by simp; omega) (.slice p2 X.len c2))
            have q0 : ((w8.setCell ⟨b', o', none⟩ (.int .i64 xs)).setCell ⟨b', o' + 1, none⟩ (.slice p2 X.len c2)).cell? ⟨w3.heap.size, 0, none⟩ = some (.int .i64 s) := (World.cell?_of_block ((Below.heap_setCell _ _ _ _ n4).trans (Below.heap_setCell _ _ _ _ n4))).trans k0
            have q1' : ((w8.setCell ⟨b', o', none⟩ (.int .i64 xs)).setCell ⟨b', o' + 1, none⟩ (.slice p2 X.len c2)).cell? ⟨w3.heap.size, 1, none⟩ = some (.slice pr K.len cr) := (World.cell?_of_block ((Below.heap_setCell _ _ _ _ n4).trans (Below.heap_setCell _ _ _ _ n4))).trans k1
            obtain ⟨e1, e2, e3⟩ := pts_isT HF1.out q0 q1'
            have HE1 := Lib.hid e1
            have HE3 := Lib.hid e3
            clear e1 e3 q0 q1'
            go_wp2_with fail
            refine bodyPost_ret (results_row_tmp rfl _ _ (w.heap.size + 1 + 1 + 1) 27 _ rfl ((HRB.out.set_ 0 _).set_ 1 _) Tryd.underlying27 Tryd.infoTreeS) rfl ?_
            refine ⟨_, by rw [HE.out]; rfl, ?_, (HW9.out.setCell (p := ⟨w.heap.size + 1 + 1 + 1, 0, none⟩) (by simp; omega) _).setCell (p := ⟨w.heap.size + 1 + 1 + 1, 1, none⟩) (by simp; omega) _⟩
            rw [HL.out]
            refine ⟨.slice pr K.len cr, ?_, e2, ?_⟩
            · rw [show (putT pos (s, K) (xs, X)).1 = s from HE1.out.symm]; rfl
            · exact (HE3.out.kp (((Kp.refl _ _).setCell (p := ⟨w.heap.size + 1 + 1 + 1, 0, none⟩) (fun h => by simp at h; omega) _).setCell (p := ⟨w.heap.size + 1 + 1 + 1, 1, none⟩) (fun h => by simp at h; omega) _)).isH

end Go.Proofs.YtkgoealanboolaaDoor
