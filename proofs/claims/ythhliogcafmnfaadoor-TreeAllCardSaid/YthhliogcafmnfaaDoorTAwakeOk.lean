/- law01.awake. -/
import Derived.Test.YthhliogcafmnfaaDoorTAwake
namespace Go.Proofs.YthhliogcafmnfaaDoor
open Go.RowKit Go.Shelf

def t3 : Int × Hg := (1, .cons noT.1 noT.2 (.cons noT.1 noT.2 .nil))
def tA : Int × Hg := (1, .cons noT.1 noT.2 (.cons t3.1 t3.2 .nil))
def tB : Int × Hg := (1, .cons t3.1 t3.2 (.cons noT.1 noT.2 .nil))
theorem aw_all : toH (TT [0, 2] 5) = .cons tA.1 tA.2 (.cons tB.1 tB.2 .nil) := by kernel_rfl
theorem aw_tgt : tgt [0, 2] 1 5 = 2 := by kernel_rfl
theorem aw_posE : posE [0, 2] tA.1 tA.2 = 0 := by kernel_rfl
theorem aw_posL : posL [0, 2] tA.1 tA.2 = [[], [0], [1], [1, 0], [1, 1]] := by kernel_rfl
theorem aw_cmp : lexM (mkT tA.1 tA.2) (mkT tB.1 tB.2) = -1 := by kernel_rfl

theorem blk5 (w : World) (t0 t1 t2 t3 t4 : TypeId) (a0 a1 a2 a3 a4 : Array Value) :
    Blk (((((w.alloc (.cells a0 t0)).alloc (.cells a1 t1)).alloc (.cells a2 t2)).alloc (.cells a3 t3)).alloc (.cells a4 t4)) w.heap.size t0 a0 ∧
    Blk (((((w.alloc (.cells a0 t0)).alloc (.cells a1 t1)).alloc (.cells a2 t2)).alloc (.cells a3 t3)).alloc (.cells a4 t4)) (w.heap.size + 1) t1 a1 ∧
    Blk (((((w.alloc (.cells a0 t0)).alloc (.cells a1 t1)).alloc (.cells a2 t2)).alloc (.cells a3 t3)).alloc (.cells a4 t4)) (w.heap.size + 1 + 1) t2 a2 ∧
    Blk (((((w.alloc (.cells a0 t0)).alloc (.cells a1 t1)).alloc (.cells a2 t2)).alloc (.cells a3 t3)).alloc (.cells a4 t4)) (w.heap.size + 1 + 1 + 1) t3 a3 ∧
    Blk (((((w.alloc (.cells a0 t0)).alloc (.cells a1 t1)).alloc (.cells a2 t2)).alloc (.cells a3 t3)).alloc (.cells a4 t4)) (w.heap.size + 1 + 1 + 1 + 1) t4 a4 ∧
    Below w.heap.size w (((((w.alloc (.cells a0 t0)).alloc (.cells a1 t1)).alloc (.cells a2 t2)).alloc (.cells a3 t3)).alloc (.cells a4 t4)) := by
  obtain ⟨h1, h2, h3, h0⟩ := blk4 w t0 t1 t2 t3 a0 a1 a2 a3
  refine ⟨h0.alloc _, h1.alloc _, h2.alloc _, h3.alloc _, ?_, (((((Below.refl _ w).alloc (Nat.le_refl _) _).alloc (by simp) _).alloc (by simp; omega) _).alloc (by simp; omega) _).alloc (by simp; omega) _⟩
  have := Blk.new ((((w.alloc (.cells a0 t0)).alloc (.cells a1 t1)).alloc (.cells a2 t2)).alloc (.cells a3 t3)) t4 a4
  rwa [World.size_alloc, World.size_alloc, World.size_alloc, World.size_alloc] at this

set_option maxRecDepth 100000 in
set_option maxHeartbeats 2000000 in
theorem awake_ok (w : World) (hal : AlIs w) : Calls Tryd.prog 11 #[] w fun e w' => e = .returned (.bool true) ∧ Below w.heap.size w w' := by
  have HAL := Lib.hid hal
  have HLf := Lib.hid (fun w => leaf_ok w)
  have HF := Lib.hid (fun x y vx vy w hx hy => f_ok x y vx vy w hx hy)
  have HNo := Lib.hid (fun w => isT_no w)
  obtain ⟨av, hg, hai⟩ := hal
  have HAI := Lib.hid hai
  obtain ⟨pal, cal, rfl, hal1, hal2, _⟩ := hai
  have HG := Lib.hid hg
  clear hg
  go_enter Tryd.func11, Tryd.ntmps11
  go_wp2_with fail
  refine (HLf.out _).mono ?_
  rintro e w1 ⟨rfl, hb1⟩
  have HB1 := Lib.hid hb1
  clear hb1
  go_wp2_with fail
  refine (HLf.out _).mono ?_
  rintro e w2 ⟨rfl, hb2⟩
  have HB2 := Lib.hid (HB1.out.trans (hb2.mono HB1.out.size))
  clear hb2
  go_wp2_with fail
  refine (HLf.out _).mono ?_
  rintro e w3 ⟨rfl, hb3⟩
  have HB3 := Lib.hid (HB2.out.trans (hb3.mono HB2.out.size))
  clear hb3
  go_wp2_with fail
  refine (HF.out noT noT _ _ _ (HNo.out _) (HNo.out _)).mono ?_
  rintro e w4 ⟨⟨r4, rfl, hr4⟩, hb4⟩
  have HB4 := Lib.hid (HB3.out.trans (hb4.mono HB3.out.size))
  have HR4 := Lib.hid (show IsT w4 r4 t3 from hr4)
  clear hb4 hr4
  go_wp2_with fail
  refine (HF.out noT t3 _ _ _ (HNo.out _) HR4.out).mono ?_
  rintro e w5 ⟨⟨r5, rfl, hr5⟩, hb5⟩
  have HB5 := Lib.hid (HB4.out.trans (hb5.mono HB4.out.size))
  have HR5 := Lib.hid (show IsT w5 r5 tA from hr5)
  clear hb5 hr5 HR4
  go_wp2_with fail
  refine (HLf.out _).mono ?_
  rintro e w6 ⟨rfl, hb6⟩
  have HB6 := Lib.hid (HB5.out.trans (hb6.mono HB5.out.size))
  have HR6 := Lib.hid (HR5.out.below hb6)
  clear hb6 HR5
  go_wp2_with fail
  refine (HLf.out _).mono ?_
  rintro e w7 ⟨rfl, hb7⟩
  have HB7 := Lib.hid (HB6.out.trans (hb7.mono HB6.out.size))
  have HR7 := Lib.hid (HR6.out.below hb7)
  clear hb7 HR6
  go_wp2_with fail
  refine (HF.out noT noT _ _ _ (HNo.out _) (HNo.out _)).mono ?_
  rintro e w8 ⟨⟨r8, rfl, hr8⟩, hb8⟩
  have HB8 := Lib.hid (HB7.out.trans (hb8.mono HB7.out.size))
  have HR8 := Lib.hid (HR7.out.below hb8)
  have HS8 := Lib.hid (show IsT w8 r8 t3 from hr8)
  clear hb8 hr8 HR7
  go_wp2_with fail
  refine (HLf.out _).mono ?_
  rintro e w9 ⟨rfl, hb9⟩
  have HB9 := Lib.hid (HB8.out.trans (hb9.mono HB8.out.size))
  have HR9 := Lib.hid (HR8.out.below hb9)
  have HS9 := Lib.hid (HS8.out.below hb9)
  clear hb9 HR8 HS8
  go_wp2_with fail
  refine (HF.out t3 noT _ _ _ HS9.out (HNo.out _)).mono ?_
  rintro e wa ⟨⟨ra, rfl, hra⟩, hba⟩
  have HBa := Lib.hid (HB9.out.trans (hba.mono HB9.out.size))
  obtain ⟨va, rfl, hwa, hva⟩ := HR9.out.below hba
  obtain ⟨vb, rfl, hwb, hvb⟩ := (show IsT wa ra tB from hra)
  have HVA := Lib.hid hva
  have HVB := Lib.hid hvb
  obtain ⟨pa, ca, rfl, hca1, hca2, _⟩ := hva
  obtain ⟨pb, cb, rfl, hcb1, hcb2, _⟩ := hvb
  have hbx : Below w.heap.size w ((wa.alloc (.cells #[.int .i64 tA.1, .slice pa tA.2.len ca] 27)).alloc (.cells #[.int .i64 tB.1, .slice pb tB.2.len cb] 27)) := (HBa.out.alloc HBa.out.size _).alloc (by have := HBa.out.size; simp; omega) _
  have hbax : Below wa.heap.size wa ((wa.alloc (.cells #[.int .i64 tA.1, .slice pa tA.2.len ca] 27)).alloc (.cells #[.int .i64 tB.1, .slice pb tB.2.len cb] 27)) := ((Below.refl _ _).alloc (Nat.le_refl _) _).alloc (by simp) _
  have hA0 : Blk ((wa.alloc (.cells #[.int .i64 tA.1, .slice pa tA.2.len ca] 27)).alloc (.cells #[.int .i64 tB.1, .slice pb tB.2.len cb] 27)) wa.heap.size 27 #[.int .i64 tA.1, .slice pa tA.2.len ca] := (Blk.new wa _ _).alloc _
  have hB0 : Blk ((wa.alloc (.cells #[.int .i64 tA.1, .slice pa tA.2.len ca] 27)).alloc (.cells #[.int .i64 tB.1, .slice pb tB.2.len cb] 27)) (wa.heap.size + 1) 27 #[.int .i64 tB.1, .slice pb tB.2.len cb] := by
    have := Blk.new (wa.alloc (.cells #[.int .i64 tA.1, .slice pa tA.2.len ca] 27)) 27 #[.int .i64 tB.1, .slice pb tB.2.len cb]
    rwa [World.size_alloc] at this
  have HVA2 := Lib.hid (HVA.out.below hbax)
  have HVB2 := Lib.hid (HVB.out.below hbax)
  have g1 := cell_later hbx HG.out
  have g2 := World.block_lt_of_cell? _ _ g1
  simp only at g2
  have HAI2 := Lib.hid (HAI.out.below hbx)
  have HBX := Lib.hid hbx
  have HA0 := Lib.hid hA0
  have HB0 := Lib.hid hB0
  clear hra hba hbx hbax hA0 hB0 HVA HVB HR9 HS9
  go_wp2_with fail
  generalize ((wa.alloc (.cells #[.int .i64 tA.1, .slice pa tA.2.len ca] 27)).alloc (.cells #[.int .i64 tB.1, .slice pb tB.2.len cb] 27)) = wb at HVA2 HVB2 g1 g2 HAI2 HBX HA0 HB0 ⊢
  have HALL := all_ok [0, 2] (.slice pal 2 cal) 5 wb (show IsInts wb (.slice pal 2 cal) (([0, 2] : List Nat).map (fun r : Nat => (r : Int))) from HAI2.out) (by simp) (by simp) (by omega) (by omega) (by rw [aw_tgt]; omega)
  rw [aw_all] at HALL
  refine (show Calls _ _ #[.agg #[.slice pal 2 cal], .int .i64 5] _ _ from HALL).mono ?_
  rintro e wc ⟨⟨vl, rfl, hvl⟩, hbc⟩
  have HVL := Lib.hid hvl.isH
  obtain ⟨pl, cl, rfl, _, _, _⟩ := hvl
  have HBC := Lib.hid (HBX.out.trans (hbc.mono HBX.out.size))
  have hst : ∀ W, Below wb.heap.size wb W → (W.cell? ⟨0, 0, none⟩ = some (.slice pal 2 cal) ∧ 0 < W.heap.size) ∧ W.cell? ⟨wa.heap.size, 0, none⟩ = some (.int .i64 tA.1) ∧ W.cell? ⟨wa.heap.size, 1, none⟩ = some (.slice pa tA.2.len ca) ∧ W.cell? ⟨wa.heap.size + 1, 0, none⟩ = some (.int .i64 tB.1) ∧ W.cell? ⟨wa.heap.size + 1, 1, none⟩ = some (.slice pb tB.2.len cb) ∧ wa.heap.size < W.heap.size ∧ wa.heap.size + 1 < W.heap.size := fun W hW => by
    have h1 := HA0.out.below hW HA0.out.lt
    have h2 := HB0.out.below hW HB0.out.lt
    have h3 := cell_later hW g1
    exact ⟨⟨h3, World.block_lt_of_cell? _ _ h3⟩, by rw [h1.cell]; rfl, by rw [h1.cell]; rfl, by rw [h2.cell]; rfl, by rw [h2.cell]; rfl, h1.lt, h2.lt⟩
  have HST := Lib.hid hst
  have HBB := Lib.hid hbc
  obtain ⟨⟨x0, x1⟩, x2, x3, x4, x5, x6, x7⟩ := hst wc hbc
  have HPO := positions_ok [0, 2] (.slice pal 2 cal) tA.1 (.slice pa tA.2.len ca) tA.2 wc (HAI2.out.below hbc) hwa (HVA2.out.below hbc) (by decide)
  rw [aw_posE, aw_posL] at HPO
  have HPO := Lib.hid HPO
  clear hst hbc HALL g1 g2
  go_wp2_with fail
  refine HPO.out.mono ?_
  rintro e wd ⟨vp, rfl, hvp, hbd⟩
  have HVP := Lib.hid hvp
  obtain ⟨pp, cp, rfl, _, _, _⟩ := hvp
  have HBD := Lib.hid (HBB.out.trans (hbd.mono HBB.out.size))
  have HVL2 := Lib.hid (HVL.out.below hbd)
  obtain ⟨⟨y0, y1⟩, y2, y3, y4, y5, y6, y7⟩ := HST.out wd HBD.out
  clear hbd HPO HVL HBB x0 x1 x2 x3 x4 x5 x6 x7
  have hba : Below wb.heap.size wb (wd.alloc (.cells #[.int .i64 tA.1, .slice pa tA.2.len ca, .int .i64 tB.1, .slice pb tB.2.len cb] 27)) := HBD.out.alloc HBD.out.size _
  have HSM := Lib.hid (sameTrees_ok _ _ _ _ (HVL2.out.below ((Below.refl _ _).alloc (Nat.le_refl _) (.cells #[.int .i64 tA.1, .slice pa tA.2.len ca, .int .i64 tB.1, .slice pb tB.2.len cb] 27))) (isH_two (Blk.new wd _ _) hwa (HVA2.out.below hba) hwb (HVB2.out.below hba)))
  have HBA := Lib.hid hba
  clear hba
  go_wp2_with fail
  refine HSM.out.mono ?_
  rintro e we ⟨rfl, hbe⟩
  have HBE := Lib.hid (HBA.out.trans (hbe.mono HBA.out.size))
  have HVP2 := Lib.hid (HVP.out.below (((Below.refl wd.heap.size wd).alloc (Nat.le_refl _) (.cells #[.int .i64 tA.1, .slice pa tA.2.len ca, .int .i64 tB.1, .slice pb tB.2.len cb] 27)).trans (hbe.mono (by simp))))
  obtain ⟨⟨u0, u1⟩, u2, u3, u4, u5, u6, u7⟩ := HST.out we HBE.out
  have HCM := tcompare_ok tA.1 tB.1 tA.2 tB.2 (.slice pa tA.2.len ca) (.slice pb tB.2.len cb) we (HVA2.out.below HBE.out) (HVB2.out.below HBE.out) (by decide) (by decide)
  rw [aw_cmp] at HCM
  have HCM := Lib.hid HCM
  clear hbe HSM HBA HBD HVL2 y0 y1 y2 y3 y4 y5 y6 y7 HVP
  go_wp2_with fail
  refine HCM.out.mono ?_
  rintro e wf ⟨rfl, hbf⟩
  have HBF := Lib.hid (HBE.out.trans (hbf.mono HBE.out.size))
  have HVP3 := Lib.hid (HVP2.out.below hbf)
  clear hbf HCM HVP2 HBE u0 u1 u2 u3 u4 u5 u6 u7
  go_wp2_with fail
  obtain ⟨hb0, hb1, hb2, hb3, hb4, hbw⟩ := blk5 wf 3 3 3 3 22 #[.int .i64 0] #[.int .i64 1] #[.int .i64 1, .int .i64 0] #[.int .i64 1, .int .i64 1] #[.slice none 0 0, .slice (some ⟨wf.heap.size, 0, none⟩) 1 1, .slice (some ⟨wf.heap.size + 1, 0, none⟩) 1 1, .slice (some ⟨wf.heap.size + 1 + 1, 0, none⟩) 2 2, .slice (some ⟨wf.heap.size + 1 + 1 + 1, 0, none⟩) 2 2]
  have hLL : IsLL _ (.slice (some ⟨wf.heap.size + 1 + 1 + 1 + 1, 0, none⟩) 5 5) [[], [0], [1], [1, 0], [1, 1]] :=
    isLL_blk [.slice none 0 0, .slice (some ⟨wf.heap.size, 0, none⟩) 1 1, .slice (some ⟨wf.heap.size + 1, 0, none⟩) 1 1, .slice (some ⟨wf.heap.size + 1 + 1, 0, none⟩) 2 2, .slice (some ⟨wf.heap.size + 1 + 1 + 1, 0, none⟩) 2 2] [[], [0], [1], [1, 0], [1, 1]] hb4 (by decide) (fun i x hx => by
      match i, hx with
      | 0, hx => simp at hx; subst hx; exact ⟨_, rfl, none, 0, rfl, Nat.le_refl _, by decide, fun h => absurd rfl h⟩
      | 1, hx => simp at hx; subst hx; exact ⟨_, rfl, isInts_blk [0] hb0 (by decide)⟩
      | 2, hx => simp at hx; subst hx; exact ⟨_, rfl, isInts_blk [1] hb1 (by decide)⟩
      | 3, hx => simp at hx; subst hx; exact ⟨_, rfl, isInts_blk [1, 0] hb2 (by decide)⟩
      | 4, hx => simp at hx; subst hx; exact ⟨_, rfl, isInts_blk [1, 1] hb3 (by decide)⟩
      | i + 5, hx => simp at hx)
  have HSL := Lib.hid (sameLists_ok _ _ _ _ (HVP3.out.below hbw) hLL)
  have HBW := Lib.hid (HBX.out.trans ((HBF.out.trans (hbw.mono HBF.out.size)).mono HBX.out.size))
  clear hb0 hb1 hb2 hb3 hb4 hbw hLL
  refine HSL.out.mono ?_
  rintro e wg ⟨rfl, hbg⟩
  have HBG := Lib.hid (HBW.out.trans (hbg.mono HBW.out.size))
  clear hbg HSL
  go_wp2_with fail
  go_ret
  exact ⟨rfl, HBG.out⟩

end Go.Proofs.YthhliogcafmnfaaDoor
