/- auto.Single. -/
import Derived.Test.YtedfldbknjcnlaaDoorSgV
import Derived.Test.YtedfldbknjcnlaaDoorFG8
import Derived.Test.YtedfldbknjcnlaaDoorFG9
import Derived.Test.YtedfldbknjcnlaaDoorRTr
namespace Go.Proofs.YtedfldbknjcnlaaDoor
open Go.RowKit Go.Shelf Go.Maps Go.WideElems

/-- The error beside an answer about a tree. -/
def tE (al : List Int) (l : Int) (K : Hg) : Int := if tvalid al l K then 0 else 1

theorem sgW_start (w1 : World) (ks : List Lit) : SgW w1.heap.size (fun _ => True) ks (w1.heap.size + 1 + 1 + 1) (w1.heap.size + 1) (w1.heap.size + 1 + 1) w1.heap.size
    ((((w1.alloc (.map #[] 0)).alloc (.cells #[.map (some w1.heap.size)] 94)).alloc (.cells #[.slice none 0 0] 25)).alloc (.cells #[sgF (w1.heap.size + 1 + 1 + 1) (w1.heap.size + 1) (w1.heap.size + 1 + 1)] 58)) [] (.slice none 0 0) (fun _ => none) := by
  refine ⟨?_, ?_, ?_, ?_, World.ownsRow_nil _ _ _ _, (fun x hx => by cases hx), (fun q x h => by simp at h), (fun kl v h => by cases h)⟩
  · have h := Blk.new (((w1.alloc (.map #[] 0)).alloc (.cells #[.map (some w1.heap.size)] 94)).alloc (.cells #[.slice none 0 0] 25)) 58 #[sgF (w1.heap.size + 1 + 1 + 1) (w1.heap.size + 1) (w1.heap.size + 1 + 1)]
    simpa using h
  · have h := Blk.new (w1.alloc (.map #[] 0)) 94 #[.map (some w1.heap.size)]
    rw [World.size_alloc] at h
    exact (h.alloc _).alloc _
  · exact (IsMp.made w1 Tryd.prog 97 ks).kp (((((Kp.refl (fun _ => True) _).alloc _).alloc _).alloc _)) trivial
  · have h := Blk.new ((w1.alloc (.map #[] 0)).alloc (.cells #[.map (some w1.heap.size)] 94)) 25 #[.slice none 0 0]
    simp only [World.size_alloc] at h
    exact h.alloc _

set_option maxRecDepth 100000 in
set_option maxHeartbeats 8000000 in
theorem single_ok (al : List Int) (l : Int) (K : Hg) (av vk : Value) (w : World) (hwf : (Lit.int .i64 l).wf = true) (hsz : K.size ≤ 1000000) (ha : IsInts w av al) (hK : IsH w vk K) :
    Calls Tryd.prog 36 #[.agg #[av], .agg #[.int .i64 l, vk]] w fun e w' => (∃ u B, e = .returned (.tuple #[u, .int .i64 (tE al l K)]) ∧ IsAu w' u B ∧ (tvalid al l K = true → B = sgA l K)) ∧ Below w.heap.size w w' := by
  have HAL := Lib.hid ha
  have HK := Lib.hid hK
  have H3 := Lib.hid (three_boxes w #[av] #[.int .i64 l, vk] #[.int .i64 0, .slice none 0 0, .slice none 0 0] 24 43 27)
  obtain ⟨pa, ca, rfl, _⟩ := ha
  obtain ⟨p, c, rfl, _⟩ := hK
  have h0 := H3.out _ (Below.refl _ _)
  have HV := Lib.hid (tvalid_ok al (.slice pa al.length ca) l (.slice p K.len c) K _ (HAL.out.below h0.2.2.2) hwf (HK.out.below h0.2.2.2) hsz)
  clear h0
  go_enter Tryd.func36, Tryd.ntmps36
  go_wp2_with fail
  refine HV.out.mono ?_
  rintro e w1 ⟨rfl, hb1⟩
  have h1 := H3.out w1 hb1
  have HB1 := Lib.hid h1.2.2.2
  have HR1 := Lib.hid h1.2.2.1
  have hs1 : w.heap.size + 3 ≤ w1.heap.size := by have := hb1.size; simpa using this
  have r0 : w1.cell? ⟨w.heap.size + 1 + 1, 0, none⟩ = some (.int .i64 0) := by rw [h1.2.2.1.cell]; rfl
  have r1 : w1.cell? ⟨w.heap.size + 1 + 1, 1, none⟩ = some (.slice none 0 0) := by rw [h1.2.2.1.cell]; rfl
  have r2 : w1.cell? ⟨w.heap.size + 1 + 1, 2, none⟩ = some (.slice none 0 0) := by rw [h1.2.2.1.cell]; rfl
  have f0 := h1.2.2.1.frozen 0
  have f1 := h1.2.2.1.frozen 1
  have f2 := h1.2.2.1.frozen 2
  have rl := h1.2.2.1.lt
  cases hva : tvalid al l K with
  | false =>
    have HE : Hid (tE al l K = 1) := Lib.hid (by unfold tE; rw [hva]; rfl)
    have HVF := Lib.hid hva
    clear h1 hb1 hva
    go_wp2_with fail
    have hbf : Blk (((w1.setCell ⟨w.heap.size + 1 + 1, 0, none⟩ (.int .i64 0)).setCell ⟨w.heap.size + 1 + 1, 1, none⟩ (.slice none 0 0)).setCell ⟨w.heap.size + 1 + 1, 2, none⟩ (.slice none 0 0)) (w.heap.size + 1 + 1) 27 #[.int .i64 0, .slice none 0 0, .slice none 0 0] := by
      have h := ((HR1.out.set_ 0 (.int .i64 0)).set_ 1 (.slice none 0 0)).set_ 2 (.slice none 0 0)
      simpa using h
    have hBf : Below w.heap.size w (((w1.setCell ⟨w.heap.size + 1 + 1, 0, none⟩ (.int .i64 0)).setCell ⟨w.heap.size + 1 + 1, 1, none⟩ (.slice none 0 0)).setCell ⟨w.heap.size + 1 + 1, 2, none⟩ (.slice none 0 0)) :=
      ((HB1.out.setCell (p := ⟨w.heap.size + 1 + 1, 0, none⟩) (by simp only; omega) _).setCell (p := ⟨w.heap.size + 1 + 1, 1, none⟩) (by simp only; omega) _).setCell (p := ⟨w.heap.size + 1 + 1, 2, none⟩) (by simp only; omega) _
    refine bodyPost_ret (results_row_tmp3 rfl _ _ (w.heap.size + 1 + 1) 27 _ rfl hbf Tryd.underlying27 Tryd.infoAutoC) rfl ⟨⟨_, ⟨0, [], []⟩, by rw [HE.out]; rfl, ⟨_, _, rfl, ⟨_, _, rfl, Nat.le_refl _, Nat.zero_le _, fun h => absurd rfl h⟩, ⟨_, _, rfl, Nat.le_refl _, Nat.zero_le _, fun h => absurd rfl h⟩⟩, fun e => by rw [HVF.out] at e; cases e⟩, hBf⟩
  | true =>
    have HE : Hid (tE al l K = 0) := Lib.hid (by unfold tE; rw [hva]; rfl)
    have HVA := Lib.hid hva
    have HX1 : Hid (Blk w1 (w.heap.size + 1) 43 #[.int .i64 l, .slice p K.len c]) := Lib.hid h1.2.1
    have hva2 := hva
    unfold tvalid validAl at hva2
    simp only [Bool.and_eq_true, decide_eq_true_eq] at hva2
    have hal : al.length ≤ 12 := hva2.1.1
    have hrk : ∀ x ∈ al, 0 ≤ x ∧ x ≤ 3 := fun x hx => by
      have := List.all_eq_true.1 hva2.1.2 x hx
      unfold rok at this
      simp only [Bool.and_eq_true, decide_eq_true_eq] at this
      exact this
    have HSA := Lib.hid (sgA_ok hva)
    obtain ⟨F, R1, hsg⟩ : ∃ F R1, sgH K [] = (F, R1) := ⟨_, _, rfl⟩
    have HSE : Hid (sgA l K = ⟨((addR R1 l F).length : Int), [((idxR R1 l F : Nat) : Int)], addR R1 l F⟩) := Lib.hid (by unfold sgA; rw [hsg])
    have HKS : Hid (((addR R1 l F).map klR).length ≤ 1000) := Lib.hid (by
      have h := HSA.out.len
      rw [HSE.out] at h
      simp only at h
      rw [List.length_map]
      omega)
    have HCALL := Lib.hid (sgv_ok al hrk hal w1 ((addR R1 l F).map klR) HKS.out (w1.heap.size + 1 + 1 + 1) (w1.heap.size + 1) (w1.heap.size + 1 + 1) w1.heap.size (Nat.le_refl _) (by omega) (K.size + 1) (fun _ => True) l K (.slice p K.len c) _ [] (.slice none 0 0) (fun _ => none) F R1 (Nat.lt_succ_self _) (SgI.nil al) hva2.2.2.1 hva2.2.2.2 (by have := hva2.2.1; simp; omega) hsg (fun r hr => List.mem_map_of_mem hr) (HK.out.below HB1.out) (((((Below.refl _ w1).alloc (Nat.le_refl _) _).alloc (by simp) _).alloc (by simp; omega) _).alloc (by simp; omega) _) (fun _ _ => trivial) (sgW_start w1 ((addR R1 l F).map klR)))
    obtain ⟨X5, hX5⟩ : ∃ X5, X5 = (((w1.alloc (.map #[] 0)).alloc (.cells #[.map (some w1.heap.size)] 94)).alloc (.cells #[.slice none 0 0] 25)).alloc (.cells #[.func (.func 76) #[] #[.pointer (some ⟨w1.heap.size + 1 + 1 + 1, 0, none⟩), .pointer (some ⟨w1.heap.size + 1, 0, none⟩), .pointer (some ⟨w1.heap.size + 1 + 1, 0, none⟩)]] 58) := ⟨_, rfl⟩
    have HK5 : Hid (Kp (fun _ => True) w1 X5) := Lib.hid (hX5 ▸ (((((Kp.refl (fun _ => True) w1).alloc _).alloc _).alloc _).alloc _))
    have HT5 : Hid (Blk X5 (w.heap.size + 1) 43 #[.int .i64 l, .slice p K.len c]) := Lib.hid (HX1.out.kp HK5.out trivial)
    have HR5 : Hid (Blk X5 (w.heap.size + 1 + 1) 27 #[.int .i64 0, .slice none 0 0, .slice none 0 0]) := Lib.hid (HR1.out.kp HK5.out trivial)
    have x0 : X5.cell? ⟨w.heap.size + 1, 0, none⟩ = some (.int .i64 l) := by rw [HT5.out.cell]; rfl
    have x1 : X5.cell? ⟨w.heap.size + 1, 1, none⟩ = some (.slice p K.len c) := by rw [HT5.out.cell]; rfl
    have xl := HT5.out.lt
    have hs5 := HK5.out.size
    have HX5 := Lib.hid hX5
    rw [hX5] at x0 x1 xl
    clear hX5
    unfold sgF at HCALL
    have hmm := @run_makeMap Tryd.prog
    clear hva hva2 hal hrk hsg h1 hb1 r0 r1 r2 f0 f1 f2 rl
    go_wp2_with fail
    refine HCALL.out.mono ?_
    rintro e w6 ⟨rfl, ⟨D, rv, f, hW, hD, _⟩, hK6⟩
    rw [← HX5.out] at hK6
    have HR6 : Hid (Blk w6 (w.heap.size + 1 + 1) 27 #[.int .i64 0, .slice none 0 0, .slice none 0 0]) := Lib.hid (HR5.out.kp hK6 ⟨by omega, by omega, fun e => by simp [Value.ownBlock] at e⟩)
    have HB6 : Hid (Below w.heap.size w w6) := Lib.hid ((HB1.out.trans (HK5.out.below HB1.out.size (fun _ _ => trivial))).trans (hK6.below (Nat.le_trans HB1.out.size hs5) (fun c hc => ⟨by omega, by omega, fun e => by simp [Value.ownBlock] at e⟩)))
    have hs6 := hK6.size
    have HW := Lib.hid hW
    have HD := Lib.hid hD
    obtain ⟨ar, cr, hrv⟩ := ownsRow_shape hW.own
    subst hrv
    have q0 : w6.cell? ⟨w1.heap.size + 1 + 1, 0, none⟩ = some (.slice ar D.length cr) := by rw [hW.r.cell]; rfl
    have ql := hW.r.lt
    obtain ⟨Y, hY⟩ : ∃ Y, Y = w6.alloc (.cells #[.int .i64 ((idxR R1 l F : Nat) : Int)] 3) := ⟨_, rfl⟩
    have HKY : Hid (Kp (fun _ => True) w6 Y) := Lib.hid (hY ▸ (Kp.refl _ w6).alloc _)
    have HRY : Hid (Blk Y (w.heap.size + 1 + 1) 27 #[.int .i64 0, .slice none 0 0, .slice none 0 0]) := Lib.hid (HR6.out.kp HKY.out trivial)
    have HNY : Hid (Blk Y w6.heap.size 3 #[.int .i64 ((idxR R1 l F : Nat) : Int)]) := Lib.hid (hY ▸ Blk.new w6 _ _)
    have HWY := Lib.hid (HW.out.kp HKY.out)
    have HBY : Hid (Below w.heap.size w Y) := Lib.hid (HB6.out.trans (HKY.out.below HB6.out.size (fun _ _ => trivial)))
    have q1 : Y.cell? ⟨w1.heap.size + 1 + 1, 0, none⟩ = some (.slice ar D.length cr) := by rw [HWY.out.r.cell]; rfl
    have ql1 := HWY.out.r.lt
    have y0 : Y.cell? ⟨w.heap.size + 1 + 1, 0, none⟩ = some (.int .i64 0) := by rw [HRY.out.cell]; rfl
    have y1 : Y.cell? ⟨w.heap.size + 1 + 1, 1, none⟩ = some (.slice none 0 0) := by rw [HRY.out.cell]; rfl
    have y2 : Y.cell? ⟨w.heap.size + 1 + 1, 2, none⟩ = some (.slice none 0 0) := by rw [HRY.out.cell]; rfl
    have yf0 := HRY.out.frozen 0
    have yf1 := HRY.out.frozen 1
    have yf2 := HRY.out.frozen 2
    have yl := HRY.out.lt
    have HY := Lib.hid hY
    rw [hY] at q1 ql1 y0 y1 y2 yf0 yf1 yf2 yl
    clear hW hD hK6 hY x0 x1 xl hmm
    go_wp2_with fail
    rw [← HY.out]
    have hbf : Blk (((Y.setCell ⟨w.heap.size + 1 + 1, 0, none⟩ (.int .i64 ((D.length : Nat) : Int))).setCell ⟨w.heap.size + 1 + 1, 1, none⟩ (.slice (some ⟨w6.heap.size, 0, none⟩) 1 1)).setCell ⟨w.heap.size + 1 + 1, 2, none⟩ (.slice ar D.length cr)) (w.heap.size + 1 + 1) 27 #[.int .i64 ((D.length : Nat) : Int), .slice (some ⟨w6.heap.size, 0, none⟩) 1 1, .slice ar D.length cr] := by
      have h := ((HRY.out.set_ 0 (.int .i64 ((D.length : Nat) : Int))).set_ 1 (.slice (some ⟨w6.heap.size, 0, none⟩) 1 1)).set_ 2 (.slice ar D.length cr)
      simpa using h
    have hkf : Kp (fun c => c ≠ w.heap.size + 1 + 1) Y (((Y.setCell ⟨w.heap.size + 1 + 1, 0, none⟩ (.int .i64 ((D.length : Nat) : Int))).setCell ⟨w.heap.size + 1 + 1, 1, none⟩ (.slice (some ⟨w6.heap.size, 0, none⟩) 1 1)).setCell ⟨w.heap.size + 1 + 1, 2, none⟩ (.slice ar D.length cr)) :=
      (((Kp.refl (fun c => c ≠ w.heap.size + 1 + 1) Y).setCell (p := ⟨w.heap.size + 1 + 1, 0, none⟩) (fun h => absurd rfl h) _).setCell (p := ⟨w.heap.size + 1 + 1, 1, none⟩) (fun h => absurd rfl h) _).setCell (p := ⟨w.heap.size + 1 + 1, 2, none⟩) (fun h => absurd rfl h) _
    generalize ((Y.setCell ⟨w.heap.size + 1 + 1, 0, none⟩ (.int .i64 ((D.length : Nat) : Int))).setCell ⟨w.heap.size + 1 + 1, 1, none⟩ (.slice (some ⟨w6.heap.size, 0, none⟩) 1 1)).setCell ⟨w.heap.size + 1 + 1, 2, none⟩ (.slice ar D.length cr) = Z at *
    have hBZ : Below w.heap.size w Z := HBY.out.trans (hkf.below HBY.out.size (fun c hc => by omega))
    have hlen : (addR R1 l F).length = D.length := by rw [← HD.out, List.length_map]
    refine bodyPost_ret (results_row_tmp3 rfl _ _ (w.heap.size + 1 + 1) 27 _ rfl hbf Tryd.underlying27 Tryd.infoAutoC) rfl ⟨⟨_, ⟨((D.length : Nat) : Int), [((idxR R1 l F : Nat) : Int)], D.map Prod.fst⟩, by rw [HE.out]; rfl, ⟨_, _, rfl, ?_, ?_⟩, fun _ => by rw [HSE.out, HD.out, hlen]⟩, hBZ⟩
    · refine ⟨_, _, rfl, Nat.le_refl _, by decide, fun _ => ⟨_, _, rfl, fun i x hx => ?_⟩⟩
      have h9 : Blk Z w6.heap.size 3 #[.int .i64 ((idxR R1 l F : Nat) : Int)] := HNY.out.kp hkf (by omega)
      rw [Nat.zero_add, h9.cell]
      cases i with
      | zero => simp at hx; subst hx; rfl
      | succ i => simp at hx
    · exact isRus_of (w0 := Z) (ownsRow_kp HWY.out.own hkf (fun b e => by
        obtain ⟨cur, hc, _⟩ := own_cells HWY.out.own e
        exact hc.ne_ HRY.out (by decide))) (fun x hx => ((HWY.out.fr x hx).kp hkf (fun b cur _ hb => hb.ne_ HRY.out (by decide))).isInts) (Below.refl _ _)

end Go.Proofs.YtedfldbknjcnlaaDoor
