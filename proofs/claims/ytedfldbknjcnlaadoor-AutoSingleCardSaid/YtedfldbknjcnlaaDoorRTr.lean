/- ref03.Trimmed, ref03.Trim. -/
import Derived.Test.YtedfldbknjcnlaaDoorRKe
namespace Go.Proofs.YtedfldbknjcnlaaDoor
open Go.RowKit Go.Shelf Go.Maps Go.WideElems

set_option maxRecDepth 100000 in
set_option maxHeartbeats 4000000 in
theorem trimmed_ok (A : Au) (n : Nat) (hst : A.st = (n : Int)) (hn : n ≤ 300) (hlen : A.ru.length ≤ 20000) (hfl : A.fin.length ≤ 20000) (hru : ∀ r ∈ A.ru, stIn A.st r.to = true ∧ ∀ x ∈ r.fr, stIn A.st x = true) (h3 : ∀ r ∈ A.ru, r.fr.length ≤ 3) (hfin : ∀ s ∈ A.fin, stIn A.st s = true) (v : Value) (w : World) (hA : IsAu w v A) :
    Calls Tryd.prog 39 #[v] w fun e w' => (∃ u B M, e = .returned u ∧ IsAuK (w.heap.size + 2) w' u B ∧ IsUsd A.ru A.fin n M ∧ TrimOf A M B) ∧ Below w.heap.size w w' := by
  have HA := Lib.hid hA
  obtain ⟨fv, uv, rfl, hf, hr⟩ := hA
  obtain ⟨p1, c1, rfl, _⟩ := hf
  obtain ⟨p2, c2, rfl, _⟩ := hr
  obtain ⟨X, hX⟩ : ∃ X, X = (w.alloc (.cells #[.int .i64 A.st, .slice p1 A.fin.length c1, .slice p2 A.ru.length c2] 27)).alloc (.cells #[.int .i64 0, .slice none 0 0, .slice none 0 0] 27) := ⟨_, rfl⟩
  have HX0 : Hid (Blk X w.heap.size 27 #[.int .i64 A.st, .slice p1 A.fin.length c1, .slice p2 A.ru.length c2]) := Lib.hid (hX ▸ (Blk.new w 27 #[.int .i64 A.st, .slice p1 A.fin.length c1, .slice p2 A.ru.length c2]).alloc _)
  have HX1 : Hid (Blk X (w.heap.size + 1) 27 #[.int .i64 0, .slice none 0 0, .slice none 0 0]) := Lib.hid (hX ▸ by
    have := Blk.new (w.alloc (.cells #[.int .i64 A.st, .slice p1 A.fin.length c1, .slice p2 A.ru.length c2] 27)) 27 #[.int .i64 0, .slice none 0 0, .slice none 0 0]
    simpa using this)
  have HB : Hid (Below w.heap.size w X) := Lib.hid (hX ▸ ((Below.refl _ w).alloc (Nat.le_refl _) _).alloc (by simp) _)
  have hsX : X.heap.size = w.heap.size + 2 := by rw [hX]; simp
  have HUS := Lib.hid (used_ok A n hst hn hlen hru hfin _ X.drew (HA.out.below HB.out.drew))
  have HKE : Hid (∀ (M : List Bool) (kb : Nat) (W : World), M.length = n → Below w.heap.size w W → BB W kb M → Calls Tryd.prog 79 #[.agg #[.int .i64 A.st, .slice p1 A.fin.length c1, .slice p2 A.ru.length c2], .slice (some ⟨kb, 0, none⟩) n n] W fun e w' => (∃ u B, e = .returned u ∧ IsAuK W.heap.size w' u B ∧ TrimOf A M B) ∧ Below W.heap.size W w') := Lib.hid (fun M kb W hM hW hK => rkeep_ok A n hst hn hlen hfl hru h3 hfin M hM _ kb W (HA.out.below hW) hK)
  have HS : Hid (∀ W : World, Below (w.heap.size + 2) X W → W.cell? ⟨w.heap.size, 0, none⟩ = some (.int .i64 A.st) ∧ W.cell? ⟨w.heap.size, 1, none⟩ = some (.slice p1 A.fin.length c1) ∧ W.cell? ⟨w.heap.size, 2, none⟩ = some (.slice p2 A.ru.length c2)) := Lib.hid (fun W hW => by
    have h := HX0.out.below hW (by omega)
    exact ⟨by rw [h.cell]; rfl, by rw [h.cell]; rfl, by rw [h.cell]; rfl⟩)
  have HSF : Hid (∀ W : World, Below (w.heap.size + 2) X W → ∀ a b c : Value, ((((W.setCell ⟨w.heap.size + 1, 0, none⟩ a).setCell ⟨w.heap.size + 1, 1, none⟩ b).setCell ⟨w.heap.size + 1, 2, none⟩ c)).cell? ⟨w.heap.size, 0, none⟩ = some (.int .i64 A.st) ∧ ((((W.setCell ⟨w.heap.size + 1, 0, none⟩ a).setCell ⟨w.heap.size + 1, 1, none⟩ b).setCell ⟨w.heap.size + 1, 2, none⟩ c)).cell? ⟨w.heap.size, 1, none⟩ = some (.slice p1 A.fin.length c1) ∧ ((((W.setCell ⟨w.heap.size + 1, 0, none⟩ a).setCell ⟨w.heap.size + 1, 1, none⟩ b).setCell ⟨w.heap.size + 1, 2, none⟩ c)).cell? ⟨w.heap.size, 2, none⟩ = some (.slice p2 A.ru.length c2)) := Lib.hid (fun W hW a b c => by
    have h := (((HX0.out.below hW (by omega)).far (p := ⟨w.heap.size + 1, 0, none⟩) (by simp) a).far (p := ⟨w.heap.size + 1, 1, none⟩) (by simp) b).far (p := ⟨w.heap.size + 1, 2, none⟩) (by simp) c
    exact ⟨by rw [h.cell]; rfl, by rw [h.cell]; rfl, by rw [h.cell]; rfl⟩)
  have HSX := Lib.hid hsX
  have HXD : Hid (Below (w.heap.size + 2) X X.drew) := Lib.hid (Below.refl _ _).drew
  have HX := Lib.hid hX
  clear hX hst hru h3 hfin hsX
  go_enter Tryd.func39, Tryd.ntmps39
  go_wp2_with fail
  have hX := HX.out
  simp only [← hX] at *
  clear hX HX
  have x0 := (HS.out X (Below.refl _ _)).1
  have x1 := (HS.out X (Below.refl _ _)).2.1
  have x2 := (HS.out X (Below.refl _ _)).2.2
  have xl := HX0.out.lt
  go_region_held3 (fun W => W.cell? ⟨w.heap.size, 0, none⟩ = some (.int .i64 A.st) ∧ W.cell? ⟨w.heap.size, 1, none⟩ = some (.slice p1 A.fin.length c1) ∧ W.cell? ⟨w.heap.size, 2, none⟩ = some (.slice p2 A.ru.length c2))
    (first | exact HS.out _ HXD.out | exact HS.out _ HJ1.out | exact HS.out _ HJ2.out | exact HSF.out _ HJ2.out _ _ _)
    (first
      | (go_at_call 60; refine HUS.out.mono ?_; rintro e w1 ⟨⟨kb, M, rfl, hm, hi⟩, hb1⟩; have HM := Lib.hid hm; have HIM := Lib.hid hi; have HJ1 : Hid (Below (w.heap.size + 2) X w1) := Lib.hid (HXD.out.trans (hb1.mono (Nat.le_of_eq HSX.out.symm))); clear hm hi hb1)
      | (go_at_call 79; refine (HKE.out M kb w1 HIM.out.len (HB.out.trans (HJ1.out.mono (by omega))) HM.out).mono ?_; rintro e w2 ⟨⟨u, B, rfl, hau, ht⟩, hb2⟩; have HAU := Lib.hid hau; have HT := Lib.hid ht; obtain ⟨fv, rv, rfl, hfv, hrv⟩ := hau.isAu; obtain ⟨p3, c3, rfl, _⟩ := hfv; obtain ⟨p4, c4, rfl, _⟩ := hrv; have HJ2 : Hid (Below (w.heap.size + 2) X w2) := Lib.hid (HJ1.out.trans (hb2.mono (by have := HJ1.out.size; have := HSX.out; omega))); have HSZ1 := Lib.hid HJ1.out.size; have hR := HX1.out.below HJ2.out (by omega); have HR2 := Lib.hid hR; have r0 : w2.cell? ⟨w.heap.size + 1, 0, none⟩ = some (.int .i64 0) := (by rw [hR.cell]; rfl); have r1 : w2.cell? ⟨w.heap.size + 1, 1, none⟩ = some (.slice none 0 0) := (by rw [hR.cell]; rfl); have r2 : w2.cell? ⟨w.heap.size + 1, 2, none⟩ = some (.slice none 0 0) := (by rw [hR.cell]; rfl); have f0 := hR.frozen 0; have f1 := hR.frozen 1; have f2 := hR.frozen 2; have rl := hR.lt; clear hau ht hb2 hR))
  have hkf : Kp (fun c => c ≠ w.heap.size + 1) w2 (((w2.setCell ⟨w.heap.size + 1, 0, none⟩ (.int .i64 B.st)).setCell ⟨w.heap.size + 1, 1, none⟩ (.slice p3 B.fin.length c3)).setCell ⟨w.heap.size + 1, 2, none⟩ (.slice p4 B.ru.length c4)) :=
    (((Kp.refl _ w2).setCell (p := ⟨w.heap.size + 1, 0, none⟩) (fun h => absurd rfl h) _).setCell (p := ⟨w.heap.size + 1, 1, none⟩) (fun h => absurd rfl h) _).setCell (p := ⟨w.heap.size + 1, 2, none⟩) (fun h => absurd rfl h) _
  have hbf : Blk (((w2.setCell ⟨w.heap.size + 1, 0, none⟩ (.int .i64 B.st)).setCell ⟨w.heap.size + 1, 1, none⟩ (.slice p3 B.fin.length c3)).setCell ⟨w.heap.size + 1, 2, none⟩ (.slice p4 B.ru.length c4)) (w.heap.size + 1) 27 #[.int .i64 B.st, .slice p3 B.fin.length c3, .slice p4 B.ru.length c4] := by
    have h := ((HR2.out.set_ 0 (.int .i64 B.st)).set_ 1 (.slice p3 B.fin.length c3)).set_ 2 (.slice p4 B.ru.length c4)
    simpa using h
  generalize ((w2.setCell ⟨w.heap.size + 1, 0, none⟩ (.int .i64 B.st)).setCell ⟨w.heap.size + 1, 1, none⟩ (.slice p3 B.fin.length c3)).setCell ⟨w.heap.size + 1, 2, none⟩ (.slice p4 B.ru.length c4) = wf at *
  have HKF := Lib.hid hkf
  have HBF := Lib.hid hbf
  clear hkf hbf r0 r1 r2 f0 f1 f2 rl x0 x1 x2 xl
  go_wp2_with fail
  have hs1 := HSZ1.out
  have hsX := HSX.out
  refine bodyPost_ret (results_cell_row rfl _ _ (w.heap.size + 1) 27 _ (0, 0) _ rfl HBF.out Tryd.underlying27 rfl Tryd.infoAutoC) rfl ⟨⟨_, B, M, rfl, fun W hW => ?_, HIM.out, HT.out⟩, ?_⟩
  · exact HAU.out W ((HKF.out.mono (fun c _ (hc : w1.heap.size ≤ c) => by omega)).trans (hW.mono (fun c _ (hc : w1.heap.size ≤ c) => (by omega : w.heap.size + 2 ≤ c))))
  · exact (HB.out.trans (HJ2.out.mono (by omega))).trans (HKF.out.below (by have := HJ2.out.size; omega) (fun c hc => by omega))

theorem results_row_tmp3 {fn : Func} {p u : Tmp} {ty : TypeId} {P : Program} (h : fn.results = #[.cell p ty, .tmp u]) (tmps : Array Value) (w : World) (g : Nat) (t : TypeId) (cs : Array Value) {fs : Array Field}
    (hp : tmps.getD p undef = .pointer (some ⟨g, 0, none⟩)) (hg : w.heap[g]? = some (.cells cs t (0, 0)))
    (hu : P.underlying ty = some (.struct fs)) (hi : (P.info? ty).map (·.size) = some cs.size) :
    (results fn tmps).run P w = .ok (.tuple #[.agg cs, tmps.getD u undef]) w := by
  rw [results_cell_tmp h, hp]
  simp only [asAddr, Sem.run_pure, Result.andThen_ok, run_loadVar_row w g t ty cs (0, 0) (.struct fs) hg hu rfl hi]

/-- The final states of a valid automaton. -/
theorem finB_len : ∀ {st last : Int} {F : List Int}, finB st last F = true → (F.length : Int) ≤ if F = [] then 0 else st - last - 1
  | _, _, [], _ => by simp
  | st, last, s :: l, h => by
    unfold finB at h
    simp only [Bool.and_eq_true, decide_eq_true_eq] at h
    have ih := finB_len h.2.2
    rw [if_neg (by simp), List.length_cons]
    split at ih
    · omega
    · omega
theorem fin_short {al : List Int} {A : Au} (h : validA al A = true) : A.fin.length ≤ 20000 := by
  have hst := (goodA_of h).st
  unfold validA at h
  simp only [Bool.and_eq_true, decide_eq_true_eq] at h
  have h1 := finB_len h.2.2.2.2.1
  split at h1 <;> omega

theorem three_boxes_au (w : World) (a : Array Value) (b : Array Value) (c : Array Value) (t1 t2 t3 : TypeId) : ∀ W, Below (w.heap.size + 3) (((w.alloc (.cells a t1)).alloc (.cells b t2)).alloc (.cells c t3)) W → Blk W w.heap.size t1 a ∧ Blk W (w.heap.size + 1) t2 b ∧ Blk W (w.heap.size + 1 + 1) t3 c ∧ Below w.heap.size w W := fun W hW => by
  refine ⟨(((Blk.new w _ _).alloc _).alloc _).below hW (by omega), ?_, ?_, ?_⟩
  · have h := (Blk.new (w.alloc (.cells a t1)) t2 b).alloc (.cells c t3)
    have h2 := h.below hW (by simp)
    simpa using h2
  · have h := Blk.new ((w.alloc (.cells a t1)).alloc (.cells b t2)) t3 c
    have h2 := h.below hW (by simp)
    simpa using h2
  · exact ((((Below.refl _ w).alloc (Nat.le_refl _) _).alloc (by simp) _).alloc (by simp; omega) _).trans (hW.mono (by omega))

set_option maxRecDepth 100000 in
set_option maxHeartbeats 4000000 in
theorem rtrim_ok (al : List Int) (A : Au) (av v : Value) (w : World) (ha : IsInts w av al) (hA : IsAu w v A) :
    Calls Tryd.prog 22 #[.agg #[av], v] w fun e w' => (∃ u B, e = .returned (.tuple #[u, .int .i64 (vE al A)]) ∧ IsAuK (w.heap.size + 3) w' u B ∧ (validA al A = false → B = ⟨0, [], []⟩) ∧ (validA al A = true → ∃ M, IsUsd A.ru A.fin A.st.toNat M ∧ TrimOf A M B)) ∧ Below w.heap.size w w' := by
  have HA := Lib.hid hA
  have HAL := Lib.hid ha
  obtain ⟨fv, rv, rfl, hf, hr⟩ := hA
  have H3 := Lib.hid (three_boxes_au w #[av] #[.int .i64 A.st, fv, rv] #[.int .i64 0, .slice none 0 0, .slice none 0 0] 24 27 27)
  obtain ⟨p1, c1, rfl, _⟩ := hf
  obtain ⟨p2, c2, rfl, _⟩ := hr
  obtain ⟨pa, ca, rfl, _⟩ := ha
  have h0 := H3.out _ (Below.refl _ _)
  have HV := Lib.hid (rvalid_ok al A _ _ _ (HAL.out.below h0.2.2.2) (HA.out.below h0.2.2.2))
  clear h0
  go_enter Tryd.func22, Tryd.ntmps22
  go_wp2_with fail
  refine HV.out.mono ?_
  rintro e w1 ⟨rfl, hb1⟩
  have hb1' := hb1.mono (show w.heap.size + 3 ≤ _ by simp)
  have h1 := H3.out w1 hb1'
  have HB1 := Lib.hid h1.2.2.2
  have HR1 := Lib.hid h1.2.2.1
  have hs1 : w.heap.size + 3 ≤ w1.heap.size := by have := hb1'.size; simpa using this
  have r0 : w1.cell? ⟨w.heap.size + 1 + 1, 0, none⟩ = some (.int .i64 0) := by rw [h1.2.2.1.cell]; rfl
  have r1 : w1.cell? ⟨w.heap.size + 1 + 1, 1, none⟩ = some (.slice none 0 0) := by rw [h1.2.2.1.cell]; rfl
  have r2 : w1.cell? ⟨w.heap.size + 1 + 1, 2, none⟩ = some (.slice none 0 0) := by rw [h1.2.2.1.cell]; rfl
  have f0 := h1.2.2.1.frozen 0
  have f1 := h1.2.2.1.frozen 1
  have f2 := h1.2.2.1.frozen 2
  have rl := h1.2.2.1.lt
  cases hva : validA al A with
  | false =>
    have HVA := Lib.hid hva
    have HE : Hid (vE al A = 1) := Lib.hid (by unfold vE; rw [hva]; rfl)
    clear h1 hb1 hb1' hva
    go_wp2_with fail
    have hbf : Blk (((w1.setCell ⟨w.heap.size + 1 + 1, 0, none⟩ (.int .i64 0)).setCell ⟨w.heap.size + 1 + 1, 1, none⟩ (.slice none 0 0)).setCell ⟨w.heap.size + 1 + 1, 2, none⟩ (.slice none 0 0)) (w.heap.size + 1 + 1) 27 #[.int .i64 0, .slice none 0 0, .slice none 0 0] := by
      have h := ((HR1.out.set_ 0 (.int .i64 0)).set_ 1 (.slice none 0 0)).set_ 2 (.slice none 0 0)
      simpa using h
    have hBf : Below w.heap.size w (((w1.setCell ⟨w.heap.size + 1 + 1, 0, none⟩ (.int .i64 0)).setCell ⟨w.heap.size + 1 + 1, 1, none⟩ (.slice none 0 0)).setCell ⟨w.heap.size + 1 + 1, 2, none⟩ (.slice none 0 0)) :=
      ((HB1.out.setCell (p := ⟨w.heap.size + 1 + 1, 0, none⟩) (by simp only; omega) _).setCell (p := ⟨w.heap.size + 1 + 1, 1, none⟩) (by simp only; omega) _).setCell (p := ⟨w.heap.size + 1 + 1, 2, none⟩) (by simp only; omega) _
    refine bodyPost_ret (results_row_tmp3 rfl _ _ (w.heap.size + 1 + 1) 27 _ rfl hbf Tryd.underlying27 Tryd.infoAutoC) rfl ⟨⟨_, ⟨0, [], []⟩, by rw [HE.out]; rfl, fun W hW => ⟨_, _, rfl, ⟨_, _, rfl, Nat.le_refl _, Nat.zero_le _, fun h => absurd rfl h⟩, ⟨_, _, rfl, Nat.le_refl _, Nat.zero_le _, fun h => absurd rfl h⟩⟩, fun _ => rfl, fun e => by rw [HVA.out] at e; cases e⟩, hBf⟩
  | true =>
    have HVA := Lib.hid hva
    have HE : Hid (vE al A = 0) := Lib.hid (by unfold vE; rw [hva]; rfl)
    have HGD := Lib.hid (goodA_of hva)
    have x0 : w1.cell? ⟨w.heap.size + 1, 0, none⟩ = some (.int .i64 A.st) := by rw [h1.2.1.cell]; rfl
    have x1 : w1.cell? ⟨w.heap.size + 1, 1, none⟩ = some (.slice p1 A.fin.length c1) := by rw [h1.2.1.cell]; rfl
    have x2 : w1.cell? ⟨w.heap.size + 1, 2, none⟩ = some (.slice p2 A.ru.length c2) := by rw [h1.2.1.cell]; rfl
    have xl := h1.2.1.lt
    have HO := Lib.hid (trimmed_ok A A.st.toNat (by have := HGD.out.st; omega) (by have := HGD.out.st; omega) HGD.out.rlen (fin_short hva) HGD.out.sts (fun r hr => (HGD.out.rus r hr).len) (fin_ok hva) _ w1 (HA.out.below HB1.out))
    clear h1 hb1 hb1' hva
    go_wp2_with fail
    refine HO.out.mono ?_
    rintro e w2 ⟨⟨u, B, M, rfl, hau, hus, htr⟩, hb2⟩
    have HB2 := Lib.hid (HB1.out.trans (hb2.mono HB1.out.size))
    have HAU := Lib.hid hau
    have HUS := Lib.hid hus
    have HTR := Lib.hid htr
    obtain ⟨fv, rv, rfl, hfv, hrv⟩ := hau.isAu
    obtain ⟨p3, c3, rfl, _⟩ := hfv
    obtain ⟨p4, c4, rfl, _⟩ := hrv
    have hR := HR1.out.below hb2 HR1.out.lt
    have HR2 := Lib.hid hR
    have s0 : w2.cell? ⟨w.heap.size + 1 + 1, 0, none⟩ = some (.int .i64 0) := by rw [hR.cell]; rfl
    have s1 : w2.cell? ⟨w.heap.size + 1 + 1, 1, none⟩ = some (.slice none 0 0) := by rw [hR.cell]; rfl
    have s2 : w2.cell? ⟨w.heap.size + 1 + 1, 2, none⟩ = some (.slice none 0 0) := by rw [hR.cell]; rfl
    have g0 := hR.frozen 0
    have g1 := hR.frozen 1
    have g2 := hR.frozen 2
    have gl := hR.lt
    clear hb2 hau hus htr hR r0 r1 r2 f0 f1 f2 rl x0 x1 x2 xl
    go_wp2_with fail
    have hkf : Kp (fun c => c ≠ w.heap.size + 1 + 1) w2 (((w2.setCell ⟨w.heap.size + 1 + 1, 0, none⟩ (.int .i64 B.st)).setCell ⟨w.heap.size + 1 + 1, 1, none⟩ (.slice p3 B.fin.length c3)).setCell ⟨w.heap.size + 1 + 1, 2, none⟩ (.slice p4 B.ru.length c4)) :=
      (((Kp.refl _ w2).setCell (p := ⟨w.heap.size + 1 + 1, 0, none⟩) (fun h => absurd rfl h) _).setCell (p := ⟨w.heap.size + 1 + 1, 1, none⟩) (fun h => absurd rfl h) _).setCell (p := ⟨w.heap.size + 1 + 1, 2, none⟩) (fun h => absurd rfl h) _
    have hbf : Blk (((w2.setCell ⟨w.heap.size + 1 + 1, 0, none⟩ (.int .i64 B.st)).setCell ⟨w.heap.size + 1 + 1, 1, none⟩ (.slice p3 B.fin.length c3)).setCell ⟨w.heap.size + 1 + 1, 2, none⟩ (.slice p4 B.ru.length c4)) (w.heap.size + 1 + 1) 27 #[.int .i64 B.st, .slice p3 B.fin.length c3, .slice p4 B.ru.length c4] := by
      have h := ((HR2.out.set_ 0 (.int .i64 B.st)).set_ 1 (.slice p3 B.fin.length c3)).set_ 2 (.slice p4 B.ru.length c4)
      simpa using h
    have hBf := HB2.out.trans (hkf.below HB2.out.size (fun c hc => by omega))
    refine bodyPost_ret (results_row_tmp3 rfl _ _ (w.heap.size + 1 + 1) 27 _ rfl hbf Tryd.underlying27 Tryd.infoAutoC) rfl ⟨⟨_, B, by rw [HE.out]; rfl, fun W hW => ?_, fun e => (by rw [HVA.out] at e; cases e), fun _ => ⟨M, HUS.out, HTR.out⟩⟩, hBf⟩
    exact HAU.out W ((hkf.mono (fun c _ (hc : w1.heap.size + 2 ≤ c) => by omega)).trans (hW.mono (fun c _ (hc : w1.heap.size + 2 ≤ c) => (by omega : w.heap.size + 3 ≤ c))))

end Go.Proofs.YtedfldbknjcnlaaDoor
