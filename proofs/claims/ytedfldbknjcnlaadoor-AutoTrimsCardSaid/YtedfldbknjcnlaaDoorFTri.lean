/- auto.Trim. -/
import Derived.Test.YtedfldbknjcnlaaDoorFBe
import Derived.Test.YtedfldbknjcnlaaDoorFG23
import Derived.Test.YtedfldbknjcnlaaDoorRTr
namespace Go.Proofs.YtedfldbknjcnlaaDoor
open Go.RowKit Go.Shelf Go.Maps Go.WideElems

/-- The numbers that are laid when k states were seen. -/
def numQ (M : List Bool) (n k : Nat) : List Int := (List.range n).map fun i => if i < k then (numK M i : Int) else 0
theorem numQ_len (M : List Bool) (n k : Nat) : (numQ M n k).length = n := by unfold numQ; simp
theorem numQ_zero (M : List Bool) (n : Nat) : numQ M n 0 = List.replicate n 0 := by
  unfold numQ
  simp only [Nat.not_lt_zero, if_false]
  rw [List.map_const', List.length_range]
theorem numQ_all (M : List Bool) (n : Nat) : numQ M n n = numA M n := by
  unfold numQ numA
  refine List.map_congr_left fun i hi => ?_
  rw [if_pos (List.mem_range.1 hi)]
theorem numQ_next {M : List Bool} {n k : Nat} : numQ M n (k + 1) = (numQ M n k).set k (numK M k : Int) := by
  apply List.ext_getElem?
  intro i
  unfold numQ
  by_cases hi : i < n
  · rw [List.getElem?_map, List.getElem?_range hi, List.getElem?_set]
    by_cases h : k = i
    · subst h
      simp [hi]
    · rw [if_neg h, List.getElem?_map, List.getElem?_range hi]
      simp only [Option.map_some, show (i < k + 1) ↔ (i < k) from ⟨fun g => by omega, fun g => by omega⟩]
  · rw [List.getElem?_eq_none (by simp; omega), List.getElem?_eq_none (by simp; omega)]

set_option maxRecDepth 100000 in
set_option maxHeartbeats 8000000 in
theorem trim_ok (al : List Int) (A : Au) (av v : Value) (w : World) (ha : IsInts w av al) (hA : IsAu w v A) :
    Calls Tryd.prog 21 #[.agg #[av], v] w fun e w' => (∃ u B, e = .returned (.tuple #[u, .int .i64 (vE al A)]) ∧ IsAuK (w.heap.size + 3) w' u B ∧ (validA al A = false → B = ⟨0, [], []⟩) ∧ (validA al A = true → ∃ M, IsUsd A.ru A.fin A.st.toNat M ∧ TrimOf A M B)) ∧ Below w.heap.size w w' := by
  have HA := Lib.hid hA
  have HAL := Lib.hid ha
  obtain ⟨fv, rv, rfl, hf, hr⟩ := hA
  have H3 := Lib.hid (three_boxes_au w #[av] #[.int .i64 A.st, fv, rv] #[.int .i64 0, .slice none 0 0, .slice none 0 0] 24 27 27)
  obtain ⟨p1, c1, rfl, _⟩ := hf
  obtain ⟨p2, c2, rfl, _⟩ := hr
  obtain ⟨pa, ca, rfl, _⟩ := ha
  have h0 := H3.out _ (Below.refl _ _)
  have HV := Lib.hid (valid_ok al A _ _ _ (HAL.out.below h0.2.2.2) (HA.out.below h0.2.2.2))
  clear h0
  obtain ⟨i1, hi1, hy0, hy1, hy2⟩ := info_parts Tryd.infoInt
  have HI1 := Lib.hid hi1
  clear hi1
  go_enter Tryd.func21, Tryd.ntmps21
  go_wp2_with fail
  refine HV.out.mono ?_
  rintro e w1 ⟨rfl, hb1⟩
  have hb1' := hb1.mono (show w.heap.size + 3 ≤ _ by simp)
  have h1 := H3.out w1 hb1'
  have HB1 := Lib.hid h1.2.2.2
  have HR1 := Lib.hid h1.2.2.1
  have hs1 : w.heap.size + 3 ≤ w1.heap.size := by have := hb1'.size; simpa using this
  have r0 : w1.cell? ⟨w.heap.size + 1 + 1, 0, none⟩ = some (.int .i64 0) := by rw [h1.2.2.1.cell]; rfl
  have r1 : w1.cell? ⟨w.heap.size + 1 + 1, 1, none⟩ = some (.slice none 0 0) := by rw [h1.2.2.1.cell]; rfl
  have r2 : w1.cell? ⟨w.heap.size + 1 + 1, 2, none⟩ = some (.slice none 0 0) := by rw [h1.2.2.1.cell]; rfl
  have f0 := h1.2.2.1.frozen 0
  have f1 := h1.2.2.1.frozen 1
  have f2 := h1.2.2.1.frozen 2
  have rl := h1.2.2.1.lt
  cases hva : validA al A with
  | false =>
    have HVA := Lib.hid hva
    have HE : Hid (vE al A = 1) := Lib.hid (by unfold vE; rw [hva]; rfl)
    clear h1 hb1 hb1' hva
    go_wp2_with fail
    have hbf : Blk (((w1.setCell ⟨w.heap.size + 1 + 1, 0, none⟩ (.int .i64 0)).setCell ⟨w.heap.size + 1 + 1, 1, none⟩ (.slice none 0 0)).setCell ⟨w.heap.size + 1 + 1, 2, none⟩ (.slice none 0 0)) (w.heap.size + 1 + 1) 27 #[.int .i64 0, .slice none 0 0, .slice none 0 0] := by
      have h := ((HR1.out.set_ 0 (.int .i64 0)).set_ 1 (.slice none 0 0)).set_ 2 (.slice none 0 0)
      simpa using h
    have hBf : Below w.heap.size w (((w1.setCell ⟨w.heap.size + 1 + 1, 0, none⟩ (.int .i64 0)).setCell ⟨w.heap.size + 1 + 1, 1, none⟩ (.slice none 0 0)).setCell ⟨w.heap.size + 1 + 1, 2, none⟩ (.slice none 0 0)) :=
      ((HB1.out.setCell (p := ⟨w.heap.size + 1 + 1, 0, none⟩) (by simp only; omega) _).setCell (p := ⟨w.heap.size + 1 + 1, 1, none⟩) (by simp only; omega) _).setCell (p := ⟨w.heap.size + 1 + 1, 2, none⟩) (by simp only; omega) _
    refine bodyPost_ret (results_row_tmp3 rfl _ _ (w.heap.size + 1 + 1) 27 _ rfl hbf Tryd.underlying27 Tryd.infoAutoC) rfl ⟨⟨_, ⟨0, [], []⟩, by rw [HE.out]; rfl, fun W hW => ⟨_, _, rfl, ⟨_, _, rfl, Nat.le_refl _, Nat.zero_le _, fun h => absurd rfl h⟩, ⟨_, _, rfl, Nat.le_refl _, Nat.zero_le _, fun h => absurd rfl h⟩⟩, fun _ => rfl, fun e => by rw [HVA.out] at e; cases e⟩, hBf⟩
  | true =>
    have HVA := Lib.hid hva
    have HE : Hid (vE al A = 0) := Lib.hid (by unfold vE; rw [hva]; rfl)
    have HGD := Lib.hid (goodA_of hva)
    have x0 : w1.cell? ⟨w.heap.size + 1, 0, none⟩ = some (.int .i64 A.st) := by rw [h1.2.1.cell]; rfl
    have x1 : w1.cell? ⟨w.heap.size + 1, 1, none⟩ = some (.slice p1 A.fin.length c1) := by rw [h1.2.1.cell]; rfl
    have x2 : w1.cell? ⟨w.heap.size + 1, 2, none⟩ = some (.slice p2 A.ru.length c2) := by rw [h1.2.1.cell]; rfl
    have xl := h1.2.1.lt
    obtain ⟨n, hn⟩ : ∃ n, n = A.st.toNat := ⟨_, rfl⟩
    have hst : A.st = (n : Int) := by have := HGD.out.st; omega
    have hn300 : n ≤ 300 := by have := HGD.out.st; omega
    have HST := Lib.hid hst
    have HFN := Lib.hid (fin_ok hva)
    have hfl := fin_short hva
    have hrl := HGD.out.rlen
    have HO := Lib.hid (useful_ok A n hst hn300 HGD.out.rlen HGD.out.sts (frs_of HGD.out) (fin_ok hva) _ w1 (HA.out.below HB1.out))
    have HX1 := Lib.hid h1.2.1
    have HNT := Lib.hid hn
    clear h1 hb1 hb1' hva hn hst r0 r1 r2 f0 f1 f2 rl
    go_wp2_with fail
    refine HO.out.mono ?_
    rintro e w2 ⟨⟨ob, M, rfl, hM, hI, hob⟩, hb2⟩
    have HB2 := Lib.hid (HB1.out.trans (hb2.mono HB1.out.size))
    have HM := Lib.hid hM
    have HI := Lib.hid hI
    have HML : Hid (M.length = n) := Lib.hid hI.1
    have HR2 := Lib.hid (HR1.out.below hb2 HR1.out.lt)
    have HX2 := Lib.hid (HX1.out.below hb2 HX1.out.lt)
    have hs2 := hb2.size
    have hobl : ob < w2.heap.size := Blk.lt (show Blk w2 ob 4 (M.map Value.bool).toArray from hM)
    have y0 : w2.cell? ⟨w.heap.size + 1, 0, none⟩ = some (.int .i64 (n : Int)) := by rw [HX2.out.cell, ← HST.out]; rfl
    have yl := HX2.out.lt
    clear hb2 hM hI x0 x1 x2 xl HO
    go_wp2_with (at_make; refine wpList_make_full _ rfl _ _ 22 rfl w2.heap.size 3 i1 _ 1 Tryd.underlying22 HI1.out hy0 hy1 _ _ _ _ n rfl rfl rfl rfl (by rw [hy2]; omega) (by simp only [maxLen]; omega) (by simp) ?_)
    intro w3 hown hgrow
    have hG := own_full hown
    rw [toList_madeCells_one] at hG
    have hGl := hG.lt
    have HK3 : Hid (Kp (fun _ => True) w2 w3) := Lib.hid ((Kp.refl _ w2).grown hgrow (fun j e => by simp at e))
    have HG3 := Lib.hid hG
    clear hown hgrow hG y0 yl
    obtain ⟨w4, hw4⟩ : ∃ w4, w4 = w3.alloc (.cells #[.int .i64 0, .slice none 0 0, .slice none 0 0] 27) := ⟨_, rfl⟩
    have HK4 : Hid (Kp (fun _ => True) w2 w4) := Lib.hid (hw4 ▸ HK3.out.alloc _)
    have HX4 : Hid (Blk w4 (w.heap.size + 1) 27 #[.int .i64 A.st, .slice p1 A.fin.length c1, .slice p2 A.ru.length c2]) := Lib.hid (HX2.out.kp HK4.out trivial)
    have HR4 : Hid (Blk w4 (w.heap.size + 1 + 1) 27 #[.int .i64 0, .slice none 0 0, .slice none 0 0]) := Lib.hid (HR2.out.kp HK4.out trivial)
    have HM4 : Hid (BB w4 ob M) := Lib.hid (HM.out.kp HK4.out trivial)
    have HO4 : Hid (Blk w4 w3.heap.size 27 #[.int .i64 (numK M 0 : Int), .slice none 0 0, .slice none 0 0]) := Lib.hid (hw4 ▸ Blk.new w3 _ _)
    have HN4 : Hid (Blk w4 w2.heap.size 3 (intV (numQ M n 0)).toArray) := Lib.hid (by
      rw [hw4, numQ_zero]
      unfold intV
      rw [List.map_replicate]
      exact HG3.out.alloc _)
    have HB4 : Hid (Below w.heap.size w w4) := Lib.hid (HB2.out.trans (HK4.out.below HB2.out.size (fun _ _ => trivial)))
    have hs4 : w4.heap.size = w3.heap.size + 1 := by rw [hw4]; simp
    have HS4 := Lib.hid hs4
    have hs34 : w3.heap.size < w4.heap.size := by omega
    have HW4 := Lib.hid hw4
    clear hw4 hs4
    go_wp2_with fail
    have hw4 := HW4.out
    simp only [← hw4] at *
    clear hw4 HW4
    go_loopw [24] (fun iv wk => ∃ k : Nat, iv = .int .i64 (k : Nat) ∧ k ≤ n ∧ Hid (Blk wk w2.heap.size 3 (intV (numQ M n k)).toArray) ∧ Hid (Blk wk w3.heap.size 27 #[.int .i64 (numK M k : Int), .slice none 0 0, .slice none 0 0]) ∧ Hid (Kp (fun c => c ≠ w2.heap.size ∧ c ≠ w3.heap.size) w4 wk)) (fun iv _ => n - (intOf iv).toNat)
    case atStart => exact ⟨0, rfl, by omega, HN4, HO4, Lib.hid (Kp.refl _ _)⟩
    case round =>
      rename World => wk
      obtain ⟨k, rfl, hk, HNk, HOk, HKk⟩ := hrel
      have hsk := HKk.out.size
      have HBBk : Hid (BB wk ob M) := Lib.hid (HM4.out.kp HKk.out ⟨by omega, by omega⟩)
      by_cases hlt : k < n
      · have hki : (k : Int) < (n : Int) := by omega
        have b0 : wk.cell? ⟨ob, k, none⟩ = some (.bool (M.getD k false)) := HBBk.out.at (by have := HML.out; omega)
        have bl : ob < wk.heap.size := by omega
        have hkM : k < M.length := by have := HML.out; omega
        have o0 : wk.cell? ⟨w3.heap.size, 0, none⟩ = some (.int .i64 (numK M k : Int)) := by rw [HOk.out.cell]; rfl
        have of := HOk.out.frozen 0
        have ol := HOk.out.lt
        have n0 : wk.cell? ⟨w2.heap.size, k, none⟩ = some (.int .i64 ((numQ M n k).getD k 0)) := by
          rw [HNk.out.cell, List.getD_eq_getElem?_getD]
          have := numQ_len M n k
          have h2 : k < (numQ M n k).length := by omega
          simp [intV, h2]
        have nf := HNk.out.frozen k
        have nl := HNk.out.lt
        have hnk := numK_le M k
        have HKS : Hid (∀ b, M[k]? = some b → numK M (k + 1) = numK M k + if b then 1 else 0) := Lib.hid (fun b h => numK_succ h)
        have HMK : Hid (M[k]? = some (M.getD k false)) := Lib.hid (by rw [List.getD_eq_getElem?_getD, List.getElem?_eq_getElem hkM]; rfl)
        obtain ⟨g, hg⟩ : ∃ g, g = M.getD k false := ⟨_, rfl⟩
        rw [← hg] at b0 HMK
        obtain ⟨nk, hnk2⟩ : ∃ nk, nk = numK M k := ⟨_, rfl⟩
        have hne1 : ¬ w2.heap.size = w3.heap.size := by omega
        have hne2 : ¬ w3.heap.size = w2.heap.size := by omega
        have hne3 : ¬ ob = w2.heap.size := by omega
        have hne4 : ¬ w2.heap.size = ob := by omega
        have HN5 : Hid (Blk (wk.setCell ⟨w2.heap.size, k, none⟩ (.int .i64 (nk : Int))) w2.heap.size 3 (intV (numQ M n (k + 1))).toArray) := Lib.hid (by
          rw [numQ_next, hnk2]
          have h := HNk.out.set_ k (.int .i64 (numK M k : Int))
          rw [List.setIfInBounds_toArray] at h
          unfold intV
          rw [List.map_set]
          exact h)
        rw [← hnk2] at o0 hnk HOk HKS
        have hnk300 : nk ≤ 300 := by omega
        clear hg hnk2
        cases g with
        | false =>
          have HO5 : Hid (Blk (wk.setCell ⟨w2.heap.size, k, none⟩ (.int .i64 (nk : Int))) w3.heap.size 27 #[.int .i64 (numK M (k + 1) : Int), .slice none 0 0, .slice none 0 0]) := Lib.hid (by
            rw [HKS.out _ HMK.out]
            exact HOk.out.far (p := ⟨w2.heap.size, k, none⟩) hne2 _)
          have HK5 : Hid (Kp (fun c => c ≠ w2.heap.size ∧ c ≠ w3.heap.size) w4 (wk.setCell ⟨w2.heap.size, k, none⟩ (.int .i64 (nk : Int)))) := Lib.hid (HKk.out.setCell (p := ⟨w2.heap.size, k, none⟩) (fun h => absurd rfl h.1) _)
          go_wp2_with fail
          go_roundw
          case rel => exact ⟨k + 1, by go_num, by omega, HN5, HO5, HK5⟩
          case measure => simp [intOf]; omega
        | true =>
          have HN6 : Hid (Blk ((wk.setCell ⟨w2.heap.size, k, none⟩ (.int .i64 (nk : Int))).setCell ⟨w3.heap.size, 0, none⟩ (.int .i64 ((nk : Int) + 1))) w2.heap.size 3 (intV (numQ M n (k + 1))).toArray) := Lib.hid (HN5.out.far (p := ⟨w3.heap.size, 0, none⟩) hne1 _)
          have HO6 : Hid (Blk ((wk.setCell ⟨w2.heap.size, k, none⟩ (.int .i64 (nk : Int))).setCell ⟨w3.heap.size, 0, none⟩ (.int .i64 ((nk : Int) + 1))) w3.heap.size 27 #[.int .i64 (numK M (k + 1) : Int), .slice none 0 0, .slice none 0 0]) := Lib.hid (by
            rw [HKS.out _ HMK.out]
            have h := (HOk.out.far (p := ⟨w2.heap.size, k, none⟩) hne2 (.int .i64 (nk : Int))).set_ 0 (.int .i64 ((nk : Int) + 1))
            simpa using h)
          have HK6 : Hid (Kp (fun c => c ≠ w2.heap.size ∧ c ≠ w3.heap.size) w4 ((wk.setCell ⟨w2.heap.size, k, none⟩ (.int .i64 (nk : Int))).setCell ⟨w3.heap.size, 0, none⟩ (.int .i64 ((nk : Int) + 1)))) := Lib.hid ((HKk.out.setCell (p := ⟨w2.heap.size, k, none⟩) (fun h => absurd rfl h.1) _).setCell (p := ⟨w3.heap.size, 0, none⟩) (fun h => absurd rfl h.2) _)
          clear HN5
          go_wp2_with fail
          go_roundw
          case rel => exact ⟨k + 1, by go_num, by omega, HN6, HO6, HK6⟩
          case measure => simp [intOf]; omega
      · have hke : k = n := by omega
        have hkd : decide (k < n) = false := decide_eq_false hlt
        have hkd2 : decide ((k : Int) < (n : Int)) = false := decide_eq_false (by omega)
        have HNN : Hid (Blk wk w2.heap.size 3 (intV (numA M n)).toArray) := Lib.hid (by have h := HNk.out; rw [hke, numQ_all] at h; exact h)
        have HON : Hid (Blk wk w3.heap.size 27 #[.int .i64 (numK M n : Int), .slice none 0 0, .slice none 0 0]) := Lib.hid (by have h := HOk.out; rw [hke] at h; exact h)
        have HXk : Hid (Blk wk (w.heap.size + 1) 27 #[.int .i64 A.st, .slice p1 A.fin.length c1, .slice p2 A.ru.length c2]) := Lib.hid (HX4.out.kp HKk.out ⟨by omega, by omega⟩)
        have HRk : Hid (Blk wk (w.heap.size + 1 + 1) 27 #[.int .i64 0, .slice none 0 0, .slice none 0 0]) := Lib.hid (HR4.out.kp HKk.out ⟨by omega, by omega⟩)
        have HBk : Hid (Below w.heap.size w wk) := Lib.hid (HB4.out.trans (HKk.out.below HB4.out.size (fun c hc => ⟨by omega, by omega⟩)))
        have HF0 : Hid (wk.ownsRow w4.heap.size 3 1 (.slice none 0 0) (finK M (A.fin.take 0)).length (intV (finK M (A.fin.take 0)))) := Lib.hid (World.ownsRow_nil wk _ _ _)
        have x1 : wk.cell? ⟨w.heap.size + 1, 1, none⟩ = some (.slice p1 A.fin.length c1) := by rw [HXk.out.cell]; rfl
        have xl := HXk.out.lt
        have HFC0 : Hid (A.fin ≠ [] → ∃ b o, p1 = some ⟨b, o, none⟩ ∧ ∀ (i : Nat) (x : Int), A.fin[i]? = some x → w.cell? ⟨b, o + i, none⟩ = some (.int .i64 x)) := Lib.hid (by
          obtain ⟨fv, rv, e, ⟨p, c, e2, _, _, h⟩, _⟩ := HA.out
          simp only [Value.agg.injEq, Array.mk.injEq, List.cons.injEq, and_true, true_and] at e
          obtain ⟨rfl, rfl⟩ := e
          simp only [Value.slice.injEq] at e2
          obtain ⟨rfl, _, _⟩ := e2
          exact h)
        clear hke HNk HOk
        go_wp2_with fail
        go_loopw [44] (fun iv wm => ∃ (j : Nat) (fv : Value), iv = .int .i64 (j : Nat) ∧ j ≤ A.fin.length ∧ Hid (wm.ownsRow w4.heap.size 3 1 fv (finK M (A.fin.take j)).length (intV (finK M (A.fin.take j)))) ∧ Hid (Blk wm w3.heap.size 27 #[.int .i64 (numK M n : Int), fv, .slice none 0 0]) ∧ Hid (Kp (fun c => c < w4.heap.size ∧ c ≠ w3.heap.size) wk wm))
          (fun iv _ => A.fin.length - (intOf iv).toNat)
        case atStart => exact ⟨0, _, rfl, by omega, HF0, HON, Lib.hid (Kp.refl _ _)⟩
        case round =>
          rename World => wm
          obtain ⟨j, fv, rfl, hj, HFm, HOm, HKm⟩ := hrel
          have hsm := HKm.out.size
          have HNm : Hid (Blk wm (w2.heap.size) 3 (intV (numA M n)).toArray) := Lib.hid (HNN.out.kp HKm.out ⟨by omega, by omega⟩)
          have HBm : Hid (Below w.heap.size w wm) := Lib.hid (HBk.out.trans (HKm.out.below HBk.out.size (fun c hc => ⟨by omega, by omega⟩)))
          have HKBm : Hid (BB wm ob M) := Lib.hid (HBBk.out.kp HKm.out ⟨by omega, by omega⟩)
          by_cases hjl : j < A.fin.length
          · obtain ⟨x, hx⟩ : ∃ x, A.fin[j]? = some x := ⟨_, List.getElem?_eq_getElem hjl⟩
            obtain ⟨q, hxq, hq⟩ := st_nat HST.out (HFN.out x (List.mem_of_getElem? hx))
            obtain ⟨b, o, rfl, hfl2⟩ := HFC0.out (fun h => by simp [h] at hjl)
            have u0 : wm.cell? ⟨b, o + j, none⟩ = some (.int .i64 (q : Int)) := by
              have h := cell_later HBm.out (hfl2 j x hx)
              rw [hxq] at h
              exact h
            have m0 : wm.cell? ⟨ob, q, none⟩ = some (.bool (M.getD q false)) := HKBm.out.at (by have := HML.out; omega)
            have ml : ob < wm.heap.size := by omega
            have hji : (j : Int) < (A.fin.length : Int) := by omega
            have hqi : (q : Int) < (n : Int) := by omega
            have HTK : Hid (finK M (A.fin.take (j + 1)) = finK M (A.fin.take j) ++ if M.getD q false = true then [(numK M q : Int)] else []) := Lib.hid (by
              rw [List.take_add_one, hx, Option.toList_some, finK_app, finK_one, hxq]
              simp only [Int.toNat_natCast]
              split
              · rename_i h
                skip
                rfl
              · rfl)
            have hnl : numK M q ≤ q := numK_le M q
            obtain ⟨g, hg⟩ : ∃ g, g = M.getD q false := ⟨_, rfl⟩
            rw [← hg] at m0 HTK
            obtain ⟨nq, hnq⟩ : ∃ nq : Int, nq = (numK M q : Int) := ⟨_, rfl⟩
            have hnq0 : 0 ≤ nq ∧ nq ≤ 300 := by omega
            rw [← hnq] at HTK
            have HNQ := Lib.hid hnq
            clear hg hx hxq hfl2 hnq
            cases g with
            | false =>
              have HFS2 : Hid (wm.ownsRow w4.heap.size 3 1 fv (finK M (A.fin.take (j + 1))).length (intV (finK M (A.fin.take (j + 1))))) := Lib.hid (by
                rw [HTK.out, if_neg (by simp), List.append_nil]
                exact HFm.out)
              go_wp2_with fail
              go_roundw
              case rel => exact ⟨j + 1, fv, by go_num, by omega, HFS2, HOm, HKm⟩
              case measure => simp [intOf]; omega
            | true =>
              obtain ⟨am, mm, cm, rfl⟩ := own_slice HFm.out
              have HVO : Hid ((Value.slice am mm cm).ownBlock ≠ some (w2.heap.size) ∧ (Value.slice am mm cm).ownBlock ≠ some w3.heap.size ∧ ∀ b, (Value.slice am mm cm).ownBlock = some b → w4.heap.size ≤ b) := Lib.hid ⟨fun e => by
                obtain ⟨cur, _, hB⟩ := own_cells HFm.out e
                omega, fun e => by
                obtain ⟨cur, _, hB⟩ := own_cells HFm.out e
                omega, fun b e => by
                obtain ⟨cur, _, hB⟩ := own_cells HFm.out e
                exact hB⟩
              have HCS : Hid (∀ W : World, Kp (fun c => (Value.slice am mm cm).ownBlock ≠ some c) wm W → W.cell? ⟨w2.heap.size, q, none⟩ = some (.int .i64 nq) ∧ W.cell? ⟨w3.heap.size, 1, none⟩ = some (.slice am mm cm) ∧ W.frozen? ⟨w3.heap.size, 1, none⟩ = false ∧ w3.heap.size < W.heap.size) := Lib.hid (fun W hW => by
                have h1 := HNm.out.kp hW HVO.out.1
                have h2 := HOm.out.kp hW HVO.out.2.1
                exact ⟨by rw [numA_at h1 hq, ← HNQ.out], by rw [h2.cell]; rfl, h2.frozen _, h2.lt⟩)
              have HC2 : Hid (∀ W : World, Kp (fun c => (Value.slice am mm cm).ownBlock ≠ some c ∧ c ≠ w3.heap.size) wm W → W.cell? ⟨w2.heap.size, q, none⟩ = some (.int .i64 nq)) := Lib.hid (fun W hW => by
                have h1 := HNm.out.kp hW ⟨HVO.out.1, by omega⟩
                rw [numA_at h1 hq, ← HNQ.out])
              have HKF : Hid (∀ W : World, Kp (fun c => (Value.slice am mm cm).ownBlock ≠ some c) wm W → ∀ u, Kp (fun c => (Value.slice am mm cm).ownBlock ≠ some c ∧ c ≠ w3.heap.size) wm (W.setCell ⟨w3.heap.size, 1, none⟩ u)) := Lib.hid (fun W hW u => (hW.mono (fun _ _ h => h.1)).setCell (p := ⟨w3.heap.size, 1, none⟩) (fun h => absurd rfl h.2) u)
              have HKN : Hid (∀ W : World, Kp (fun c => (Value.slice am mm cm).ownBlock ≠ some c) wm W → Kp (fun c => (Value.slice am mm cm).ownBlock ≠ some c ∧ c ≠ w3.heap.size) wm W) := Lib.hid (fun W hW => hW.mono (fun _ _ h => h.1))
              have HKX : Hid (∀ o : Obj, Kp (fun c => (Value.slice am mm cm).ownBlock ≠ some c) wm (wm.alloc o).drew) := Lib.hid (fun o => ((Kp.refl _ wm).alloc o).drew)
              have HKG : Hid (∀ (o : Obj) (W : World), ((wm.alloc o).drew).grownBy W (Value.slice am mm cm).ownBlock → Kp (fun c => (Value.slice am mm cm).ownBlock ≠ some c) wm W) := Lib.hid (fun o W hg => ((Kp.refl _ wm).alloc o).drew.grown hg (fun k e hS => absurd e hS))
              have HOX : Hid (∀ o : Obj, ((wm.alloc o).drew).ownsRow w4.heap.size 3 1 (.slice am mm cm) (finK M (A.fin.take j)).length (intV (finK M (A.fin.take j)))) := Lib.hid (fun o => ownsRow_kp HFm.out (((Kp.refl (fun _ => True) wm).alloc o).drew) (fun _ _ => trivial))
              have HONE : Hid (∀ u ∈ [Value.int .i64 nq], u.oneCell' = true) := Lib.hid (fun u hu => by
                rw [List.mem_singleton] at hu; subst hu; rfl)
              have hfkl := finK_len M (A.fin.take j)
              rw [List.length_take] at hfkl
              have HM1 : Hid ((finK M (A.fin.take j)).length + 1 ≤ maxLen) := Lib.hid (by unfold maxLen; omega)
              have HM2 : Hid (((finK M (A.fin.take j)).length + 1) * 8 ≤ 140737488355328) := Lib.hid (by omega)
              have HBS : Hid (∀ o : Obj, w4.heap.size ≤ ((wm.alloc o).drew).heap.size) := Lib.hid (fun o => Nat.le_trans (by omega) (sz_1 wm o))
              have n0 := (HCS.out wm (Kp.refl _ _)).1
              have c1 := (HCS.out wm.drew (Kp.refl _ _).drew).2.1
              have c2 := (HCS.out (wm.alloc (.cells #[.int .i64 nq] 3)).drew ((Kp.refl _ wm).alloc _).drew).2.1
              have c0 := (HCS.out wm (Kp.refl _ _)).2.1
              have c2' := (HCS.out (wm.alloc (.cells #[.int .i64 nq] 3)) ((Kp.refl _ wm).alloc _)).2.1
              have hol := HOm.out.lt
              have hnl := HNm.out.lt
              clear hfkl
              go_wp2_with fail
              refine wp_region_held_drew (S := (fun W => W.cell? ⟨w2.heap.size, q, none⟩ = some (.int .i64 nq))) (by kernel_rfl) (by (try dsimp only); first | exact HC2.out _ (HKN.out _ (Kp.refl _ _).drew) | exact HC2.out _ (HKN.out _ (HKX.out _)) | exact HC2.out _ (HKN.out _ HK9.out) | exact HC2.out _ (HKF.out _ HK9.out _)) (fun hHeld => ?_)
              refine wpAnyH_take (i := 0) (oi := ⟨some 52, _, _, _, _, _⟩) (v := ?v0a) rfl (by kernel_rfl) (by kernel_rfl) (by kernel_rfl) (fun _ _ _ h => h) (Or.inl ⟨by rfl, ?y0a⟩) (by assumption) ?r0a
              case y0a => (intro w hSw; (try dsimp only at hSw); go_simp); (try with_reducible rfl)
              (try simp only [Act.put, List.setIfInBounds_toArray, List.set_cons_zero, List.set_cons_succ])
              refine wpAnyH_take (i := 2) (oi := ⟨some 54, _, _, _, _, _⟩) (v := ?v2a) rfl (by kernel_rfl) (by kernel_rfl) (by kernel_rfl) (fun _ _ _ h => h) (Or.inl ⟨by rfl, ?y2a⟩) (by assumption) ?r2a
              case y2a => (intro w hSw; (try dsimp only at hSw); go_simp); (try with_reducible rfl)
              (try simp only [Act.put, List.setIfInBounds_toArray, List.set_cons_zero, List.set_cons_succ])
              refine wpAnyH_take (i := 3) (oi := ⟨some 55, _, _, _, _, _⟩) (v := ?v3a) rfl (by kernel_rfl) (by kernel_rfl) (by kernel_rfl) (fun _ _ _ h => h) (Or.inl ⟨by rfl, ?y3a⟩) (by assumption) ?r3a
              case y3a => (intro w hSw; (try dsimp only at hSw); go_simp); (try with_reducible rfl)
              (try simp only [Act.put, List.setIfInBounds_toArray, List.set_cons_zero, List.set_cons_succ])
              refine wpAnyH_take (i := 4) (oi := ⟨some 56, _, _, _, _, _⟩) (v := ?v4a) rfl (by kernel_rfl) (by kernel_rfl) (by kernel_rfl) (fun _ _ _ h => h) (Or.inl ⟨by rfl, ?y4a⟩) (by assumption) ?r4a
              case y4a => (intro w hSw; (try dsimp only at hSw); go_simp); (try with_reducible rfl)
              (try simp only [Act.put, List.setIfInBounds_toArray, List.set_cons_zero, List.set_cons_succ])
              refine wpAnyH_take (i := 5) (oi := ⟨some 57, _, _, _, _, _⟩) (v := ?v5a) rfl (by kernel_rfl) (by kernel_rfl) (by kernel_rfl) (fun _ _ _ h => h) (Or.inl ⟨by rfl, ?y5a⟩) (by assumption) ?r5a
              case y5a => (intro w hSw; (try dsimp only at hSw); go_simp); (try with_reducible rfl)
              (try simp only [Act.put, List.setIfInBounds_toArray, List.set_cons_zero, List.set_cons_succ])
              refine wpAnyH_ready (rs := [1, 6]) (by kernel_rfl) (by simp) ?_
              refine AllReadyH.cons rfl (fun K hK => ?_) (AllReadyH.cons rfl (fun K hK => ?_) AllReadyH.nil)
              · skip
                go_simp
                refine hK.out _ _ (by (try dsimp only); first | exact HC2.out _ (HKN.out _ (Kp.refl _ _).drew) | exact HC2.out _ (HKN.out _ (HKX.out _)) | exact HC2.out _ (HKN.out _ HK9.out) | exact HC2.out _ (HKF.out _ HK9.out _)) (fun hHeld => ?_)
                clear hK K
                (try simp only [Act.put, List.setIfInBounds_toArray, List.set_cons_zero, List.set_cons_succ])
                refine wpAnyH_ready (rs := [6]) (by kernel_rfl) (by simp) ?_
                refine AllReadyH.cons rfl (fun K hK => ?_) AllReadyH.nil
                go_simp
                refine hK.out _ _ (by (try dsimp only); first | exact HC2.out _ (HKN.out _ (Kp.refl _ _).drew) | exact HC2.out _ (HKN.out _ (HKX.out _)) | exact HC2.out _ (HKN.out _ HK9.out) | exact HC2.out _ (HKF.out _ HK9.out _)) (fun hHeld => ?_)
                clear hK K
                (try simp only [Act.put, List.setIfInBounds_toArray, List.set_cons_zero, List.set_cons_succ])
                refine wpAnyH_ready (rs := [7]) (by kernel_rfl) (by simp) ?_
                refine AllReadyH.cons rfl (fun K hK => ?_) AllReadyH.nil
                refine step_append_own _ rfl (.tmp 53) (.tmp 58) 22 rfl w4.heap.size 3 i1 _ 1 8 Tryd.underlying22 HI1.out hy0 hy1 hy2 rfl (by decide) (.slice am mm cm) (finK M (A.fin.take j)).length (intV (finK M (A.fin.take j))) rfl (HOX.out _) _ 1 1 [.int .i64 nq] rfl rfl (new_one (bk_11 wm _ _)) HONE.out HM1.out HM2.out (HBS.out _) ?_
                intro v9 w9 ho9 hg9 hat9
                obtain ⟨a9, m9, k9, rfl⟩ := own_slice ho9
                have HO9 := Lib.hid ho9
                have HK9 := Lib.hid (HKG.out _ w9 hg9)
                have c3 := (HCS.out w9 HK9.out).2.1
                have f3 := (HCS.out w9 HK9.out).2.2.1
                have l3 := (HCS.out w9 HK9.out).2.2.2
                clear ho9 hg9 hat9
                refine hK.out _ _ (by (try dsimp only); first | exact HC2.out _ (HKN.out _ (Kp.refl _ _).drew) | exact HC2.out _ (HKN.out _ (HKX.out _)) | exact HC2.out _ (HKN.out _ HK9.out) | exact HC2.out _ (HKF.out _ HK9.out _)) (fun hHeld => ?_)
                clear hK K
                (try simp only [Act.put, List.setIfInBounds_toArray, List.set_cons_zero, List.set_cons_succ])
                refine wpAnyH_take (i := 8) (oi := ⟨some 60, _, _, _, _, _⟩) (v := ?v8ap) rfl (by kernel_rfl) (by kernel_rfl) (by kernel_rfl) (fun _ _ _ h => h) (Or.inl ⟨by rfl, ?y8ap⟩) (by assumption) ?r8ap
                case y8ap => (intro w hSw; (try dsimp only at hSw); go_simp); (try with_reducible rfl)
                (try simp only [Act.put, List.setIfInBounds_toArray, List.set_cons_zero, List.set_cons_succ])
                refine wpAnyH_ready (rs := [9]) (by kernel_rfl) (by simp) ?_
                refine AllReadyH.cons rfl (fun K hK => ?_) AllReadyH.nil
                go_simp
                refine hK.out _ _ (by (try dsimp only); first | exact HC2.out _ (HKN.out _ (Kp.refl _ _).drew) | exact HC2.out _ (HKN.out _ (HKX.out _)) | exact HC2.out _ (HKN.out _ HK9.out) | exact HC2.out _ (HKF.out _ HK9.out _)) (fun hHeld => ?_)
                clear hK K
                (try simp only [Act.put, List.setIfInBounds_toArray, List.set_cons_zero, List.set_cons_succ])
                refine wpAnyH_done (by kernel_rfl) ?_ _
                have hk9 := HKF.out w9 HK9.out (.slice a9 m9 k9)
                have HO10 : Hid (Blk (w9.setCell ⟨w3.heap.size, 1, none⟩ (.slice a9 m9 k9)) w3.heap.size 27 #[.int .i64 (numK M n : Int), .slice a9 m9 k9, .slice none 0 0]) := Lib.hid (by
                  have h := (HOm.out.kp HK9.out HVO.out.2.1).set_ 1 (.slice a9 m9 k9)
                  simpa using h)
                have HF10 : Hid ((w9.setCell ⟨w3.heap.size, 1, none⟩ (.slice a9 m9 k9)).ownsRow w4.heap.size 3 1 (.slice a9 m9 k9) (finK M (A.fin.take (j + 1))).length (intV (finK M (A.fin.take (j + 1))))) := Lib.hid (by
                  rw [HTK.out, if_pos trivial, intV_app, List.length_append]
                  exact ownsRow_kp HO9.out ((Kp.refl (fun c => c ≠ w3.heap.size) w9).setCell (p := ⟨w3.heap.size, 1, none⟩) (fun h => absurd rfl h) _) (fun b e => by
                    obtain ⟨cur, _, hB⟩ := own_cells HO9.out e
                    omega))
                have HK10 : Hid (Kp (fun c => c < w4.heap.size ∧ c ≠ w3.heap.size) wk (w9.setCell ⟨w3.heap.size, 1, none⟩ (.slice a9 m9 k9))) := Lib.hid (HKm.out.trans (hk9.mono (fun c _ hc => ⟨fun e => by have := HVO.out.2.2 c e; have := hc.1; omega, hc.2⟩)))
                clear hk9 c0 c1 c2 c2' c3 f3 l3 n0 hol hnl
                generalize w9.setCell ⟨w3.heap.size, 1, none⟩ (.slice a9 m9 k9) = w5 at *
                go_wp2_with fail
                go_roundw
                case rel => exact ⟨j + 1, _, by go_num, by omega, HF10, HO10, HK10⟩
                case measure => simp [intOf]; omega
              · skip
                go_simp
                refine hK.out _ _ (by (try dsimp only); first | exact HC2.out _ (HKN.out _ (Kp.refl _ _).drew) | exact HC2.out _ (HKN.out _ (HKX.out _)) | exact HC2.out _ (HKN.out _ HK9.out) | exact HC2.out _ (HKF.out _ HK9.out _)) (fun hHeld => ?_)
                clear hK K
                (try simp only [Act.put, List.setIfInBounds_toArray, List.set_cons_zero, List.set_cons_succ])
                refine wpAnyH_ready (rs := [1]) (by kernel_rfl) (by simp) ?_
                refine AllReadyH.cons rfl (fun K hK => ?_) AllReadyH.nil
                go_simp
                refine hK.out _ _ (by (try dsimp only); first | exact HC2.out _ (HKN.out _ (Kp.refl _ _).drew) | exact HC2.out _ (HKN.out _ (HKX.out _)) | exact HC2.out _ (HKN.out _ HK9.out) | exact HC2.out _ (HKF.out _ HK9.out _)) (fun hHeld => ?_)
                clear hK K
                (try simp only [Act.put, List.setIfInBounds_toArray, List.set_cons_zero, List.set_cons_succ])
                refine wpAnyH_ready (rs := [7]) (by kernel_rfl) (by simp) ?_
                refine AllReadyH.cons rfl (fun K hK => ?_) AllReadyH.nil
                refine step_append_own _ rfl (.tmp 53) (.tmp 58) 22 rfl w4.heap.size 3 i1 _ 1 8 Tryd.underlying22 HI1.out hy0 hy1 hy2 rfl (by decide) (.slice am mm cm) (finK M (A.fin.take j)).length (intV (finK M (A.fin.take j))) rfl (HOX.out _) _ 1 1 [.int .i64 nq] rfl rfl (new_one (bk_11 wm _ _)) HONE.out HM1.out HM2.out (HBS.out _) ?_
                intro v9 w9 ho9 hg9 hat9
                obtain ⟨a9, m9, k9, rfl⟩ := own_slice ho9
                have HO9 := Lib.hid ho9
                have HK9 := Lib.hid (HKG.out _ w9 hg9)
                have c3 := (HCS.out w9 HK9.out).2.1
                have f3 := (HCS.out w9 HK9.out).2.2.1
                have l3 := (HCS.out w9 HK9.out).2.2.2
                clear ho9 hg9 hat9
                refine hK.out _ _ (by (try dsimp only); first | exact HC2.out _ (HKN.out _ (Kp.refl _ _).drew) | exact HC2.out _ (HKN.out _ (HKX.out _)) | exact HC2.out _ (HKN.out _ HK9.out) | exact HC2.out _ (HKF.out _ HK9.out _)) (fun hHeld => ?_)
                clear hK K
                (try simp only [Act.put, List.setIfInBounds_toArray, List.set_cons_zero, List.set_cons_succ])
                refine wpAnyH_take (i := 8) (oi := ⟨some 60, _, _, _, _, _⟩) (v := ?v8aq) rfl (by kernel_rfl) (by kernel_rfl) (by kernel_rfl) (fun _ _ _ h => h) (Or.inl ⟨by rfl, ?y8aq⟩) (by assumption) ?r8aq
                case y8aq => (intro w hSw; (try dsimp only at hSw); go_simp); (try with_reducible rfl)
                (try simp only [Act.put, List.setIfInBounds_toArray, List.set_cons_zero, List.set_cons_succ])
                refine wpAnyH_ready (rs := [9]) (by kernel_rfl) (by simp) ?_
                refine AllReadyH.cons rfl (fun K hK => ?_) AllReadyH.nil
                go_simp
                refine hK.out _ _ (by (try dsimp only); first | exact HC2.out _ (HKN.out _ (Kp.refl _ _).drew) | exact HC2.out _ (HKN.out _ (HKX.out _)) | exact HC2.out _ (HKN.out _ HK9.out) | exact HC2.out _ (HKF.out _ HK9.out _)) (fun hHeld => ?_)
                clear hK K
                (try simp only [Act.put, List.setIfInBounds_toArray, List.set_cons_zero, List.set_cons_succ])
                refine wpAnyH_done (by kernel_rfl) ?_ _
                have hk9 := HKF.out w9 HK9.out (.slice a9 m9 k9)
                have HO10 : Hid (Blk (w9.setCell ⟨w3.heap.size, 1, none⟩ (.slice a9 m9 k9)) w3.heap.size 27 #[.int .i64 (numK M n : Int), .slice a9 m9 k9, .slice none 0 0]) := Lib.hid (by
                  have h := (HOm.out.kp HK9.out HVO.out.2.1).set_ 1 (.slice a9 m9 k9)
                  simpa using h)
                have HF10 : Hid ((w9.setCell ⟨w3.heap.size, 1, none⟩ (.slice a9 m9 k9)).ownsRow w4.heap.size 3 1 (.slice a9 m9 k9) (finK M (A.fin.take (j + 1))).length (intV (finK M (A.fin.take (j + 1))))) := Lib.hid (by
                  rw [HTK.out, if_pos trivial, intV_app, List.length_append]
                  exact ownsRow_kp HO9.out ((Kp.refl (fun c => c ≠ w3.heap.size) w9).setCell (p := ⟨w3.heap.size, 1, none⟩) (fun h => absurd rfl h) _) (fun b e => by
                    obtain ⟨cur, _, hB⟩ := own_cells HO9.out e
                    omega))
                have HK10 : Hid (Kp (fun c => c < w4.heap.size ∧ c ≠ w3.heap.size) wk (w9.setCell ⟨w3.heap.size, 1, none⟩ (.slice a9 m9 k9))) := Lib.hid (HKm.out.trans (hk9.mono (fun c _ hc => ⟨fun e => by have := HVO.out.2.2 c e; have := hc.1; omega, hc.2⟩)))
                clear hk9 c0 c1 c2 c2' c3 f3 l3 n0 hol hnl
                generalize w9.setCell ⟨w3.heap.size, 1, none⟩ (.slice a9 m9 k9) = w5 at *
                go_wp2_with fail
                go_roundw
                case rel => exact ⟨j + 1, _, by go_num, by omega, HF10, HO10, HK10⟩
                case measure => simp [intOf]; omega
          · have hjd : decide (j < A.fin.length) = false := decide_eq_false hjl
            have hjd2 : decide ((j : Int) < (A.fin.length : Int)) = false := decide_eq_false (by omega)
            have HFF : Hid (wm.ownsRow w4.heap.size 3 1 fv (finK M A.fin).length (intV (finK M A.fin))) := Lib.hid (by
              have h := HFm.out
              rw [List.take_of_length_le (by omega)] at h
              exact h)
            have HFT := Lib.hid (own_intsT HFF.out (by omega : w.heap.size + 3 ≤ w4.heap.size))
            have HXm : Hid (Blk wm (w.heap.size + 1) 27 #[.int .i64 A.st, .slice p1 A.fin.length c1, .slice p2 A.ru.length c2]) := Lib.hid (HXk.out.kp HKm.out ⟨by omega, by omega⟩)
            have HRm : Hid (Blk wm (w.heap.size + 1 + 1) 27 #[.int .i64 0, .slice none 0 0, .slice none 0 0]) := Lib.hid (HRk.out.kp HKm.out ⟨by omega, by omega⟩)
            have x0 : wm.cell? ⟨w.heap.size + 1, 0, none⟩ = some (.int .i64 A.st) := by rw [HXm.out.cell]; rfl
            have x1' : wm.cell? ⟨w.heap.size + 1, 1, none⟩ = some (.slice p1 A.fin.length c1) := by rw [HXm.out.cell]; rfl
            have x2 : wm.cell? ⟨w.heap.size + 1, 2, none⟩ = some (.slice p2 A.ru.length c2) := by rw [HXm.out.cell]; rfl
            have xl' := HXm.out.lt
            obtain ⟨pf, mf, cf, rfl⟩ := own_slice HFF.out
            have HBT := Lib.hid (between_ok A n HST.out hn300 hrl HGD.out.sts (frs_of HGD.out) (fun x hx y hy e => by
              have h1 := HGD.out.fit x hx
              have h2 := HGD.out.fit y hy
              rw [e, ← h2] at h1
              omega) M HML.out _ ob w2.heap.size wm (HA.out.below HBm.out) HKBm.out HNm.out)
            clear hjl HFm
            go_wp2_with fail
            refine HBT.out.mono ?_
            rintro e w5 ⟨⟨u, D, rfl, ho5, hst5, hm5, hi5⟩, hb5⟩
            obtain ⟨a5, d5, rfl⟩ := own_slice2 ho5
            have HI5 := Lib.hid hi5
            have HOW5 := Lib.hid ho5
            have HS5 := Lib.hid hst5
            have HM5 := Lib.hid hm5
            have HB5 : Hid (Below w.heap.size w w5) := Lib.hid (HBm.out.trans (hb5.mono HBm.out.size))
            have HO5 : Hid (Blk w5 w3.heap.size 27 #[.int .i64 (numK M n : Int), .slice pf mf cf, .slice none 0 0]) := Lib.hid (HOm.out.below hb5 HOm.out.lt)
            have HR5 : Hid (Blk w5 (w.heap.size + 1 + 1) 27 #[.int .i64 0, .slice none 0 0, .slice none 0 0]) := Lib.hid (HRm.out.below hb5 HRm.out.lt)
            have HF5 : Hid (IsIntsT (w.heap.size + 3) w5 (.slice pf mf cf) (finK M A.fin)) := Lib.hid (HFT.out.kp (Kp.of_below (S := fun _ => True) hb5 (fun k hk _ => hk)) (fun _ _ _ _ => trivial))
            clear ho5 hst5 hm5 hi5 hb5 HBT x0 x1 x1' x2 xl xl'
            have z2 : w5.cell? ⟨w3.heap.size, 2, none⟩ = some (.slice none 0 0) := by rw [HO5.out.cell]; rfl
            have z1 : w5.cell? ⟨w3.heap.size, 1, none⟩ = some (.slice pf mf cf) := by rw [HO5.out.cell]; rfl
            have z0 : w5.cell? ⟨w3.heap.size, 0, none⟩ = some (.int .i64 (numK M n : Int)) := by rw [HO5.out.cell]; rfl
            have zf := HO5.out.frozen 2
            have zl := HO5.out.lt
            have y0 : w5.cell? ⟨w.heap.size + 1 + 1, 0, none⟩ = some (.int .i64 0) := by rw [HR5.out.cell]; rfl
            have y1 : w5.cell? ⟨w.heap.size + 1 + 1, 1, none⟩ = some (.slice none 0 0) := by rw [HR5.out.cell]; rfl
            have y2 : w5.cell? ⟨w.heap.size + 1 + 1, 2, none⟩ = some (.slice none 0 0) := by rw [HR5.out.cell]; rfl
            have yf0 := HR5.out.frozen 0
            have yf1 := HR5.out.frozen 1
            have yf2 := HR5.out.frozen 2
            have yl := HR5.out.lt
            have hne1 : ¬ w.heap.size + 1 + 1 = w3.heap.size := by omega
            have hne2 : ¬ w3.heap.size = w.heap.size + 1 + 1 := by omega
            go_wp2_with fail
            have hkf : Kp (fun c => c ≠ w3.heap.size ∧ c ≠ w.heap.size + 1 + 1) w5 ((((w5.setCell ⟨w3.heap.size, 2, none⟩ (.slice a5 D.length d5)).setCell ⟨w.heap.size + 1 + 1, 0, none⟩ (.int .i64 (numK M n : Int))).setCell ⟨w.heap.size + 1 + 1, 1, none⟩ (.slice pf mf cf)).setCell ⟨w.heap.size + 1 + 1, 2, none⟩ (.slice a5 D.length d5)) :=
              ((((Kp.refl _ w5).setCell (p := ⟨w3.heap.size, 2, none⟩) (fun h => absurd rfl h.1) _).setCell (p := ⟨w.heap.size + 1 + 1, 0, none⟩) (fun h => absurd rfl h.2) _).setCell (p := ⟨w.heap.size + 1 + 1, 1, none⟩) (fun h => absurd rfl h.2) _).setCell (p := ⟨w.heap.size + 1 + 1, 2, none⟩) (fun h => absurd rfl h.2) _
            have hbf : Blk ((((w5.setCell ⟨w3.heap.size, 2, none⟩ (.slice a5 D.length d5)).setCell ⟨w.heap.size + 1 + 1, 0, none⟩ (.int .i64 (numK M n : Int))).setCell ⟨w.heap.size + 1 + 1, 1, none⟩ (.slice pf mf cf)).setCell ⟨w.heap.size + 1 + 1, 2, none⟩ (.slice a5 D.length d5)) (w.heap.size + 1 + 1) 27 #[.int .i64 (numK M n : Int), .slice pf mf cf, .slice a5 D.length d5] := by
              have h := (((HR5.out.far (p := ⟨w3.heap.size, 2, none⟩) hne1 (.slice a5 D.length d5)).set_ 0 (.int .i64 (numK M n : Int))).set_ 1 (.slice pf mf cf)).set_ 2 (.slice a5 D.length d5)
              simpa using h
            have hBf : Below w.heap.size w ((((w5.setCell ⟨w3.heap.size, 2, none⟩ (.slice a5 D.length d5)).setCell ⟨w.heap.size + 1 + 1, 0, none⟩ (.int .i64 (numK M n : Int))).setCell ⟨w.heap.size + 1 + 1, 1, none⟩ (.slice pf mf cf)).setCell ⟨w.heap.size + 1 + 1, 2, none⟩ (.slice a5 D.length d5)) :=
              HB5.out.trans (hkf.below HB5.out.size (fun c hc => ⟨by omega, by omega⟩))
            generalize (((w5.setCell ⟨w3.heap.size, 2, none⟩ (.slice a5 D.length d5)).setCell ⟨w.heap.size + 1 + 1, 0, none⟩ (.int .i64 (numK M n : Int))).setCell ⟨w.heap.size + 1 + 1, 1, none⟩ (.slice pf mf cf)).setCell ⟨w.heap.size + 1 + 1, 2, none⟩ (.slice a5 D.length d5) = wf at *
            refine bodyPost_ret (results_row_tmp3 rfl _ _ (w.heap.size + 1 + 1) 27 _ rfl hbf Tryd.underlying27 Tryd.infoAutoC) rfl ⟨⟨_, ⟨(numK M n : Int), finK M A.fin, D.map Prod.fst⟩, by rw [HE.out]; rfl, fun W hW => ?_, fun e => (by rw [HVA.out] at e; cases e), fun _ => ⟨M, by rw [← HNT.out]; exact HI.out, ⟨by rw [HML.out], rfl, HS5.out, HM5.out⟩⟩⟩, hBf⟩
            have hkf2 : Kp (fun c => (c ≠ w3.heap.size ∧ c ≠ w.heap.size + 1 + 1) ∧ w.heap.size + 3 ≤ c) w5 W := (hkf.mono (fun _ _ h => h.1)).trans (hW.mono (fun _ _ h => h.2))
            have hint : ∀ b cur, w.heap.size + 3 ≤ b → Blk w5 b 3 cur → (b ≠ w3.heap.size ∧ b ≠ w.heap.size + 1 + 1) ∧ w.heap.size + 3 ≤ b := fun b cur hB hb => ⟨⟨hb.ne_ HO5.out (by decide), hb.ne_ HR5.out (by decide)⟩, hB⟩
            refine ⟨_, _, rfl, ?_, ?_⟩
            · exact (HF5.out.kp hkf2 hint).isInts
            · exact isRus_of (w0 := W) (ownsRow_kp HOW5.out hkf2 (fun b e => by
                obtain ⟨cur, _, hB⟩ := own_cells HOW5.out e
                omega)) (fun x hx => ((HI5.out x hx).kp hkf2 (fun b cur hB hb => hint b cur (by omega) hb)).isInts) (Below.refl _ _)

end Go.Proofs.YtedfldbknjcnlaaDoor
