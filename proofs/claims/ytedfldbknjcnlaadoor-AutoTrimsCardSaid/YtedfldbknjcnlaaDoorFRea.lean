/- auto.reachable. -/
import Derived.Test.YtedfldbknjcnlaaDoorFG17
namespace Go.Proofs.YtedfldbknjcnlaaDoor
open Go.RowKit Go.Shelf Go.Maps Go.WideElems
attribute [local go_sem] Oper.semAt_some fwd fwf

set_option maxRecDepth 100000 in
set_option maxHeartbeats 8000000 in
theorem reachable_ok (A : Au) (n : Nat) (hst : A.st = (n : Int)) (hn : n ≤ 300) (hlen : A.ru.length ≤ 20000) (hru : ∀ r ∈ A.ru, stIn A.st r.to = true ∧ ∀ x ∈ r.fr, stIn A.st x = true) (h3 : ∀ r ∈ A.ru, r.fr.length ≤ 3) (v : Value) (w : World) (hA : IsAu w v A) :
    Calls Tryd.prog 57 #[v] w fun e w' => (∃ ob M, e = .returned (.slice (some ⟨ob, 0, none⟩) n n) ∧ BB w' ob M ∧ IsRch A.ru n M ∧ w.heap.size ≤ ob) ∧ Below w.heap.size w w' := by
  have HA := Lib.hid hA
  have HRU := Lib.hid hru
  have HST := Lib.hid hst
  have HR3 := Lib.hid h3
  obtain ⟨fv, uv, rfl, hf, hr⟩ := hA
  have HX0 := Lib.hid ((Blk.new w 27 #[.int .i64 A.st, fv, uv]).alloc (.cells #[.slice none 0 0, .map none] 113))
  have HB : Hid (Below w.heap.size w ((w.alloc (.cells #[.int .i64 A.st, fv, uv] 27)).alloc (.cells #[.slice none 0 0, .map none] 113))) := Lib.hid (((Below.refl _ w).alloc (Nat.le_refl _) _).alloc (by simp) _)
  obtain ⟨p1, c1, rfl, _⟩ := hf
  obtain ⟨p2, c2, rfl, hr3, hr4, hrc⟩ := hr
  obtain ⟨i0, hi, hz0, hz1, hz2⟩ := info_parts Tryd.infoInts
  obtain ⟨i1, hi1, hy0, hy1, hy2⟩ := info_parts Tryd.infoInt
  obtain ⟨i2, hi2, hx0, hx1, hx2⟩ := info_parts Tryd.infoBoolP
  have HI := Lib.hid hi
  have HI1 := Lib.hid hi1
  have HI2 := Lib.hid hi2
  unfold maxLen at hr4
  have HRC := Lib.hid hrc
  have HTD : Hid (Blk ((w.alloc (.cells #[.int .i64 A.st, .slice p1 A.fin.length c1, .slice p2 A.ru.length c2] 27)).alloc (.cells #[.slice none 0 0, .map none] 113)) (w.heap.size + 1) 113 #[.slice none 0 0, .map none]) := Lib.hid (by
    have := Blk.new (w.alloc (.cells #[.int .i64 A.st, .slice p1 A.fin.length c1, .slice p2 A.ru.length c2] 27)) 113 #[.slice none 0 0, .map none]
    simpa using this)
  have x0 : ((w.alloc (.cells #[.int .i64 A.st, .slice p1 A.fin.length c1, .slice p2 A.ru.length c2] 27)).alloc (.cells #[.slice none 0 0, .map none] 113)).cell? ⟨w.heap.size, 0, none⟩ = some (.int .i64 (n : Int)) := by rw [HX0.out.cell, ← HST.out]; rfl
  clear hrc hru hst hi hi1 hi2 h3
  refine Calls.of_callsIn (ro := none) (m := 0) ?_
  refine callsIn_of_wp_marks Tryd.func57 rfl trivial ?_ rfl
  simp only [Tryd.ntmps57, List.size_toArray, List.length_cons, List.length_nil, Nat.reduceAdd, Nat.reduceSub, Array.replicate_succ, Array.replicate_zero, List.push_toArray, List.append_toArray, List.nil_append, List.cons_append]
  refine wpIn_wide.2 ?_
  refine wp_mono (Q := noPanic _) ?_ noPanic_imp
  go_wp2_with (at_make; refine wpList_make_full _ rfl _ _ 114 rfl (w.heap.size + 2) 22 i0 _ 1 Tryd.underlying114 HI.out hz0 hz1 _ _ _ _ n rfl rfl rfl rfl (by rw [hz2]; omega) (by simp only [maxLen]; omega) (by simp) ?_)
  intro w2 hown hgrow
  have hG := own_full hown
  rw [toList_madeCells_one] at hG
  have hGl := hG.lt
  try simp only [World.size_alloc] at hGl
  try simp only [World.size_alloc] at hG
  have HB2 : Hid (Below w.heap.size w w2) := Lib.hid (HB.out.grown hgrow (by simp; omega) (fun j e => by simp at e))
  have HX2 : Hid (Blk w2 w.heap.size 27 #[.int .i64 A.st, .slice p1 A.fin.length c1, .slice p2 A.ru.length c2]) := Lib.hid ((hgrow.block _ HX0.out.lt (by simp)).trans HX0.out)
  have HT2 : Hid (Blk w2 (w.heap.size + 1) 113 #[.slice none 0 0, .map none]) := Lib.hid ((hgrow.block _ HTD.out.lt (by simp)).trans HTD.out)
  have HG2 := Lib.hid hG
  have HU2 := Lib.hid (Blk.new w2 114 #[.slice (some ⟨w.heap.size + 1 + 1, 0, none⟩) n n])
  have z2 : (w2.alloc (.cells #[.slice (some ⟨w.heap.size + 1 + 1, 0, none⟩) n n] 114)).cell? ⟨w.heap.size, 2, none⟩ = some (.slice p2 A.ru.length c2) := by rw [(HX2.out.alloc _).cell]; rfl
  have hl2 := HX2.out.lt
  clear hown hgrow hG x0
  go_wp2_with (at_make; refine wpList_make_full _ rfl _ _ 22 rfl (w.heap.size + 2) 3 i1 _ 1 Tryd.underlying22 HI1.out hy0 hy1 _ _ _ _ A.ru.length rfl rfl rfl rfl (by rw [hy2]; omega) (by simp only [maxLen]; omega) (by simp; omega) ?_)
  intro w3 hown hgrow
  have hG := own_full hown
  rw [toList_madeCells_one] at hG
  try simp only [World.size_alloc] at hG
  have HB3 : Hid (Below w.heap.size w w3) := Lib.hid ((HB2.out.alloc HB2.out.size _).grown hgrow (by simp; omega) (fun j e => by simp at e))
  have hs23 : w2.heap.size + 1 ≤ w3.heap.size := by have := hgrow.size; simpa using this
  have HX3 : Hid (Blk w3 w.heap.size 27 #[.int .i64 A.st, .slice p1 A.fin.length c1, .slice p2 A.ru.length c2]) := Lib.hid ((hgrow.block _ (by rw [World.size_alloc]; exact Nat.lt_succ_of_lt HX2.out.lt) (by simp)).trans (HX2.out.alloc _))
  have HT3 : Hid (Blk w3 (w.heap.size + 1) 113 #[.slice none 0 0, .map none]) := Lib.hid ((hgrow.block _ (by rw [World.size_alloc]; exact Nat.lt_succ_of_lt HT2.out.lt) (by simp)).trans (HT2.out.alloc _))
  have HG3 : Hid (Blk w3 (w.heap.size + 1 + 1) 22 (List.replicate n (Value.slice none 0 0)).toArray) := Lib.hid ((hgrow.block _ (by rw [World.size_alloc]; exact Nat.lt_succ_of_lt HG2.out.lt) (by simp)).trans (HG2.out.alloc _))
  have HU3 : Hid (Blk w3 w2.heap.size 114 #[.slice (some ⟨w.heap.size + 1 + 1, 0, none⟩) n n]) := Lib.hid ((hgrow.block _ HU2.out.lt (by simp)).trans HU2.out)
  have HM3 := Lib.hid hG
  have hml := hG.lt
  clear hown hgrow hG z2
  obtain ⟨w4, hw4⟩ : ∃ w4, w4 = w3.alloc (.cells #[.slice (some ⟨w2.heap.size + 1, 0, none⟩) A.ru.length A.ru.length] 22) := ⟨_, rfl⟩
  have HX4 : Hid (Blk w4 w.heap.size 27 #[.int .i64 A.st, .slice p1 A.fin.length c1, .slice p2 A.ru.length c2]) := Lib.hid (hw4 ▸ HX3.out.alloc _)
  have HU4 : Hid (Blk w4 w2.heap.size 114 #[.slice (some ⟨w.heap.size + 1 + 1, 0, none⟩) n n]) := Lib.hid (hw4 ▸ HU3.out.alloc _)
  have HV4 : Hid (Blk w4 w3.heap.size 22 #[.slice (some ⟨w2.heap.size + 1, 0, none⟩) A.ru.length A.ru.length]) := Lib.hid (hw4 ▸ Blk.new w3 _ _)
  have HB4 : Hid (Below w.heap.size w w4) := Lib.hid (hw4 ▸ HB3.out.alloc HB3.out.size _)
  have HP4 : Hid (PM (w3.heap.size + 1) n (w2.heap.size + 1) (w.heap.size + 1 + 1) (w.heap.size + 1) w4 (fun c => c = w.heap.size + 1) (List.replicate n (.slice none 0 0)) (fun q => useK A.ru q 0) (misK A.ru 0) [] []) := Lib.hid (by
    rw [misK_zero, hw4]
    exact PM.start (HG3.out.alloc _) (HM3.out.alloc _) (HT3.out.alloc _) (by omega) (by omega) (by omega))
  have hs4 : w4.heap.size = w3.heap.size + 1 := by rw [hw4]; simp
  have z4 : w4.cell? ⟨w.heap.size, 2, none⟩ = some (.slice p2 A.ru.length c2) := by rw [HX4.out.cell]; rfl
  have hl4 := HX4.out.lt
  rw [hw4] at z4 hl4
  have HW4 := Lib.hid hw4
  clear hw4
  go_wp2_with fail
  have hw4 := HW4.out
  simp only [← hw4] at *
  clear hw4 HW4 z4
  go_loopw [24] (fun iv wk => ∃ (k : Nat) (C : Nat → Prop) (rows : List Value) (S I : List Nat), iv = .int .i64 (k : Nat) ∧ k ≤ A.ru.length ∧ Hid (PM (w3.heap.size + 1) n (w2.heap.size + 1) (w.heap.size + 1 + 1) (w.heap.size + 1) wk C rows (fun q => useK A.ru q k) (misK A.ru k) S I) ∧ Hid (RMid A.ru n (List.replicate n false) S I (fun i => k ≤ i)) ∧ Hid (Kp (FxA (w3.heap.size + 1) (w2.heap.size + 1) (w.heap.size + 1 + 1) (w.heap.size + 1)) w4 wk))
    (fun iv _ => A.ru.length - (intOf iv).toNat)
  case atStart => exact ⟨0, _, _, [], [], rfl, by omega, HP4, Lib.hid ((RMid.start A.ru n).less (fun i r _ _ _ hd => absurd (Nat.zero_le i) hd)), Lib.hid (Kp.refl _ _)⟩
  case round =>
    rename World => wk
    obtain ⟨k, C, rows, S, I, rfl, hk, HP, HR, HK⟩ := hrel
    have HBk : Hid (Below w.heap.size w wk) := Lib.hid (HB4.out.trans (HK.out.below HB4.out.size (fun c hc => ⟨by omega, by omega, by omega, by omega⟩)))
    have HXk : Hid (Blk wk w.heap.size 27 #[.int .i64 A.st, .slice p1 A.fin.length c1, .slice p2 A.ru.length c2]) := Lib.hid (HX4.out.kp HK.out ⟨by omega, by omega, by omega, by omega⟩)
    have HUk : Hid (Blk wk w2.heap.size 114 #[.slice (some ⟨w.heap.size + 1 + 1, 0, none⟩) n n]) := Lib.hid (HU4.out.kp HK.out ⟨by omega, by omega, by omega, by omega⟩)
    have HVk : Hid (Blk wk w3.heap.size 22 #[.slice (some ⟨w2.heap.size + 1, 0, none⟩) A.ru.length A.ru.length]) := Lib.hid (HV4.out.kp HK.out ⟨by omega, by omega, by omega, by omega⟩)
    have hsk := HK.out.size
    by_cases hlt : k < A.ru.length
    · obtain ⟨r, hrk⟩ : ∃ r, A.ru[k]? = some r := ⟨_, List.getElem?_eq_getElem hlt⟩
      obtain ⟨b, o, rfl, hcl⟩ := HRC.out (fun h => by simp [h] at hlt)
      obtain ⟨q0w, ⟨u, q1w, hu⟩, q2w⟩ := hcl k r hrk
      have q0 := cell_later HBk.out q0w
      have q1 := cell_later HBk.out q1w
      have q2 := cell_later HBk.out q2w
      clear q0w q1w q2w
      have HU := Lib.hid hu
      obtain ⟨pu, cu, rfl, hu3, hu4, huc⟩ := hu
      unfold maxLen at hu4
      have HRK := Lib.hid hrk
      obtain ⟨rs, fr, rt⟩ := r
      have hin := HRU.out _ (List.mem_of_getElem? hrk)
      have hf3 := HR3.out _ (List.mem_of_getElem? hrk)
      simp only at q0 q1 q2 hu3 HU hin huc hf3
      obtain ⟨qt, hqt, hqn⟩ := st_nat HST.out hin.1
      subst hqt
      have HFI := Lib.hid hin.2
      have HUC := Lib.hid huc
      have hbl := World.block_lt_of_cell? _ _ q0
      simp only at hbl
      have hk1 : (k : Int) < (A.ru.length : Int) := by omega
      have HPA : Hid (PM (w3.heap.size + 1) n (w2.heap.size + 1) (w.heap.size + 1 + 1) (w.heap.size + 1) (wk.alloc (.cells #[.int .i64 rs, .slice pu fr.length cu, .int .i64 (qt : Int)] 70)) C rows (fun q => useK A.ru q k) (misK A.ru k) S I) := Lib.hid (HP.out.kpT ((Kp.refl _ wk).alloc _))
      have HNA := Lib.hid (Blk.new wk 70 #[.int .i64 rs, .slice pu fr.length cu, .int .i64 (qt : Int)])
      obtain ⟨wb, hwb⟩ : ∃ wb, wb = (wk.alloc (.cells #[.int .i64 rs, .slice pu fr.length cu, .int .i64 (qt : Int)] 70)).setCell ⟨w2.heap.size + 1, k, none⟩ (.int .i64 (fr.length : Int)) := ⟨_, rfl⟩
      have HPB : Hid (PM (w3.heap.size + 1) n (w2.heap.size + 1) (w.heap.size + 1 + 1) (w.heap.size + 1) wb C rows (fun q => useK A.ru q k) (misK A.ru (k + 1)) S I) := Lib.hid (by
        have := HPA.out.setM k (fr.length : Int)
        rw [misK_set (r := ⟨rs, fr, (qt : Int)⟩) HRK.out] at this
        rw [hwb]; exact this)
      have HNB : Hid (Blk wb wk.heap.size 70 #[.int .i64 rs, .slice pu fr.length cu, .int .i64 (qt : Int)]) := Lib.hid (hwb ▸ HNA.out.far (p := ⟨w2.heap.size + 1, k, none⟩) (by simp only; omega) _)
      have HKB : Hid (Kp (FxA (w3.heap.size + 1) (w2.heap.size + 1) (w.heap.size + 1 + 1) (w.heap.size + 1)) w4 wb) := Lib.hid (hwb ▸ (HK.out.alloc _).setCell (p := ⟨w2.heap.size + 1, k, none⟩) (fun h => absurd rfl h.2.1) _)
      have n1 : (wk.alloc (.cells #[.int .i64 rs, .slice pu fr.length cu, .int .i64 (qt : Int)] 70)).cell? ⟨wk.heap.size, 1, none⟩ = some (.slice pu fr.length cu) := by rw [HNA.out.cell]; rfl
      have n2 : (wk.alloc (.cells #[.int .i64 rs, .slice pu fr.length cu, .int .i64 (qt : Int)] 70)).cell? ⟨w3.heap.size, 0, none⟩ = some (.slice (some ⟨w2.heap.size + 1, 0, none⟩) A.ru.length A.ru.length) := by rw [(HVk.out.alloc _).cell]; rfl
      have nm := HPA.out.mcell (i := k) (by rw [misK_len]; exact hlt)
      have nf := HPA.out.m.frozen k
      have nl := HPA.out.m.lt
      have nb : wb.cell? ⟨wk.heap.size, 1, none⟩ = some (.slice pu fr.length cu) := by rw [HNB.out.cell]; rfl
      have nlb := HNB.out.lt
      have hl3 : w3.heap.size < (wk.alloc (.cells #[.int .i64 rs, .slice pu fr.length cu, .int .i64 (qt : Int)] 70)).heap.size := (HVk.out.alloc _).lt
      rw [hwb] at nb nlb
      have HWB := Lib.hid hwb
      clear hrk hcl hin huc hwb
      go_wp2_with fail
      have HWB' := HWB.out
      simp only [← HWB'] at *
      clear HWB' HWB
      have HSB := Lib.hid (show w4.heap.size ≤ wb.heap.size from HKB.out.size)
      go_loopw [38] (fun jv wj => ∃ (j : Nat) (rows2 : List Value), jv = .int .i64 (j : Nat) ∧ j ≤ fr.length ∧ Hid (PM (w3.heap.size + 1) n (w2.heap.size + 1) (w.heap.size + 1 + 1) (w.heap.size + 1) wj C rows2 (fun q => useJ A.ru k (fr.take j) q) (misK A.ru (k + 1)) S I) ∧ Hid (Blk wj wk.heap.size 70 #[.int .i64 rs, .slice pu fr.length cu, .int .i64 (qt : Int)]) ∧ Hid (Kp (FxA (w3.heap.size + 1) (w2.heap.size + 1) (w.heap.size + 1 + 1) (w.heap.size + 1)) w4 wj))
        (fun jv _ => fr.length - (intOf jv).toNat)
      case atStart => exact ⟨0, rows, rfl, by omega, by
        have := HPB
        simp only [List.take_zero, useJ_zero]
        exact this, HNB, HKB⟩
      case round =>
        rename World => wj
        obtain ⟨j, rows2, rfl, hj, HPj, HNj, HKj⟩ := hrel
        have HBj : Hid (Below w.heap.size w wj) := Lib.hid (HB4.out.trans (HKj.out.below HB4.out.size (fun c hc => ⟨by omega, by omega, by omega, by omega⟩)))
        have hsj := HKj.out.size
        by_cases hjl : j < fr.length
        · obtain ⟨x, hx⟩ : ∃ x, fr[j]? = some x := ⟨_, List.getElem?_eq_getElem hjl⟩
          obtain ⟨q, rfl, hq⟩ := st_nat HST.out (HFI.out x (List.mem_of_getElem? hx))
          obtain ⟨bu, ou, rfl, hcu⟩ := HUC.out (fun h => by simp [h] at hjl)
          have u0 : wj.cell? ⟨bu, ou + j, none⟩ = some (.int .i64 (q : Int)) := cell_later HBj.out (hcu j _ hx)
          have hj1 : (j : Int) < (fr.length : Int) := by omega
          have hqn2 : (q : Int) < (n : Int) := by omega
          obtain ⟨va, hva, hvc⟩ := HPj.out.rcell hq
          have hrow := HPj.out.row q va hva
          have HTK : Hid (fr.take (j + 1) = fr.take j ++ [(q : Int)]) := Lib.hid (by rw [List.take_add_one, hx]; rfl)
          have HVO : Hid (va.ownBlock ≠ some w2.heap.size ∧ va.ownBlock ≠ some (w.heap.size + 1 + 1) ∧ va.ownBlock ≠ some wk.heap.size) := Lib.hid ⟨fun e => by have := (HPj.out.lt_row hva e).1; omega, fun e => (HPj.out.lt_row hva e).2.2.1 rfl, fun e => by
            obtain ⟨cur, hcur, _⟩ := own_cells hrow e
            exact HNj.out.ne_ hcur (by decide) rfl⟩
          have HUj : Hid (Blk wj w2.heap.size 114 #[.slice (some ⟨w.heap.size + 1 + 1, 0, none⟩) n n]) := Lib.hid (HU4.out.kp HKj.out ⟨by omega, by omega, by omega, by omega⟩)
          have HGj := Lib.hid HPj.out.g
          have HVA := Lib.hid hva
          obtain ⟨am, mm, cm, rfl⟩ := own_slice hrow
          have HROW := Lib.hid hrow
          have HCS : Hid (∀ W : World, Kp (fun c => (Value.slice am mm cm).ownBlock ≠ some c) wj W → W.cell? ⟨w2.heap.size, 0, none⟩ = some (.slice (some ⟨w.heap.size + 1 + 1, 0, none⟩) n n) ∧ W.cell? ⟨w.heap.size + 1 + 1, q, none⟩ = some (.slice am mm cm) ∧ W.frozen? ⟨w.heap.size + 1 + 1, q, none⟩ = false ∧ w.heap.size + 1 + 1 < W.heap.size) := Lib.hid (fun W hW => by
            have h1 := HUj.out.kp hW HVO.out.1
            have h2 := HGj.out.kp hW HVO.out.2.1
            exact ⟨by rw [h1.cell]; rfl, by rw [h2.cell]; simpa using HVA.out, h2.frozen _, h2.lt⟩)
          have HC2 : Hid (∀ W : World, Kp (fun c => (Value.slice am mm cm).ownBlock ≠ some c ∧ c ≠ w.heap.size + 1 + 1) wj W → W.cell? ⟨w2.heap.size, 0, none⟩ = some (.slice (some ⟨w.heap.size + 1 + 1, 0, none⟩) n n)) := Lib.hid (fun W hW => by
            have h1 := HUj.out.kp hW ⟨HVO.out.1, by omega⟩
            rw [h1.cell]; rfl)
          have HKF : Hid (∀ W : World, Kp (fun c => (Value.slice am mm cm).ownBlock ≠ some c) wj W → ∀ u, Kp (fun c => (Value.slice am mm cm).ownBlock ≠ some c ∧ c ≠ w.heap.size + 1 + 1) wj (W.setCell ⟨w.heap.size + 1 + 1, q, none⟩ u)) := Lib.hid (fun W hW u => (hW.mono (fun _ _ h => h.1)).setCell (p := ⟨w.heap.size + 1 + 1, q, none⟩) (fun h => absurd rfl h.2) u)
          have HKN : Hid (∀ W : World, Kp (fun c => (Value.slice am mm cm).ownBlock ≠ some c) wj W → Kp (fun c => (Value.slice am mm cm).ownBlock ≠ some c ∧ c ≠ w.heap.size + 1 + 1) wj W) := Lib.hid (fun W hW => hW.mono (fun _ _ h => h.1))
          have HKX : Hid (∀ o : Obj, Kp (fun c => (Value.slice am mm cm).ownBlock ≠ some c) wj (wj.alloc o).drew) := Lib.hid (fun o => ((Kp.refl _ wj).alloc o).drew)
          have HKG : Hid (∀ (o : Obj) (W : World), ((wj.alloc o).drew).grownBy W (Value.slice am mm cm).ownBlock → Kp (fun c => (Value.slice am mm cm).ownBlock ≠ some c) wj W) := Lib.hid (fun o W hg => ((Kp.refl _ wj).alloc o).drew.grown hg (fun k e hS => absurd e hS))
          have HOX : Hid (∀ o : Obj, ((wj.alloc o).drew).ownsRow (w3.heap.size + 1) 3 1 (.slice am mm cm) (useJ A.ru k (fr.take j) q).length (intV (useJ A.ru k (fr.take j) q))) := Lib.hid (fun o => ownsRow_kp HROW.out (((Kp.refl (fun _ => True) wj).alloc o).drew) (fun _ _ => trivial))
          have HONE : Hid (∀ u ∈ [Value.int .i64 (k : Int)], u.oneCell' = true) := Lib.hid (fun u hu => by
            rw [List.mem_singleton] at hu; subst hu; rfl)
          have HUL := Lib.hid (useJ_len HR3.out k (fr.take j) (by rw [List.length_take]; omega) q)
          have HM1 : Hid ((useJ A.ru k (fr.take j) q).length + 1 ≤ maxLen) := Lib.hid (by have := HUL.out; unfold maxLen; omega)
          have HM2 : Hid (((useJ A.ru k (fr.take j) q).length + 1) * 8 ≤ 140737488355328) := Lib.hid (by have := HUL.out; omega)
          have HBS : Hid (∀ o : Obj, w3.heap.size + 1 ≤ ((wj.alloc o).drew).heap.size) := Lib.hid (fun o => Nat.le_trans (by omega) (sz_1 wj o))
          have c1 := (HCS.out wj.drew (Kp.refl _ _).drew).2.1
          have c2 := (HCS.out (wj.alloc (.cells #[.int .i64 (k : Int)] 3)).drew ((Kp.refl _ wj).alloc _).drew).2.1
          have c0 := (HCS.out wj (Kp.refl _ _)).2.1
          have c2' := (HCS.out (wj.alloc (.cells #[.int .i64 (k : Int)] 3)) ((Kp.refl _ wj).alloc _)).2.1
          have hgl := HGj.out.lt
          have hul := HUj.out.lt
          clear hcu hva hrow hvc
          go_wp2_with fail
          refine wp_region_held_drew (S := (fun W => W.cell? ⟨w2.heap.size, 0, none⟩ = some (.slice (some ⟨w.heap.size + 1 + 1, 0, none⟩) n n))) (by kernel_rfl) (by (try dsimp only); first | exact HC2.out _ (HKN.out _ (Kp.refl _ _).drew) | exact HC2.out _ (HKN.out _ (HKX.out _)) | exact HC2.out _ (HKN.out _ HK9.out) | exact HC2.out _ (HKF.out _ HK9.out _)) (fun hHeld => ?_)
          refine wpAnyH_take (i := 0) (v := ?v0) rfl (by kernel_rfl) (by kernel_rfl) (by kernel_rfl) (fun _ _ _ h => h) (Or.inl ⟨by rfl, ?y0⟩) (by assumption) ?r0
          case y0 => (intro w hSw; (try dsimp only at hSw); go_simp); (try with_reducible rfl)
          (try simp only [Act.put, List.setIfInBounds_toArray, List.set_cons_zero, List.set_cons_succ])
          refine wpAnyH_take (i := 1) (v := ?v1) rfl (by kernel_rfl) (by kernel_rfl) (by kernel_rfl) (fun _ _ _ h => h) (Or.inl ⟨by rfl, ?y1⟩) (by assumption) ?r1
          case y1 => (intro w hSw; (try dsimp only at hSw); go_simp); (try with_reducible rfl)
          (try simp only [Act.put, List.setIfInBounds_toArray, List.set_cons_zero, List.set_cons_succ])
          refine wpAnyH_take (i := 2) (v := ?v2) rfl (by kernel_rfl) (by kernel_rfl) (by kernel_rfl) (fun _ _ _ h => h) (Or.inl ⟨by rfl, ?y2⟩) (by assumption) ?r2
          case y2 => (intro w hSw; (try dsimp only at hSw); go_simp); (try with_reducible rfl)
          (try simp only [Act.put, List.setIfInBounds_toArray, List.set_cons_zero, List.set_cons_succ])
          refine wpAnyH_take (i := 3) (v := ?v3) rfl (by kernel_rfl) (by kernel_rfl) (by kernel_rfl) (fun _ _ _ h => h) (Or.inl ⟨by rfl, ?y3⟩) (by assumption) ?r3
          case y3 => (intro w hSw; (try dsimp only at hSw); go_simp); (try with_reducible rfl)
          (try simp only [Act.put, List.setIfInBounds_toArray, List.set_cons_zero, List.set_cons_succ])
          refine wpAnyH_take (i := 4) (v := ?v4) rfl (by kernel_rfl) (by kernel_rfl) (by kernel_rfl) (fun _ _ _ h => h) (Or.inl ⟨by rfl, ?y4⟩) (by assumption) ?r4
          case y4 => (intro w hSw; (try dsimp only at hSw); go_simp); (try with_reducible rfl)
          (try simp only [Act.put, List.setIfInBounds_toArray, List.set_cons_zero, List.set_cons_succ])
          refine wpAnyH_take (i := 6) (v := ?v6) rfl (by kernel_rfl) (by kernel_rfl) (by kernel_rfl) (fun _ _ _ h => h) (Or.inl ⟨by rfl, ?y6⟩) (by assumption) ?r6
          case y6 => (intro w hSw; (try dsimp only at hSw); go_simp); (try with_reducible rfl)
          (try simp only [Act.put, List.setIfInBounds_toArray, List.set_cons_zero, List.set_cons_succ])
          refine wpAnyH_ready (rs := [5, 7]) (by kernel_rfl) (by simp) ?_
          refine AllReadyH.cons rfl (fun K hK => ?_) (AllReadyH.cons rfl (fun K hK => ?_) AllReadyH.nil)
          · skip
            go_simp
            refine hK.out _ _ (by (try dsimp only); first | exact HC2.out _ (HKN.out _ (Kp.refl _ _).drew) | exact HC2.out _ (HKN.out _ (HKX.out _)) | exact HC2.out _ (HKN.out _ HK9.out) | exact HC2.out _ (HKF.out _ HK9.out _)) (fun hHeld => ?_)
            clear hK K
            (try simp only [Act.put, List.setIfInBounds_toArray, List.set_cons_zero, List.set_cons_succ])
            refine wpAnyH_ready (rs := [7]) (by kernel_rfl) (by simp) ?_
            refine AllReadyH.cons rfl (fun K hK => ?_) AllReadyH.nil
            go_simp
            refine hK.out _ _ (by (try dsimp only); first | exact HC2.out _ (HKN.out _ (Kp.refl _ _).drew) | exact HC2.out _ (HKN.out _ (HKX.out _)) | exact HC2.out _ (HKN.out _ HK9.out) | exact HC2.out _ (HKF.out _ HK9.out _)) (fun hHeld => ?_)
            clear hK K
            (try simp only [Act.put, List.setIfInBounds_toArray, List.set_cons_zero, List.set_cons_succ])
            refine wpAnyH_ready (rs := [8]) (by kernel_rfl) (by simp) ?_
            refine AllReadyH.cons rfl (fun K hK => ?_) AllReadyH.nil
            refine step_append_own _ rfl (.tmp 47) (.tmp 49) 22 rfl (w3.heap.size + 1) 3 i1 _ 1 8 Tryd.underlying22 HI1.out hy0 hy1 hy2 rfl (by decide) (.slice am mm cm) (useJ A.ru k (fr.take j) q).length (intV (useJ A.ru k (fr.take j) q)) rfl (HOX.out _) _ 1 1 [.int .i64 (k : Int)] rfl rfl (new_one (bk_11 wj _ _)) HONE.out HM1.out HM2.out (HBS.out _) ?_
            intro v9 w9 ho9 hg9 hat9
            obtain ⟨a9, m9, k9, rfl⟩ := own_slice ho9
            have HO9 := Lib.hid ho9
            have HK9 := Lib.hid (HKG.out _ w9 hg9)
            have HAT := Lib.hid hat9
            have c3 := (HCS.out w9 HK9.out).2.1
            have f3 := (HCS.out w9 HK9.out).2.2.1
            have l3 := (HCS.out w9 HK9.out).2.2.2
            clear ho9 hg9 hat9
            refine hK.out _ _ (by (try dsimp only); first | exact HC2.out _ (HKN.out _ (Kp.refl _ _).drew) | exact HC2.out _ (HKN.out _ (HKX.out _)) | exact HC2.out _ (HKN.out _ HK9.out) | exact HC2.out _ (HKF.out _ HK9.out _)) (fun hHeld => ?_)
            clear hK K
            (try simp only [Act.put, List.setIfInBounds_toArray, List.set_cons_zero, List.set_cons_succ])
            refine wpAnyH_take (i := 9) (v := ?v9) rfl (by kernel_rfl) (by kernel_rfl) (by kernel_rfl) (fun _ _ _ h => h) (Or.inl ⟨by rfl, ?y9⟩) (by assumption) ?r9
            case y9 => (intro w hSw; (try dsimp only at hSw); go_simp); (try with_reducible rfl)
            (try simp only [Act.put, List.setIfInBounds_toArray, List.set_cons_zero, List.set_cons_succ])
            refine wpAnyH_ready (rs := [10]) (by kernel_rfl) (by simp) ?_
            refine AllReadyH.cons rfl (fun K hK => ?_) AllReadyH.nil
            go_simp
            refine hK.out _ _ (by (try dsimp only); first | exact HC2.out _ (HKN.out _ (Kp.refl _ _).drew) | exact HC2.out _ (HKN.out _ (HKX.out _)) | exact HC2.out _ (HKN.out _ HK9.out) | exact HC2.out _ (HKF.out _ HK9.out _)) (fun hHeld => ?_)
            clear hK K
            (try simp only [Act.put, List.setIfInBounds_toArray, List.set_cons_zero, List.set_cons_succ])
            refine wpAnyH_done (by kernel_rfl) ?_ _
            have hPQ := HPj.out.app (U' := fun p => useJ A.ru k (fr.take (j + 1)) p) HVA.out HK9.out (by
              have e : useJ A.ru k (fr.take (j + 1)) q = useJ A.ru k (fr.take j) q ++ [(k : Int)] := by
                have := useJ_same A.ru k (fr.take j) (q : Int)
                rw [Int.toNat_natCast] at this
                rw [HTK.out, this]
              show w9.ownsRow _ _ 1 _ (useJ A.ru k (fr.take (j + 1)) q).length (intV (useJ A.ru k (fr.take (j + 1)) q))
              rw [e, intV_app, List.length_append]
              exact HO9.out) (by
              rcases HAT.out with e | e
              · exact .inl e
              · exact .inr ⟨_, e, sz_1 wj _⟩) (fun p hp => by
              have := useJ_other A.ru k (fr.take j) (q : Int) p (by rw [Int.toNat_natCast]; exact fun e => hp e.symm)
              show useJ A.ru k (fr.take (j + 1)) p = _
              rw [HTK.out, this])
            have HPQ := Lib.hid hPQ.1
            have HNQ := Lib.hid (HNj.out.kp hPQ.2 ⟨HVO.out.2.2, HNj.out.ne_ HGj.out (by decide)⟩)
            have HKQ : Hid (Kp (FxA (w3.heap.size + 1) (w2.heap.size + 1) (w.heap.size + 1 + 1) (w.heap.size + 1)) w4 (w9.setCell ⟨w.heap.size + 1 + 1, q, none⟩ (.slice a9 m9 k9))) := Lib.hid (HKj.out.trans (hPQ.2.mono (fun c _ hc => ⟨fun e => by
              have h1 := (HPj.out.lt_row HVA.out e).1
              have h2 := hc.1
              omega, hc.2.2.1⟩)))
            clear hPQ c0 c1 c2 c2' c3 f3 l3 hgl hul
            generalize w9.setCell ⟨w.heap.size + 1 + 1, q, none⟩ (.slice a9 m9 k9) = w5 at *
            go_wp2_with fail
            go_roundw
            case rel => exact ⟨j + 1, _, by go_num, by omega, HPQ, HNQ, HKQ⟩
            case measure => simp [intOf]; omega
          · skip
            go_simp
            refine hK.out _ _ (by (try dsimp only); first | exact HC2.out _ (HKN.out _ (Kp.refl _ _).drew) | exact HC2.out _ (HKN.out _ (HKX.out _)) | exact HC2.out _ (HKN.out _ HK9.out) | exact HC2.out _ (HKF.out _ HK9.out _)) (fun hHeld => ?_)
            clear hK K
            (try simp only [Act.put, List.setIfInBounds_toArray, List.set_cons_zero, List.set_cons_succ])
            refine wpAnyH_ready (rs := [5]) (by kernel_rfl) (by simp) ?_
            refine AllReadyH.cons rfl (fun K hK => ?_) AllReadyH.nil
            go_simp
            refine hK.out _ _ (by (try dsimp only); first | exact HC2.out _ (HKN.out _ (Kp.refl _ _).drew) | exact HC2.out _ (HKN.out _ (HKX.out _)) | exact HC2.out _ (HKN.out _ HK9.out) | exact HC2.out _ (HKF.out _ HK9.out _)) (fun hHeld => ?_)
            clear hK K
            (try simp only [Act.put, List.setIfInBounds_toArray, List.set_cons_zero, List.set_cons_succ])
            refine wpAnyH_ready (rs := [8]) (by kernel_rfl) (by simp) ?_
            refine AllReadyH.cons rfl (fun K hK => ?_) AllReadyH.nil
            refine step_append_own _ rfl (.tmp 47) (.tmp 49) 22 rfl (w3.heap.size + 1) 3 i1 _ 1 8 Tryd.underlying22 HI1.out hy0 hy1 hy2 rfl (by decide) (.slice am mm cm) (useJ A.ru k (fr.take j) q).length (intV (useJ A.ru k (fr.take j) q)) rfl (HOX.out _) _ 1 1 [.int .i64 (k : Int)] rfl rfl (new_one (bk_11 wj _ _)) HONE.out HM1.out HM2.out (HBS.out _) ?_
            intro v9 w9 ho9 hg9 hat9
            obtain ⟨a9, m9, k9, rfl⟩ := own_slice ho9
            have HO9 := Lib.hid ho9
            have HK9 := Lib.hid (HKG.out _ w9 hg9)
            have HAT := Lib.hid hat9
            have c3 := (HCS.out w9 HK9.out).2.1
            have f3 := (HCS.out w9 HK9.out).2.2.1
            have l3 := (HCS.out w9 HK9.out).2.2.2
            clear ho9 hg9 hat9
            refine hK.out _ _ (by (try dsimp only); first | exact HC2.out _ (HKN.out _ (Kp.refl _ _).drew) | exact HC2.out _ (HKN.out _ (HKX.out _)) | exact HC2.out _ (HKN.out _ HK9.out) | exact HC2.out _ (HKF.out _ HK9.out _)) (fun hHeld => ?_)
            clear hK K
            (try simp only [Act.put, List.setIfInBounds_toArray, List.set_cons_zero, List.set_cons_succ])
            refine wpAnyH_take (i := 9) (v := ?v9b) rfl (by kernel_rfl) (by kernel_rfl) (by kernel_rfl) (fun _ _ _ h => h) (Or.inl ⟨by rfl, ?y9b⟩) (by assumption) ?r9b
            case y9b => (intro w hSw; (try dsimp only at hSw); go_simp); (try with_reducible rfl)
            (try simp only [Act.put, List.setIfInBounds_toArray, List.set_cons_zero, List.set_cons_succ])
            refine wpAnyH_ready (rs := [10]) (by kernel_rfl) (by simp) ?_
            refine AllReadyH.cons rfl (fun K hK => ?_) AllReadyH.nil
            go_simp
            refine hK.out _ _ (by (try dsimp only); first | exact HC2.out _ (HKN.out _ (Kp.refl _ _).drew) | exact HC2.out _ (HKN.out _ (HKX.out _)) | exact HC2.out _ (HKN.out _ HK9.out) | exact HC2.out _ (HKF.out _ HK9.out _)) (fun hHeld => ?_)
            clear hK K
            (try simp only [Act.put, List.setIfInBounds_toArray, List.set_cons_zero, List.set_cons_succ])
            refine wpAnyH_done (by kernel_rfl) ?_ _
            have hPQ := HPj.out.app (U' := fun p => useJ A.ru k (fr.take (j + 1)) p) HVA.out HK9.out (by
              have e : useJ A.ru k (fr.take (j + 1)) q = useJ A.ru k (fr.take j) q ++ [(k : Int)] := by
                have := useJ_same A.ru k (fr.take j) (q : Int)
                rw [Int.toNat_natCast] at this
                rw [HTK.out, this]
              show w9.ownsRow _ _ 1 _ (useJ A.ru k (fr.take (j + 1)) q).length (intV (useJ A.ru k (fr.take (j + 1)) q))
              rw [e, intV_app, List.length_append]
              exact HO9.out) (by
              rcases HAT.out with e | e
              · exact .inl e
              · exact .inr ⟨_, e, sz_1 wj _⟩) (fun p hp => by
              have := useJ_other A.ru k (fr.take j) (q : Int) p (by rw [Int.toNat_natCast]; exact fun e => hp e.symm)
              show useJ A.ru k (fr.take (j + 1)) p = _
              rw [HTK.out, this])
            have HPQ := Lib.hid hPQ.1
            have HNQ := Lib.hid (HNj.out.kp hPQ.2 ⟨HVO.out.2.2, HNj.out.ne_ HGj.out (by decide)⟩)
            have HKQ : Hid (Kp (FxA (w3.heap.size + 1) (w2.heap.size + 1) (w.heap.size + 1 + 1) (w.heap.size + 1)) w4 (w9.setCell ⟨w.heap.size + 1 + 1, q, none⟩ (.slice a9 m9 k9))) := Lib.hid (HKj.out.trans (hPQ.2.mono (fun c _ hc => ⟨fun e => by
              have h1 := (HPj.out.lt_row HVA.out e).1
              have h2 := hc.1
              omega, hc.2.2.1⟩)))
            clear hPQ c0 c1 c2 c2' c3 f3 l3 hgl hul
            generalize w9.setCell ⟨w.heap.size + 1 + 1, q, none⟩ (.slice a9 m9 k9) = w5 at *
            go_wp2_with fail
            go_roundw
            case rel => exact ⟨j + 1, _, by go_num, by omega, HPQ, HNQ, HKQ⟩
            case measure => simp [intOf]; omega
        · have hje : j = fr.length := by omega
          have hjd : decide (j < fr.length) = false := decide_eq_false hjl
          have hjd2 : decide ((j : Int) < (fr.length : Int)) = false := decide_eq_false (by omega)
          have HPF : Hid (PM (w3.heap.size + 1) n (w2.heap.size + 1) (w.heap.size + 1 + 1) (w.heap.size + 1) wj C rows2 (fun q => useK A.ru q (k + 1)) (misK A.ru (k + 1)) S I) := Lib.hid (by
            have h := HPj.out
            rw [hje, List.take_length] at h
            have e : (fun q => useJ A.ru k fr q) = fun q => useK A.ru q (k + 1) := funext fun q => useJ_full (r := ⟨rs, fr, (qt : Int)⟩) HRK.out q
            rw [e] at h
            exact h)
          have HVj : Hid (Blk wj w3.heap.size 22 #[.slice (some ⟨w2.heap.size + 1, 0, none⟩) A.ru.length A.ru.length]) := Lib.hid (HV4.out.kp HKj.out ⟨by omega, by omega, by omega, by omega⟩)
          have v0 : wj.cell? ⟨w3.heap.size, 0, none⟩ = some (.slice (some ⟨w2.heap.size + 1, 0, none⟩) A.ru.length A.ru.length) := by rw [HVj.out.cell]; rfl
          have m0 : wj.cell? ⟨w2.heap.size + 1, k, none⟩ = some (.int .i64 (fr.length : Int)) := by
            rw [HPF.out.mcell (i := k) (by rw [misK_len]; exact hlt), misK_at (r := ⟨rs, fr, (qt : Int)⟩) HRK.out]
          have r2 : wj.cell? ⟨wk.heap.size, 2, none⟩ = some (.int .i64 (qt : Int)) := by rw [HNj.out.cell]; rfl
          have vl := HVj.out.lt
          have rl := HNj.out.lt
          have hIL : I.length ≤ 1000 := by have := HR.out.ile; omega
          have HADD := Lib.hid (ladd_ok HPF.out.wl qt hqn hn hIL)
          clear hje hjl
          by_cases hz : fr.length = 0
          · have hz1 : ((fr.length : Int) == 0) = true := by simp [hz]
            have hz2 : decide ((fr.length : Int) = 0) = true := by simp [hz]
            have hz3 : (fr.length == 0) = true := by simp [hz]
            have hz4 : (fr.length : Int) = 0 := by omega
            have HZ := Lib.hid hz
            clear hz
            go_wp2_with fail
            refine HADD.out.mono ?_
            rintro e w6 ⟨rfl, ⟨C', hwl, hC'⟩, hk6⟩
            have HP6 := Lib.hid (HPF.out.add hwl hC' hk6 (by omega))
            have HK6 : Hid (Kp (FxA (w3.heap.size + 1) (w2.heap.size + 1) (w.heap.size + 1 + 1) (w.heap.size + 1)) w4 w6) := Lib.hid (HKj.out.trans (hk6.mono (fun c _ hc hC => by
              rcases HPF.out.cge c hC with e | e
              · exact hc.2.2.2 e
              · have := hc.1; omega)))
            have HR6 : Hid (RMid A.ru n (List.replicate n false) (addS S qt) (addI S I qt) (fun i => k + 1 ≤ i)) := Lib.hid (HR.out.leaf (r := ⟨rs, fr, (qt : Int)⟩) HRK.out (by rw [unm_none]; exact HZ.out) (fun s hs => by
              obtain ⟨p, rfl, hp⟩ := st_nat HST.out (HFI.out s hs)
              simpa using hp) (by simp) hqn)
            clear hwl hC' hk6
            go_wp2_with fail
            go_roundw
            case rel => exact ⟨k + 1, _, rows2, _, _, by go_num, by omega, HP6, HR6, HK6⟩
            case measure => simp [intOf]; omega
          · have hz0' : ¬ (fr.length : Int) = 0 := by omega
            have hz1 : ((fr.length : Int) == 0) = false := beq_eq_false_iff_ne.2 hz0'
            have hz2 : decide ((fr.length : Int) = 0) = false := decide_eq_false hz0'
            have HR6 : Hid (RMid A.ru n (List.replicate n false) S I (fun i => k + 1 ≤ i)) := Lib.hid (HR.out.wait (r := ⟨rs, fr, (qt : Int)⟩) HRK.out (by rw [unm_none]; exact hz))
            clear hz
            go_wp2_with fail
            go_roundw
            case rel => exact ⟨k + 1, C, rows2, S, I, by go_num, by omega, HPF, HR6, HKj⟩
            case measure => simp [intOf]; omega
    · have hge : A.ru.length ≤ k := by omega
      have hke : k = A.ru.length := by omega
      have hkd : decide (k < A.ru.length) = false := decide_eq_false hlt
      have hkd2 : decide ((k : Int) < (A.ru.length : Int)) = false := decide_eq_false (by omega)
      have HPR : Hid (PM (w3.heap.size + 1) n (w2.heap.size + 1) (w.heap.size + 1 + 1) (w.heap.size + 1) wk C rows (fun q => useK A.ru q A.ru.length) (A.ru.map fun r => (r.fr.length : Int)) S I) := Lib.hid (by
        have h := HP.out
        rw [hke, misK_full] at h
        exact h)
      have HRR : Hid (RMid A.ru n (List.replicate n false) S I (fun _ => False)) := Lib.hid (by
        have h := HR.out
        rw [hke] at h
        exact h.ready)
      clear hke
      have x0 : wk.cell? ⟨w.heap.size, 0, none⟩ = some (.int .i64 (n : Int)) := by rw [HXk.out.cell, ← HST.out]; rfl
      have hxl := HXk.out.lt
      go_wp2_with (at_make; refine wpList_make_full _ rfl _ _ 34 rfl (w3.heap.size + 1) 4 i2 _ 1 Tryd.underlying34 HI2.out hx0 hx1 _ _ _ _ n rfl rfl rfl rfl (by rw [hx2]; omega) (by simp only [maxLen]; omega) (by omega) ?_)
      intro w5 hown hgrow
      have hO := own_full hown
      rw [toList_madeCells_one] at hO
      have hKT : Kp (fun _ => True) wk w5 := (Kp.refl _ wk).grown hgrow (fun j e => by simp at e)
      have hol := hO.lt
      obtain ⟨w6, hw6⟩ : ∃ w6, w6 = w5.alloc (.cells #[.slice (some ⟨wk.heap.size, 0, none⟩) n n] 34) := ⟨_, rfl⟩
      have hK6 : Kp (fun _ => True) wk w6 := hw6 ▸ hKT.alloc _
      have HB6 : Hid (BB w6 wk.heap.size (List.replicate n false)) := Lib.hid (by
        rw [hw6]; unfold BB; rw [List.map_replicate]; exact hO.alloc _)
      have HO6 : Hid (Blk w6 w5.heap.size 34 #[.slice (some ⟨wk.heap.size, 0, none⟩) n n]) := Lib.hid (hw6 ▸ Blk.new w5 _ _)
      have HK6 := Lib.hid hK6
      have hs6 : w6.heap.size = w5.heap.size + 1 := by rw [hw6]; simp
      have HALL := Lib.hid (all_any (w.heap.size + 1) w6)
      have HW6 := Lib.hid hw6
      rw [hw6] at HALL
      clear hown hgrow hO hKT hK6 hw6 x0
      go_wp2_with fail
      refine HALL.out.mono ?_
      rintro e w7 ⟨rfl, hw7⟩
      have hw6 := HW6.out
      simp only [← hw6] at *
      clear HALL hw6 HW6
      have HK7 : Hid (Kp (fun _ => True) wk w7) := Lib.hid (hw7 ▸ HK6.out.alloc _)
      have HH7 : Hid (Blk w7 w6.heap.size 138 #[.pointer (some ⟨w.heap.size + 1, 0, none⟩)]) := Lib.hid (hw7 ▸ Blk.new w6 _ _)
      have HB7 : Hid (BB w7 wk.heap.size (List.replicate n false)) := Lib.hid (hw7 ▸ Blk.alloc (show Blk w6 wk.heap.size 4 ((List.replicate n false).map Value.bool).toArray from HB6.out) _)
      have HO7 : Hid (Blk w7 w5.heap.size 34 #[.slice (some ⟨wk.heap.size, 0, none⟩) n n]) := Lib.hid (hw7 ▸ HO6.out.alloc _)
      have hs7 : w7.heap.size = w6.heap.size + 1 := by rw [hw7]; simp
      have HS6 := Lib.hid hs6
      have HS7 := Lib.hid hs7
      clear hs6 hs7
      have HP7 := Lib.hid (HPR.out.kpT HK7.out)
      clear hw7
      go_wp2_with fail
      have hk7 := HK7.out.size
      have hs6 := HS6.out
      have hs7 := HS7.out
      have HX7 : Hid (Blk w7 w.heap.size 27 #[.int .i64 A.st, .slice p1 A.fin.length c1, .slice p2 A.ru.length c2]) := Lib.hid (HXk.out.kp HK7.out trivial)
      have HU7 : Hid (Blk w7 w2.heap.size 114 #[.slice (some ⟨w.heap.size + 1 + 1, 0, none⟩) n n]) := Lib.hid (HUk.out.kp HK7.out trivial)
      have HV7 : Hid (Blk w7 w3.heap.size 22 #[.slice (some ⟨w2.heap.size + 1, 0, none⟩) A.ru.length A.ru.length]) := Lib.hid (HVk.out.kp HK7.out trivial)
      have HBW7 : Hid (Below w.heap.size w w7) := Lib.hid (HBk.out.trans (HK7.out.below (by omega) (fun _ _ => trivial)))
      have hCk : ∀ c, C c → (c = w.heap.size + 1 ∨ w3.heap.size + 1 ≤ c) ∧ c < wk.heap.size := fun c hc => ⟨HPR.out.cge c hc, HPR.out.clt c hc⟩
      have hPBk : ∀ c, PB C (w2.heap.size + 1) wk.heap.size c → w.heap.size + 1 ≤ c ∧ c ≠ w2.heap.size ∧ c ≠ w3.heap.size ∧ c ≠ w5.heap.size ∧ c ≠ w6.heap.size ∧ c < w7.heap.size := fun c hc => by
        rcases hc with h | h | h
        · have := hCk c h
          rcases this.1 with e | e <;> omega
        · omega
        · omega
      have HPBK := Lib.hid hPBk
      have HPBG : Hid (¬ PB C (w2.heap.size + 1) wk.heap.size (w.heap.size + 1 + 1)) := Lib.hid (fun hc => by
        rcases hc with h | h | h
        · exact HPR.out.cG h
        · omega
        · omega)
      have HPBR : Hid (∀ (q : Nat) v b, rows[q]? = some v → v.ownBlock = some b → ¬ PB C (w2.heap.size + 1) wk.heap.size b) := Lib.hid (fun q v b hv hb hc => by
        have h1 := HPR.out.lt_row hv hb
        rcases hc with h | h | h
        · exact HPR.out.cR q v b hv hb h
        · omega
        · omega)
      have HJ0 : Hid (PJ A.ru n (w2.heap.size + 1) wk.heap.size (w.heap.size + 1) w7 C ⟨List.replicate n false, A.ru.map (fun r => (r.fr.length : Int)), S, I⟩ I []) := Lib.hid
        ⟨HP7.out.m, HB7.out, HP7.out.wl, HP7.out.cM, fun h => by have := (hCk _ h).2; omega, HRR.out.less (fun _ _ _ _ hd _ => hd.elim), MisOf.start n⟩
      have hs76 : w6.heap.size ≤ w7.heap.size ∧ w5.heap.size < w6.heap.size := by omega
      clear hs6 hs7
      refine (wpIn_wide (n := 0)).1 ?_
      refine rq_frame (σ := RS) (α := Nat) (gf := 102) (lb := #[.pointer (some ⟨w6.heap.size, 0, none⟩)]) (Enc := fun q : Nat => #[.int .i64 (q : Int)]) (pend := fun s => s.I.head?) (Φ := fun s W => QAt W (w.heap.size + 1) s.I) (Pop := fun s W W' => PopQ (w.heap.size + 1) s.I W W') rfl (enters_of Tryd.func102 (by kernel_rfl) rfl) ?_ (fun s => s.M.count false) ⟨List.replicate n false, A.ru.map (fun r => (r.fr.length : Int)), S, I⟩
        (PB C (w2.heap.size + 1) wk.heap.size) ?_
        (fun s Cx W => ∃ C2, (∀ c, Cx c ↔ PB C2 (w2.heap.size + 1) wk.heap.size c) ∧ PJ A.ru n (w2.heap.size + 1) wk.heap.size (w.heap.size + 1) W C2 s s.I [])
        (fun s Cx W => ∃ C2, (∀ c, Cx c ↔ PB C2 (w2.heap.size + 1) wk.heap.size c) ∧ PJ A.ru n (w2.heap.size + 1) wk.heap.size (w.heap.size + 1) W C2 s s.I.tail [])
        (fun q T => (T.setIfInBounds 66 (.int .i64 (q : Int))).setIfInBounds 11 (.int .i64 (q : Int)))
        ?_ ?_ ?_ ?_ (all_iter (fun s : RS => s.I) (w.heap.size + 1) w6.heap.size _ w7 HH7.out (fun h => (HPBK.out _ h).2.2.2.2.1 rfl)) ⟨C, fun _ => Iff.rfl, HJ0.out⟩ ?_ ?_ ?_
      · intro q; rfl
      · exact fun c hc => (HPBK.out c hc).2.2.2.2.2
      · rintro s Cx W W' ⟨C2, h1, h2⟩ hk
        exact ⟨C2, h1, h2.kp hk ((h1 _).2 (.inr (.inl rfl))) ((h1 _).2 (.inr (.inr rfl))) (fun c hc => (h1 c).2 (.inl hc))⟩
      · rintro s Cx W W' ⟨C2, h1, h2⟩ hk
        exact ⟨C2, h1, h2.kp hk ((h1 _).2 (.inr (.inl rfl))) ((h1 _).2 (.inr (.inr rfl))) (fun c hc => (h1 c).2 (.inl hc))⟩
      · rintro s Cx W ⟨C2, h1, h2⟩
        exact h2.wl.queue (by have := h2.mid.ile; omega)
      · rintro s q Cx W W' ⟨C2, h1, h2⟩ hx hp
        obtain ⟨h3, h4⟩ := h2.pop hp
        exact ⟨⟨C2, h1, h3⟩, h4.mono (fun c _ hc h => hc ((h1 c).2 (.inl h)))⟩
      · intro L q W K' hK
        have HK' := Lib.hid hK
        clear hK
        simp only [List.setIfInBounds_toArray, List.set_cons_zero, List.set_cons_succ] at HK'
        gi_wp2
        exact HK'.out
      · rintro L2 s q Cx W hx ⟨C2, hCx, hj⟩ hg hnL hr
        obtain ⟨M, ms, S1, I1⟩ := s
        obtain ⟨T, rfl⟩ : ∃ T, I1 = q :: T := by
          cases I1 with
          | nil => cases hx
          | cons a T => simp only [List.head?_cons, Option.some.injEq] at hx; subst hx; exact ⟨T, rfl⟩
        simp only [List.setIfInBounds_toArray, List.set_cons_zero, List.set_cons_succ]
        simp only [List.tail_cons] at hj
        obtain ⟨hq, hqf, hML, hmsl⟩ := hj.data
        have hkp : ∀ (V : World), Kp (fun c => ¬ PB C (w2.heap.size + 1) wk.heap.size c) w7 V → Below w.heap.size w V ∧ Blk V w.heap.size 27 #[.int .i64 A.st, .slice p1 A.fin.length c1, .slice p2 A.ru.length c2] ∧ Blk V w2.heap.size 114 #[.slice (some ⟨w.heap.size + 1 + 1, 0, none⟩) n n] ∧ Blk V w3.heap.size 22 #[.slice (some ⟨w2.heap.size + 1, 0, none⟩) A.ru.length A.ru.length] ∧ Blk V w5.heap.size 34 #[.slice (some ⟨wk.heap.size, 0, none⟩) n n] ∧ Blk V (w.heap.size + 1 + 1) 22 rows.toArray := fun V hV =>
          ⟨HBW7.out.trans (hV.below HBW7.out.size (fun c hc h => by have := HPBK.out c h; omega)), HX7.out.kp hV (fun h => by have := HPBK.out _ h; omega), HU7.out.kp hV (fun h => (HPBK.out _ h).2.1 rfl), HV7.out.kp hV (fun h => (HPBK.out _ h).2.2.1 rfl), HO7.out.kp hV (fun h => (HPBK.out _ h).2.2.2.1 rfl), HP7.out.g.kp hV HPBG.out⟩
        have HKP := Lib.hid hkp
        obtain ⟨va, hva, _⟩ := HP7.out.rcell hq
        obtain ⟨pr, cr, rfl, hrow⟩ := row_cell (HP7.out.row q va hva)
        have HROW : Hid (∀ V : World, Kp (fun c => ¬ PB C (w2.heap.size + 1) wk.heap.size c) w7 V → useK A.ru q A.ru.length ≠ [] → ∃ g, pr = some ⟨g, 0, none⟩ ∧ ∀ (i : Nat) x, (useK A.ru q A.ru.length)[i]? = some x → V.cell? ⟨g, i, none⟩ = some (.int .i64 x)) := Lib.hid (fun V hV hne => by
          have h2 := row_cell (ownsRow_kp (HP7.out.row q _ hva) hV (fun b hb => HPBR.out q _ b hva hb))
          obtain ⟨p', c', e, h3⟩ := h2
          simp only [Value.slice.injEq] at e
          obtain ⟨rfl, _, rfl⟩ := e
          exact h3 hne)
        have HVA := Lib.hid hva
        clear hrow hva hkp
        obtain ⟨wb, hwb⟩ : ∃ wb, wb = W.setCell ⟨wk.heap.size, q, none⟩ (.bool true) := ⟨_, rfl⟩
        have HKW : Hid (Kp (fun c => ¬ PB C (w2.heap.size + 1) wk.heap.size c) w7 W) := Lib.hid (hg.kp)
        have HG := Lib.hid hg
        have HCX := Lib.hid hCx
        have HGB : Hid (Grow Cx W Cx wb) := Lib.hid (hwb ▸ (Grow.refl hg.lt).setCell (p := ⟨wk.heap.size, q, none⟩) ((hCx _).2 (.inr (.inr rfl))) _)
        have HKB : Hid (Kp (fun c => ¬ PB C (w2.heap.size + 1) wk.heap.size c) w7 wb) := Lib.hid ((hg.trans HGB.out).kp)
        have HPJ : Hid (PJ A.ru n (w2.heap.size + 1) wk.heap.size (w.heap.size + 1) wb C2 ⟨M.set q true, ms, S1, T⟩ T (useK A.ru q A.ru.length)) := Lib.hid (hwb ▸ hj.marked)
        have HMU : Hid ((M.set q true).count false + 1 = M.count false) := Lib.hid (count_set M q (by omega) hqf)
        have hw := HKP.out W HKW.out
        have x1 : W.cell? ⟨w5.heap.size, 0, none⟩ = some (.slice (some ⟨wk.heap.size, 0, none⟩) n n) := by rw [hw.2.2.2.2.1.cell]; rfl
        have x2 := hw.2.2.2.2.1.lt
        have x3 : W.cell? ⟨wk.heap.size, q, none⟩ = some (.bool (M.getD q false)) := hj.b.at (show q < M.length by omega)
        have x4 := Blk.frozen (show Blk W wk.heap.size 4 (M.map Value.bool).toArray from hj.b) q
        have x5 : wk.heap.size < W.heap.size := Blk.lt (show Blk W wk.heap.size 4 (M.map Value.bool).toArray from hj.b)
        have hwB := HKP.out wb HKB.out
        have y1 : wb.cell? ⟨w2.heap.size, 0, none⟩ = some (.slice (some ⟨w.heap.size + 1 + 1, 0, none⟩) n n) := by rw [hwB.2.2.1.cell]; rfl
        have y2 := hwB.2.2.1.lt
        have y3 : wb.cell? ⟨w.heap.size + 1 + 1, q, none⟩ = some (.slice pr (useK A.ru q A.ru.length).length cr) := by rw [hwB.2.2.2.2.2.cell]; simpa using HVA.out
        have y4 := hwB.2.2.2.2.2.lt
        have hqi : (q : Int) < (n : Int) := by omega
        have HUL := Lib.hid (useK_len A.ru q HR3.out A.ru.length)
        have hul : (useK A.ru q A.ru.length).length ≤ 60000 := by have := HUL.out; omega
        rw [hwb] at y1 y2 y3 y4
        have HWB := Lib.hid hwb
        clear hw hwB hwb hj hg hCx hr hx hML hmsl
        gi_wp2_with fail
        have HWB' := HWB.out
        simp only [← HWB'] at *
        clear HWB' HWB
        gi_loopw [75] (fun jv wj => ∃ (j : Nat) (C3 : Nat → Prop) (ms3 : List Int) (S3 I3 : List Nat), jv = .int .i64 (j : Nat) ∧ j ≤ (useK A.ru q A.ru.length).length ∧ Hid (PJ A.ru n (w2.heap.size + 1) wk.heap.size (w.heap.size + 1) wj C3 ⟨M.set q true, ms3, S3, I3⟩ I3 ((useK A.ru q A.ru.length).drop j)) ∧ Hid (Grow Cx W (PB C3 (w2.heap.size + 1) wk.heap.size) wj))
          (fun jv _ => (useK A.ru q A.ru.length).length - (intOf jv).toNat)
        case atStart => exact ⟨0, C2, ms, S1, T, rfl, Nat.zero_le _, by simpa using HPJ, Lib.hid (by
          have h := HGB.out
          have e : Cx = PB C2 (w2.heap.size + 1) wk.heap.size := funext fun c => propext (HCX.out c)
          rw [e] at h ⊢
          exact h)⟩
        case round =>
          rename World => wj
          obtain ⟨j, C3, ms3, S3, I3, rfl, hjle, HPJ3, HG3⟩ := hrel
          have HKj : Hid (Kp (fun c => ¬ PB C (w2.heap.size + 1) wk.heap.size c) w7 wj) := Lib.hid ((HG.out.trans HG3.out).kp)
          have hwJ := HKP.out wj HKj.out
          by_cases hjl : j < (useK A.ru q A.ru.length).length
          · obtain ⟨x, hx⟩ : ∃ x, (useK A.ru q A.ru.length)[j]? = some x := ⟨_, List.getElem?_eq_getElem hjl⟩
            obtain ⟨i, rfl, hil, hcq⟩ := useK_mem A.ru q A.ru.length x (List.mem_of_getElem? hx)
            obtain ⟨gr, rfl, hgc⟩ := HROW.out wj HKj.out (fun h => by simp [h] at hjl)
            have u0 : wj.cell? ⟨gr, j, none⟩ = some (.int .i64 (i : Int)) := hgc j _ hx
            obtain ⟨r, hr⟩ : ∃ r, A.ru[i]? = some r := ⟨_, List.getElem?_eq_getElem hil⟩
            have HDR : Hid ((useK A.ru q A.ru.length).drop j = (i : Int) :: (useK A.ru q A.ru.length).drop (j + 1)) := Lib.hid (by
              rw [List.drop_eq_getElem_cons hjl]
              rw [List.getElem?_eq_getElem hjl] at hx
              rw [Option.some.inj hx])
            have HPD : Hid (PJ A.ru n (w2.heap.size + 1) wk.heap.size (w.heap.size + 1) wj C3 ⟨M.set q true, ms3, S3, I3⟩ I3 ((i : Int) :: (useK A.ru q A.ru.length).drop (j + 1))) := Lib.hid (by
              have h := HPJ3.out
              rw [HDR.out] at h
              exact h)
            have hin := HRU.out r (List.mem_of_getElem? hr)
            have hf3 := HR3.out r (List.mem_of_getElem? hr)
            obtain ⟨qt, hqt, hqn⟩ := st_nat HST.out hin.1
            have hit := HPD.out.mis.item hr
            obtain ⟨y, hy⟩ : ∃ y, y = ms3.getD i 0 := ⟨_, rfl⟩
            have hy1 : 1 ≤ y := by
              have h := hit.1
              simp only [← hy] at h
              omega
            have hy2 : y ≤ 1000000 := by
              have h := hit.1
              have h1 := unm_le (M.set q true) r.fr
              have h2 := List.count_le_length (a := (i : Int)) (l := (useK A.ru q A.ru.length).drop (j + 1))
              rw [List.length_drop] at h2
              have h3 := HUL.out
              simp only [← hy] at h
              omega
            have m0 : wj.cell? ⟨w2.heap.size + 1, i, none⟩ = some (.int .i64 y) := by
              rw [HPD.out.mcell hil, hy]
            have m1 := HPD.out.m.frozen i
            have m2 := HPD.out.m.lt
            have x1 : wj.cell? ⟨w3.heap.size, 0, none⟩ = some (.slice (some ⟨w2.heap.size + 1, 0, none⟩) A.ru.length A.ru.length) := by rw [hwJ.2.2.2.1.cell]; rfl
            have x2 := hwJ.2.2.2.1.lt
            have hii : (i : Int) < (A.ru.length : Int) := by omega
            have hji : (j : Int) < ((useK A.ru q A.ru.length).length : Int) := by omega
            obtain ⟨wa, hwa⟩ : ∃ wa, wa = wj.setCell ⟨w2.heap.size + 1, i, none⟩ (.int .i64 (y - 1)) := ⟨_, rfl⟩
            have hma := HPD.out.setm i (y - 1)
            have HCM : Hid (PB C3 (w2.heap.size + 1) wk.heap.size (w2.heap.size + 1)) := Lib.hid (.inr (.inl rfl))
            have HGA : Hid (Grow Cx W (PB C3 (w2.heap.size + 1) wk.heap.size) wa) := Lib.hid (hwa ▸ HG3.out.setCell (p := ⟨w2.heap.size + 1, i, none⟩) HCM.out _)
            have HKA : Hid (Kp (fun c => ¬ PB C (w2.heap.size + 1) wk.heap.size c) w7 wa) := Lib.hid ((HG.out.trans HGA.out).kp)
            have hwA := HKP.out wa HKA.out
            have z1 : wa.cell? ⟨w3.heap.size, 0, none⟩ = some (.slice (some ⟨w2.heap.size + 1, 0, none⟩) A.ru.length A.ru.length) := by rw [hwA.2.2.2.1.cell]; rfl
            have z2 := hwA.2.2.2.1.lt
            have z3 : wa.cell? ⟨w2.heap.size + 1, i, none⟩ = some (.int .i64 (y - 1)) := by
              have h1 := hma.1
              rw [← hwa] at h1
              rw [h1.cell]
              have hl := HPD.out.mis.1
              simp only at hl
              simp [intV, hl, hil]
            have z4 : wa.cell? ⟨w.heap.size, 2, none⟩ = some (.slice p2 A.ru.length c2) := by rw [hwA.2.1.cell]; rfl
            have z5 := hwA.2.1.lt
            obtain ⟨b, o, rfl, hcl⟩ := HRC.out (fun h => by simp [h] at hil)
            have z6 : wa.cell? ⟨b, o + i * 3 + 2, none⟩ = some (.int .i64 (qt : Int)) := by
              have h := cell_later hwA.1 (hcl i r hr).2.2
              rw [hqt] at h
              exact h
            have HADD := Lib.hid (ladd_ok (by have h1 := hma.2.2; rw [← hwa] at h1; exact h1) qt hqn hn (by have := HPD.out.mid.ile; simp only at this; omega))
            have HRI := Lib.hid hr
            have HY := Lib.hid hy
            have HQT := Lib.hid hqt
            have HIN := Lib.hid hin.2
            rw [hwa] at z1 z2 z3 z4 z5 z6
            have HWA := Lib.hid hwa
            clear hx hcl hgc hit hma hwA hwJ hr hin hqt hy hwa hcq
            by_cases hz : y - 1 = 0
            · have hz1 : ((y - 1) == 0) = true := by simp [hz]
              have hz2 : decide (y - 1 = 0) = true := by simp [hz]
              have HZ := Lib.hid hz
              clear hz
              gi_wp2_with fail
              have HWA' := HWA.out
              simp only [← HWA']
              refine (CallsIn.of_calls HADD.out).mono ?_
              rintro e w8 ⟨rfl, ⟨C', hwl, hC'⟩, hk8⟩
              have HPI := Lib.hid (PJ.item (q := qt) HRI.out HPD.out (by simp only [← HY.out]; exact HZ.out) (fun x hx => by
                obtain ⟨p, rfl, hp⟩ := st_nat HST.out (HIN.out x hx)
                simpa using hp) (by rw [HQT.out]; simp) hqn hwl (fun c hc => by
                have h := hC' c hc
                rwa [HWA', World.size_setCell] at h) (by simp only [← HY.out]; rw [← HWA']; exact hk8))
              have HG8 : Hid (Grow Cx W (PB (fun c => C3 c ∨ (C' c ∧ c < w8.heap.size)) (w2.heap.size + 1) wk.heap.size) w8) := Lib.hid (HGA.out.trans ⟨fun c hc => hc.elim (fun h => .inl (.inl h)) .inr, fun c hc => by
                rcases hc with (h | h) | h
                · exact .inl (.inl h)
                · exact (hC' c h.1).elim (fun h => .inl (.inl h)) .inr
                · exact .inl (.inr h), fun c hc => by
                have hs := hk8.size
                rcases hc with (h | h) | h
                · exact Nat.lt_of_lt_of_le (HGA.out.lt c (.inl h)) hs
                · exact h.2
                · exact Nat.lt_of_lt_of_le (HGA.out.lt c (.inr h)) hs, hk8.mono (fun c _ hc h => hc (.inl h))⟩)
              clear HWA' HWA hwl hC' hk8
              gi_wp2_with fail
              go_roundw
              case rel => exact ⟨j + 1, _, _, _, _, by go_num, by omega, HPI, HG8⟩
              case measure => simp [intOf]; omega
            · have hz1 : ((y - 1) == 0) = false := beq_eq_false_iff_ne.2 hz
              have hz2 : decide (y - 1 = 0) = false := decide_eq_false hz
              have HPS := Lib.hid (PJ.skip HRI.out HPD.out (by simp only [← HY.out]; exact hz))
              have HPS2 : Hid (PJ A.ru n (w2.heap.size + 1) wk.heap.size (w.heap.size + 1) wa C3 ⟨M.set q true, ms3.set i (y - 1), S3, I3⟩ I3 ((useK A.ru q A.ru.length).drop (j + 1))) := Lib.hid (by
                have h := HPS.out
                simp only [← HY.out] at h
                rw [HWA.out]
                exact h)
              clear HPS hz
              gi_wp2_with fail
              have HWA' := HWA.out
              simp only [← HWA']
              clear HWA' HWA
              go_roundw
              case rel => exact ⟨j + 1, _, _, _, _, by go_num, by omega, HPS2, HGA⟩
              case measure => simp [intOf]; omega
          · have hjd : decide (j < (useK A.ru q A.ru.length).length) = false := decide_eq_false hjl
            have hjd2 : decide ((j : Int) < ((useK A.ru q A.ru.length).length : Int)) = false := decide_eq_false (by omega)
            have HPE : Hid (PJ A.ru n (w2.heap.size + 1) wk.heap.size (w.heap.size + 1) wj C3 ⟨M.set q true, ms3, S3, I3⟩ I3 []) := Lib.hid (by
              have h := HPJ3.out
              rw [List.drop_of_length_le (by omega)] at h
              exact h)
            clear hwJ hjl
            gi_wp2_with fail
            exact ⟨_, ⟨M.set q true, ms3, S3, I3⟩, HG3.out, ⟨C3, fun _ => Iff.rfl, HPE.out⟩, by have := HMU.out; simp only; omega⟩
      · rintro D s Cx W hg hpe ⟨C2, hCx, hj⟩ hD hDC hDs
        have hI : s.I = [] := by
          cases h : s.I with
          | nil => rfl
          | cons a T => rw [h] at hpe; cases hpe
        have HIS := Lib.hid (hj.done hI)
        have HBM := Lib.hid hj.b
        have HOW : Hid (Blk W w5.heap.size 34 #[.slice (some ⟨wk.heap.size, 0, none⟩) n n]) := Lib.hid (HO7.out.kp hg.kp (fun h => (HPBK.out _ h).2.2.2.1 rfl))
        have HBW : Hid (Below w.heap.size w W) := Lib.hid (HBW7.out.trans (hg.kp.below HBW7.out.size (fun c hc h => by have := HPBK.out c h; omega)))
        have HD := Lib.hid hD
        have x1 : W.cell? ⟨w5.heap.size, 0, none⟩ = some (.slice (some ⟨wk.heap.size, 0, none⟩) n n) := by rw [HOW.out.cell]; rfl
        have x2 := HOW.out.lt
        clear hD hj hg hI hpe
        go_wp2_with fail
        have hkD : Kp (fun k => k < w7.heap.size) W (W.putObj D (.deferred none)) := (Kp.refl (fun k => k < w7.heap.size) W).putObj (fun h => absurd hDs (Nat.not_le.2 h)) _
        have hwk : w.heap.size ≤ wk.heap.size ∧ wk.heap.size < w7.heap.size ∧ w.heap.size ≤ w7.heap.size := by omega
        have hBW := HBW.out.size
        refine ⟨by simp, .inl ⟨_, _, rfl, run_takeDeferred HD.out, ?_⟩⟩
        refine ⟨_, results_tmp rfl _ _ _, ⟨wk.heap.size, s.M, rfl, BB.kp HBM.out hkD hwk.2.1, HIS.out, hwk.1⟩, ?_⟩
        exact HBW.out.trans (hkD.below hBW (fun k hk => Nat.lt_of_lt_of_le hk hwk.2.2))

end Go.Proofs.YtedfldbknjcnlaaDoor
