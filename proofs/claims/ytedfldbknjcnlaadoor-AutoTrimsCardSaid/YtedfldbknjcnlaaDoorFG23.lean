/- auto.useful. auto.Reachable and auto.Useful. -/
import Derived.Test.YtedfldbknjcnlaaDoorFRea
import Derived.Test.YtedfldbknjcnlaaDoorFG18
namespace Go.Proofs.YtedfldbknjcnlaaDoor
section
open Go.RowKit Go.Shelf Go.Maps Go.WideElems
attribute [local go_sem] Oper.semAt_some fwd fwf

set_option maxRecDepth 100000 in
set_option maxHeartbeats 8000000 in
theorem useful_ok (A : Au) (n : Nat) (hst : A.st = (n : Int)) (hn : n ≤ 300) (hlen : A.ru.length ≤ 20000) (hru : ∀ r ∈ A.ru, stIn A.st r.to = true ∧ ∀ x ∈ r.fr, stIn A.st x = true) (h3 : ∀ r ∈ A.ru, r.fr.length ≤ 3) (hfin : ∀ s ∈ A.fin, stIn A.st s = true) (v : Value) (w : World) (hA : IsAu w v A) :
    Calls Tryd.prog 59 #[v] w fun e w' => (∃ ob M, e = .returned (.slice (some ⟨ob, 0, none⟩) n n) ∧ BB w' ob M ∧ IsUsd A.ru A.fin n M ∧ w.heap.size ≤ ob) ∧ Below w.heap.size w w' := by
  have HA := Lib.hid hA
  have HRU := Lib.hid hru
  have HST := Lib.hid hst
  have HR3 := Lib.hid h3
  have HFN := Lib.hid hfin
  obtain ⟨fv, uv, rfl, hf, hr⟩ := hA
  have HX0 := Lib.hid (Blk.new w 27 #[.int .i64 A.st, fv, uv])
  have HB : Hid (Below w.heap.size w (w.alloc (.cells #[.int .i64 A.st, fv, uv] 27))) := Lib.hid ((Below.refl _ w).alloc (Nat.le_refl _) _)
  have HREA := Lib.hid (reachable_ok A n HST.out hn hlen HRU.out HR3.out _ _ (HA.out.below HB.out))
  obtain ⟨p1, c1, rfl, hf3, hf4, hfc⟩ := hf
  obtain ⟨p2, c2, rfl, hr3, hr4, hrc⟩ := hr
  obtain ⟨i0, hi, hz0, hz1, hz2⟩ := info_parts Tryd.infoInts
  obtain ⟨i1, hi1, hy0, hy1, hy2⟩ := info_parts Tryd.infoInt
  obtain ⟨i2, hi2, hx0, hx1, hx2⟩ := info_parts Tryd.infoBoolP
  have HI := Lib.hid hi
  have HI1 := Lib.hid hi1
  have HI2 := Lib.hid hi2
  unfold maxLen at hr4 hf4
  have HRC := Lib.hid hrc
  have HFC0 := Lib.hid hfc
  clear hrc hfc hru hst hi hi1 hi2 h3 hfin
  refine Calls.of_callsIn (ro := none) (m := 0) ?_
  refine callsIn_of_wp_marks Tryd.func59 rfl trivial ?_ rfl
  simp only [Tryd.ntmps59, List.size_toArray, List.length_cons, List.length_nil, Nat.reduceAdd, Nat.reduceSub, Array.replicate_succ, Array.replicate_zero, List.push_toArray, List.append_toArray, List.nil_append, List.cons_append]
  refine wpIn_wide.2 ?_
  refine wp_mono (Q := noPanic _) ?_ noPanic_imp
  go_wp2_with fail
  refine HREA.out.mono ?_
  rintro e w2 ⟨⟨rb, Q, rfl, hbq, hiq, hrb⟩, hb2⟩
  have HBQ := Lib.hid hbq
  have HIQ := Lib.hid hiq
  have hrb2 : w.heap.size + 1 ≤ rb := by simpa using hrb
  have hrl : rb < w2.heap.size := Blk.lt (show Blk w2 rb 4 (Q.map Value.bool).toArray from hbq)
  have HX2 : Hid (Blk w2 w.heap.size 27 #[.int .i64 A.st, .slice p1 A.fin.length c1, .slice p2 A.ru.length c2]) := Lib.hid (HX0.out.below hb2 (by simp))
  have HB2 : Hid (Below w.heap.size w w2) := Lib.hid (HB.out.trans (hb2.mono (by simp)))
  have hl2 := HX2.out.lt
  have x0 : w2.cell? ⟨w.heap.size, 0, none⟩ = some (.int .i64 (n : Int)) := by rw [HX2.out.cell, ← HST.out]; rfl
  have hs2 := HB2.out.size
  clear hbq hiq hb2 hrb HREA
  go_wp2_with (at_make; refine wpList_make_full _ rfl _ _ 114 rfl (w.heap.size + 1) 22 i0 _ 1 Tryd.underlying114 HI.out hz0 hz1 _ _ _ _ n rfl rfl rfl rfl (by rw [hz2]; omega) (by simp only [maxLen]; omega) (by omega) ?_)
  intro w3 hown hgrow
  have hG := own_full hown
  rw [toList_madeCells_one] at hG
  have hGl := hG.lt
  have HK3 : Hid (Kp (fun _ => True) w2 w3) := Lib.hid ((Kp.refl _ w2).grown hgrow (fun j e => by simp at e))
  have HG3 := Lib.hid hG
  have hs3 := HK3.out.size
  clear hown hgrow hG x0
  obtain ⟨w4, hw4⟩ : ∃ w4, w4 = w3.alloc (.cells #[.slice (some ⟨w2.heap.size, 0, none⟩) n n] 114) := ⟨_, rfl⟩
  have HK4 : Hid (Kp (fun _ => True) w2 w4) := Lib.hid (hw4 ▸ HK3.out.alloc _)
  have HX4 : Hid (Blk w4 w.heap.size 27 #[.int .i64 A.st, .slice p1 A.fin.length c1, .slice p2 A.ru.length c2]) := Lib.hid (HX2.out.kp HK4.out trivial)
  have HQ4 : Hid (BB w4 rb Q) := Lib.hid (HBQ.out.kp HK4.out trivial)
  have HU4 : Hid (Blk w4 w3.heap.size 114 #[.slice (some ⟨w2.heap.size, 0, none⟩) n n]) := Lib.hid (hw4 ▸ Blk.new w3 _ _)
  have HB4 : Hid (Below w.heap.size w w4) := Lib.hid (HB2.out.trans (HK4.out.below hs2 (fun _ _ => trivial)))
  have HR4 : Hid (RWs (w3.heap.size + 1) n w2.heap.size w4 (List.replicate n (.slice none 0 0)) (fun p => srcL (A.ru.take 0) Q p)) := Lib.hid (hw4 ▸ RWs.start _ (fun _ => rfl) (HG3.out.alloc _))
  have hs4 : w4.heap.size = w3.heap.size + 1 := by rw [hw4]; simp
  have z4 : w4.cell? ⟨w.heap.size, 2, none⟩ = some (.slice p2 A.ru.length c2) := by rw [HX4.out.cell]; rfl
  have hl4 := HX4.out.lt
  rw [hw4] at z4 hl4
  have HW4 := Lib.hid hw4
  clear hw4
  go_wp2_with fail
  have hw4 := HW4.out
  simp only [← hw4] at *
  clear hw4 HW4 z4
  go_loopw [22] (fun iv wk => ∃ (k : Nat) (rows : List Value), iv = .int .i64 (k : Nat) ∧ k ≤ A.ru.length ∧ Hid (RWs (w3.heap.size + 1) n w2.heap.size wk rows (fun p => srcL (A.ru.take k) Q p)) ∧ Hid (Kp (fun c => c < w3.heap.size + 1 ∧ c ≠ w2.heap.size) w4 wk))
    (fun iv _ => A.ru.length - (intOf iv).toNat)
  case atStart => exact ⟨0, _, rfl, by omega, HR4, Lib.hid (Kp.refl _ _)⟩
  case round =>
    rename World => wk
    obtain ⟨k, rows, rfl, hk, HR, HK⟩ := hrel
    have HBk : Hid (Below w.heap.size w wk) := Lib.hid (HB4.out.trans (HK.out.below HB4.out.size (fun c hc => ⟨by omega, by omega⟩)))
    have HXk : Hid (Blk wk w.heap.size 27 #[.int .i64 A.st, .slice p1 A.fin.length c1, .slice p2 A.ru.length c2]) := Lib.hid (HX4.out.kp HK.out ⟨by omega, by omega⟩)
    have HUk : Hid (Blk wk w3.heap.size 114 #[.slice (some ⟨w2.heap.size, 0, none⟩) n n]) := Lib.hid (HU4.out.kp HK.out ⟨by omega, by omega⟩)
    have HQk : Hid (BB wk rb Q) := Lib.hid (HQ4.out.kp HK.out ⟨by omega, by omega⟩)
    have hsk := HK.out.size
    by_cases hlt : k < A.ru.length
    · obtain ⟨r, hrk⟩ : ∃ r, A.ru[k]? = some r := ⟨_, List.getElem?_eq_getElem hlt⟩
      obtain ⟨b, o, rfl, hcl⟩ := HRC.out (fun h => by simp [h] at hlt)
      obtain ⟨q0w, ⟨u, q1w, hu⟩, q2w⟩ := hcl k r hrk
      have q0 := cell_later HBk.out q0w
      have q1 := cell_later HBk.out q1w
      have q2 := cell_later HBk.out q2w
      clear q0w q1w q2w
      have HU := Lib.hid hu
      obtain ⟨pu, cu, rfl, hu3, hu4, huc⟩ := hu
      unfold maxLen at hu4
      have HRK := Lib.hid hrk
      obtain ⟨rs, fr, rt⟩ := r
      have hin := HRU.out _ (List.mem_of_getElem? hrk)
      have hf3r := HR3.out _ (List.mem_of_getElem? hrk)
      simp only at q0 q1 q2 hu3 HU hin huc hf3r
      obtain ⟨qt, hqt, hqn⟩ := st_nat HST.out hin.1
      subst hqt
      have HFI := Lib.hid hin.2
      have HUC := Lib.hid huc
      have hbl := World.block_lt_of_cell? _ _ q0
      simp only at hbl
      have hk1 : (k : Int) < (A.ru.length : Int) := by omega
      obtain ⟨wa, hwa⟩ : ∃ wa, wa = wk.alloc (.cells #[.int .i64 rs, .slice pu fr.length cu, .int .i64 (qt : Int)] 70) := ⟨_, rfl⟩
      have HKA0 : Hid (Kp (fun _ => True) wk wa) := Lib.hid (hwa ▸ (Kp.refl _ wk).alloc _)
      have HRA : Hid (RWs (w3.heap.size + 1) n w2.heap.size wa rows (fun p => srcL (A.ru.take k) Q p)) := Lib.hid (HR.out.kp HKA0.out trivial (fun _ _ _ _ => trivial))
      have HNA : Hid (Blk wa wk.heap.size 70 #[.int .i64 rs, .slice pu fr.length cu, .int .i64 (qt : Int)]) := Lib.hid (hwa ▸ Blk.new wk _ _)
      have HKA : Hid (Kp (fun c => c < w3.heap.size + 1 ∧ c ≠ w2.heap.size) w4 wa) := Lib.hid (HK.out.trans (HKA0.out.mono (fun _ _ _ => trivial)))
      have HQA : Hid (BB wa rb Q) := Lib.hid (HQk.out.kp HKA0.out trivial)
      have HUA : Hid (Blk wa w3.heap.size 114 #[.slice (some ⟨w2.heap.size, 0, none⟩) n n]) := Lib.hid (HUk.out.kp HKA0.out trivial)
      have HBA : Hid (Below w.heap.size w wa) := Lib.hid (HBk.out.trans (HKA0.out.below HBk.out.size (fun _ _ => trivial)))
      have HIU : Hid (IsInts w (.slice pu fr.length cu) fr) := HU
      have HALL := Lib.hid (allOf_ok Q n fr rb (.slice pu fr.length cu) wa HQA.out HIQ.out.len hn (HIU.out.below HBA.out) (fun x hx => by
        obtain ⟨p, h1, h2⟩ := st_nat HST.out (HFI.out x hx); exact ⟨p, h1, h2⟩))
      have n1 : wa.cell? ⟨wk.heap.size, 1, none⟩ = some (.slice pu fr.length cu) := by rw [HNA.out.cell]; rfl
      have nl := HNA.out.lt
      rw [hwa] at n1 nl HALL
      have HWA := Lib.hid hwa
      clear hrk hcl hin huc hwa
      go_wp2_with fail
      refine HALL.out.mono ?_
      rintro e w5 ⟨rfl, hw5⟩
      subst hw5
      have HWA' := HWA.out
      simp only [← HWA'] at *
      clear HALL HWA' HWA
      obtain ⟨md, hmd⟩ : ∃ md, md = mkd Q fr := ⟨_, rfl⟩
      have HMD := Lib.hid hmd
      rw [← hmd]
      clear hmd
      cases md with
      | false =>
        have HRN : Hid (RWs (w3.heap.size + 1) n w2.heap.size wa rows (fun p => srcL (A.ru.take (k + 1)) Q p)) := Lib.hid (by
          have e : (fun p => srcL (A.ru.take (k + 1)) Q p) = fun p => srcL (A.ru.take k) Q p := funext fun p => by
            rw [srcL_take (r := ⟨rs, fr, (qt : Int)⟩) HRK.out, ← HMD.out]
            simp
          rw [e]
          exact HRA.out)
        go_wp2_with fail
        go_roundw
        case rel => exact ⟨k + 1, rows, by go_num, by omega, HRN, HKA⟩
        case measure => simp [intOf]; omega
      | true =>
        obtain ⟨va, hva, hvc⟩ := HRA.out.rcell hqn
        have hrow := HRA.out.row qt va hva
        have HVO : Hid (va.ownBlock ≠ some w3.heap.size ∧ va.ownBlock ≠ some w2.heap.size ∧ va.ownBlock ≠ some wk.heap.size) := Lib.hid ⟨fun e => by have := (HRA.out.lt_row hva e).1; omega, fun e => (HRA.out.lt_row hva e).2.2 rfl, fun e => by
          obtain ⟨cur, hcur, _⟩ := own_cells hrow e
          exact HNA.out.ne_ hcur (by decide) rfl⟩
        have HGj := Lib.hid HRA.out.g
        have HVA := Lib.hid hva
        obtain ⟨am, mm, cm, rfl⟩ := own_slice hrow
        have HROW := Lib.hid hrow
        have hsa := HKA.out.size
        have HCS : Hid (∀ W : World, Kp (fun c => (Value.slice am mm cm).ownBlock ≠ some c) wa W → (W.cell? ⟨w3.heap.size, 0, none⟩ = some (.slice (some ⟨w2.heap.size, 0, none⟩) n n) ∧ W.cell? ⟨wk.heap.size, 1, none⟩ = some (.slice pu fr.length cu) ∧ W.cell? ⟨wk.heap.size, 2, none⟩ = some (.int .i64 (qt : Int))) ∧ W.cell? ⟨w2.heap.size, qt, none⟩ = some (.slice am mm cm) ∧ W.frozen? ⟨w2.heap.size, qt, none⟩ = false ∧ w2.heap.size < W.heap.size) := Lib.hid (fun W hW => by
          have h1 := HUA.out.kp hW HVO.out.1
          have h2 := HGj.out.kp hW HVO.out.2.1
          have h3 := HNA.out.kp hW HVO.out.2.2
          exact ⟨⟨by rw [h1.cell]; rfl, by rw [h3.cell]; rfl, by rw [h3.cell]; rfl⟩, by rw [h2.cell]; simpa using HVA.out, h2.frozen _, h2.lt⟩)
        have HC2 : Hid (∀ W : World, Kp (fun c => (Value.slice am mm cm).ownBlock ≠ some c ∧ c ≠ w2.heap.size) wa W → W.cell? ⟨w3.heap.size, 0, none⟩ = some (.slice (some ⟨w2.heap.size, 0, none⟩) n n) ∧ W.cell? ⟨wk.heap.size, 1, none⟩ = some (.slice pu fr.length cu) ∧ W.cell? ⟨wk.heap.size, 2, none⟩ = some (.int .i64 (qt : Int))) := Lib.hid (fun W hW => by
          have h1 := HUA.out.kp hW ⟨HVO.out.1, by omega⟩
          have h3 := HNA.out.kp hW ⟨HVO.out.2.2, by omega⟩
          exact ⟨by rw [h1.cell]; rfl, by rw [h3.cell]; rfl, by rw [h3.cell]; rfl⟩)
        have HKF : Hid (∀ W : World, Kp (fun c => (Value.slice am mm cm).ownBlock ≠ some c) wa W → ∀ u, Kp (fun c => (Value.slice am mm cm).ownBlock ≠ some c ∧ c ≠ w2.heap.size) wa (W.setCell ⟨w2.heap.size, qt, none⟩ u)) := Lib.hid (fun W hW u => (hW.mono (fun _ _ h => h.1)).setCell (p := ⟨w2.heap.size, qt, none⟩) (fun h => absurd rfl h.2) u)
        have HKN : Hid (∀ W : World, Kp (fun c => (Value.slice am mm cm).ownBlock ≠ some c) wa W → Kp (fun c => (Value.slice am mm cm).ownBlock ≠ some c ∧ c ≠ w2.heap.size) wa W) := Lib.hid (fun W hW => hW.mono (fun _ _ h => h.1))
        have HKG : Hid (∀ (W : World), wa.drew.grownBy W (Value.slice am mm cm).ownBlock → Kp (fun c => (Value.slice am mm cm).ownBlock ≠ some c) wa W) := Lib.hid (fun W hg => (Kp.refl _ wa).drew.grown hg (fun k e hS => absurd e hS))
        have HOX : Hid (wa.drew.ownsRow (w3.heap.size + 1) 3 1 (.slice am mm cm) (srcL (A.ru.take k) Q qt).length (intV (srcL (A.ru.take k) Q qt))) := Lib.hid (ownsRow_kp HROW.out ((Kp.refl (fun _ => True) wa).drew) (fun _ _ => trivial))
        have HFC : Hid (fr ≠ [] → ∃ b o, pu = some ⟨b, o, none⟩ ∧ ∀ (i : Nat) (x : Int), fr[i]? = some x → wa.drew.cell? ⟨b, o + i, none⟩ = some (.int .i64 x)) := Lib.hid (fun hne => by
          obtain ⟨bu, ou, e, hcu⟩ := HUC.out hne
          exact ⟨bu, ou, e, fun i x hx => cell_later HBA.out.drew (hcu i x hx)⟩)
        have HUL := Lib.hid (srcL_len (Q := Q) HR3.out qt k)
        have HM1 : Hid ((srcL (A.ru.take k) Q qt).length + fr.length ≤ maxLen) := Lib.hid (by have := HUL.out; unfold maxLen; omega)
        have HM2 : Hid (((srcL (A.ru.take k) Q qt).length + fr.length) * 8 ≤ 140737488355328) := Lib.hid (by have := HUL.out; omega)
        have HBS : Hid (w3.heap.size + 1 ≤ wa.drew.heap.size) := Lib.hid (by show _ ≤ wa.heap.size; omega)
        have c1 := (HCS.out wa.drew (Kp.refl _ _).drew).2.1
        have c0 := (HCS.out wa (Kp.refl _ _)).2.1
        have hgl := HGj.out.lt
        have hul := HUA.out.lt
        have hqi : (qt : Int) < (n : Int) := by omega
        clear hva hrow hvc
        go_wp2_with fail
        refine wp_region_held_drew (S := (fun W => W.cell? ⟨w3.heap.size, 0, none⟩ = some (.slice (some ⟨w2.heap.size, 0, none⟩) n n) ∧ W.cell? ⟨wk.heap.size, 1, none⟩ = some (.slice pu fr.length cu) ∧ W.cell? ⟨wk.heap.size, 2, none⟩ = some (.int .i64 (qt : Int)))) (by kernel_rfl) (by (try dsimp only); first | exact HC2.out _ (HKN.out _ (Kp.refl _ _).drew) | exact HC2.out _ (HKN.out _ HK9.out) | exact HC2.out _ (HKF.out _ HK9.out _)) (fun hHeld => ?_)
        refine wpAnyH_take (i := 0) (v := ?v0) rfl (by kernel_rfl) (by kernel_rfl) (by kernel_rfl) (fun _ _ _ h => h) (Or.inl ⟨by rfl, ?y0⟩) (by assumption) ?r0
        case y0 => (intro w hSw; (try dsimp only at hSw); go_simp); (try with_reducible rfl)
        (try simp only [Act.put, List.setIfInBounds_toArray, List.set_cons_zero, List.set_cons_succ])
        refine wpAnyH_take (i := 1) (v := ?v1) rfl (by kernel_rfl) (by kernel_rfl) (by kernel_rfl) (fun _ _ _ h => h) (Or.inl ⟨by rfl, ?y1⟩) (by assumption) ?r1
        case y1 => (intro w hSw; (try dsimp only at hSw); go_simp); (try with_reducible rfl)
        (try simp only [Act.put, List.setIfInBounds_toArray, List.set_cons_zero, List.set_cons_succ])
        refine wpAnyH_take (i := 2) (v := ?v2) rfl (by kernel_rfl) (by kernel_rfl) (by kernel_rfl) (fun _ _ _ h => h) (Or.inl ⟨by rfl, ?y2⟩) (by assumption) ?r2
        case y2 => (intro w hSw; (try dsimp only at hSw); go_simp); (try with_reducible rfl)
        (try simp only [Act.put, List.setIfInBounds_toArray, List.set_cons_zero, List.set_cons_succ])
        refine wpAnyH_take (i := 3) (v := ?v3) rfl (by kernel_rfl) (by kernel_rfl) (by kernel_rfl) (fun _ _ _ h => h) (Or.inl ⟨by rfl, ?y3⟩) (by assumption) ?r3
        case y3 => (intro w hSw; (try dsimp only at hSw); go_simp); (try with_reducible rfl)
        (try simp only [Act.put, List.setIfInBounds_toArray, List.set_cons_zero, List.set_cons_succ])
        refine wpAnyH_take (i := 4) (v := ?v4) rfl (by kernel_rfl) (by kernel_rfl) (by kernel_rfl) (fun _ _ _ h => h) (Or.inl ⟨by rfl, ?y4⟩) (by assumption) ?r4
        case y4 => (intro w hSw; (try dsimp only at hSw); go_simp); (try with_reducible rfl)
        (try simp only [Act.put, List.setIfInBounds_toArray, List.set_cons_zero, List.set_cons_succ])
        refine wpAnyH_take (i := 5) (v := ?v5) rfl (by kernel_rfl) (by kernel_rfl) (by kernel_rfl) (fun _ _ _ h => h) (Or.inl ⟨by rfl, ?y5⟩) (by assumption) ?r5
        case y5 => (intro w hSw; (try dsimp only at hSw); go_simp); (try with_reducible rfl)
        (try simp only [Act.put, List.setIfInBounds_toArray, List.set_cons_zero, List.set_cons_succ])
        refine wpAnyH_take (i := 6) (v := ?v6) rfl (by kernel_rfl) (by kernel_rfl) (by kernel_rfl) (fun _ _ _ h => h) (Or.inl ⟨by rfl, ?y6⟩) (by assumption) ?r6
        case y6 => (intro w hSw; (try dsimp only at hSw); go_simp); (try with_reducible rfl)
        (try simp only [Act.put, List.setIfInBounds_toArray, List.set_cons_zero, List.set_cons_succ])
        refine wpAnyH_take (i := 8) (v := ?v8) rfl (by kernel_rfl) (by kernel_rfl) (by kernel_rfl) (fun _ _ _ h => h) (Or.inl ⟨by rfl, ?y8⟩) (by assumption) ?r8
        case y8 => (intro w hSw; (try dsimp only at hSw); go_simp); (try with_reducible rfl)
        (try simp only [Act.put, List.setIfInBounds_toArray, List.set_cons_zero, List.set_cons_succ])
        refine wpAnyH_take (i := 9) (v := ?v9) rfl (by kernel_rfl) (by kernel_rfl) (by kernel_rfl) (fun _ _ _ h => h) (Or.inl ⟨by rfl, ?y9⟩) (by assumption) ?r9
        case y9 => (intro w hSw; (try dsimp only at hSw); go_simp); (try with_reducible rfl)
        (try simp only [Act.put, List.setIfInBounds_toArray, List.set_cons_zero, List.set_cons_succ])
        refine wpAnyH_ready (rs := [7]) (by kernel_rfl) (by simp) ?_
        refine AllReadyH.cons rfl (fun K hK => ?_) AllReadyH.nil
        go_simp
        refine hK.out _ _ (by (try dsimp only); first | exact HC2.out _ (HKN.out _ (Kp.refl _ _).drew) | exact HC2.out _ (HKN.out _ HK9.out) | exact HC2.out _ (HKF.out _ HK9.out _)) (fun hHeld => ?_)
        clear hK K
        (try simp only [Act.put, List.setIfInBounds_toArray, List.set_cons_zero, List.set_cons_succ])
        refine wpAnyH_ready (rs := [10]) (by kernel_rfl) (by simp) ?_
        refine AllReadyH.cons rfl (fun K hK => ?_) AllReadyH.nil
        refine step_append_ints _ rfl (.tmp 37) (.tmp 39) 22 rfl (w3.heap.size + 1) 3 i1 _ 8 Tryd.underlying22 HI1.out hy0 hy1 hy2 rfl (.slice am mm cm) (srcL (A.ru.take k) Q qt).length (intV (srcL (A.ru.take k) Q qt)) rfl HOX.out pu fr cu rfl HFC.out HM1.out HM2.out HBS.out ?_
        intro v9 w9 ho9 hg9 hat9
        obtain ⟨a9, m9, k9, rfl⟩ := own_slice ho9
        have HO9 := Lib.hid ho9
        have HK9 := Lib.hid (HKG.out w9 hg9)
        have HAT := Lib.hid hat9
        have c3 := (HCS.out w9 HK9.out).2.1
        have f3 := (HCS.out w9 HK9.out).2.2.1
        have l3 := (HCS.out w9 HK9.out).2.2.2
        clear ho9 hg9 hat9
        refine hK.out _ _ (by (try dsimp only); first | exact HC2.out _ (HKN.out _ (Kp.refl _ _).drew) | exact HC2.out _ (HKN.out _ HK9.out) | exact HC2.out _ (HKF.out _ HK9.out _)) (fun hHeld => ?_)
        clear hK K
        (try simp only [Act.put, List.setIfInBounds_toArray, List.set_cons_zero, List.set_cons_succ])
        refine wpAnyH_take (i := 11) (v := ?v11) rfl (by kernel_rfl) (by kernel_rfl) (by kernel_rfl) (fun _ _ _ h => h) (Or.inl ⟨by rfl, ?y11⟩) (by assumption) ?r11
        case y11 => (intro w hSw; (try dsimp only at hSw); go_simp); (try with_reducible rfl)
        (try simp only [Act.put, List.setIfInBounds_toArray, List.set_cons_zero, List.set_cons_succ])
        refine wpAnyH_ready (rs := [12]) (by kernel_rfl) (by simp) ?_
        refine AllReadyH.cons rfl (fun K hK => ?_) AllReadyH.nil
        go_simp
        refine hK.out _ _ (by (try dsimp only); first | exact HC2.out _ (HKN.out _ (Kp.refl _ _).drew) | exact HC2.out _ (HKN.out _ HK9.out) | exact HC2.out _ (HKF.out _ HK9.out _)) (fun hHeld => ?_)
        clear hK K
        (try simp only [Act.put, List.setIfInBounds_toArray, List.set_cons_zero, List.set_cons_succ])
        refine wpAnyH_done (by kernel_rfl) ?_ _
        have hPQ := HRA.out.app (U' := fun p => srcL (A.ru.take (k + 1)) Q p) HVA.out HK9.out (by
          have e : srcL (A.ru.take (k + 1)) Q qt = srcL (A.ru.take k) Q qt ++ fr := by
            rw [srcL_take (r := ⟨rs, fr, (qt : Int)⟩) HRK.out, ← HMD.out]
            simp
          show w9.ownsRow _ _ 1 _ (srcL (A.ru.take (k + 1)) Q qt).length (intV (srcL (A.ru.take (k + 1)) Q qt))
          rw [e, intV_app, List.length_append]
          exact HO9.out) (by
          rcases HAT.out with e | e
          · exact .inl e
          · exact .inr ⟨_, e, Nat.le_refl _⟩) (fun p hp => by
          show srcL (A.ru.take (k + 1)) Q p = _
          rw [srcL_take (r := ⟨rs, fr, (qt : Int)⟩) HRK.out, if_neg (by simp only [Int.toNat_natCast]; exact fun h => hp h.1.symm), List.append_nil])
        have HPQ := Lib.hid hPQ.1
        have HKQ : Hid (Kp (fun c => c < w3.heap.size + 1 ∧ c ≠ w2.heap.size) w4 (w9.setCell ⟨w2.heap.size, qt, none⟩ (.slice a9 m9 k9))) := Lib.hid (HKA.out.trans (hPQ.2.mono (fun c _ hc => ⟨fun e => by
          have h1 := (HRA.out.lt_row HVA.out e).1
          have h2 := hc.1
          omega, hc.2⟩)))
        clear hPQ c0 c1 c3 f3 l3 hgl hul
        generalize w9.setCell ⟨w2.heap.size, qt, none⟩ (.slice a9 m9 k9) = w5 at *
        go_wp2_with fail
        go_roundw
        case rel => exact ⟨k + 1, _, by go_num, by omega, HPQ, HKQ⟩
        case measure => simp [intOf]; omega
    · have hge : A.ru.length ≤ k := by omega
      have hkd : decide (k < A.ru.length) = false := decide_eq_false hlt
      have hkd2 : decide ((k : Int) < (A.ru.length : Int)) = false := decide_eq_false (by omega)
      have HRW : Hid (RWs (w3.heap.size + 1) n w2.heap.size wk rows (fun p => srcL A.ru Q p)) := Lib.hid (by
        have h := HR.out
        rw [List.take_of_length_le hge] at h
        exact h)
      obtain ⟨w6, hw6⟩ : ∃ w6, w6 = wk.alloc (.cells #[.slice none 0 0, .map none] 113) := ⟨_, rfl⟩
      have HK6 : Hid (Kp (fun _ => True) wk w6) := Lib.hid (hw6 ▸ (Kp.refl _ wk).alloc _)
      have HL6 : Hid (Blk w6 wk.heap.size 113 #[.slice none 0 0, .map none]) := Lib.hid (hw6 ▸ Blk.new wk _ _)
      have HX6 := Lib.hid (HXk.out.kp HK6.out trivial)
      have HB6 : Hid (Below w.heap.size w w6) := Lib.hid (HBk.out.trans (HK6.out.below HBk.out.size (fun _ _ => trivial)))
      have hs6 : w6.heap.size = wk.heap.size + 1 := by rw [hw6]; simp
      have z6 : w6.cell? ⟨w.heap.size, 1, none⟩ = some (.slice p1 A.fin.length c1) := by rw [HX6.out.cell]; rfl
      have zl := HX6.out.lt
      have HWL6 : Hid (WL w6 (fun c => c = wk.heap.size) n wk.heap.size [] []) := Lib.hid ⟨_, _, HL6.out, rfl, ownsQ.nil _ _ _, fun k hk => (by cases hk), .inl ⟨rfl, rfl⟩⟩
      rw [hw6] at z6 zl
      have HW6 := Lib.hid hw6
      have HS6 := Lib.hid hs6
      clear hw6 hs6
      go_wp2_with fail
      have hw6 := HW6.out
      simp only [← hw6] at *
      clear hw6 HW6 z6
      go_loopw [46] (fun iv wm => ∃ (j : Nat) (C : Nat → Prop) (S I : List Nat), iv = .int .i64 (j : Nat) ∧ j ≤ A.fin.length ∧ Hid (WL wm C n wk.heap.size S I) ∧ Hid (∀ c, C c → (c = wk.heap.size ∨ wk.heap.size < c) ∧ c < wm.heap.size) ∧ Hid (UMid A.ru A.fin Q n (List.replicate n false) S I noE) ∧ Hid (∀ x ∈ A.fin.take j, Q.getD x.toNat false = true → x.toNat ∈ S) ∧ Hid (Kp (fun c => c < wk.heap.size) w6 wm))
        (fun iv _ => A.fin.length - (intOf iv).toNat)
      case atStart => exact ⟨0, _, [], [], rfl, by omega, HWL6, Lib.hid (fun c hc => ⟨.inl hc, by have := HS6.out; omega⟩), Lib.hid (UMid.start A.ru A.fin Q n), Lib.hid (fun x hx => by simp at hx), Lib.hid (Kp.refl _ _)⟩
      case round =>
        rename World => wm
        obtain ⟨j, C, S, I, rfl, hj, HWL, HCW, HUM, HFS, HKM⟩ := hrel
        have hsk6 := HB6.out.size
        have HBm : Hid (Below w.heap.size w wm) := Lib.hid (HB6.out.trans (HKM.out.below HB6.out.size (fun c hc => by have := HBk.out.size; omega)))
        have HXm : Hid (Blk wm w.heap.size 27 #[.int .i64 A.st, .slice p1 A.fin.length c1, .slice p2 A.ru.length c2]) := Lib.hid (HX6.out.kp HKM.out HXk.out.lt)
        have HQm : Hid (BB wm rb Q) := Lib.hid ((HQk.out.kp HK6.out trivial).kp HKM.out (by omega))
        have hsm := HKM.out.size
        have hs6 := HS6.out
        by_cases hjl : j < A.fin.length
        · obtain ⟨x, hx⟩ : ∃ x, A.fin[j]? = some x := ⟨_, List.getElem?_eq_getElem hjl⟩
          obtain ⟨q, hxq, hq⟩ := st_nat HST.out (HFN.out x (List.mem_of_getElem? hx))
          obtain ⟨b, o, rfl, hfl⟩ := HFC0.out (fun h => by simp [h] at hjl)
          have u0 : wm.cell? ⟨b, o + j, none⟩ = some (.int .i64 (q : Int)) := by
            have h := cell_later HBm.out (hfl j x hx)
            rw [hxq] at h
            exact h
          have m0 : wm.cell? ⟨rb, q, none⟩ = some (.bool (Q.getD q false)) := HQm.out.at (by have := HIQ.out.len; omega)
          have ml : rb < wm.heap.size := by omega
          have hji : (j : Int) < (A.fin.length : Int) := by omega
          have hqi : (q : Int) < (n : Int) := by omega
          have HXM := Lib.hid (List.mem_of_getElem? hx)
          have HXQ := Lib.hid hxq
          have HTK : Hid (A.fin.take (j + 1) = A.fin.take j ++ [(q : Int)]) := Lib.hid (by rw [List.take_add_one, hx, hxq]; rfl)
          have HADD := Lib.hid (ladd_ok HWL.out q hq hn (by have := nodup_len HUM.out.nod (fun y hy => HUM.out.lt y (HUM.out.sub y hy)); omega))
          obtain ⟨g, hg⟩ : ∃ g, g = Q.getD q false := ⟨_, rfl⟩
          rw [← hg] at m0
          have HG := Lib.hid hg
          clear hg hx hxq hfl hs6
          cases g with
          | false =>
            have HFS2 : Hid (∀ x ∈ A.fin.take (j + 1), Q.getD x.toNat false = true → x.toNat ∈ S) := Lib.hid (fun y hy hyq => by
              rw [HTK.out, List.mem_append, List.mem_singleton] at hy
              rcases hy with hy | hy
              · exact HFS.out y hy hyq
              · subst hy
                rw [Int.toNat_natCast, ← HG.out] at hyq
                cases hyq)
            go_wp2_with fail
            go_roundw
            case rel => exact ⟨j + 1, C, S, I, by go_num, by omega, HWL, HCW, HUM, HFS2, HKM⟩
            case measure => simp [intOf]; omega
          | true =>
            go_wp2_with fail
            refine HADD.out.mono ?_
            rintro e w8 ⟨rfl, ⟨C', hwl, hC'⟩, hk8⟩
            have hs8 := hk8.size
            have HWL8 : Hid (WL w8 (fun c => C' c ∧ c < w8.heap.size) n wk.heap.size (addS S q) (addI S I q)) := Lib.hid hwl.bound
            have HCW8 : Hid (∀ c, (C' c ∧ c < w8.heap.size) → (c = wk.heap.size ∨ wk.heap.size < c) ∧ c < w8.heap.size) := Lib.hid (fun c hc => ⟨(hC' c hc.1).elim (fun h => (HCW.out c h).1) (fun h => .inr (by have := HS6.out; omega)), hc.2⟩)
            have HUM8 : Hid (UMid A.ru A.fin Q n (List.replicate n false) (addS S q) (addI S I q) noE) := Lib.hid (HUM.out.add hq (by
              have h := Usd.fin (R := A.ru) (F := A.fin) _ HXM.out (by
                rw [HXQ.out, Int.toNat_natCast]
                exact (HIQ.out.iff q).1 HG.out.symm)
              rw [HXQ.out, Int.toNat_natCast] at h
              exact h))
            have HFS8 : Hid (∀ x ∈ A.fin.take (j + 1), Q.getD x.toNat false = true → x.toNat ∈ addS S q) := Lib.hid (fun y hy hyq => by
              rw [HTK.out, List.mem_append, List.mem_singleton] at hy
              rcases hy with hy | hy
              · exact mem_addS.2 (.inr (HFS.out y hy hyq))
              · subst hy
                rw [Int.toNat_natCast]
                exact mem_addS.2 (.inl rfl))
            have HKM8 : Hid (Kp (fun c => c < wk.heap.size) w6 w8) := Lib.hid (HKM.out.trans (hk8.mono (fun c _ hc h => by
              have hc2 : c < wk.heap.size := hc
              rcases (HCW.out c h).1 with e | e <;> omega)))
            clear hwl hC' hk8
            go_wp2_with fail
            go_roundw
            case rel => exact ⟨j + 1, _, _, _, by go_num, by omega, HWL8, HCW8, HUM8, HFS8, HKM8⟩
            case measure => simp [intOf]; omega
        · have hjd : decide (j < A.fin.length) = false := decide_eq_false hjl
          have hjd2 : decide ((j : Int) < (A.fin.length : Int)) = false := decide_eq_false (by omega)
          have HFE : Hid (∀ x ∈ A.fin, Q.getD x.toNat false = true → x.toNat ∈ S) := Lib.hid (by
            have h := HFS.out
            rw [List.take_of_length_le (by omega)] at h
            exact h)
          have x0 : wm.cell? ⟨w.heap.size, 0, none⟩ = some (.int .i64 (n : Int)) := by rw [HXm.out.cell, ← HST.out]; rfl
          have hxl := HXm.out.lt
          have hBm := HBm.out.size
          clear hs6
          go_wp2_with (at_make; refine wpList_make_full _ rfl _ _ 34 rfl (w.heap.size + 1) 4 i2 _ 1 Tryd.underlying34 HI2.out hx0 hx1 _ _ _ _ n rfl rfl rfl rfl (by rw [hx2]; omega) (by simp only [maxLen]; omega) (by omega) ?_)
          intro w5 hown hgrow
          have hO := own_full hown
          rw [toList_madeCells_one] at hO
          have hKT : Kp (fun _ => True) wm w5 := (Kp.refl _ wm).grown hgrow (fun j e => by simp at e)
          have hol := hO.lt
          obtain ⟨w7, hw7⟩ : ∃ w7, w7 = w5.alloc (.cells #[.slice (some ⟨wm.heap.size, 0, none⟩) n n] 34) := ⟨_, rfl⟩
          have hK7 : Kp (fun _ => True) wm w7 := hw7 ▸ hKT.alloc _
          have HB7 : Hid (BB w7 wm.heap.size (List.replicate n false)) := Lib.hid (by
            rw [hw7]; unfold BB; rw [List.map_replicate]; exact hO.alloc _)
          have HO7 : Hid (Blk w7 w5.heap.size 34 #[.slice (some ⟨wm.heap.size, 0, none⟩) n n]) := Lib.hid (hw7 ▸ Blk.new w5 _ _)
          have HK7 := Lib.hid hK7
          have HS7 : Hid (w7.heap.size = w5.heap.size + 1) := Lib.hid (by rw [hw7]; simp)
          have HALL := Lib.hid (all_any wk.heap.size w7)
          have HW7 := Lib.hid hw7
          rw [hw7] at HALL
          clear hown hgrow hO hKT hK7 hw7 x0
          go_wp2_with fail
          refine HALL.out.mono ?_
          rintro e w8 ⟨rfl, hw8⟩
          have hw7 := HW7.out
          simp only [← hw7] at *
          clear HALL hw7 HW7
          have HK8 : Hid (Kp (fun _ => True) wm w8) := Lib.hid (hw8 ▸ HK7.out.alloc _)
          have HH8 : Hid (Blk w8 w7.heap.size 138 #[.pointer (some ⟨wk.heap.size, 0, none⟩)]) := Lib.hid (hw8 ▸ Blk.new w7 _ _)
          have HB8 : Hid (BB w8 wm.heap.size (List.replicate n false)) := Lib.hid (hw8 ▸ Blk.alloc (show Blk w7 wm.heap.size 4 ((List.replicate n false).map Value.bool).toArray from HB7.out) _)
          have HO8 : Hid (Blk w8 w5.heap.size 34 #[.slice (some ⟨wm.heap.size, 0, none⟩) n n]) := Lib.hid (hw8 ▸ HO7.out.alloc _)
          have hs8 : w8.heap.size = w7.heap.size + 1 := by rw [hw8]; simp
          have HS8 := Lib.hid hs8
          clear hs8 hw8
          go_wp2_with fail
          have hk8 := HK8.out.size
          have hs7 := HS7.out
          have hs8 := HS8.out
          have HKU : Hid (Kp (fun c => c < wk.heap.size) wk w8) := Lib.hid ((HK6.out.mono (fun _ _ _ => trivial)).trans (HKM.out.trans (HK8.out.mono (fun _ _ _ => trivial))))
          have HX8 : Hid (Blk w8 w.heap.size 27 #[.int .i64 A.st, .slice p1 A.fin.length c1, .slice p2 A.ru.length c2]) := Lib.hid (HXm.out.kp HK8.out trivial)
          have HU8 : Hid (Blk w8 w3.heap.size 114 #[.slice (some ⟨w2.heap.size, 0, none⟩) n n]) := Lib.hid (HUk.out.kp HKU.out HUk.out.lt)
          have HR8 : Hid (RWs (w3.heap.size + 1) n w2.heap.size w8 rows (fun p => srcL A.ru Q p)) := Lib.hid (HRW.out.kp HKU.out HRW.out.g.lt (fun b _ h _ => h))
          have HBW8 : Hid (Below w.heap.size w w8) := Lib.hid (HBm.out.trans (HK8.out.below HBm.out.size (fun _ _ => trivial)))
          have HPBK : Hid (∀ c, (C c ∨ c = wm.heap.size) → wk.heap.size ≤ c ∧ c ≠ w5.heap.size ∧ c ≠ w7.heap.size ∧ c < w8.heap.size) := Lib.hid (fun c hc => by
            rcases hc with h | h
            · have h1 := HCW.out c h
              rcases h1.1 with e | e <;> omega
            · have := HS6.out
              omega)
          have HJ0 : Hid (UJ A.ru A.fin Q n wm.heap.size wk.heap.size w8 C ⟨List.replicate n false, S, I⟩ I noE) := Lib.hid
            ⟨HB8.out, HWL.out.kp (HK8.out.mono (fun _ _ _ => trivial)), fun h => by have := (HCW.out _ h).2; omega, HUM.out, HFE.out⟩
          have hs87 : w7.heap.size ≤ w8.heap.size ∧ w5.heap.size < w7.heap.size ∧ wm.heap.size < w5.heap.size := by omega
          clear hs7 hs8
          refine (wpIn_wide (n := 0)).1 ?_
          refine rq_frame (σ := US) (α := Nat) (gf := 102) (lb := #[.pointer (some ⟨w7.heap.size, 0, none⟩)]) (Enc := fun q : Nat => #[.int .i64 (q : Int)]) (pend := fun s => s.I.head?) (Φ := fun s W => QAt W wk.heap.size s.I) (Pop := fun s W W' => PopQ wk.heap.size s.I W W') rfl (enters_of Tryd.func102 (by kernel_rfl) rfl) ?_ (fun s => s.M.count false) ⟨List.replicate n false, S, I⟩
            (fun c => C c ∨ c = wm.heap.size) ?_
            (fun s Cx W => ∃ C2, (∀ c, Cx c ↔ (C2 c ∨ c = wm.heap.size)) ∧ UJ A.ru A.fin Q n wm.heap.size wk.heap.size W C2 s s.I noE)
            (fun s Cx W => ∃ C2, (∀ c, Cx c ↔ (C2 c ∨ c = wm.heap.size)) ∧ UJ A.ru A.fin Q n wm.heap.size wk.heap.size W C2 s s.I.tail noE)
            (fun q T => (T.setIfInBounds 61 (.int .i64 (q : Int))).setIfInBounds 11 (.int .i64 (q : Int)))
            ?_ ?_ ?_ ?_ (all_iter (fun s : US => s.I) wk.heap.size w7.heap.size _ w8 HH8.out (fun h => (HPBK.out _ h).2.2.1 rfl)) ⟨C, fun _ => Iff.rfl, HJ0.out⟩ ?_ ?_ ?_
          · intro q; rfl
          · exact fun c hc => (HPBK.out c hc).2.2.2
          · rintro s Cx W W' ⟨C2, h1, h2⟩ hk
            exact ⟨C2, h1, h2.kp hk ((h1 _).2 (.inr rfl)) (fun c hc => (h1 c).2 (.inl hc))⟩
          · rintro s Cx W W' ⟨C2, h1, h2⟩ hk
            exact ⟨C2, h1, h2.kp hk ((h1 _).2 (.inr rfl)) (fun c hc => (h1 c).2 (.inl hc))⟩
          · rintro s Cx W ⟨C2, h1, h2⟩
            exact h2.wl.queue (by have := nodup_len h2.mid.nod (fun y hy => h2.mid.lt y (h2.mid.sub y hy)); omega)
          · rintro s q Cx W W' ⟨C2, h1, h2⟩ hx hp
            obtain ⟨h3, h4⟩ := h2.pop hp
            exact ⟨⟨C2, h1, h3⟩, h4.mono (fun c _ hc h => hc ((h1 c).2 (.inl h)))⟩
          · intro L q W K' hK
            have HK' := Lib.hid hK
            clear hK
            simp only [List.setIfInBounds_toArray, List.set_cons_zero, List.set_cons_succ] at HK'
            gi_wp2
            exact HK'.out
          · rintro L2 s q Cx W hx ⟨C2, hCx, hj⟩ hg hnL hr
            obtain ⟨M, S1, I1⟩ := s
            obtain ⟨T, rfl⟩ : ∃ T, I1 = q :: T := by
              cases I1 with
              | nil => cases hx
              | cons a T => simp only [List.head?_cons, Option.some.injEq] at hx; subst hx; exact ⟨T, rfl⟩
            simp only [List.setIfInBounds_toArray, List.set_cons_zero, List.set_cons_succ]
            simp only [List.tail_cons] at hj
            obtain ⟨hq, hqS, hqf, hML, hjm⟩ := hj.marked
            have HKP : Hid (∀ (V : World), Kp (fun c => ¬ (C c ∨ c = wm.heap.size)) w8 V → Blk V w3.heap.size 114 #[.slice (some ⟨w2.heap.size, 0, none⟩) n n] ∧ Blk V w5.heap.size 34 #[.slice (some ⟨wm.heap.size, 0, none⟩) n n] ∧ RWs (w3.heap.size + 1) n w2.heap.size V rows (fun p => srcL A.ru Q p)) := Lib.hid (fun V hV => by
              have hkV : Kp (fun c => c < wk.heap.size) wk V := HKU.out.trans (hV.mono (fun c _ (hc : c < wk.heap.size) h => by have := (HPBK.out _ h).1; omega))
              exact ⟨HUk.out.kp hkV HUk.out.lt, HO8.out.kp hV (fun h => (HPBK.out _ h).2.1 rfl), HRW.out.kp hkV HRW.out.g.lt (fun b _ h _ => h)⟩)
            have HKW := Lib.hid hg.kp
            have hw := HKP.out W HKW.out
            obtain ⟨va, hva, _⟩ := hw.2.2.rcell hq
            obtain ⟨pr, cr, rfl, _⟩ := row_cell (hw.2.2.row q va hva)
            have HROW : Hid (∀ V : World, Kp (fun c => ¬ (C c ∨ c = wm.heap.size)) w8 V → srcL A.ru Q q ≠ [] → ∃ g, pr = some ⟨g, 0, none⟩ ∧ ∀ (i : Nat) x, (srcL A.ru Q q)[i]? = some x → V.cell? ⟨g, i, none⟩ = some (.int .i64 x)) := Lib.hid (fun V hV hne => by
              obtain ⟨p', c', e, h3⟩ := row_cell ((HKP.out V hV).2.2.row q _ hva)
              simp only [Value.slice.injEq] at e
              obtain ⟨rfl, _, rfl⟩ := e
              exact h3 hne)
            have HVA := Lib.hid hva
            obtain ⟨wb, hwb⟩ : ∃ wb, wb = W.setCell ⟨wm.heap.size, q, none⟩ (.bool true) := ⟨_, rfl⟩
            have HG := Lib.hid hg
            have HCX := Lib.hid hCx
            have HGB : Hid (Grow Cx W Cx wb) := Lib.hid (hwb ▸ (Grow.refl hg.lt).setCell (p := ⟨wm.heap.size, q, none⟩) ((hCx _).2 (.inr rfl)) _)
            have HKB : Hid (Kp (fun c => ¬ (C c ∨ c = wm.heap.size)) w8 wb) := Lib.hid ((hg.trans HGB.out).kp)
            have HPJ : Hid (UJ A.ru A.fin Q n wm.heap.size wk.heap.size wb C2 ⟨M.set q true, S1, T⟩ T (fun p x => p = q ∧ x ∈ srcL A.ru Q q)) := Lib.hid (hwb ▸ hjm)
            have HMU : Hid ((M.set q true).count false + 1 = M.count false) := Lib.hid (count_set M q (by omega) hqf)
            have x1 : W.cell? ⟨w5.heap.size, 0, none⟩ = some (.slice (some ⟨wm.heap.size, 0, none⟩) n n) := by rw [hw.2.1.cell]; rfl
            have x2 := hw.2.1.lt
            have x3 : W.cell? ⟨wm.heap.size, q, none⟩ = some (.bool (M.getD q false)) := hj.b.at (show q < M.length by omega)
            have x4 := Blk.frozen (show Blk W wm.heap.size 4 (M.map Value.bool).toArray from hj.b) q
            have x5 : wm.heap.size < W.heap.size := Blk.lt (show Blk W wm.heap.size 4 (M.map Value.bool).toArray from hj.b)
            have hwB := HKP.out wb HKB.out
            have y1 : wb.cell? ⟨w3.heap.size, 0, none⟩ = some (.slice (some ⟨w2.heap.size, 0, none⟩) n n) := by rw [hwB.1.cell]; rfl
            have y2 := hwB.1.lt
            have y3 : wb.cell? ⟨w2.heap.size, q, none⟩ = some (.slice pr (srcL A.ru Q q).length cr) := by rw [hwB.2.2.g.cell]; simpa using HVA.out
            have y4 := hwB.2.2.g.lt
            have hqi : (q : Int) < (n : Int) := by omega
            have hul : (srcL A.ru Q q).length ≤ 60000 := by
              have h := srcL_len (Q := Q) HR3.out q A.ru.length
              rw [List.take_length] at h
              omega
            have HQS := Lib.hid hqS
            rw [hwb] at y1 y2 y3 y4
            have HWB := Lib.hid hwb
            clear hw hwB hwb hj hg hCx hr hx hML hva hjm hqS
            gi_wp2_with fail
            have HWB' := HWB.out
            simp only [← HWB'] at *
            clear HWB' HWB
            gi_loopw [70] (fun jv wj => ∃ (j : Nat) (C3 : Nat → Prop) (S3 I3 : List Nat), jv = .int .i64 (j : Nat) ∧ j ≤ (srcL A.ru Q q).length ∧ Hid (UJ A.ru A.fin Q n wm.heap.size wk.heap.size wj C3 ⟨M.set q true, S3, I3⟩ I3 (fun p x => p = q ∧ x ∈ (srcL A.ru Q q).drop j)) ∧ Hid (q ∈ S3) ∧ Hid (Grow Cx W (fun c => C3 c ∨ c = wm.heap.size) wj))
              (fun jv _ => (srcL A.ru Q q).length - (intOf jv).toNat)
            case atStart => exact ⟨0, C2, S1, T, rfl, Nat.zero_le _, by simpa using HPJ, HQS, Lib.hid (by
              have h := HGB.out
              have e : Cx = (fun c => C2 c ∨ c = wm.heap.size) := funext fun c => propext (HCX.out c)
              rw [e] at h ⊢
              exact h)⟩
            case round =>
              rename World => wj
              obtain ⟨j, C3, S3, I3, rfl, hjle, HPJ3, HQS3, HG3⟩ := hrel
              have HKj : Hid (Kp (fun c => ¬ (C c ∨ c = wm.heap.size)) w8 wj) := Lib.hid ((HG.out.trans HG3.out).kp)
              by_cases hjl : j < (srcL A.ru Q q).length
              · obtain ⟨x, hx⟩ : ∃ x, (srcL A.ru Q q)[j]? = some x := ⟨_, List.getElem?_eq_getElem hjl⟩
                have hxm := List.mem_of_getElem? hx
                obtain ⟨r, hr1, hr2, hr3', hr4'⟩ := mem_srcL.1 hxm
                obtain ⟨p, rfl, hp⟩ := st_nat HST.out ((HRU.out r hr1).2 x hr4')
                obtain ⟨gr, rfl, hgc⟩ := HROW.out wj HKj.out (fun h => by simp [h] at hjl)
                have u0 : wj.cell? ⟨gr, j, none⟩ = some (.int .i64 (p : Int)) := hgc j _ hx
                have HDR : Hid ((srcL A.ru Q q).drop j = (p : Int) :: (srcL A.ru Q q).drop (j + 1)) := Lib.hid (by
                  rw [List.drop_eq_getElem_cons hjl]
                  rw [List.getElem?_eq_getElem hjl] at hx
                  rw [Option.some.inj hx])
                have HPD : Hid (UJ A.ru A.fin Q n wm.heap.size wk.heap.size wj C3 ⟨M.set q true, S3, I3⟩ I3 (fun p' x => p' = q ∧ x ∈ (p : Int) :: (srcL A.ru Q q).drop (j + 1))) := Lib.hid (by
                  have h := HPJ3.out
                  rw [HDR.out] at h
                  exact h)
                have hji : (j : Int) < ((srcL A.ru Q q).length : Int) := by omega
                have HADD := Lib.hid (ladd_ok HPD.out.wl p hp hn (by have := nodup_len HPD.out.mid.nod (fun y hy => HPD.out.mid.lt y (HPD.out.mid.sub y hy)); simp only at this; omega))
                have HXM := Lib.hid hxm
                clear hx hgc hxm hr1 hr2 hr3' hr4'
                gi_wp2_with fail
                refine (CallsIn.of_calls HADD.out).mono ?_
                rintro e w9 ⟨rfl, ⟨C', hwl, hC'⟩, hk9⟩
                have HPI := Lib.hid (UJ.item (s := ⟨M.set q true, S3, I3⟩) HPD.out HIQ.out HQS3.out HXM.out hp hwl hC' hk9)
                have HQ9 : Hid (q ∈ addS S3 p) := Lib.hid (mem_addS.2 (.inr HQS3.out))
                have HG9 : Hid (Grow Cx W (fun c => (C3 c ∨ (C' c ∧ c < w9.heap.size)) ∨ c = wm.heap.size) w9) := Lib.hid (HG3.out.trans ⟨fun c hc => hc.elim (fun h => .inl (.inl h)) .inr, fun c hc => by
                  rcases hc with (h | h) | h
                  · exact .inl (.inl h)
                  · exact (hC' c h.1).elim (fun h => .inl (.inl h)) .inr
                  · exact .inl (.inr h), fun c hc => by
                  have hs := hk9.size
                  rcases hc with (h | h) | h
                  · exact Nat.lt_of_lt_of_le (HG3.out.lt c (.inl h)) hs
                  · exact h.2
                  · exact Nat.lt_of_lt_of_le (HG3.out.lt c (.inr h)) hs, hk9.mono (fun c _ hc h => hc (.inl h))⟩)
                clear hwl hC' hk9
                gi_wp2_with fail
                go_roundw
                case rel => exact ⟨j + 1, _, _, _, by go_num, by omega, HPI, HQ9, HG9⟩
                case measure => simp [intOf]; omega
              · have hjd : decide (j < (srcL A.ru Q q).length) = false := decide_eq_false hjl
                have hjd2 : decide ((j : Int) < ((srcL A.ru Q q).length : Int)) = false := decide_eq_false (by omega)
                have HPE : Hid (UJ A.ru A.fin Q n wm.heap.size wk.heap.size wj C3 ⟨M.set q true, S3, I3⟩ I3 noE) := Lib.hid (by
                  have h := HPJ3.out
                  rw [List.drop_of_length_le (by omega)] at h
                  exact ⟨h.b, h.wl, h.nB, h.mid.less (fun p x hE _ => by cases hE.2), h.fin⟩)
                clear hjl
                gi_wp2_with fail
                exact ⟨_, ⟨M.set q true, S3, I3⟩, HG3.out, ⟨C3, fun _ => Iff.rfl, HPE.out⟩, by have := HMU.out; simp only; omega⟩
          · rintro D s Cx W hg hpe ⟨C2, hCx, hj⟩ hD hDC hDs
            have hI : s.I = [] := by
              cases h : s.I with
              | nil => rfl
              | cons a T => rw [h] at hpe; cases hpe
            have HIS := Lib.hid (hj.full hI HIQ.out rfl)
            have HBM := Lib.hid hj.b
            have HOW : Hid (Blk W w5.heap.size 34 #[.slice (some ⟨wm.heap.size, 0, none⟩) n n]) := Lib.hid (HO8.out.kp hg.kp (fun h => (HPBK.out _ h).2.1 rfl))
            have HBW : Hid (Below w.heap.size w W) := Lib.hid (HBW8.out.trans (hg.kp.below HBW8.out.size (fun c hc h => by have := (HPBK.out c h).1; have := HBk.out.size; omega)))
            have HD := Lib.hid hD
            have x1 : W.cell? ⟨w5.heap.size, 0, none⟩ = some (.slice (some ⟨wm.heap.size, 0, none⟩) n n) := by rw [HOW.out.cell]; rfl
            have x2 := HOW.out.lt
            clear hD hj hg hI hpe
            go_wp2_with fail
            have hkD : Kp (fun k => k < w8.heap.size) W (W.putObj D (.deferred none)) := (Kp.refl (fun k => k < w8.heap.size) W).putObj (fun h => absurd hDs (Nat.not_le.2 h)) _
            have hwk : w.heap.size ≤ wm.heap.size ∧ wm.heap.size < w8.heap.size ∧ w.heap.size ≤ w8.heap.size := by omega
            have hBW := HBW.out.size
            refine ⟨by simp, .inl ⟨_, _, rfl, run_takeDeferred HD.out, ?_⟩⟩
            refine ⟨_, results_tmp rfl _ _ _, ⟨wm.heap.size, s.M, rfl, BB.kp HBM.out hkD hwk.2.1, HIS.out, hwk.1⟩, ?_⟩
            exact HBW.out.trans (hkD.below hBW (fun k hk => Nat.lt_of_lt_of_le hk hwk.2.2))
end

section
open Go.RowKit Go.Shelf Go.Maps Go.WideElems

theorem frs_of {al : List Int} {A : Au} (h : GoodA al A) : ∀ r ∈ A.ru, r.fr.length ≤ 3 := fun r hr => (h.rus r hr).len

set_option maxRecDepth 100000 in
set_option maxHeartbeats 2000000 in
theorem areachable_ok (al : List Int) (A : Au) (av v : Value) (w : World) (ha : IsInts w av al) (hA : IsAu w v A) :
    Calls Tryd.prog 17 #[.agg #[av], v] w fun e w' => (∃ u, e = .returned (.tuple #[u, .int .i64 (vE al A)]) ∧ IsMs (validA al A) w' u A.st.toNat (IsRch A.ru A.st.toNat)) ∧ Below w.heap.size w w' := by
  have HA := Lib.hid hA
  have HAL := Lib.hid ha
  obtain ⟨fv, rv, rfl, hf, hr⟩ := hA
  have H2 := Lib.hid (two_boxes w #[av] #[.int .i64 A.st, fv, rv] 24 27)
  obtain ⟨p1, c1, rfl, _⟩ := hf
  obtain ⟨p2, c2, rfl, _⟩ := hr
  obtain ⟨pa, ca, rfl, _⟩ := ha
  have h0 := H2.out _ (Below.refl _ _)
  have HV := Lib.hid (valid_ok al A _ _ _ (HAL.out.below h0.2.2) (HA.out.below h0.2.2))
  clear h0
  go_enter Tryd.func17, Tryd.ntmps17
  go_wp2_with fail
  refine HV.out.mono ?_
  rintro e w1 ⟨rfl, hb1⟩
  have h1 := H2.out w1 hb1
  have HB1 := Lib.hid h1.2.2
  cases hva : validA al A with
  | false =>
    have HVA := Lib.hid hva
    have HE : Hid (vE al A = 1) := Lib.hid (by unfold vE; rw [hva]; rfl)
    clear h1 hb1 hva
    go_wp2_with fail
    go_ret2
    exact ⟨⟨_, by rw [HE.out]; rfl, ⟨fun _ => rfl, fun e => (by rw [HVA.out] at e; cases e)⟩⟩, HB1.out⟩
  | true =>
    have HVA := Lib.hid hva
    have HE : Hid (vE al A = 0) := Lib.hid (by unfold vE; rw [hva]; rfl)
    have HGD := Lib.hid (goodA_of hva)
    have x0 : w1.cell? ⟨w.heap.size + 1, 0, none⟩ = some (.int .i64 A.st) := by rw [h1.2.1.cell]; rfl
    have x1 : w1.cell? ⟨w.heap.size + 1, 1, none⟩ = some (.slice p1 A.fin.length c1) := by rw [h1.2.1.cell]; rfl
    have x2 : w1.cell? ⟨w.heap.size + 1, 2, none⟩ = some (.slice p2 A.ru.length c2) := by rw [h1.2.1.cell]; rfl
    have xl := h1.2.1.lt
    have HO := Lib.hid (reachable_ok A A.st.toNat (by have := HGD.out.st; omega) (by have := HGD.out.st; omega) HGD.out.rlen HGD.out.sts (frs_of HGD.out) _ w1 (HA.out.below HB1.out))
    clear h1 hb1 hva
    go_wp2_with fail
    refine HO.out.mono ?_
    rintro e w2 ⟨⟨b, M, rfl, hM, hI, _⟩, hb2⟩
    have HB2 := Lib.hid (HB1.out.trans (hb2.mono HB1.out.size))
    have HM := Lib.hid hM
    have HI := Lib.hid hI
    clear hb2 hM hI
    go_wp2_with fail
    go_ret2
    exact ⟨⟨_, by rw [HE.out]; rfl, ⟨fun e => (by rw [HVA.out] at e; cases e), fun _ => ⟨_, M, rfl, HM.out, HI.out⟩⟩⟩, HB2.out⟩

set_option maxRecDepth 100000 in
set_option maxHeartbeats 2000000 in
theorem auseful_ok (al : List Int) (A : Au) (av v : Value) (w : World) (ha : IsInts w av al) (hA : IsAu w v A) :
    Calls Tryd.prog 19 #[.agg #[av], v] w fun e w' => (∃ u, e = .returned (.tuple #[u, .int .i64 (vE al A)]) ∧ IsMs (validA al A) w' u A.st.toNat (IsUsd A.ru A.fin A.st.toNat)) ∧ Below w.heap.size w w' := by
  have HA := Lib.hid hA
  have HAL := Lib.hid ha
  obtain ⟨fv, rv, rfl, hf, hr⟩ := hA
  have H2 := Lib.hid (two_boxes w #[av] #[.int .i64 A.st, fv, rv] 24 27)
  obtain ⟨p1, c1, rfl, _⟩ := hf
  obtain ⟨p2, c2, rfl, _⟩ := hr
  obtain ⟨pa, ca, rfl, _⟩ := ha
  have h0 := H2.out _ (Below.refl _ _)
  have HV := Lib.hid (valid_ok al A _ _ _ (HAL.out.below h0.2.2) (HA.out.below h0.2.2))
  clear h0
  go_enter Tryd.func19, Tryd.ntmps19
  go_wp2_with fail
  refine HV.out.mono ?_
  rintro e w1 ⟨rfl, hb1⟩
  have h1 := H2.out w1 hb1
  have HB1 := Lib.hid h1.2.2
  cases hva : validA al A with
  | false =>
    have HVA := Lib.hid hva
    have HE : Hid (vE al A = 1) := Lib.hid (by unfold vE; rw [hva]; rfl)
    clear h1 hb1 hva
    go_wp2_with fail
    go_ret2
    exact ⟨⟨_, by rw [HE.out]; rfl, ⟨fun _ => rfl, fun e => (by rw [HVA.out] at e; cases e)⟩⟩, HB1.out⟩
  | true =>
    have HVA := Lib.hid hva
    have HE : Hid (vE al A = 0) := Lib.hid (by unfold vE; rw [hva]; rfl)
    have HGD := Lib.hid (goodA_of hva)
    have x0 : w1.cell? ⟨w.heap.size + 1, 0, none⟩ = some (.int .i64 A.st) := by rw [h1.2.1.cell]; rfl
    have x1 : w1.cell? ⟨w.heap.size + 1, 1, none⟩ = some (.slice p1 A.fin.length c1) := by rw [h1.2.1.cell]; rfl
    have x2 : w1.cell? ⟨w.heap.size + 1, 2, none⟩ = some (.slice p2 A.ru.length c2) := by rw [h1.2.1.cell]; rfl
    have xl := h1.2.1.lt
    have HO := Lib.hid (useful_ok A A.st.toNat (by have := HGD.out.st; omega) (by have := HGD.out.st; omega) HGD.out.rlen HGD.out.sts (frs_of HGD.out) (fin_ok hva) _ w1 (HA.out.below HB1.out))
    clear h1 hb1 hva
    go_wp2_with fail
    refine HO.out.mono ?_
    rintro e w2 ⟨⟨b, M, rfl, hM, hI, _⟩, hb2⟩
    have HB2 := Lib.hid (HB1.out.trans (hb2.mono HB1.out.size))
    have HM := Lib.hid hM
    have HI := Lib.hid hI
    clear hb2 hM hI
    go_wp2_with fail
    go_ret2
    exact ⟨⟨_, by rw [HE.out]; rfl, ⟨fun e => (by rw [HVA.out] at e; cases e), fun _ => ⟨_, M, rfl, HM.out, HI.out⟩⟩⟩, HB2.out⟩
end

end Go.Proofs.YtedfldbknjcnlaaDoor
