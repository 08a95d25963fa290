/- The law's one: each state is the To of one rule. -/
import Derived.Test.YtedfldbknjcnlaaDoorFG22
import Derived.Test.YtedfldbknjcnlaaDoorFG17
namespace Go.Proofs.YtedfldbknjcnlaaDoor
open Go.RowKit Go.Shelf Go.Maps Go.WideElems

/-- How many of the first k rules lead to each state. -/
def cntK (R : List Ru) (n k : Nat) : List Int := (List.range n).map fun q => (((R.take k).countP (fun r => r.to.toNat == q) : Nat) : Int)
theorem cntK_len (R : List Ru) (n k : Nat) : (cntK R n k).length = n := by unfold cntK; simp
theorem cntK_zero (R : List Ru) (n : Nat) : cntK R n 0 = List.replicate n 0 := by
  unfold cntK
  simp only [List.take_zero, List.countP_nil]
  rw [List.map_const', List.length_range]
  rfl
theorem cntK_at {R : List Ru} {n k q : Nat} (hq : q < n) : (cntK R n k)[q]? = some (((R.take k).countP (fun r => r.to.toNat == q) : Nat) : Int) := by
  unfold cntK
  rw [List.getElem?_map, List.getElem?_range hq]
  rfl
theorem cntK_next {R : List Ru} {n k q : Nat} {r : Ru} (hr : R[k]? = some r) (hq : r.to = (q : Int)) (hn : q < n) : (cntK R n k).set q ((((R.take k).countP (fun r => r.to.toNat == q) : Nat) : Int) + 1) = cntK R n (k + 1) := by
  have hs : ∀ i, (R.take (k + 1)).countP (fun r => r.to.toNat == i) = (R.take k).countP (fun r => r.to.toNat == i) + if q = i then 1 else 0 := fun i => by
    rw [List.take_add_one, hr, List.countP_append]
    have : r.to.toNat = q := by omega
    simp [List.countP_cons, this]
  apply List.ext_getElem?
  intro i
  by_cases e : q = i
  · subst e
    rw [List.getElem?_set_self (by rw [cntK_len]; exact hn), cntK_at hn, hs]
    simp
  · rw [List.getElem?_set_ne e]
    rcases Nat.lt_or_ge i n with g | g
    · rw [cntK_at g, cntK_at g, hs, if_neg e]
      simp
    · rw [List.getElem?_eq_none (by rw [cntK_len]; exact g), List.getElem?_eq_none (by rw [cntK_len]; exact g)]

set_option maxRecDepth 100000 in
set_option maxHeartbeats 4000000 in
theorem lone_ok (A : Au) (n : Nat) (hst : A.st = (n : Int)) (hn : n ≤ 300) (hlen : A.ru.length ≤ 1000) (hru : ∀ r ∈ A.ru, stIn A.st r.to = true) (hone : ∀ q, q < n → A.ru.countP (fun r => r.to.toNat == q) = 1) (v : Value) (w : World) (hA : IsAu w v A) :
    Calls Tryd.prog 41 #[v] w fun e w' => e = .returned (.bool true) ∧ Below w.heap.size w w' := by
  have HRU := Lib.hid hru
  have HST := Lib.hid hst
  have HONE := Lib.hid hone
  obtain ⟨fv, uv, rfl, hf, hr⟩ := hA
  have HX0 := Lib.hid (Blk.new w 27 #[.int .i64 A.st, fv, uv])
  have HB0 := Lib.hid ((Below.refl _ w).alloc (Nat.le_refl _) (.cells #[.int .i64 A.st, fv, uv] 27))
  obtain ⟨p1, c1, rfl, _⟩ := hf
  obtain ⟨p2, c2, rfl, hr3, hr4, hrc⟩ := hr
  obtain ⟨i1, hi1, hy0, hy1, hy2⟩ := info_parts Tryd.infoInt
  have HI1 := Lib.hid hi1
  unfold maxLen at hr4
  have HRC := Lib.hid hrc
  have x0 : (w.alloc (.cells #[.int .i64 A.st, .slice p1 A.fin.length c1, .slice p2 A.ru.length c2] 27)).cell? ⟨w.heap.size, 0, none⟩ = some (.int .i64 (n : Int)) := by rw [HX0.out.cell, ← HST.out]; rfl
  clear hrc hru hst hi1 hone
  go_enter Tryd.func41, Tryd.ntmps41
  go_wp2_with (at_make; refine wpList_make_full _ rfl _ _ 22 rfl (w.heap.size + 1) 3 i1 _ 1 Tryd.underlying22 HI1.out hy0 hy1 _ _ _ _ n rfl rfl rfl rfl (by rw [hy2]; omega) (by simp only [maxLen]; omega) (by simp) ?_)
  intro w2 hown hgrow
  have hG := own_full hown
  rw [toList_madeCells_one] at hG
  have hGl := hG.lt
  try simp only [World.size_alloc] at hGl
  try simp only [World.size_alloc] at hG
  have HB2 : Hid (Below w.heap.size w w2) := Lib.hid (HB0.out.grown hgrow (by simp) (fun j e => by simp at e))
  have HX2 : Hid (Blk w2 w.heap.size 27 #[.int .i64 A.st, .slice p1 A.fin.length c1, .slice p2 A.ru.length c2]) := Lib.hid ((hgrow.block _ HX0.out.lt (by simp)).trans HX0.out)
  have HN2 : Hid (Blk w2 (w.heap.size + 1) 3 (intV (cntK A.ru n 0)).toArray) := Lib.hid (by
    rw [cntK_zero]
    unfold intV
    rw [List.map_replicate]
    exact hG)
  have x2 : w2.cell? ⟨w.heap.size, 2, none⟩ = some (.slice p2 A.ru.length c2) := by rw [HX2.out.cell]; rfl
  have xl := HX2.out.lt
  have hs2 : w.heap.size + 1 < w2.heap.size := hGl
  clear hown hgrow hG x0
  go_wp2_with fail
  go_loopw [14] (fun iv wk => ∃ k : Nat, iv = .int .i64 (k : Nat) ∧ k ≤ A.ru.length ∧ Hid (Blk wk (w.heap.size + 1) 3 (intV (cntK A.ru n k)).toArray) ∧ Hid (Kp (fun c => c ≠ w.heap.size + 1) w2 wk))
    (fun iv _ => A.ru.length - (intOf iv).toNat)
  case atStart => exact ⟨0, rfl, by omega, HN2, Lib.hid (Kp.refl _ _)⟩
  case round =>
    rename World => wk
    obtain ⟨k, rfl, hk, HNk, HKk⟩ := hrel
    have hsk := HKk.out.size
    have HBk : Hid (Below w.heap.size w wk) := Lib.hid (HB2.out.trans (HKk.out.below HB2.out.size (fun c hc => by omega)))
    by_cases hlt : k < A.ru.length
    · obtain ⟨r, hrk⟩ : ∃ r, A.ru[k]? = some r := ⟨_, List.getElem?_eq_getElem hlt⟩
      obtain ⟨b, o, rfl, hcl⟩ := HRC.out (fun h => by simp [h] at hlt)
      obtain ⟨q0w, ⟨u, q1w, hu⟩, q2w⟩ := hcl k r hrk
      have q0 := cell_later HBk.out q0w
      have q1 := cell_later HBk.out q1w
      have q2 := cell_later HBk.out q2w
      obtain ⟨pu, cu, rfl, hu3, hu4, _⟩ := hu
      unfold maxLen at hu4
      obtain ⟨rs, fr, rt⟩ := r
      have hin := HRU.out _ (List.mem_of_getElem? hrk)
      simp only at q0 q1 q2 hu3 hin
      obtain ⟨qt, hqt, hqn⟩ := st_nat HST.out hin
      subst hqt
      have HNX := Lib.hid (cntK_next hrk rfl hqn)
      have hbl := World.block_lt_of_cell? _ _ q0
      simp only at hbl
      have hk1 : (k : Int) < (A.ru.length : Int) := by omega
      have hqi : (qt : Int) < (n : Int) := by omega
      have HAT := Lib.hid (cntK_at (R := A.ru) (k := k) hqn)
      obtain ⟨m, hm⟩ : ∃ m : Nat, m = (A.ru.take k).countP (fun r => r.to.toNat == qt) := ⟨_, rfl⟩
      have hml : m ≤ 1000 := by
        rw [hm]
        have h1 := List.countP_le_length (p := fun r : Ru => r.to.toNat == qt) (l := A.ru.take k)
        rw [List.length_take] at h1
        omega
      rw [← hm] at HNX HAT
      obtain ⟨wa, hwa⟩ : ∃ wa, wa = wk.alloc (.cells #[.int .i64 rs, .slice pu fr.length cu, .int .i64 (qt : Int)] 70) := ⟨_, rfl⟩
      have HKA : Hid (Kp (fun _ => True) wk wa) := Lib.hid (hwa ▸ (Kp.refl _ wk).alloc _)
      have HNA : Hid (Blk wa wk.heap.size 70 #[.int .i64 rs, .slice pu fr.length cu, .int .i64 (qt : Int)]) := Lib.hid (hwa ▸ Blk.new wk _ _)
      have HNKA : Hid (Blk wa (w.heap.size + 1) 3 (intV (cntK A.ru n k)).toArray) := Lib.hid (HNk.out.kp HKA.out trivial)
      have n0 : wa.cell? ⟨w.heap.size + 1, qt, none⟩ = some (.int .i64 (m : Int)) := by
        rw [HNKA.out.cell]
        simp [intV, HAT.out]
      have nf := HNKA.out.frozen qt
      have nl := HNKA.out.lt
      have n2 : wa.cell? ⟨wk.heap.size, 2, none⟩ = some (.int .i64 (qt : Int)) := by rw [HNA.out.cell]; rfl
      have nl2 := HNA.out.lt
      have HN5 : Hid (Blk (wa.setCell ⟨w.heap.size + 1, qt, none⟩ (.int .i64 ((m : Int) + 1))) (w.heap.size + 1) 3 (intV (cntK A.ru n (k + 1))).toArray) := Lib.hid (by
        rw [← HNX.out]
        have h := HNKA.out.set_ qt (.int .i64 ((m : Int) + 1))
        rw [List.setIfInBounds_toArray] at h
        unfold intV at h ⊢
        rwa [List.map_set])
      have HK5 : Hid (Kp (fun c => c ≠ w.heap.size + 1) w2 (wa.setCell ⟨w.heap.size + 1, qt, none⟩ (.int .i64 ((m : Int) + 1)))) := Lib.hid (HKk.out.trans ((HKA.out.mono (fun _ _ _ => trivial)).setCell (fun h => absurd rfl h) _))
      rw [hwa] at n0 nf nl n2 nl2 HN5 HK5
      clear hwa hrk hcl hin hm q0w q1w q2w HKA HNA HNKA HNX HAT
      go_wp2_with fail
      go_roundw
      case rel => exact ⟨k + 1, by go_num, by omega, HN5, HK5⟩
      case measure => simp [intOf]; omega
    · have hkd : decide (k < A.ru.length) = false := decide_eq_false hlt
      have hkd2 : decide ((k : Int) < (A.ru.length : Int)) = false := decide_eq_false (by omega)
      have hkl : k = A.ru.length := by omega
      have HNE : Hid (∀ q, q < n → wk.cell? ⟨w.heap.size + 1, q, none⟩ = some (.int .i64 1)) := Lib.hid (fun q hq => by
        rw [HNk.out.cell]
        have h := cntK_at (R := A.ru) (k := k) hq
        rw [hkl, List.take_of_length_le (Nat.le_refl _), HONE.out q hq] at h
        rw [hkl]
        simp [intV, h])
      clear hlt hkl
      go_wp2_with fail
      go_loopw [28] (fun iv wm => ∃ k : Nat, iv = .int .i64 (k : Nat) ∧ k ≤ n ∧ wm = wk) (fun iv _ => n - (intOf iv).toNat)
      case atStart => exact ⟨0, rfl, by omega, (by first | rfl | trivial)⟩
      case round =>
        rename World => wm
        obtain ⟨j, rfl, hj, rfl⟩ := hrel
        by_cases hjl : j < n
        · have c0 := HNE.out j hjl
          have cl := World.block_lt_of_cell? _ _ c0
          simp only at cl
          have hj1 : (j : Int) < (n : Int) := by omega
          go_wp2_with fail
          go_roundw
          case rel => exact ⟨j + 1, by go_num, by omega, (by first | rfl | trivial)⟩
          case measure => simp [intOf]; omega
        · have hjd : decide (j < n) = false := decide_eq_false hjl
          have hjd2 : decide ((j : Int) < (n : Int)) = false := decide_eq_false (by omega)
          go_wp2_with fail
          go_ret
          exact ⟨rfl, HBk.out⟩

end Go.Proofs.YtedfldbknjcnlaaDoor
