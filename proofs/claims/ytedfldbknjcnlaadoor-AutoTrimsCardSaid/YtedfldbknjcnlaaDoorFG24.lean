/- rule.FullNumber, ref03.Full, Power. ref03.Whole. auto.Complete, ref03.Complete. ref03.Same, at two automata that are the same. The law's bools, at two lists that are the same. -/
import Derived.Test.YtedfldbknjcnlaaDoorFG11
import Derived.Test.YtedfldbknjcnlaaDoorFG12
namespace Go.Proofs.YtedfldbknjcnlaaDoor
section
open Go.RowKit Go.Shelf

/-- How many lists of states there are for symbols of these ranks. -/
def fullP (m : Nat) : List Int → Nat
  | [] => 0
  | r :: l => m ^ r.toNat + fullP m l
theorem fullP_snoc (m : Nat) (l : List Int) (r : Int) : fullP m (l ++ [r]) = fullP m l + m ^ r.toNat := by
  induction l with
  | nil => simp [fullP]
  | cons x l ih => simp only [List.cons_append, fullP, ih]; omega
theorem pw_le {m j : Nat} (hm : m ≤ 300) (hj : j ≤ 3) : m ^ j ≤ 27000000 := by
  have h1 : m ^ j ≤ 300 ^ j := Nat.pow_le_pow_left hm j
  have h2 : 300 ^ j ≤ 300 ^ 3 := Nat.pow_le_pow_right (by decide) hj
  have h3 : 300 ^ 3 = 27000000 := by decide
  omega
theorem fullP_le {m : Nat} (hm : m ≤ 300) : ∀ {l : List Int}, (∀ x ∈ l, 0 ≤ x ∧ x ≤ 3) → fullP m l ≤ 27000000 * l.length
  | [], _ => Nat.zero_le _
  | r :: l, h => by
    have h1 := pw_le hm (show r.toNat ≤ 3 by have := h r (List.mem_cons_self ..); omega)
    have h2 := fullP_le hm (l := l) (fun x hx => h x (List.mem_cons_of_mem _ hx))
    simp only [fullP, List.length_cons]
    omega

set_option maxRecDepth 100000 in
set_option maxHeartbeats 2000000 in
theorem power_ok (m r : Nat) (hm : m ≤ 300) (hr : r ≤ 3) (w : World) :
    Calls Tryd.prog 101 #[.int .i64 (m : Nat), .int .i64 (r : Nat)] w fun e w' => e = .returned (.int .i64 ((m ^ r : Nat) : Int)) ∧ w = w' := by
  go_enter Tryd.func101, Tryd.ntmps101
  go_wp2_with fail
  go_loopw [5, 7] (fun uv iv wr => ∃ j x : Nat, iv = .int .i64 (j : Nat) ∧ uv = .int .i64 (x : Nat) ∧ j ≤ r ∧ Hid (x = m ^ j) ∧ Hid (w = wr)) (fun _ iv _ => r - (intOf iv).toNat)
  case atStart => exact ⟨0, 1, rfl, rfl, by omega, Lib.hid (by simp), Lib.hid rfl⟩
  case round =>
    rename World => wr
    obtain ⟨j, x, rfl, rfl, hj, HX, HW⟩ := hrel
    have hw := HW.out
    subst hw
    by_cases hlt : j < r
    · have hji : (j : Int) < (r : Int) := by omega
      have hb : x * m ≤ 27000000 := by
        have := pw_le hm (show j + 1 ≤ 3 by omega)
        rw [Nat.pow_succ] at this
        rw [HX.out]; exact this
      have hmul : (x : Int) * (m : Int) = ((x * m : Nat) : Int) := by simp
      have HX2 : Hid (x * m = m ^ (j + 1)) := Lib.hid (by rw [HX.out, Nat.pow_succ])
      generalize x * m = y at hb hmul HX2
      have hb1 : (y : Int) ≤ 1099511627776 := by omega
      have hmin : min (y : Int) 1099511627776 = (y : Int) := by omega
      clear hlt
      go_wp2_with fail
      go_roundw
      case rel => exact ⟨j + 1, y, by go_num, rfl, by omega, HX2, Lib.hid trivial⟩
      case measure => simp [intOf]; omega
    · have hjr : j = r := by omega
      subst hjr
      have HX3 := HX.out
      subst HX3
      clear hlt
      go_wp2_with fail
      go_ret
      exact ⟨rfl, rfl⟩

set_option maxRecDepth 100000 in
set_option maxHeartbeats 4000000 in
theorem fullNumber_ok (al : List Int) (m : Nat) (hm : m ≤ 300) (hal : al.length ≤ 12) (hrk : ∀ x ∈ al, 0 ≤ x ∧ x ≤ 3) (av : Value) (w : World) (ha : IsInts w av al) :
    Calls Tryd.prog 55 #[.agg #[av], .int .i64 (m : Nat)] w fun e w' => e = .returned (.int .i64 (fullP m al : Nat)) ∧ Below w.heap.size w w' := by
  obtain ⟨pa, ca, rfl, ha1, ha2, hac⟩ := ha
  have HC := Lib.hid hac
  have HRK := Lib.hid hrk
  have HX := Lib.hid (Blk.new w 24 #[.slice pa al.length ca])
  have HB := Lib.hid ((Below.refl _ w).alloc (Nat.le_refl _) (.cells #[.slice pa al.length ca] 24))
  clear hac hrk
  go_enter Tryd.func55, Tryd.ntmps55
  go_wp2_with fail
  go_loopw [5, 12] (fun uv iv wr => ∃ k x : Nat, iv = .int .i64 (k : Nat) ∧ uv = .int .i64 (x : Nat) ∧ k ≤ al.length ∧ Hid (x = fullP m (al.take k)) ∧ Hid (Below w.heap.size w wr)) (fun _ iv _ => al.length - (intOf iv).toNat)
  case atStart => exact ⟨0, 0, rfl, rfl, by omega, Lib.hid rfl, HB⟩
  case round =>
    rename World => wr
    obtain ⟨k, x, rfl, rfl, hk, HXX, HBr⟩ := hrel
    by_cases hlt : k < al.length
    · obtain ⟨r0, hr0⟩ : ∃ r, al[k]? = some r := ⟨_, List.getElem?_eq_getElem hlt⟩
      have hr3 := HRK.out r0 (List.mem_of_getElem? hr0)
      obtain ⟨r, rfl⟩ : ∃ r : Nat, r0 = (r : Int) := ⟨r0.toNat, by omega⟩
      obtain ⟨b, o, rfl, hcl⟩ := HC.out (fun h => by simp [h] at hlt)
      have c0 := cell_later HBr.out (hcl k _ hr0)
      have cl := World.block_lt_of_cell? _ _ c0
      simp only at cl
      have HR3 : Hid (r ≤ 3) := Lib.hid (by omega)
      have HXN : Hid (x + m ^ r = fullP m (al.take (k + 1))) := Lib.hid (by rw [List.take_add_one, hr0, HXX.out]; show _ = fullP m (al.take k ++ [(r : Int)]); rw [fullP_snoc]; rfl)
      have hxb : x ≤ 324000000 := by
        have h1 := fullP_le hm (l := al.take k) (fun z hz => HRK.out z (List.mem_of_mem_take hz))
        rw [List.length_take] at h1
        rw [HXX.out]
        omega
      have hlt1 : (k : Int) < (al.length : Int) := by omega
      clear hr0 hr3 hcl hlt
      go_wp2_with fail
      go_loopw [8, 17] (fun yv jv wj => ∃ j y : Nat, jv = .int .i64 (j : Nat) ∧ yv = .int .i64 (y : Nat) ∧ j ≤ r ∧ Hid (y = m ^ j) ∧ Hid (Below w.heap.size w wj)) (fun _ jv _ => r - (intOf jv).toNat)
      case atStart => exact ⟨0, 1, rfl, rfl, by omega, Lib.hid (by simp), HBr⟩
      case round =>
        rename World => wj
        obtain ⟨j, y, rfl, rfl, hj, HY, HBj⟩ := hrel
        by_cases hjl : j < r
        · have hji : (j : Int) < (r : Int) := by omega
          have hr3x := HR3.out
          have hb : y * m ≤ 27000000 := by
            have := pw_le hm (show j + 1 ≤ 3 by have := HR3.out; omega)
            rw [Nat.pow_succ] at this
            rw [HY.out]; exact this
          have hmul : (y : Int) * (m : Int) = ((y * m : Nat) : Int) := by simp
          have HY2 : Hid (y * m = m ^ (j + 1)) := Lib.hid (by rw [HY.out, Nat.pow_succ])
          generalize y * m = z at hb hmul HY2
          clear hjl
          go_wp2_with fail
          go_roundw
          case rel => exact ⟨j + 1, z, by go_num, rfl, by omega, HY2, HBj⟩
          case measure => simp [intOf]; omega
        · have hjr : j = r := by omega
          subst hjr
          have hyb : y ≤ 27000000 := by rw [HY.out]; exact pw_le hm HR3.out
          have HN : Hid (x + y = fullP m (al.take (k + 1))) := Lib.hid (by rw [HY.out]; exact HXN.out)
          have hadd : (x : Int) + (y : Int) = ((x + y : Nat) : Int) := by simp
          have hzb : x + y ≤ 351000000 := by omega
          have hkd : decide (j < j) = false := by simp
          generalize x + y = z at hadd hzb HN
          clear hjl
          go_wp2_with fail
          go_roundw
          case rel => exact ⟨k + 1, z, by go_num, rfl, by omega, HN, HBj⟩
          case measure => simp [intOf]; omega
    · have hge : al.length ≤ k := by omega
      have HF : Hid (x = fullP m al) := Lib.hid (by rw [HXX.out, List.take_of_length_le hge])
      clear hlt
      go_wp2_with fail
      go_ret
      exact ⟨by rw [← HF.out] <;> rfl, HBr.out⟩

set_option maxRecDepth 100000 in
set_option maxHeartbeats 4000000 in
theorem full_ok (al : List Int) (m : Nat) (hm : m ≤ 300) (hal : al.length ≤ 12) (hrk : ∀ x ∈ al, 0 ≤ x ∧ x ≤ 3) (av : Value) (w : World) (ha : IsInts w av al) :
    Calls Tryd.prog 81 #[.agg #[av], .int .i64 (m : Nat)] w fun e w' => e = .returned (.int .i64 (fullP m al : Nat)) ∧ Below w.heap.size w w' := by
  obtain ⟨pa, ca, rfl, ha1, ha2, hac⟩ := ha
  have HC := Lib.hid hac
  have HRK := Lib.hid hrk
  have HX := Lib.hid (Blk.new w 24 #[.slice pa al.length ca])
  have HB := Lib.hid ((Below.refl _ w).alloc (Nat.le_refl _) (.cells #[.slice pa al.length ca] 24))
  clear hac hrk
  go_enter Tryd.func81, Tryd.ntmps81
  go_wp2_with fail
  go_loopw [5, 11] (fun uv iv wr => ∃ k x : Nat, iv = .int .i64 (k : Nat) ∧ uv = .int .i64 (x : Nat) ∧ k ≤ al.length ∧ Hid (x = fullP m (al.take k)) ∧ Hid (Below w.heap.size w wr)) (fun _ iv _ => al.length - (intOf iv).toNat)
  case atStart => exact ⟨0, 0, rfl, rfl, by omega, Lib.hid rfl, HB⟩
  case round =>
    rename World => wr
    obtain ⟨k, x, rfl, rfl, hk, HXX, HBr⟩ := hrel
    by_cases hlt : k < al.length
    · obtain ⟨r0, hr0⟩ : ∃ r, al[k]? = some r := ⟨_, List.getElem?_eq_getElem hlt⟩
      have hr3 := HRK.out r0 (List.mem_of_getElem? hr0)
      obtain ⟨r, rfl⟩ : ∃ r : Nat, r0 = (r : Int) := ⟨r0.toNat, by omega⟩
      obtain ⟨b, o, rfl, hcl⟩ := HC.out (fun h => by simp [h] at hlt)
      have c0 := cell_later HBr.out (hcl k _ hr0)
      have cl := World.block_lt_of_cell? _ _ c0
      simp only at cl
      have hr3' : r ≤ 3 := by omega
      have HPW := Lib.hid (power_ok m r hm hr3' wr)
      have hyb := pw_le hm hr3'
      have HXN : Hid (x + m ^ r = fullP m (al.take (k + 1))) := Lib.hid (by rw [List.take_add_one, hr0, HXX.out]; show _ = fullP m (al.take k ++ [(r : Int)]); rw [fullP_snoc]; rfl)
      have hxb : x ≤ 324000000 := by
        have h1 := fullP_le hm (l := al.take k) (fun z hz => HRK.out z (List.mem_of_mem_take hz))
        rw [List.length_take] at h1
        rw [HXX.out]
        omega
      have hlt1 : (k : Int) < (al.length : Int) := by omega
      generalize m ^ r = y at HPW hyb HXN
      have hadd : (x : Int) + (y : Int) = ((x + y : Nat) : Int) := by simp
      have hzb : x + y ≤ 351000000 := by omega
      generalize x + y = z at hadd hzb HXN
      clear hr0 hr3 hcl hlt
      go_wp2_with fail
      refine HPW.out.mono ?_
      rintro e w2 ⟨rfl, rfl⟩
      go_wp2_with fail
      go_roundw
      case rel => exact ⟨k + 1, z, by go_num, rfl, by omega, HXN, HBr⟩
      case measure => simp [intOf]; omega
    · have hge : al.length ≤ k := by omega
      have HF : Hid (x = fullP m al) := Lib.hid (by rw [HXX.out, List.take_of_length_le hge])
      clear hlt
      go_wp2_with fail
      go_ret
      exact ⟨by rw [← HF.out] <;> rfl, HBr.out⟩
end

section
open Go.RowKit Go.Shelf

/-- How many rules have a head that no rule before has. -/
def cntB' : List Ru → List Ru → Nat
  | _, [] => 0
  | pre, r :: R => (if pre.all (fun s => !sameH r s) = true then 1 else 0) + cntB' (pre ++ [r]) R
def cntB (R : List Ru) : Nat := cntB' [] R
theorem cntB'_le : ∀ (R pre : List Ru), cntB' pre R ≤ R.length
  | [], _ => Nat.le_refl _
  | r :: R, pre => by
    have := cntB'_le R (pre ++ [r])
    simp only [cntB', List.length_cons]
    split <;> omega
theorem cntB'_snoc : ∀ (R pre : List Ru) (r : Ru), cntB' pre (R ++ [r]) = cntB' pre R + (if (pre ++ R).all (fun s => !sameH r s) = true then 1 else 0)
  | [], pre, r => by simp [cntB']
  | x :: R, pre, r => by
    rw [List.cons_append, cntB', cntB'_snoc R (pre ++ [x]) r, cntB']
    rw [List.append_assoc, List.singleton_append]
    omega
theorem cntB_take {R : List Ru} {k : Nat} {r : Ru} (h : R[k]? = some r) : cntB (R.take (k + 1)) = cntB (R.take k) + (if (R.take k).all (fun s => !sameH r s) = true then 1 else 0) := by
  unfold cntB
  rw [List.take_add_one, h]
  show cntB' [] (R.take k ++ [r]) = _
  rw [cntB'_snoc, List.nil_append]

set_option maxRecDepth 100000 in
set_option maxHeartbeats 4000000 in
theorem whole_ok (al : List Int) (A : Au) (m : Nat) (hst : A.st = (m : Int)) (hm : m ≤ 300) (hal : al.length ≤ 12) (hrk : ∀ x ∈ al, 0 ≤ x ∧ x ≤ 3) (hlen : A.ru.length ≤ 100) (av v : Value) (w : World) (ha : IsInts w av al) (hA : IsAu w v A) :
    Calls Tryd.prog 56 #[.agg #[av], v] w fun e w' => e = .returned (.bool ((cntB A.ru : Int) == (fullP m al : Int))) ∧ Below w.heap.size w w' := by
  have HA := Lib.hid hA
  have HAL := Lib.hid ha
  have HRK := Lib.hid hrk
  have HST0 := Lib.hid hst
  clear hst
  obtain ⟨fv, uv, rfl, hf, hr⟩ := hA
  have H2 := Lib.hid (two_boxes w #[av] #[.int .i64 A.st, fv, uv] 24 27)
  have HX := Lib.hid (H2.out _ (Below.refl _ _)).2.1
  have HX0 := Lib.hid (H2.out _ (Below.refl _ _)).1
  have HB := Lib.hid (H2.out _ (Below.refl _ _)).2.2
  obtain ⟨p1, c1, rfl, _⟩ := hf
  obtain ⟨p2, c2, rfl, hr3, hr4, hrc⟩ := hr
  obtain ⟨pa, ca, rfl, _⟩ := ha
  unfold maxLen at hr4
  have HRC := Lib.hid hrc
  clear hrc hrk
  go_enter Tryd.func56, Tryd.ntmps56
  go_wp2_with fail
  go_loopw [5, 14] (fun uv iv wr => ∃ k x : Nat, iv = .int .i64 (k : Nat) ∧ uv = .int .i64 (x : Nat) ∧ k ≤ A.ru.length ∧ Hid (x = cntB (A.ru.take k)) ∧ Hid (Below w.heap.size w wr) ∧ Hid (Blk wr w.heap.size 24 #[.slice pa al.length ca]) ∧ Hid (Blk wr (w.heap.size + 1) 27 #[.int .i64 A.st, .slice p1 A.fin.length c1, .slice p2 A.ru.length c2])) (fun _ iv _ => A.ru.length - (intOf iv).toNat)
  case atStart => exact ⟨0, 0, rfl, rfl, by omega, Lib.hid rfl, HB, HX0, HX⟩
  case round =>
    rename World => wr
    obtain ⟨k, x, rfl, rfl, hk, HXX, HBr, HAr, HXr⟩ := hrel
    have hxl := HXr.out.lt
    have hxa := HAr.out.lt
    have ya : wr.cell? ⟨w.heap.size, 0, none⟩ = some (.slice pa al.length ca) := by rw [HAr.out.cell]; rfl
    have y0 : wr.cell? ⟨w.heap.size + 1, 0, none⟩ = some (.int .i64 A.st) := by rw [HXr.out.cell]; rfl
    have y2 : wr.cell? ⟨w.heap.size + 1, 2, none⟩ = some (.slice p2 A.ru.length c2) := by rw [HXr.out.cell]; rfl
    have hxk : x ≤ 100 := by
      have := cntB'_le (A.ru.take k) []
      rw [List.length_take] at this
      rw [HXX.out]
      unfold cntB
      omega
    by_cases hlt : k < A.ru.length
    · obtain ⟨r, hrk⟩ : ∃ r, A.ru[k]? = some r := ⟨_, List.getElem?_eq_getElem hlt⟩
      obtain ⟨b, o, rfl, hcl⟩ := HRC.out (fun h => by simp [h] at hlt)
      obtain ⟨q0, ⟨u, q1, hu⟩, q2⟩ := (hcl k r hrk).below HBr.out
      have HU := Lib.hid hu
      obtain ⟨pu, cu, rfl, hu3, hu4, _⟩ := hu
      unfold maxLen at hu4
      have HD := Lib.hid (cntB_take hrk)
      have HCL := Lib.hid hcl
      obtain ⟨rs, fr, rt⟩ := r
      simp only at q0 q1 q2 hu3 HU
      have hbl := World.block_lt_of_cell? _ _ q0
      simp only at hbl
      have hlt1 : (k : Int) < (A.ru.length : Int) := by omega
      have hk1 : (k : Int) ≤ (A.ru.length : Int) := by omega
      have hk2 : (0 : Int) ≤ (k : Int) := by omega
      have hk3 : (k : Int) ≤ (c2 : Int) := by omega
      have hk4 : k ≤ c2 := by omega
      have HBA := Lib.hid ((Below.refl _ wr).alloc (Nat.le_refl _) (.cells #[.int .i64 rs, .slice pu fr.length cu, .int .i64 rt] 70))
      have HNA := Lib.hid (Blk.new wr 70 #[.int .i64 rs, .slice pu fr.length cu, .int .i64 rt])
      clear hrk hcl
      go_wp2_with fail
      go_loopw [8, 24] (fun bv jv wj => ∃ (j : Nat) (β : Bool), jv = .int .i64 (j : Nat) ∧ bv = .bool β ∧ j ≤ k ∧ Hid (β = (A.ru.take j).all (fun s => !sameH ⟨rs, fr, rt⟩ s)) ∧ Hid (Below wr.heap.size wr wj) ∧ Hid (Blk wj wr.heap.size 70 #[.int .i64 rs, .slice pu fr.length cu, .int .i64 rt])) (fun _ jv _ => k - (intOf jv).toNat)
      case atStart => exact ⟨0, true, rfl, rfl, by omega, Lib.hid rfl, HBA, HNA⟩
      case round =>
        rename World => wj
        obtain ⟨j, β, rfl, rfl, hj, HS, HBj, HNj⟩ := hrel
        have hnl := HNj.out.lt
        have z0 : wj.cell? ⟨wr.heap.size, 0, none⟩ = some (.int .i64 rs) := by rw [HNj.out.cell]; rfl
        have z1 : wj.cell? ⟨wr.heap.size, 1, none⟩ = some (.slice pu fr.length cu) := by rw [HNj.out.cell]; rfl
        have HBW := Lib.hid (HBr.out.trans (HBj.out.mono HBr.out.size))
        by_cases hjl : j < k
        · obtain ⟨t, htj⟩ : ∃ t, A.ru[j]? = some t := ⟨_, List.getElem?_eq_getElem (by omega)⟩
          obtain ⟨t0, ⟨ut, t1, hut⟩, t2⟩ := (HCL.out j t htj).below HBW.out
          have HUT := Lib.hid hut
          obtain ⟨pt, ct, rfl, ht3, ht4, _⟩ := hut
          have HST : Hid ((A.ru.take (j + 1)).all (fun s => !sameH ⟨rs, fr, rt⟩ s) = (β && !sameH ⟨rs, fr, rt⟩ t)) := Lib.hid (by rw [List.take_add_one, htj, List.all_append, ← HS.out]; simp)
          obtain ⟨ts, tf, tt⟩ := t
          simp only at t0 t1 t2 ht3 HUT
          have htl := World.block_lt_of_cell? _ _ t0
          simp only at htl
          have hjl1 : (j : Int) < (k : Int) := by omega
          have HBB := Lib.hid ((Below.refl _ wj).alloc (Nat.le_refl _) (.cells #[.int .i64 ts, .slice pt tf.length ct, .int .i64 tt] 70))
          have HLE := Lib.hid (listE_ok fr tf (.slice pu fr.length cu) (.slice pt tf.length ct) (wj.alloc (.cells #[.int .i64 ts, .slice pt tf.length ct, .int .i64 tt] 70)) ((HU.out.below HBj.out).below HBB.out) (HUT.out.below HBB.out))
          have HEB := Lib.hid (HBj.out.trans (HBB.out.mono HBj.out.size))
          have HNB := Lib.hid (HNj.out.below HBB.out HNj.out.lt)
          clear htj
          cases β with
          | false =>
            have HS2 : Hid (false = (A.ru.take (j + 1)).all (fun s => !sameH ⟨rs, fr, rt⟩ s)) := Lib.hid (by rw [HST.out]; rfl)
            clear HLE
            go_wp2_with fail
            go_roundw
            case rel => exact ⟨j + 1, false, by go_num, rfl, by omega, HS2, HEB, HNB⟩
            case measure => simp [intOf]; omega
          | true =>
            by_cases h1 : rs = ts
            · subst h1
              have e1 : (rs == rs) = true := by simp
              go_wp2_with fail
              refine HLE.out.mono ?_
              rintro e w6 ⟨rfl, hb6⟩
              have HE6 := Lib.hid (HBj.out.trans ((HBB.out.trans (hb6.mono HBB.out.size)).mono HBj.out.size))
              have HN6 := Lib.hid (HNB.out.below hb6 HNB.out.lt)
              clear hb6
              have HS2 : Hid ((!eqL fr tf) = (A.ru.take (j + 1)).all (fun s => !sameH ⟨rs, fr, rt⟩ s)) := Lib.hid (by rw [HST.out]; simp [sameH])
              cases heq : eqL fr tf with
              | true =>
                rw [heq] at HS2
                clear heq
                (try simp only [Bool.not_true] at HS2)
                go_wp2_with fail
                go_roundw
                case rel => exact ⟨j + 1, false, by go_num, rfl, by omega, HS2, HE6, HN6⟩
                case measure => simp [intOf]; omega
              | false =>
                rw [heq] at HS2
                clear heq
                (try simp only [Bool.not_false] at HS2)
                go_wp2_with fail
                go_roundw
                case rel => exact ⟨j + 1, true, by go_num, rfl, by omega, HS2, HE6, HN6⟩
                case measure => simp [intOf]; omega
            · have e1 : (rs == ts) = false := by simpa using h1
              have HS2 : Hid (true = (A.ru.take (j + 1)).all (fun s => !sameH ⟨rs, fr, rt⟩ s)) := Lib.hid (by rw [HST.out]; simp [sameH, e1])
              clear h1 HLE
              go_wp2_with fail
              go_roundw
              case rel => exact ⟨j + 1, true, by go_num, rfl, by omega, HS2, HEB, HNB⟩
              case measure => simp [intOf]; omega
        · have hjk : j = k := by omega
          subst hjk
          have HA2 := Lib.hid (HAr.out.below HBj.out HAr.out.lt)
          have HX2 := Lib.hid (HXr.out.below HBj.out HXr.out.lt)
          have hkd : decide (j < j) = false := by simp
          cases β with
          | true =>
            have HN : Hid (x + 1 = cntB (A.ru.take (j + 1))) := Lib.hid (by rw [HD.out, if_pos HS.out.symm, HXX.out])
            clear hjl
            go_wp2_with fail
            go_roundw
            case rel => exact ⟨j + 1, x + 1, by go_num, by go_num, by omega, HN, HBW, HA2, HX2⟩
            case measure => simp [intOf]; omega
          | false =>
            have HN : Hid (x = cntB (A.ru.take (j + 1))) := Lib.hid (by rw [HD.out, if_neg (by rw [← HS.out]; decide), HXX.out]; rfl)
            clear hjl
            go_wp2_with fail
            go_roundw
            case rel => exact ⟨j + 1, x, by go_num, rfl, by omega, HN, HBW, HA2, HX2⟩
            case measure => simp [intOf]; omega
    · have hge : A.ru.length ≤ k := by omega
      have HF : Hid (x = cntB A.ru) := Lib.hid (by rw [HXX.out, List.take_of_length_le hge])
      have HFU := Lib.hid (full_ok al m hm hal HRK.out _ wr (HAL.out.below HBr.out))
      rw [HST0.out] at y0
      clear hlt
      go_wp2_with fail
      refine HFU.out.mono ?_
      rintro e w2 ⟨rfl, hb2⟩
      have HB2 := Lib.hid (HBr.out.trans (hb2.mono HBr.out.size))
      clear hb2
      go_wp2_with fail
      go_ret
      exact ⟨ret_bool (by rw [← HF.out]), HB2.out⟩
end

section
open Go.RowKit Go.Shelf Go.Maps Go.WideElems

def dk' : List Ru → List Ru → List Ru
  | _, [] => []
  | pre, r :: R => if pre.all (fun s => !sameH r s) = true then r :: dk' (pre ++ [r]) R else dk' (pre ++ [r]) R
theorem dk_len : ∀ (R pre : List Ru), (dk' pre R).length = cntB' pre R
  | [], _ => rfl
  | r :: R, pre => by
    have := dk_len R (pre ++ [r])
    simp only [dk', cntB']
    split
    · simp only [List.length_cons]; omega
    · omega
theorem dk_mem : ∀ (R pre : List Ru) (r : Ru), r ∈ dk' pre R → r ∈ R ∧ pre.all (fun s => !sameH r s) = true
  | [], _, _, h => by cases h
  | x :: R, pre, r, h => by
    simp only [dk'] at h
    have key : r ∈ dk' (pre ++ [x]) R → r ∈ x :: R ∧ pre.all (fun s => !sameH r s) = true := fun h2 => by
      obtain ⟨h3, h4⟩ := dk_mem R (pre ++ [x]) r h2
      rw [List.all_append, Bool.and_eq_true] at h4
      exact ⟨List.mem_cons_of_mem _ h3, h4.1⟩
    split at h
    · rename_i hx
      rcases List.mem_cons.1 h with rfl | h2
      · exact ⟨List.mem_cons_self .., hx⟩
      · exact key h2
    · exact key h
theorem dk_pw : ∀ (R pre : List Ru), (dk' pre R).Pairwise (fun a b => sameH b a = false)
  | [], _ => List.Pairwise.nil
  | r :: R, pre => by
    simp only [dk']
    split
    · rw [List.pairwise_cons]
      refine ⟨fun t ht => ?_, dk_pw R _⟩
      have h4 := (dk_mem R (pre ++ [r]) t ht).2
      rw [List.all_append, Bool.and_eq_true] at h4
      have := h4.2
      simpa using this
    · exact dk_pw R _
theorem dk_cov : ∀ (R pre : List Ru) (r : Ru), r ∈ R → (∃ t ∈ dk' pre R, t = r ∨ sameH r t = true) ∨ ∃ s ∈ pre, sameH r s = true
  | [], _, _, h => by cases h
  | x :: R, pre, r, h => by
    simp only [dk']
    rcases List.mem_cons.1 h with rfl | h
    · split
      · exact .inl ⟨r, List.mem_cons_self .., .inl rfl⟩
      · rename_i hx
        right
        have h9 : ¬ ∀ s ∈ pre, (!sameH r s) = true := fun h9 => hx (List.all_eq_true.2 h9)
        simp only [Bool.not_eq_true', Classical.not_forall] at h9
        obtain ⟨s, hs, h8⟩ := h9
        exact ⟨s, hs, by simpa using h8⟩
    · rcases dk_cov R (pre ++ [x]) r h with ⟨t, ht, e⟩ | ⟨s, hs, e⟩
      · left
        split
        · exact ⟨t, List.mem_cons_of_mem _ ht, e⟩
        · exact ⟨t, ht, e⟩
      · rcases List.mem_append.1 hs with hs | hs
        · exact .inr ⟨s, hs, e⟩
        · rw [List.mem_singleton] at hs
          subst hs
          split
          · exact .inl ⟨s, List.mem_cons_self .., .inr e⟩
          · rename_i hx
            right
            have h9 : ¬ ∀ z ∈ pre, (!sameH s z) = true := fun h9 => hx (List.all_eq_true.2 h9)
            simp only [Bool.not_eq_true', Classical.not_forall] at h9
            obtain ⟨z, hz, h8⟩ := h9
            have h8' : sameH s z = true := by simpa using h8
            refine ⟨z, hz, ?_⟩
            simp only [sameH, eqL, Bool.and_eq_true, beq_iff_eq] at e h8' ⊢
            exact ⟨e.1.trans h8'.1, e.2.trans h8'.2⟩

/-- How many heads the table has. -/
theorem heads_cnt {B T G M n : Nat} {w : World} {R : List Ru} {GL : List GB} {rows : List Value} {f : Lit → Option Value} (h : Tab B (ksOf R) T G M n w GL rows f) (hM : Means R GL) (hr : ∀ r ∈ R, RuV n r) (hn : n ≤ 1000) (hx : ∀ r ∈ R, ∀ s ∈ R, r.sym = s.sym → r.fr.length = s.fr.length) : GL.length = cntB R := by
  have hkey : ∀ r ∈ R, ∀ s ∈ R, r.key = s.key ↔ sameH r s = true := fun r hr1 s hs1 => by
    simp only [sameH, eqL, Bool.and_eq_true, beq_iff_eq]
    constructor
    · intro e
      simp only [Ru.key, Prod.mk.injEq] at e
      exact ⟨e.1, list3 (hx r hr1 s hs1 e.1) (hr s hs1).len e.2.1 e.2.2.1 e.2.2.2⟩
    · rintro ⟨e1, e2⟩
      simp only [Ru.key, e1, e2]
  have hGL : ∀ x ∈ GL.map GB.key, x ∈ R.map Ru.key := fun x hx2 => by
    obtain ⟨y, hy, rfl⟩ := List.mem_map.1 hx2
    obtain ⟨D, _, _, h3⟩ := h.mp
    have hk := (h3 _ _ (h.fs y hy)).2.1
    unfold ksOf at hk
    obtain ⟨r, hrm, he⟩ := List.mem_map.1 hk
    refine List.mem_map.2 ⟨r, hrm, ?_⟩
    obtain ⟨⟨s, hs1, hs2⟩, _, _, hfr⟩ := hr r hrm
    have hgd : ∀ i, 0 ≤ r.fr.getD i 0 ∧ r.fr.getD i 0 < 300 := fun i => by
      rw [List.getD_eq_getElem?_getD]
      cases h : r.fr[i]? with
      | none => simp
      | some x => exact hfr x (List.mem_of_getElem? h)
    obtain ⟨a1, a2, a3, a4⟩ := (h.gb y hy).2.2.2
    have hw : ∀ i, (Lit.int .i64 (r.fr.getD i 0)).wf = true := fun i => wf_small (hgd i).1 (by have := (hgd i).2; omega)
    obtain ⟨e1, e2, e3, e4⟩ := kl_inj (wf_small (by rw [hs1]; omega) (by rw [hs1]; omega)) (hw 0) (hw 1) (hw 2) a1 a2 a3 a4 he
    simp only [Ru.key, GB.key, e1, e2, e3, e4]
  have hRG : ∀ x ∈ R.map Ru.key, x ∈ GL.map GB.key := fun x hx2 => by
    obtain ⟨r, hrm, rfl⟩ := List.mem_map.1 hx2
    obtain ⟨y, hy, e, _⟩ := hM.full r hrm
    exact List.mem_map.2 ⟨y, hy, e⟩
  have hGN : (GL.map GB.key).Pairwise (fun a b => a ≠ b) := by rw [List.pairwise_map]; exact hM.keys
  have hDN : ((dk' [] R).map Ru.key).Pairwise (fun a b => a ≠ b) := by
    rw [List.pairwise_map]
    refine List.Pairwise.imp_of_mem ?_ (dk_pw R [])
    intro a b ha hb hab e
    rw [(hkey b (dk_mem R [] b hb).1 a (dk_mem R [] a ha).1).1 e.symm] at hab
    cases hab
  have e1 := nodup_le _ ((dk' [] R).map Ru.key) hGN (fun x hx2 => by
    obtain ⟨r, hrm, rfl⟩ := List.mem_map.1 (hGL x hx2)
    rcases dk_cov R [] r hrm with ⟨t, ht, e⟩ | ⟨s, hs, _⟩
    · refine List.mem_map.2 ⟨t, ht, ?_⟩
      rcases e with rfl | e
      · rfl
      · exact ((hkey r hrm t (dk_mem R [] t ht).1).2 e).symm
    · cases hs)
  have e2 := nodup_le _ (GL.map GB.key) hDN (fun x hx2 => by
    obtain ⟨t, ht, rfl⟩ := List.mem_map.1 hx2
    exact hRG _ (List.mem_map_of_mem (dk_mem R [] t ht).1))
  simp only [List.length_map, dk_len] at e1 e2
  unfold cntB
  omega

def comB (al : List Int) (A : Au) : Bool := (cntB A.ru : Int) == (fullP A.st.toNat al : Int)

set_option maxRecDepth 100000 in
set_option maxHeartbeats 2000000 in
theorem com_ok (al : List Int) (A : Au) (av v : Value) (w : World) (ha : IsInts w av al) (hA : IsAu w v A) :
    Calls Tryd.prog 15 #[.agg #[av], v] w fun e w' => e = .returned (.tuple #[.bool (validA al A && comB al A), .int .i64 (vE al A)]) ∧ Below w.heap.size w w' := by
  have HA := Lib.hid hA
  have HAL := Lib.hid ha
  obtain ⟨fv, rv, rfl, hf, hr⟩ := hA
  have H2 := Lib.hid (two_boxes w #[av] #[.int .i64 A.st, fv, rv] 24 27)
  obtain ⟨p1, c1, rfl, _⟩ := hf
  obtain ⟨p2, c2, rfl, _⟩ := hr
  obtain ⟨pa, ca, rfl, _⟩ := ha
  have h0 := H2.out _ (Below.refl _ _)
  have HV := Lib.hid (valid_ok al A _ _ _ (HAL.out.below h0.2.2) (HA.out.below h0.2.2))
  clear h0
  go_enter Tryd.func15, Tryd.ntmps15
  go_wp2_with fail
  refine HV.out.mono ?_
  rintro e w1 ⟨rfl, hb1⟩
  have h1 := H2.out w1 hb1
  have HB1 := Lib.hid h1.2.2
  cases hva : validA al A with
  | false =>
    have HVA := Lib.hid hva
    have HE : Hid (vE al A = 1) := Lib.hid (by unfold vE; rw [hva]; rfl)
    clear h1 hb1 hva
    go_wp2_with fail
    go_ret2
    exact ⟨by rw [HE.out, HVA.out]; rfl, HB1.out⟩
  | true =>
    have HVA := Lib.hid hva
    have HE : Hid (vE al A = 0) := Lib.hid (by unfold vE; rw [hva]; rfl)
    have HGD := Lib.hid (goodA_of hva)
    have HAL12 : Hid (al.length ≤ 12) := Lib.hid (by
      unfold validA validAl at hva
      simp only [Bool.and_eq_true, decide_eq_true_eq] at hva
      exact hva.1.1)
    have HSS : Hid (∀ W, Below w1.heap.size w1 W → W.cell? ⟨w.heap.size, 0, none⟩ = some (.slice pa al.length ca) ∧ W.cell? ⟨w.heap.size + 1, 0, none⟩ = some (.int .i64 A.st) ∧ W.cell? ⟨w.heap.size + 1, 1, none⟩ = some (.slice p1 A.fin.length c1) ∧ W.cell? ⟨w.heap.size + 1, 2, none⟩ = some (.slice p2 A.ru.length c2)) := Lib.hid (fun W hW => by
      have h := H2.out W (hb1.trans (hW.mono hb1.size))
      exact ⟨by rw [h.1.cell]; rfl, by rw [h.2.1.cell]; rfl, by rw [h.2.1.cell]; rfl, by rw [h.2.1.cell]; rfl⟩)
    have HD0 : Hid (Below w1.heap.size w1 w1.drew) := Lib.hid (Below.refl _ _).drew
    have HFN : Hid (∀ W, Below w1.heap.size w1 W → Calls Tryd.prog 55 #[.agg #[.slice pa al.length ca], .int .i64 A.st] W fun e w' => e = .returned (.int .i64 (fullP A.st.toNat al : Nat)) ∧ Below W.heap.size W w') := Lib.hid (fun W hW => by
      have hst := HGD.out.st
      have h := fullNumber_ok al A.st.toNat (by omega) HAL12.out HGD.out.ranks (.slice pa al.length ca) W (HAL.out.below (HB1.out.trans (hW.mono HB1.out.size)))
      rwa [Int.toNat_of_nonneg hst.1] at h)
    clear h1 hb1 hva
    go_wp2_with fail
    go_region_held3 (fun W => W.cell? ⟨w.heap.size, 0, none⟩ = some (.slice pa al.length ca) ∧ W.cell? ⟨w.heap.size + 1, 0, none⟩ = some (.int .i64 A.st) ∧ W.cell? ⟨w.heap.size + 1, 1, none⟩ = some (.slice p1 A.fin.length c1) ∧ W.cell? ⟨w.heap.size + 1, 2, none⟩ = some (.slice p2 A.ru.length c2))
      (first | exact HSS.out _ HE5.out | exact HSS.out _ HE3.out | exact HSS.out _ HD0.out)
      (first
        | (go_at_call 53; refine (newTable_ok al A _ _ _ (HAL.out.below (HB1.out.trans (HD0.out.mono HB1.out.size))) (HA.out.below (HB1.out.trans (HD0.out.mono HB1.out.size))) HGD.out.alen HGD.out.rlen HGD.out.rus).mono ?_; rintro e w3 ⟨⟨T, G, M, GL, rows, f, rfl, ht, hm, _⟩, hb3⟩; have HTB := Lib.hid ht; have HMN := Lib.hid hm; have HE3 : Hid (Below w1.heap.size w1 w3) := Lib.hid (HD0.out.trans (hb3.mono HD0.out.size)); clear ht hm hb3)
        | (go_at_call 54; refine (heads_ok HTB.out HMN.out).mono ?_; rintro e w4 ⟨rfl, rfl⟩)
        | (go_at_call 55; refine (HFN.out _ HE3.out).mono ?_; rintro e w5 ⟨rfl, hb5⟩; have HE5 : Hid (Below w1.heap.size w1 w5) := Lib.hid (HE3.out.trans (hb5.mono HE3.out.size)); clear hb5))
    have HH : Hid (((GL.length : Int) == (fullP A.st.toNat al : Int)) = comB al A) := Lib.hid (by
      unfold comB
      rw [← heads_cnt HTB.out HMN.out HGD.out.rus HGD.out.alen HGD.out.same])
    go_wp2_with fail
    go_ret2
    exact ⟨by rw [HE.out, HVA.out, ← HH.out]; rfl, HB1.out.trans (HE5.out.mono HB1.out.size)⟩

set_option maxRecDepth 100000 in
set_option maxHeartbeats 2000000 in
theorem rcom_ok (al : List Int) (A : Au) (hlen : A.ru.length ≤ 100) (av v : Value) (w : World) (ha : IsInts w av al) (hA : IsAu w v A) :
    Calls Tryd.prog 16 #[.agg #[av], v] w fun e w' => e = .returned (.tuple #[.bool (validA al A && comB al A), .int .i64 (vE al A)]) ∧ Below w.heap.size w w' := by
  have HA := Lib.hid hA
  have HAL := Lib.hid ha
  obtain ⟨fv, rv, rfl, hf, hr⟩ := hA
  have H2 := Lib.hid (two_boxes w #[av] #[.int .i64 A.st, fv, rv] 24 27)
  obtain ⟨p1, c1, rfl, _⟩ := hf
  obtain ⟨p2, c2, rfl, _⟩ := hr
  obtain ⟨pa, ca, rfl, _⟩ := ha
  have h0 := H2.out _ (Below.refl _ _)
  have HV := Lib.hid (rvalid_ok al A _ _ _ (HAL.out.below h0.2.2) (HA.out.below h0.2.2))
  clear h0
  go_enter Tryd.func16, Tryd.ntmps16
  go_wp2_with fail
  refine HV.out.mono ?_
  rintro e w1 ⟨rfl, hb1⟩
  have h1 := H2.out w1 hb1
  have HB1 := Lib.hid h1.2.2
  cases hva : validA al A with
  | false =>
    have HVA := Lib.hid hva
    have HE : Hid (vE al A = 1) := Lib.hid (by unfold vE; rw [hva]; rfl)
    clear h1 hb1 hva
    go_wp2_with fail
    go_ret2
    exact ⟨by rw [HE.out, HVA.out]; rfl, HB1.out⟩
  | true =>
    have HVA := Lib.hid hva
    have HE : Hid (vE al A = 0) := Lib.hid (by unfold vE; rw [hva]; rfl)
    have HGD := Lib.hid (goodA_of hva)
    have hal12 : al.length ≤ 12 := by
      unfold validA validAl at hva
      simp only [Bool.and_eq_true, decide_eq_true_eq] at hva
      exact hva.1.1
    have ya : w1.cell? ⟨w.heap.size, 0, none⟩ = some (.slice pa al.length ca) := by rw [h1.1.cell]; rfl
    have x0 : w1.cell? ⟨w.heap.size + 1, 0, none⟩ = some (.int .i64 A.st) := by rw [h1.2.1.cell]; rfl
    have x1 : w1.cell? ⟨w.heap.size + 1, 1, none⟩ = some (.slice p1 A.fin.length c1) := by rw [h1.2.1.cell]; rfl
    have x2 : w1.cell? ⟨w.heap.size + 1, 2, none⟩ = some (.slice p2 A.ru.length c2) := by rw [h1.2.1.cell]; rfl
    have xl := h1.2.1.lt
    have yl := h1.1.lt
    have HO := Lib.hid (whole_ok al A A.st.toNat (by rw [Int.toNat_of_nonneg HGD.out.st.1]) (by have := HGD.out.st; omega) hal12 HGD.out.ranks hlen _ _ w1 (HAL.out.below HB1.out) (HA.out.below HB1.out))
    clear h1 hb1 hva
    generalize hone : ((cntB A.ru : Int) == (fullP A.st.toNat al : Int)) = one at HO
    have HON : Hid (comB al A = one) := Lib.hid hone
    clear hone
    go_wp2_with fail
    refine HO.out.mono ?_
    rintro e w2 ⟨rfl, hb2⟩
    have HB2 := Lib.hid (HB1.out.trans (hb2.mono HB1.out.size))
    clear hb2
    go_wp2_with fail
    go_ret2
    exact ⟨by rw [HE.out, HVA.out, HON.out]; rfl, HB2.out⟩
end

section
open Go.RowKit Go.Shelf Go.Maps Go.WideElems

theorem eqL_self (l : List Int) : eqL l l = true := by unfold eqL; simp

set_option maxRecDepth 100000 in
set_option maxHeartbeats 4000000 in
theorem rsame_ok (A : Au) (hlen : A.ru.length ≤ 20000) (v v' : Value) (w : World) (hA : IsAu w v A) (hA' : IsAu w v' A) :
    Calls Tryd.prog 24 #[v, v'] w fun e w' => e = .returned (.bool true) ∧ Below w.heap.size w w' := by
  obtain ⟨fv, uv, rfl, hf, hr⟩ := hA
  obtain ⟨fv', uv', rfl, hf', hr'⟩ := hA'
  have H2 := Lib.hid (two_boxes w #[.int .i64 A.st, fv, uv] #[.int .i64 A.st, fv', uv'] 27 27)
  have h0 := H2.out _ (Below.refl _ _)
  have HLE := Lib.hid (listE_ok A.fin A.fin fv fv' _ (hf.below h0.2.2) (hf'.below h0.2.2))
  obtain ⟨p1, c1, rfl, _⟩ := hf
  obtain ⟨p1', c1', rfl, _⟩ := hf'
  obtain ⟨p2, c2, rfl, hr3, hr4, hrc⟩ := hr
  obtain ⟨p2', c2', rfl, hr3', hr4', hrc'⟩ := hr'
  unfold maxLen at hr4 hr4'
  have HRC := Lib.hid hrc
  have HRC' := Lib.hid hrc'
  have HB0 := Lib.hid h0.2.2
  have x0 : ((w.alloc (.cells #[.int .i64 A.st, .slice p1 A.fin.length c1, .slice p2 A.ru.length c2] 27)).alloc (.cells #[.int .i64 A.st, .slice p1' A.fin.length c1', .slice p2' A.ru.length c2'] 27)).cell? ⟨w.heap.size, 0, none⟩ = some (.int .i64 A.st) := by rw [h0.1.cell]; rfl
  clear hrc hrc' h0
  go_enter Tryd.func24, Tryd.ntmps24
  have e1 : (A.st != A.st) = false := by simp
  go_wp2_with fail
  refine HLE.out.mono ?_
  rintro e w1 ⟨rfl, hb1⟩
  have h1 := H2.out w1 hb1
  have HB1 := Lib.hid h1.2.2
  have HXa := Lib.hid h1.1
  have HXb := Lib.hid h1.2.1
  have y0 : w1.cell? ⟨w.heap.size, 2, none⟩ = some (.slice p2 A.ru.length c2) := by rw [h1.1.cell]; rfl
  have y1 : w1.cell? ⟨w.heap.size + 1, 2, none⟩ = some (.slice p2' A.ru.length c2') := by rw [h1.2.1.cell]; rfl
  have yl := h1.1.lt
  have yl1 := h1.2.1.lt
  have e2 : ((A.ru.length : Int) != (A.ru.length : Int)) = false := by simp
  rw [eqL_self]
  clear h1 hb1 HLE x0
  go_wp2_with fail
  go_loopw [32] (fun iv wr => ∃ k : Nat, iv = .int .i64 (k : Nat) ∧ k ≤ A.ru.length ∧ Hid (Below w1.heap.size w1 wr)) (fun iv _ => A.ru.length - (intOf iv).toNat)
  case atStart => exact ⟨0, rfl, by omega, Lib.hid (Below.refl _ _)⟩
  case round =>
    rename World => wr
    obtain ⟨k, rfl, hk, HBr⟩ := hrel
    have HBW := Lib.hid (HB1.out.trans (HBr.out.mono HB1.out.size))
    by_cases hlt : k < A.ru.length
    · obtain ⟨r, hrk⟩ : ∃ r, A.ru[k]? = some r := ⟨_, List.getElem?_eq_getElem hlt⟩
      obtain ⟨b, o, rfl, hcl⟩ := HRC.out (fun h => by simp [h] at hlt)
      obtain ⟨b', o', rfl, hcl'⟩ := HRC'.out (fun h => by simp [h] at hlt)
      obtain ⟨q0, ⟨u, q1, hu⟩, q2⟩ := (hcl k r hrk).below HBW.out
      obtain ⟨t0, ⟨u', t1, hu'⟩, t2⟩ := (hcl' k r hrk).below HBW.out
      have HU := Lib.hid hu
      have HU' := Lib.hid hu'
      obtain ⟨pu, cu, rfl, hu3, hu4, _⟩ := hu
      obtain ⟨pu', cu', rfl, hu3', hu4', _⟩ := hu'
      obtain ⟨rs, fr, rt⟩ := r
      simp only at q0 q1 q2 t0 t1 t2 hu3 hu3' HU HU'
      have hbl := World.block_lt_of_cell? _ _ q0
      have hbl' := World.block_lt_of_cell? _ _ t0
      simp only at hbl hbl'
      have hk1 : (k : Int) < (A.ru.length : Int) := by omega
      have f1 : (rs != rs) = false := by simp
      have f2 : (rt != rt) = false := by simp
      obtain ⟨wa, hwa⟩ : ∃ wa, wa = wr.alloc (.cells #[.int .i64 rs, .slice pu fr.length cu, .int .i64 rt] 70) := ⟨_, rfl⟩
      have HBA : Hid (Below wr.heap.size wr wa) := Lib.hid (by rw [hwa]; exact (Below.refl _ wr).alloc (Nat.le_refl _) _)
      have HNA : Hid (Blk wa wr.heap.size 70 #[.int .i64 rs, .slice pu fr.length cu, .int .i64 rt]) := Lib.hid (by rw [hwa]; exact Blk.new wr _ _)
      have HBWA := Lib.hid (HBr.out.trans (HBA.out.mono HBr.out.size))
      have HXbA := Lib.hid (HXb.out.below HBWA.out HXb.out.lt)
      have HD0 : Hid (Below wa.heap.size wa wa.drew) := Lib.hid (Below.refl _ _).drew
      have HSS : Hid (∀ W, Below wa.heap.size wa W → W.cell? ⟨wr.heap.size, 0, none⟩ = some (.int .i64 rs) ∧ W.cell? ⟨wr.heap.size, 1, none⟩ = some (.slice pu fr.length cu) ∧ W.cell? ⟨wr.heap.size, 2, none⟩ = some (.int .i64 rt) ∧ W.cell? ⟨w.heap.size + 1, 2, none⟩ = some (.slice (some ⟨b', o', none⟩) A.ru.length c2') ∧
          W.cell? ⟨b', o' + k * 3, none⟩ = some (.int .i64 rs) ∧ W.cell? ⟨b', o' + k * 3 + 1, none⟩ = some (.slice pu' fr.length cu') ∧ W.cell? ⟨b', o' + k * 3 + 2, none⟩ = some (.int .i64 rt)) := Lib.hid (fun W hW => by
        have hN := HNA.out.below hW HNA.out.lt
        have hX := HXbA.out.below hW HXbA.out.lt
        have hAW := HBA.out.trans (hW.mono HBA.out.size)
        exact ⟨by rw [hN.cell]; rfl, by rw [hN.cell]; rfl, by rw [hN.cell]; rfl, by rw [hX.cell]; rfl, cell_later hAW t0, cell_later hAW t1, cell_later hAW t2⟩)
      have HLI : Hid (∀ W, Below wa.heap.size wa W → Calls Tryd.prog 29 #[.slice pu fr.length cu, .slice pu' fr.length cu'] W fun e w' => e = .returned (.bool true) ∧ Below W.heap.size W w') := Lib.hid (fun W hW => by
        have hAW := HBA.out.trans (hW.mono HBA.out.size)
        have := listE_ok fr fr _ _ W (HU.out.below hAW) (HU'.out.below hAW)
        rwa [eqL_self] at this)
      have HWA := Lib.hid hwa
      clear hrk hcl hcl' hwa
      go_wp2_with fail
      have HWA' := HWA.out
      simp only [← HWA'] at *
      go_region_held3 (fun W => W.cell? ⟨wr.heap.size, 0, none⟩ = some (.int .i64 rs) ∧ W.cell? ⟨wr.heap.size, 1, none⟩ = some (.slice pu fr.length cu) ∧ W.cell? ⟨wr.heap.size, 2, none⟩ = some (.int .i64 rt) ∧ W.cell? ⟨w.heap.size + 1, 2, none⟩ = some (.slice (some ⟨b', o', none⟩) A.ru.length c2') ∧
          W.cell? ⟨b', o' + k * 3, none⟩ = some (.int .i64 rs) ∧ W.cell? ⟨b', o' + k * 3 + 1, none⟩ = some (.slice pu' fr.length cu') ∧ W.cell? ⟨b', o' + k * 3 + 2, none⟩ = some (.int .i64 rt))
        (first | exact HSS.out _ HE3.out | exact HSS.out _ HD0.out)
        (first
          | (go_at_call 29; refine (HLI.out _ HD0.out).mono ?_; rintro e w3 ⟨rfl, hb3⟩; have HE3 : Hid (Below wa.heap.size wa w3) := Lib.hid (HD0.out.trans (hb3.mono HD0.out.size)); clear hb3))
      go_wp2_with fail
      go_roundw
      case rel => exact ⟨k + 1, by go_num, by omega, Lib.hid (HBWA.out.trans (HE3.out.mono HBWA.out.size))⟩
      case measure => simp [intOf]; omega
    · have hkd : decide (k < A.ru.length) = false := decide_eq_false hlt
      have hkd2 : decide ((k : Int) < (A.ru.length : Int)) = false := decide_eq_false (by omega)
      go_wp2_with fail
      go_ret
      exact ⟨rfl, HBW.out⟩
end

section
open Go.RowKit Go.Shelf Go.Maps Go.WideElems

set_option maxRecDepth 100000 in
set_option maxHeartbeats 1000000 in
theorem bools_nil (w : World) :
    Calls Tryd.prog 23 #[.slice none 0 0, .slice none 0 0] w fun e w' => e = .returned (.bool true) ∧ Below w.heap.size w w' := by
  go_enter Tryd.func23, Tryd.ntmps23
  go_wp2_with fail
  go_loopw [13] (fun iv wr => iv = .int .i64 0 ∧ wr = w) (fun _ _ => 0)
  case atStart => exact ⟨rfl, rfl⟩
  case round =>
    rename World => wr
    obtain ⟨rfl, hwr⟩ := hrel
    have hwr2 := hwr.symm
    clear hwr
    subst hwr2
    go_wp2_with fail
    go_ret
    exact ⟨rfl, Below.refl _ _⟩

set_option maxRecDepth 100000 in
set_option maxHeartbeats 1000000 in
theorem bools_same (M : List Bool) (n : Nat) (b b' : Nat) (w : World) (hM : BB w b M) (hM' : BB w b' M) (hn : M.length = n) (hn2 : n ≤ 300) :
    Calls Tryd.prog 23 #[.slice (some ⟨b, 0, none⟩) n n, .slice (some ⟨b', 0, none⟩) n n] w fun e w' => e = .returned (.bool true) ∧ Below w.heap.size w w' := by
  have HM := Lib.hid hM
  have HM' := Lib.hid hM'
  have HN := Lib.hid hn
  have hbl : b < w.heap.size := Blk.lt (show Blk w b 4 (M.map Value.bool).toArray from hM)
  have hbl' : b' < w.heap.size := Blk.lt (show Blk w b' 4 (M.map Value.bool).toArray from hM')
  have HB := Lib.hid (Below.refl w.heap.size w)
  clear hM hM' hn
  go_enter Tryd.func23, Tryd.ntmps23
  go_wp2_with fail
  go_loopw [13] (fun iv wr => ∃ k : Nat, iv = .int .i64 (k : Nat) ∧ k ≤ n ∧ Hid (BB wr b M) ∧ Hid (BB wr b' M) ∧ Hid (Below w.heap.size w wr)) (fun iv _ => n - (intOf iv).toNat)
  case atStart => exact ⟨0, rfl, by omega, HM, HM', HB⟩
  case round =>
    rename World => wr
    obtain ⟨k, rfl, hk, HA, HA', HBr⟩ := hrel
    by_cases hlt : k < n
    · have m0 : wr.cell? ⟨b, k, none⟩ = some (.bool (M.getD k false)) := HA.out.at (by rw [HN.out]; exact hlt)
      have m1 : wr.cell? ⟨b', k, none⟩ = some (.bool (M.getD k false)) := HA'.out.at (by rw [HN.out]; exact hlt)
      have l0 := World.block_lt_of_cell? _ _ m0
      have l1 := World.block_lt_of_cell? _ _ m1
      simp only at l0 l1
      have hk1 : (k : Int) < (n : Int) := by omega
      have HAD : Hid (BB wr.drew b M) := Lib.hid (Blk.drew (show Blk wr b 4 (M.map Value.bool).toArray from HA.out))
      have HAD' : Hid (BB wr.drew b' M) := Lib.hid (Blk.drew (show Blk wr b' 4 (M.map Value.bool).toArray from HA'.out))
      have HBR0 := Lib.hid HBr.out
      generalize M.getD k false = g at *
      cases g
      all_goals
        go_wp2_with fail
        go_quiet (fail)
        go_wp2_with fail
        go_roundw
        case rel => exact ⟨k + 1, by go_num, by omega, HAD, HAD', Lib.hid (below_drewN HBR0.out _)⟩
        case measure => simp [intOf]; omega
    · have hkd : decide (k < n) = false := decide_eq_false hlt
      have hkd2 : decide ((k : Int) < (n : Int)) = false := decide_eq_false (by omega)
      go_wp2_with fail
      go_ret
      exact ⟨rfl, HBr.out⟩
end

end Go.Proofs.YtedfldbknjcnlaaDoor
