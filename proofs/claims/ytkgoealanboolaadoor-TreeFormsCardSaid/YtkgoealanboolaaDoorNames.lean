/- ref01: letters, digits, words; names, one by one; slices.Index at strings. -/
import Derived.Test.YtkgoealanboolaaDoorScan
namespace Go.Proofs.YtkgoealanboolaaDoor
open Go.RowKit Go.Shelf

set_option maxHeartbeats 1000000 in
theorem rletter_ok (c : Int) (w : World) : Calls Tryd.prog 81 #[.int .u8 c] w fun e w' => e = .returned (.bool (letB c)) ∧ w = w' := by
  have HL : Hid (letB c = ((decide (97 ≤ c) && decide (c ≤ 122)) || (decide (65 ≤ c) && decide (c ≤ 90)))) := Lib.hid rfl
  by_cases h1 : 97 ≤ c
  · have d1 : decide (97 ≤ c) = true := decide_eq_true h1
    by_cases h2 : c ≤ 122
    · have d2 : decide (c ≤ 122) = true := decide_eq_true h2
      rw [d1, d2] at HL
      go_enter Tryd.func81, Tryd.ntmps81
      go_wp2_with fail
      go_ret
      exact ⟨ret_bool (by rw [HL.out]; rfl), rfl⟩
    · have d2 : decide (c ≤ 122) = false := decide_eq_false h2
      have d3 : decide (65 ≤ c) = true := decide_eq_true (by omega)
      have d4 : decide (c ≤ 90) = false := decide_eq_false (by omega)
      rw [d1, d2, d3, d4] at HL
      go_enter Tryd.func81, Tryd.ntmps81
      go_wp2_with fail
      go_ret
      exact ⟨ret_bool (by rw [HL.out]; rfl), rfl⟩
  · have d1 : decide (97 ≤ c) = false := decide_eq_false h1
    by_cases h3 : 65 ≤ c
    · have d3 : decide (65 ≤ c) = true := decide_eq_true h3
      by_cases h4 : c ≤ 90
      · have d4 : decide (c ≤ 90) = true := decide_eq_true h4
        rw [d1, d3, d4] at HL
        go_enter Tryd.func81, Tryd.ntmps81
        go_wp2_with fail
        go_ret
        exact ⟨ret_bool (by rw [HL.out]; simp), rfl⟩
      · have d4 : decide (c ≤ 90) = false := decide_eq_false h4
        rw [d1, d3, d4] at HL
        go_enter Tryd.func81, Tryd.ntmps81
        go_wp2_with fail
        go_ret
        exact ⟨ret_bool (by rw [HL.out]; simp), rfl⟩
    · have d3 : decide (65 ≤ c) = false := decide_eq_false h3
      rw [d1, d3] at HL
      go_enter Tryd.func81, Tryd.ntmps81
      go_wp2_with fail
      go_ret
      exact ⟨ret_bool (by rw [HL.out]; simp), rfl⟩

set_option maxHeartbeats 1000000 in
theorem rdigit_ok (c : Int) (w : World) : Calls Tryd.prog 82 #[.int .u8 c] w fun e w' => e = .returned (.bool (digB c)) ∧ w = w' := by
  have HL : Hid (digB c = (decide (48 ≤ c) && decide (c ≤ 57))) := Lib.hid rfl
  by_cases h1 : 48 ≤ c
  · have d1 : decide (48 ≤ c) = true := decide_eq_true h1
    rw [d1] at HL
    go_enter Tryd.func82, Tryd.ntmps82
    go_wp2_with fail
    go_ret
    exact ⟨ret_bool (by rw [HL.out]; simp), rfl⟩
  · have d1 : decide (48 ≤ c) = false := decide_eq_false h1
    rw [d1] at HL
    go_enter Tryd.func82, Tryd.ntmps82
    go_wp2_with fail
    go_ret
    exact ⟨ret_bool (by rw [HL.out]; simp), rfl⟩


/-- The length of the word (a letter, then letters and digits) at the beginning. -/
def wordR (s : ByteArray) : Nat := if letB (byt s 0) = true ∧ 0 < s.size then wEnd s 1 else 0
def nameB (s : ByteArray) : Bool := decide (0 < s.size) && decide (s.size ≤ 12) && letB (byt s 0) && decide (wEnd s 0 = s.size)

theorem wEnd_step {s : ByteArray} {k : Nat} (h : k < s.size) (ha : alnum (byt s k) = true) : wEnd s k = wEnd s (k + 1) := by rw [wEnd, if_pos h, if_pos ha]
theorem wEnd_stop {s : ByteArray} {k : Nat} (ha : alnum (byt s k) = false) : wEnd s k = k := by
  rw [wEnd]
  split
  · rw [if_neg (by simp [ha])]
  · rfl
theorem wEnd_end {s : ByteArray} {k : Nat} (h : ¬ k < s.size) : wEnd s k = k := by rw [wEnd, if_neg h]
theorem nameB_eq (s : ByteArray) : nameB s = (decide (0 < s.size) && (decide (s.size ≤ 12) && decide (wordR s = s.size))) := by
  unfold nameB wordR
  by_cases h0 : 0 < s.size
  · cases hl : letB (byt s 0) with
    | true =>
      have : wEnd s 0 = wEnd s 1 := wEnd_step h0 (by simp [alnum, hl])
      simp [h0, this]
    | false =>
      have : ¬ 0 = s.size := by omega
      simp [h0, this]
  · simp [h0]

set_option maxRecDepth 100000 in
set_option maxHeartbeats 1000000 in
theorem word_ok (s : ByteArray) (w : World) (hs : s.size ≤ 9223372036854775807) : Calls Tryd.prog 51 #[.string s] w fun e w' => e = .returned (.int .i64 (wordR s)) ∧ w = w' := by
  have HLt := Lib.hid (fun c w => rletter_ok c w)
  have HDg := Lib.hid (fun c w => rdigit_ok c w)
  go_enter Tryd.func51, Tryd.ntmps51
  go_wp2_with fail
  go_loop [3] (fun v => ∃ k : Nat, v = .int .i64 k ∧ k ≤ s.size ∧ Hid (k = 0 ∨ (0 < k ∧ wordR s = wEnd s k))) (fun v => s.size - (intOf v).toNat)
  case atStart => exact ⟨0, rfl, by omega, Lib.hid (.inl rfl)⟩
  case round =>
    obtain ⟨k, rfl, hk, HE⟩ := hrel
    by_cases hlt : k < s.size
    · have hby : Hid (byt s k = ((s[k]'hlt).toNat : Int)) := Lib.hid (by rw [byt, dif_pos hlt])
      cases hl : letB ((s[k]'hlt).toNat : Int) with
      | true =>
        have HW : Hid (wordR s = wEnd s (k + 1)) := Lib.hid (by
          rcases HE.out with rfl | ⟨h1, h2⟩
          · rw [wordR, if_pos ⟨by rw [hby.out]; exact hl, hlt⟩]
          · rw [h2, wEnd_step hlt (by rw [hby.out, alnum, hl]; rfl)])
        clear HE hby
        go_wp2_with fail
        refine (HLt.out _ _).mono ?_
        rintro e w1 ⟨rfl, rfl⟩
        rw [hl]
        go_wp2_with fail
        go_round
        case rel => exact ⟨k + 1, by go_num, by omega, Lib.hid (.inr ⟨by omega, HW.out⟩)⟩
        case measure => simp [intOf]; omega
      | false =>
        by_cases hk0 : k = 0
        · subst hk0
          have HW : Hid (wordR s = 0) := Lib.hid (by rw [wordR, if_neg (by rw [hby.out, hl]; simp)])
          clear HE hby
          go_wp2_with fail
          refine (HLt.out _ _).mono ?_
          rintro e w1 ⟨rfl, rfl⟩
          rw [hl]
          go_wp2_with fail
          go_ret
          exact ⟨by rw [HW.out]; rfl, rfl⟩
        · have hk1 : 0 < k := by omega
          have HE2 : Hid (wordR s = wEnd s k) := Lib.hid (by
            rcases HE.out with h | h
            · exact absurd h hk0
            · exact h.2)
          clear HE hk0
          cases hd : digB ((s[k]'hlt).toNat : Int) with
          | true =>
            have HW : Hid (wordR s = wEnd s (k + 1)) := Lib.hid (by rw [HE2.out, wEnd_step hlt (by rw [hby.out, alnum, hd]; simp)])
            clear HE2 hby
            go_wp2_with fail
            refine (HLt.out _ _).mono ?_
            rintro e w1 ⟨rfl, rfl⟩
            rw [hl]
            go_wp2_with fail
            refine (HDg.out _ _).mono ?_
            rintro e w1 ⟨rfl, rfl⟩
            rw [hd]
            go_wp2_with fail
            go_round
            case rel => exact ⟨k + 1, by go_num, by omega, Lib.hid (.inr ⟨by omega, HW.out⟩)⟩
            case measure => simp [intOf]; omega
          | false =>
            have HW : Hid (wordR s = k) := Lib.hid (by rw [HE2.out, wEnd_stop (by rw [hby.out, alnum, hl, hd]; rfl)])
            clear HE2 hby
            go_wp2_with fail
            refine (HLt.out _ _).mono ?_
            rintro e w1 ⟨rfl, rfl⟩
            rw [hl]
            go_wp2_with fail
            refine (HDg.out _ _).mono ?_
            rintro e w1 ⟨rfl, rfl⟩
            rw [hd]
            go_wp2_with fail
            go_ret
            exact ⟨by rw [HW.out]; rfl, rfl⟩
    · have hge : s.size ≤ k := by omega
      have HW : Hid (wordR s = k) := Lib.hid (by
        rcases HE.out with rfl | ⟨h1, h2⟩
        · rw [wordR, if_neg (by omega)]
        · rw [h2, wEnd_end hlt])
      clear HE hlt
      go_wp2_with fail
      go_ret
      exact ⟨by rw [HW.out]; rfl, rfl⟩

set_option maxRecDepth 100000 in
set_option maxHeartbeats 1000000 in
theorem name_ok (s : ByteArray) (w : World) (hs : s.size ≤ 9223372036854775807) : Calls Tryd.prog 50 #[.string s] w fun e w' => e = .returned (.bool (nameB s)) ∧ w = w' := by
  have HLt := Lib.hid (fun c w => letter_ok c w)
  have HWE := Lib.hid (fun w => wordEnd_ok s 0 w hs (by omega))
  by_cases h0 : s.size = 0
  · have HR : Hid (nameB s = false) := Lib.hid (by simp [nameB, h0])
    have d0 : ((s.size : Int) == 0) = true := by simp [h0]
    clear h0
    go_enter Tryd.func50, Tryd.ntmps50
    go_wp2_with fail
    go_ret
    exact ⟨ret_bool (by rw [HR.out]), rfl⟩
  · have hp : 0 < s.size := by omega
    have d0 : ((s.size : Int) == 0) = false := beq_eq_false_iff_ne.2 (by omega)
    have d0' : (s.size == 0) = false := beq_eq_false_iff_ne.2 (by omega)
    clear h0
    by_cases h12 : s.size ≤ 12
    · have hby : Hid (byt s 0 = ((s[0]'hp).toNat : Int)) := Lib.hid (by rw [byt, dif_pos hp])
      cases hl : letB ((s[0]'hp).toNat : Int) with
      | true =>
        by_cases he : wEnd s 0 = s.size
        · have HR : Hid (nameB s = true) := Lib.hid (by simp [nameB, hp, h12, hby.out, hl, he])
          rw [he] at HWE
          clear he hby
          go_enter Tryd.func50, Tryd.ntmps50
          go_wp2_with fail
          refine (HLt.out _ _).mono ?_
          rintro e w1 ⟨rfl, rfl⟩
          rw [hl]
          go_wp2_with fail
          refine (HWE.out _).mono ?_
          rintro e w1 ⟨rfl, rfl⟩
          go_wp2_with fail
          go_ret
          exact ⟨ret_bool (by rw [HR.out]), rfl⟩
        · have HR : Hid (nameB s = false) := Lib.hid (by simp [nameB, he])
          have d1 : ((wEnd s 0 : Int) == (s.size : Int)) = false := by simp; omega
          have d2 : (wEnd s 0 == s.size) = false := by simpa using he
          clear he hby
          go_enter Tryd.func50, Tryd.ntmps50
          go_wp2_with fail
          refine (HLt.out _ _).mono ?_
          rintro e w1 ⟨rfl, rfl⟩
          rw [hl]
          go_wp2_with fail
          refine (HWE.out _).mono ?_
          rintro e w1 ⟨rfl, rfl⟩
          go_wp2_with fail
          go_ret
          exact ⟨ret_bool (by rw [HR.out]), rfl⟩
      | false =>
        have HR : Hid (nameB s = false) := Lib.hid (by simp [nameB, hby.out, hl])
        clear hby
        go_enter Tryd.func50, Tryd.ntmps50
        go_wp2_with fail
        refine (HLt.out _ _).mono ?_
        rintro e w1 ⟨rfl, rfl⟩
        rw [hl]
        go_wp2_with fail
        go_ret
        exact ⟨ret_bool (by rw [HR.out]), rfl⟩
    · have HR : Hid (nameB s = false) := Lib.hid (by simp [nameB, h12])
      have h12' : 12 < s.size := by omega
      clear h12
      go_enter Tryd.func50, Tryd.ntmps50
      go_wp2_with fail
      go_ret
      exact ⟨ret_bool (by rw [HR.out]), rfl⟩

theorem toList_size (s : ByteArray) : s.toList.length = s.size := by
  rw [ByteArray.toList_eq]; simp
theorem isEmpty_size (s : ByteArray) : s.toList.isEmpty = decide (s.size = 0) := by
  rw [← toList_size]
  cases s.toList <;> simp
set_option maxRecDepth 100000 in
set_option maxHeartbeats 1000000 in
theorem rname_ok (s : ByteArray) (w : World) (hs : s.size ≤ 9223372036854775807) : Calls Tryd.prog 23 #[.string s] w fun e w' => e = .returned (.bool (nameB s)) ∧ w = w' := by
  have HWE := Lib.hid (fun w => word_ok s w hs)
  have HR := Lib.hid (nameB_eq s)
  by_cases h0 : s.size = 0
  · have d0 : s.toList.isEmpty = true := by rw [isEmpty_size, h0]; rfl
    have HR2 : Hid (nameB s = false) := Lib.hid (by rw [HR.out, h0]; rfl)
    clear h0
    go_enter Tryd.func23, Tryd.ntmps23
    go_wp2_with fail
    go_ret
    exact ⟨ret_bool (by rw [HR2.out]), rfl⟩
  · have d0 : s.toList.isEmpty = false := by rw [isEmpty_size]; exact decide_eq_false h0
    have hp : decide (0 < s.size) = true := decide_eq_true (by omega)
    clear h0
    by_cases h12 : s.size ≤ 12
    · have HR2 : Hid (nameB s = decide (wordR s = s.size)) := Lib.hid (by rw [HR.out, hp, decide_eq_true h12]; rfl)
      by_cases he : wordR s = s.size
      · have HR3 : Hid (nameB s = true) := Lib.hid (by rw [HR2.out, he]; simp)
        rw [he] at HWE
        clear he hp
        go_enter Tryd.func23, Tryd.ntmps23
        go_wp2_with fail
        refine (HWE.out _).mono ?_
        rintro e w1 ⟨rfl, rfl⟩
        go_wp2_with fail
        go_ret
        exact ⟨ret_bool (by rw [HR3.out]), rfl⟩
      · have HR3 : Hid (nameB s = false) := Lib.hid (by rw [HR2.out]; exact decide_eq_false he)
        have d1 : ((wordR s : Int) == (s.size : Int)) = false := beq_eq_false_iff_ne.2 (by omega)
        have d2 : (wordR s == s.size) = false := beq_eq_false_iff_ne.2 he
        clear he hp
        go_enter Tryd.func23, Tryd.ntmps23
        go_wp2_with fail
        refine (HWE.out _).mono ?_
        rintro e w1 ⟨rfl, rfl⟩
        go_wp2_with fail
        go_ret
        exact ⟨ret_bool (by rw [HR3.out]), rfl⟩
    · have HR2 : Hid (nameB s = false) := Lib.hid (by rw [HR.out, decide_eq_false h12]; simp)
      have h12' : 12 < s.size := by omega
      clear h12 hp
      go_enter Tryd.func23, Tryd.ntmps23
      go_wp2_with fail
      go_ret
      exact ⟨ret_bool (by rw [HR2.out]), rfl⟩

end Go.Proofs.YtkgoealanboolaaDoor
