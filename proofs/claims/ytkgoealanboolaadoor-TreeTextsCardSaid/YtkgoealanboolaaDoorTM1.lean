/- Letters, digits, words. ref01: letters, digits, words; names, one by one; slices.Index at strings. slices.Index and Contains at strings, ref01.Place; the names. -/
import Derived.Test.YtkgoealanboolaaDoorTAt
namespace Go.Proofs.YtkgoealanboolaaDoor
open Go.RowKit Go.Shelf

def letB (c : Int) : Bool := (decide (97 ≤ c) && decide (c ≤ 122)) || (decide (65 ≤ c) && decide (c ≤ 90))
def digB (c : Int) : Bool := decide (48 ≤ c) && decide (c ≤ 57)
def byt (s : ByteArray) (i : Nat) : Int := if h : i < s.size then ((s[i]'h).toNat : Int) else 0
def alnum (c : Int) : Bool := letB c || digB c
/-- Where the run of letters and digits from i ends. -/
def wEnd (s : ByteArray) (i : Nat) : Nat := if i < s.size then (if alnum (byt s i) then wEnd s (i + 1) else i) else i
termination_by s.size - i

set_option maxHeartbeats 1000000 in
theorem letter_ok (c : Int) (w : World) : Calls Tryd.prog 79 #[.int .u8 c] w fun e w' => e = .returned (.bool (letB c)) ∧ w = w' := by
  have HL : Hid (letB c = ((decide (97 ≤ c) && decide (c ≤ 122)) || (decide (65 ≤ c) && decide (c ≤ 90)))) := Lib.hid rfl
  by_cases h1 : 97 ≤ c
  · have d1 : decide (97 ≤ c) = true := decide_eq_true h1
    by_cases h2 : c ≤ 122
    · have d2 : decide (c ≤ 122) = true := decide_eq_true h2
      rw [d1, d2] at HL
      go_enter Tryd.func79, Tryd.ntmps79
      go_wp2_with fail
      go_ret
      exact ⟨ret_bool (by rw [HL.out]; rfl), rfl⟩
    · have d2 : decide (c ≤ 122) = false := decide_eq_false h2
      have d3 : decide (65 ≤ c) = true := decide_eq_true (by omega)
      have d4 : decide (c ≤ 90) = false := decide_eq_false (by omega)
      rw [d1, d2, d3, d4] at HL
      go_enter Tryd.func79, Tryd.ntmps79
      go_wp2_with fail
      go_ret
      exact ⟨ret_bool (by rw [HL.out]; rfl), rfl⟩
  · have d1 : decide (97 ≤ c) = false := decide_eq_false h1
    by_cases h3 : 65 ≤ c
    · have d3 : decide (65 ≤ c) = true := decide_eq_true h3
      by_cases h4 : c ≤ 90
      · have d4 : decide (c ≤ 90) = true := decide_eq_true h4
        rw [d1, d3, d4] at HL
        go_enter Tryd.func79, Tryd.ntmps79
        go_wp2_with fail
        go_ret
        exact ⟨ret_bool (by rw [HL.out]; simp), rfl⟩
      · have d4 : decide (c ≤ 90) = false := decide_eq_false h4
        rw [d1, d3, d4] at HL
        go_enter Tryd.func79, Tryd.ntmps79
        go_wp2_with fail
        go_ret
        exact ⟨ret_bool (by rw [HL.out]; simp), rfl⟩
    · have d3 : decide (65 ≤ c) = false := decide_eq_false h3
      rw [d1, d3] at HL
      go_enter Tryd.func79, Tryd.ntmps79
      go_wp2_with fail
      go_ret
      exact ⟨ret_bool (by rw [HL.out]; simp), rfl⟩

set_option maxHeartbeats 1000000 in
theorem digit_ok (c : Int) (w : World) : Calls Tryd.prog 95 #[.int .u8 c] w fun e w' => e = .returned (.bool (digB c)) ∧ w = w' := by
  have HL : Hid (digB c = (decide (48 ≤ c) && decide (c ≤ 57))) := Lib.hid rfl
  by_cases h1 : 48 ≤ c
  · have d1 : decide (48 ≤ c) = true := decide_eq_true h1
    rw [d1] at HL
    go_enter Tryd.func95, Tryd.ntmps95
    go_wp2_with fail
    go_ret
    exact ⟨ret_bool (by rw [HL.out]; simp), rfl⟩
  · have d1 : decide (48 ≤ c) = false := decide_eq_false h1
    rw [d1] at HL
    go_enter Tryd.func95, Tryd.ntmps95
    go_wp2_with fail
    go_ret
    exact ⟨ret_bool (by rw [HL.out]; simp), rfl⟩

set_option maxRecDepth 100000 in
set_option maxHeartbeats 1000000 in
theorem wordEnd_ok (s : ByteArray) (i : Nat) (w : World) (hs : s.size ≤ 9223372036854775807) (hi : i ≤ s.size) : Calls Tryd.prog 80 #[.string s, .int .i64 i] w fun e w' => e = .returned (.int .i64 (wEnd s i)) ∧ w = w' := by
  have HLt := Lib.hid (fun c w => letter_ok c w)
  have HDg := Lib.hid (fun c w => digit_ok c w)
  go_enter Tryd.func80, Tryd.ntmps80
  go_wp2_with fail
  go_loop [1] (fun v => ∃ k : Nat, v = .int .i64 k ∧ k ≤ s.size ∧ Hid (wEnd s i = wEnd s k)) (fun v => s.size - (intOf v).toNat)
  case atStart => exact ⟨i, rfl, hi, Lib.hid rfl⟩
  case round =>
    obtain ⟨k, rfl, hk, HE⟩ := hrel
    by_cases hlt : k < s.size
    · have hby : Hid (byt s k = ((s[k]'hlt).toNat : Int)) := Lib.hid (by rw [byt, dif_pos hlt])
      cases hl : letB ((s[k]'hlt).toNat : Int) with
      | true =>
        have HW : Hid (wEnd s i = wEnd s (k + 1)) := Lib.hid (by rw [HE.out, wEnd, if_pos hlt, if_pos (by rw [hby.out, alnum, hl]; rfl)])
        clear HE hby
        go_wp2_with fail
        refine (HLt.out _ _).mono ?_
        rintro e w1 ⟨rfl, rfl⟩
        rw [hl]
        go_wp2_with fail
        go_round
        case rel => exact ⟨k + 1, by go_num, by omega, HW⟩
        case measure => simp [intOf]; omega
      | false =>
        cases hd : digB ((s[k]'hlt).toNat : Int) with
        | true =>
          have HW : Hid (wEnd s i = wEnd s (k + 1)) := Lib.hid (by rw [HE.out, wEnd, if_pos hlt, if_pos (by rw [hby.out, alnum, hd]; simp)])
          clear HE hby
          go_wp2_with fail
          refine (HLt.out _ _).mono ?_
          rintro e w1 ⟨rfl, rfl⟩
          rw [hl]
          go_wp2_with fail
          refine (HDg.out _ _).mono ?_
          rintro e w1 ⟨rfl, rfl⟩
          rw [hd]
          go_wp2_with fail
          go_round
          case rel => exact ⟨k + 1, by go_num, by omega, HW⟩
          case measure => simp [intOf]; omega
        | false =>
          have HW : Hid (wEnd s i = k) := Lib.hid (by rw [HE.out, wEnd, if_pos hlt, if_neg (by rw [hby.out, alnum, hl, hd]; decide)])
          clear HE hby
          go_wp2_with fail
          refine (HLt.out _ _).mono ?_
          rintro e w1 ⟨rfl, rfl⟩
          rw [hl]
          go_wp2_with fail
          refine (HDg.out _ _).mono ?_
          rintro e w1 ⟨rfl, rfl⟩
          rw [hd]
          go_wp2_with fail
          go_ret
          exact ⟨by rw [HW.out]; rfl, rfl⟩
    · have hge : s.size ≤ k := by omega
      have HW : Hid (wEnd s i = k) := Lib.hid (by rw [HE.out, wEnd, if_neg hlt])
      clear HE hlt
      go_wp2_with fail
      go_ret
      exact ⟨by rw [HW.out]; rfl, rfl⟩

end Go.Proofs.YtkgoealanboolaaDoor

namespace Go.Proofs.YtkgoealanboolaaDoor
open Go.RowKit Go.Shelf

set_option maxHeartbeats 1000000 in
theorem rletter_ok (c : Int) (w : World) : Calls Tryd.prog 81 #[.int .u8 c] w fun e w' => e = .returned (.bool (letB c)) ∧ w = w' := by
  have HL : Hid (letB c = ((decide (97 ≤ c) && decide (c ≤ 122)) || (decide (65 ≤ c) && decide (c ≤ 90)))) := Lib.hid rfl
  by_cases h1 : 97 ≤ c
  · have d1 : decide (97 ≤ c) = true := decide_eq_true h1
    by_cases h2 : c ≤ 122
    · have d2 : decide (c ≤ 122) = true := decide_eq_true h2
      rw [d1, d2] at HL
      go_enter Tryd.func81, Tryd.ntmps81
      go_wp2_with fail
      go_ret
      exact ⟨ret_bool (by rw [HL.out]; rfl), rfl⟩
    · have d2 : decide (c ≤ 122) = false := decide_eq_false h2
      have d3 : decide (65 ≤ c) = true := decide_eq_true (by omega)
      have d4 : decide (c ≤ 90) = false := decide_eq_false (by omega)
      rw [d1, d2, d3, d4] at HL
      go_enter Tryd.func81, Tryd.ntmps81
      go_wp2_with fail
      go_ret
      exact ⟨ret_bool (by rw [HL.out]; rfl), rfl⟩
  · have d1 : decide (97 ≤ c) = false := decide_eq_false h1
    by_cases h3 : 65 ≤ c
    · have d3 : decide (65 ≤ c) = true := decide_eq_true h3
      by_cases h4 : c ≤ 90
      · have d4 : decide (c ≤ 90) = true := decide_eq_true h4
        rw [d1, d3, d4] at HL
        go_enter Tryd.func81, Tryd.ntmps81
        go_wp2_with fail
        go_ret
        exact ⟨ret_bool (by rw [HL.out]; simp), rfl⟩
      · have d4 : decide (c ≤ 90) = false := decide_eq_false h4
        rw [d1, d3, d4] at HL
        go_enter Tryd.func81, Tryd.ntmps81
        go_wp2_with fail
        go_ret
        exact ⟨ret_bool (by rw [HL.out]; simp), rfl⟩
    · have d3 : decide (65 ≤ c) = false := decide_eq_false h3
      rw [d1, d3] at HL
      go_enter Tryd.func81, Tryd.ntmps81
      go_wp2_with fail
      go_ret
      exact ⟨ret_bool (by rw [HL.out]; simp), rfl⟩

set_option maxHeartbeats 1000000 in
theorem rdigit_ok (c : Int) (w : World) : Calls Tryd.prog 82 #[.int .u8 c] w fun e w' => e = .returned (.bool (digB c)) ∧ w = w' := by
  have HL : Hid (digB c = (decide (48 ≤ c) && decide (c ≤ 57))) := Lib.hid rfl
  by_cases h1 : 48 ≤ c
  · have d1 : decide (48 ≤ c) = true := decide_eq_true h1
    rw [d1] at HL
    go_enter Tryd.func82, Tryd.ntmps82
    go_wp2_with fail
    go_ret
    exact ⟨ret_bool (by rw [HL.out]; simp), rfl⟩
  · have d1 : decide (48 ≤ c) = false := decide_eq_false h1
    rw [d1] at HL
    go_enter Tryd.func82, Tryd.ntmps82
    go_wp2_with fail
    go_ret
    exact ⟨ret_bool (by rw [HL.out]; simp), rfl⟩


/-- The length of the word (a letter, then letters and digits) at the beginning. -/
def wordR (s : ByteArray) : Nat := if letB (byt s 0) = true ∧ 0 < s.size then wEnd s 1 else 0
def nameB (s : ByteArray) : Bool := decide (0 < s.size) && decide (s.size ≤ 12) && letB (byt s 0) && decide (wEnd s 0 = s.size)

theorem wEnd_step {s : ByteArray} {k : Nat} (h : k < s.size) (ha : alnum (byt s k) = true) : wEnd s k = wEnd s (k + 1) := by rw [wEnd, if_pos h, if_pos ha]
theorem wEnd_stop {s : ByteArray} {k : Nat} (ha : alnum (byt s k) = false) : wEnd s k = k := by
  rw [wEnd]
  split
  · rw [if_neg (by simp [ha])]
  · rfl
theorem wEnd_end {s : ByteArray} {k : Nat} (h : ¬ k < s.size) : wEnd s k = k := by rw [wEnd, if_neg h]
theorem nameB_eq (s : ByteArray) : nameB s = (decide (0 < s.size) && (decide (s.size ≤ 12) && decide (wordR s = s.size))) := by
  unfold nameB wordR
  by_cases h0 : 0 < s.size
  · cases hl : letB (byt s 0) with
    | true =>
      have : wEnd s 0 = wEnd s 1 := wEnd_step h0 (by simp [alnum, hl])
      simp [h0, this]
    | false =>
      have : ¬ 0 = s.size := by omega
      simp [h0, this]
  · simp [h0]

set_option maxRecDepth 100000 in
set_option maxHeartbeats 1000000 in
theorem word_ok (s : ByteArray) (w : World) (hs : s.size ≤ 9223372036854775807) : Calls Tryd.prog 51 #[.string s] w fun e w' => e = .returned (.int .i64 (wordR s)) ∧ w = w' := by
  have HLt := Lib.hid (fun c w => rletter_ok c w)
  have HDg := Lib.hid (fun c w => rdigit_ok c w)
  go_enter Tryd.func51, Tryd.ntmps51
  go_wp2_with fail
  go_loop [3] (fun v => ∃ k : Nat, v = .int .i64 k ∧ k ≤ s.size ∧ Hid (k = 0 ∨ (0 < k ∧ wordR s = wEnd s k))) (fun v => s.size - (intOf v).toNat)
  case atStart => exact ⟨0, rfl, by omega, Lib.hid (.inl rfl)⟩
  case round =>
    obtain ⟨k, rfl, hk, HE⟩ := hrel
    by_cases hlt : k < s.size
    · have hby : Hid (byt s k = ((s[k]'hlt).toNat : Int)) := Lib.hid (by rw [byt, dif_pos hlt])
      cases hl : letB ((s[k]'hlt).toNat : Int) with
      | true =>
        have HW : Hid (wordR s = wEnd s (k + 1)) := Lib.hid (by
          rcases HE.out with rfl | ⟨h1, h2⟩
          · rw [wordR, if_pos ⟨by rw [hby.out]; exact hl, hlt⟩]
          · rw [h2, wEnd_step hlt (by rw [hby.out, alnum, hl]; rfl)])
        clear HE hby
        go_wp2_with fail
        refine (HLt.out _ _).mono ?_
        rintro e w1 ⟨rfl, rfl⟩
        rw [hl]
        go_wp2_with fail
        go_round
        case rel => exact ⟨k + 1, by go_num, by omega, Lib.hid (.inr ⟨by omega, HW.out⟩)⟩
        case measure => simp [intOf]; omega
      | false =>
        by_cases hk0 : k = 0
        · subst hk0
          have HW : Hid (wordR s = 0) := Lib.hid (by rw [wordR, if_neg (by rw [hby.out, hl]; simp)])
          clear HE hby
          go_wp2_with fail
          refine (HLt.out _ _).mono ?_
          rintro e w1 ⟨rfl, rfl⟩
          rw [hl]
          go_wp2_with fail
          go_ret
          exact ⟨by rw [HW.out]; rfl, rfl⟩
        · have hk1 : 0 < k := by omega
          have HE2 : Hid (wordR s = wEnd s k) := Lib.hid (by
            rcases HE.out with h | h
            · exact absurd h hk0
            · exact h.2)
          clear HE hk0
          cases hd : digB ((s[k]'hlt).toNat : Int) with
          | true =>
            have HW : Hid (wordR s = wEnd s (k + 1)) := Lib.hid (by rw [HE2.out, wEnd_step hlt (by rw [hby.out, alnum, hd]; simp)])
            clear HE2 hby
            go_wp2_with fail
            refine (HLt.out _ _).mono ?_
            rintro e w1 ⟨rfl, rfl⟩
            rw [hl]
            go_wp2_with fail
            refine (HDg.out _ _).mono ?_
            rintro e w1 ⟨rfl, rfl⟩
            rw [hd]
            go_wp2_with fail
            go_round
            case rel => exact ⟨k + 1, by go_num, by omega, Lib.hid (.inr ⟨by omega, HW.out⟩)⟩
            case measure => simp [intOf]; omega
          | false =>
            have HW : Hid (wordR s = k) := Lib.hid (by rw [HE2.out, wEnd_stop (by rw [hby.out, alnum, hl, hd]; rfl)])
            clear HE2 hby
            go_wp2_with fail
            refine (HLt.out _ _).mono ?_
            rintro e w1 ⟨rfl, rfl⟩
            rw [hl]
            go_wp2_with fail
            refine (HDg.out _ _).mono ?_
            rintro e w1 ⟨rfl, rfl⟩
            rw [hd]
            go_wp2_with fail
            go_ret
            exact ⟨by rw [HW.out]; rfl, rfl⟩
    · have hge : s.size ≤ k := by omega
      have HW : Hid (wordR s = k) := Lib.hid (by
        rcases HE.out with rfl | ⟨h1, h2⟩
        · rw [wordR, if_neg (by omega)]
        · rw [h2, wEnd_end hlt])
      clear HE hlt
      go_wp2_with fail
      go_ret
      exact ⟨by rw [HW.out]; rfl, rfl⟩

set_option maxRecDepth 100000 in
set_option maxHeartbeats 1000000 in
theorem name_ok (s : ByteArray) (w : World) (hs : s.size ≤ 9223372036854775807) : Calls Tryd.prog 50 #[.string s] w fun e w' => e = .returned (.bool (nameB s)) ∧ w = w' := by
  have HLt := Lib.hid (fun c w => letter_ok c w)
  have HWE := Lib.hid (fun w => wordEnd_ok s 0 w hs (by omega))
  by_cases h0 : s.size = 0
  · have HR : Hid (nameB s = false) := Lib.hid (by simp [nameB, h0])
    have d0 : ((s.size : Int) == 0) = true := by simp [h0]
    clear h0
    go_enter Tryd.func50, Tryd.ntmps50
    go_wp2_with fail
    go_ret
    exact ⟨ret_bool (by rw [HR.out]), rfl⟩
  · have hp : 0 < s.size := by omega
    have d0 : ((s.size : Int) == 0) = false := beq_eq_false_iff_ne.2 (by omega)
    have d0' : (s.size == 0) = false := beq_eq_false_iff_ne.2 (by omega)
    clear h0
    by_cases h12 : s.size ≤ 12
    · have hby : Hid (byt s 0 = ((s[0]'hp).toNat : Int)) := Lib.hid (by rw [byt, dif_pos hp])
      cases hl : letB ((s[0]'hp).toNat : Int) with
      | true =>
        by_cases he : wEnd s 0 = s.size
        · have HR : Hid (nameB s = true) := Lib.hid (by simp [nameB, hp, h12, hby.out, hl, he])
          rw [he] at HWE
          clear he hby
          go_enter Tryd.func50, Tryd.ntmps50
          go_wp2_with fail
          refine (HLt.out _ _).mono ?_
          rintro e w1 ⟨rfl, rfl⟩
          rw [hl]
          go_wp2_with fail
          refine (HWE.out _).mono ?_
          rintro e w1 ⟨rfl, rfl⟩
          go_wp2_with fail
          go_ret
          exact ⟨ret_bool (by rw [HR.out]), rfl⟩
        · have HR : Hid (nameB s = false) := Lib.hid (by simp [nameB, he])
          have d1 : ((wEnd s 0 : Int) == (s.size : Int)) = false := by simp; omega
          have d2 : (wEnd s 0 == s.size) = false := by simpa using he
          clear he hby
          go_enter Tryd.func50, Tryd.ntmps50
          go_wp2_with fail
          refine (HLt.out _ _).mono ?_
          rintro e w1 ⟨rfl, rfl⟩
          rw [hl]
          go_wp2_with fail
          refine (HWE.out _).mono ?_
          rintro e w1 ⟨rfl, rfl⟩
          go_wp2_with fail
          go_ret
          exact ⟨ret_bool (by rw [HR.out]), rfl⟩
      | false =>
        have HR : Hid (nameB s = false) := Lib.hid (by simp [nameB, hby.out, hl])
        clear hby
        go_enter Tryd.func50, Tryd.ntmps50
        go_wp2_with fail
        refine (HLt.out _ _).mono ?_
        rintro e w1 ⟨rfl, rfl⟩
        rw [hl]
        go_wp2_with fail
        go_ret
        exact ⟨ret_bool (by rw [HR.out]), rfl⟩
    · have HR : Hid (nameB s = false) := Lib.hid (by simp [nameB, h12])
      have h12' : 12 < s.size := by omega
      clear h12
      go_enter Tryd.func50, Tryd.ntmps50
      go_wp2_with fail
      go_ret
      exact ⟨ret_bool (by rw [HR.out]), rfl⟩

theorem toList_size (s : ByteArray) : s.toList.length = s.size := by
  rw [ByteArray.toList_eq]; simp
theorem isEmpty_size (s : ByteArray) : s.toList.isEmpty = decide (s.size = 0) := by
  rw [← toList_size]
  cases s.toList <;> simp
set_option maxRecDepth 100000 in
set_option maxHeartbeats 1000000 in
theorem rname_ok (s : ByteArray) (w : World) (hs : s.size ≤ 9223372036854775807) : Calls Tryd.prog 23 #[.string s] w fun e w' => e = .returned (.bool (nameB s)) ∧ w = w' := by
  have HWE := Lib.hid (fun w => word_ok s w hs)
  have HR := Lib.hid (nameB_eq s)
  by_cases h0 : s.size = 0
  · have d0 : s.toList.isEmpty = true := by rw [isEmpty_size, h0]; rfl
    have HR2 : Hid (nameB s = false) := Lib.hid (by rw [HR.out, h0]; rfl)
    clear h0
    go_enter Tryd.func23, Tryd.ntmps23
    go_wp2_with fail
    go_ret
    exact ⟨ret_bool (by rw [HR2.out]), rfl⟩
  · have d0 : s.toList.isEmpty = false := by rw [isEmpty_size]; exact decide_eq_false h0
    have hp : decide (0 < s.size) = true := decide_eq_true (by omega)
    clear h0
    by_cases h12 : s.size ≤ 12
    · have HR2 : Hid (nameB s = decide (wordR s = s.size)) := Lib.hid (by rw [HR.out, hp, decide_eq_true h12]; rfl)
      by_cases he : wordR s = s.size
      · have HR3 : Hid (nameB s = true) := Lib.hid (by rw [HR2.out, he]; simp)
        rw [he] at HWE
        clear he hp
        go_enter Tryd.func23, Tryd.ntmps23
        go_wp2_with fail
        refine (HWE.out _).mono ?_
        rintro e w1 ⟨rfl, rfl⟩
        go_wp2_with fail
        go_ret
        exact ⟨ret_bool (by rw [HR3.out]), rfl⟩
      · have HR3 : Hid (nameB s = false) := Lib.hid (by rw [HR2.out]; exact decide_eq_false he)
        have d1 : ((wordR s : Int) == (s.size : Int)) = false := beq_eq_false_iff_ne.2 (by omega)
        have d2 : (wordR s == s.size) = false := beq_eq_false_iff_ne.2 he
        clear he hp
        go_enter Tryd.func23, Tryd.ntmps23
        go_wp2_with fail
        refine (HWE.out _).mono ?_
        rintro e w1 ⟨rfl, rfl⟩
        go_wp2_with fail
        go_ret
        exact ⟨ret_bool (by rw [HR3.out]), rfl⟩
    · have HR2 : Hid (nameB s = false) := Lib.hid (by rw [HR.out, decide_eq_false h12]; simp)
      have h12' : 12 < s.size := by omega
      clear h12 hp
      go_enter Tryd.func23, Tryd.ntmps23
      go_wp2_with fail
      go_ret
      exact ⟨ret_bool (by rw [HR2.out]), rfl⟩

end Go.Proofs.YtkgoealanboolaaDoor

namespace Go.Proofs.YtkgoealanboolaaDoor
open Go.RowKit Go.Shelf

def IsStrs (w : World) (v : Value) (l : List ByteArray) : Prop :=
  ∃ p c, v = .slice p l.length c ∧ l.length ≤ c ∧ c ≤ maxLen ∧ (l ≠ [] → ∃ b o, p = some ⟨b, o, none⟩ ∧ ∀ (i : Nat) (x : ByteArray), l[i]? = some x → w.cell? ⟨b, o + i, none⟩ = some (.string x)) ∧ (∀ x ∈ l, x.size ≤ 9223372036854775807)
theorem IsStrs.below {w w' : World} {v : Value} {l : List ByteArray} (h : IsStrs w v l) (hb : Below w.heap.size w w') : IsStrs w' v l := by
  obtain ⟨p, c, e, h1, h2, h3, h4⟩ := h
  refine ⟨p, c, e, h1, h2, fun hne => ?_, h4⟩
  obtain ⟨b, o, e, hc⟩ := h3 hne
  exact ⟨b, o, e, fun i x hx => cell_later hb (hc i x hx)⟩
theorem IsStrs.take {w : World} {p : Option Addr} {n c : Nat} {l : List ByteArray} (h : IsStrs w (.slice p n c) l) (k : Nat) (hk : k ≤ n) : IsStrs w (.slice p k c) (l.take k) := by
  obtain ⟨q, d, e, h1, h2, h3, h4⟩ := h
  simp only [Value.slice.injEq] at e
  obtain ⟨rfl, rfl, rfl⟩ := e
  have hl : (l.take k).length = k := by simp; omega
  refine ⟨p, c, by rw [hl], by omega, h2, fun hne => ?_, fun x hx => h4 x (List.mem_of_mem_take hx)⟩
  obtain ⟨b, o, e, hc⟩ := h3 (fun h => hne (by simp [h]))
  refine ⟨b, o, e, fun i x hx => hc i x ?_⟩
  have hi : i < k := by
    have := (List.getElem?_eq_some_iff.1 hx).1
    omega
  rwa [List.getElem?_take_of_lt hi] at hx

def seq (s t : ByteArray) : Bool := s.toList == t.toList
def idxS (l : List ByteArray) (s : ByteArray) : Int := match l.findIdx? (seq s) with
  | some i => i
  | none => -1
theorem idxS_hit {l : List ByteArray} {s : ByteArray} {k : Nat} (hk : k < l.length) (ha : ∀ j (h : j < l.length), j < k → seq s l[j] = false) (he : seq s l[k] = true) : idxS l s = k := by
  have : l.findIdx? (seq s) = some k := by
    rw [List.findIdx?_eq_some_iff_getElem]
    exact ⟨hk, he, fun j hj => by simp [ha j (by omega) hj]⟩
  simp [idxS, this]
theorem idxS_none {l : List ByteArray} {s : ByteArray} (ha : ∀ j (h : j < l.length), seq s l[j] = false) : idxS l s = -1 := by
  have : l.findIdx? (seq s) = none := by
    rw [List.findIdx?_eq_none_iff]
    intro x hx
    obtain ⟨j, hj, rfl⟩ := List.getElem_of_mem hx
    exact ha j hj
  simp [idxS, this]

set_option maxRecDepth 100000 in
set_option maxHeartbeats 1000000 in
theorem index_ok (l : List ByteArray) (s : ByteArray) (v : Value) (w : World) (hv : IsStrs w v l) :
    Calls Tryd.prog 98 #[v, .string s] w fun e w' => e = .returned (.int .i64 (idxS l s)) ∧ w = w' := by
  obtain ⟨p, c, rfl, hc1, hc2, hcell, _⟩ := hv
  unfold maxLen at hc2
  have HC := Lib.hid hcell
  clear hcell
  go_enter Tryd.func98, Tryd.ntmps98
  go_wp2_with fail
  go_loop [8] (fun i => ∃ k : Nat, i = .int .i64 k ∧ k ≤ l.length ∧ Hid (∀ j (h : j < l.length), j < k → seq s l[j] = false)) (fun i => l.length - (intOf i).toNat)
  case atStart => exact ⟨0, rfl, by omega, Lib.hid (fun j _ h => by omega)⟩
  case round =>
    obtain ⟨k, rfl, hk, HA⟩ := hrel
    by_cases hlt : k < l.length
    · obtain ⟨b, o, rfl, hcl⟩ := HC.out (fun h => by simp [h] at hlt)
      have c1 := hcl k l[k] (List.getElem?_eq_getElem hlt)
      have hbl := World.block_lt_of_cell? _ _ c1
      simp only at hbl
      clear hcl
      cases he : seq s l[k] with
      | true =>
        have hd : (s.toList == l[k].toList) = true := by exact he
        have HR : Hid (idxS l s = k) := Lib.hid (idxS_hit hlt HA.out he)
        clear he HA
        go_wp2_with fail
        go_ret
        exact ⟨by rw [HR.out]; rfl, rfl⟩
      | false =>
        have hd : (s.toList == l[k].toList) = false := by exact he
        have HN : Hid (∀ j (h : j < l.length), j < k + 1 → seq s l[j] = false) := Lib.hid (fun j h hj => by
          by_cases e : j = k
          · subst e; exact he
          · exact HA.out j h (by omega))
        clear he HA
        go_wp2_with fail
        go_round
        case rel => exact ⟨k + 1, by go_num, by omega, HN⟩
        case measure => simp [intOf]; omega
    · have hge : l.length ≤ k := by omega
      have HR : Hid (idxS l s = -1) := Lib.hid (idxS_none (fun j h => HA.out j h (by omega)))
      clear hlt HA
      go_wp2_with fail
      go_ret
      exact ⟨by rw [HR.out]; rfl, rfl⟩

set_option maxRecDepth 100000 in
set_option maxHeartbeats 1000000 in
theorem place_ok (l : List ByteArray) (s : ByteArray) (v : Value) (w : World) (hv : IsStrs w v l) :
    Calls Tryd.prog 91 #[v, .string s] w fun e w' => e = .returned (.int .i64 (idxS l s)) ∧ w = w' := by
  obtain ⟨p, c, rfl, hc1, hc2, hcell, _⟩ := hv
  unfold maxLen at hc2
  have HC := Lib.hid hcell
  clear hcell
  go_enter Tryd.func91, Tryd.ntmps91
  go_wp2_with fail
  go_loop [9] (fun i => ∃ k : Nat, i = .int .i64 k ∧ k ≤ l.length ∧ Hid (∀ j (h : j < l.length), j < k → seq s l[j] = false)) (fun i => l.length - (intOf i).toNat)
  case atStart => exact ⟨0, rfl, by omega, Lib.hid (fun j _ h => by omega)⟩
  case round =>
    obtain ⟨k, rfl, hk, HA⟩ := hrel
    by_cases hlt : k < l.length
    · obtain ⟨b, o, rfl, hcl⟩ := HC.out (fun h => by simp [h] at hlt)
      have c1 := hcl k l[k] (List.getElem?_eq_getElem hlt)
      have hbl := World.block_lt_of_cell? _ _ c1
      simp only at hbl
      clear hcl
      cases he : seq s l[k] with
      | true =>
        have hd : (l[k].toList == s.toList) = true := by rw [Bool.beq_comm]; exact he
        have HR : Hid (idxS l s = k) := Lib.hid (idxS_hit hlt HA.out he)
        clear he HA
        go_wp2_with fail
        go_ret
        exact ⟨by rw [HR.out]; rfl, rfl⟩
      | false =>
        have hd : (l[k].toList == s.toList) = false := by rw [Bool.beq_comm]; exact he
        have HN : Hid (∀ j (h : j < l.length), j < k + 1 → seq s l[j] = false) := Lib.hid (fun j h hj => by
          by_cases e : j = k
          · subst e; exact he
          · exact HA.out j h (by omega))
        clear he HA
        go_wp2_with fail
        go_round
        case rel => exact ⟨k + 1, by go_num, by omega, HN⟩
        case measure => simp [intOf]; omega
    · have hge : l.length ≤ k := by omega
      have HR : Hid (idxS l s = -1) := Lib.hid (idxS_none (fun j h => HA.out j h (by omega)))
      clear hlt HA
      go_wp2_with fail
      go_ret
      exact ⟨by rw [HR.out]; rfl, rfl⟩

theorem contains_ok (l : List ByteArray) (s : ByteArray) (v : Value) (w : World) (hv : IsStrs w v l) :
    Calls Tryd.prog 89 #[v, .string s] w fun e w' => e = .returned (.bool (decide (0 ≤ idxS l s))) ∧ w = w' := by
  have HI := Lib.hid (index_ok l s v w hv)
  obtain ⟨p, c, rfl, _, _, _, _⟩ := hv
  go_enter Tryd.func89, Tryd.ntmps89
  go_wp2_with fail
  refine HI.out.mono ?_
  rintro e w1 ⟨rfl, rfl⟩
  go_wp2_with fail
  go_ret
  exact ⟨rfl, rfl⟩

def nm (l : List ByteArray) (k : Nat) : Bool := match l[k]? with
  | some s => nameB s && decide (idxS (l.take k) s < 0)
  | none => true
def nmAll (l : List ByteArray) : Nat → Bool
  | 0 => true
  | k + 1 => nmAll l k && nm l k
/-- n different names. -/
def namesB (l : List ByteArray) (n : Int) : Bool := decide ((l.length : Int) = n) && nmAll l l.length
theorem nmAll_false {l : List ByteArray} {k : Nat} (h : nm l k = false) : ∀ n, k < n → nmAll l n = false := by
  intro n
  induction n with
  | zero => intro h; omega
  | succ n ih =>
    intro hk
    by_cases e : k = n
    · subst e; rw [nmAll, h]; simp
    · rw [nmAll, ih (by omega)]; rfl
theorem namesB_false {l : List ByteArray} {k : Nat} (hk : k < l.length) (h : nm l k = false) : namesB l l.length = false := by
  rw [namesB, nmAll_false h _ hk]; simp

set_option maxRecDepth 100000 in
set_option maxHeartbeats 1000000 in
theorem names_ok (l : List ByteArray) (n : Int) (v : Value) (w : World) (hv : IsStrs w v l) :
    Calls Tryd.prog 63 #[v, .int .i64 n] w fun e w' => e = .returned (.bool (namesB l n)) ∧ w = w' := by
  have HV := Lib.hid hv
  obtain ⟨p, c, rfl, hc1, hc2, hcell, hsize⟩ := hv
  unfold maxLen at hc2
  have HC := Lib.hid hcell
  have HSZ := Lib.hid hsize
  have HNM := Lib.hid (fun s w h => name_ok s w h)
  clear hcell hsize
  by_cases hn : (l.length : Int) = n
  rotate_left
  · have d0 : ((l.length : Int) != n) = true := by simpa using hn
    have HR : Hid (namesB l n = false) := Lib.hid (by rw [namesB, decide_eq_false hn]; rfl)
    clear hn
    go_enter Tryd.func63, Tryd.ntmps63
    go_wp2_with fail
    go_ret
    exact ⟨ret_bool (by rw [HR.out]), rfl⟩
  subst hn
  go_enter Tryd.func63, Tryd.ntmps63
  go_wp2_with fail
  go_loop [13] (fun i => ∃ k : Nat, i = .int .i64 k ∧ k ≤ l.length ∧ Hid (nmAll l k = true)) (fun i => l.length - (intOf i).toNat)
  case atStart => exact ⟨0, rfl, by omega, Lib.hid rfl⟩
  case round =>
    obtain ⟨k, rfl, hk, HA⟩ := hrel
    by_cases hlt : k < l.length
    · obtain ⟨b, o, rfl, hcl⟩ := HC.out (fun h => by simp [h] at hlt)
      have hx := List.getElem?_eq_getElem hlt
      obtain ⟨s, hs⟩ : ∃ s, s = l[k] := ⟨_, rfl⟩
      rw [← hs] at hx
      have c1 := hcl k s hx
      have hbl := World.block_lt_of_cell? _ _ c1
      simp only at hbl
      have HN := Lib.hid (fun w => HNM.out s w (HSZ.out s (by rw [hs]; exact List.getElem_mem hlt)))
      have HT := Lib.hid (HV.out.take k hk)
      have HX := Lib.hid hx
      clear hcl hx hs
      cases hnb : nameB s with
      | false =>
        have HR : Hid (namesB l l.length = false) := Lib.hid (namesB_false hlt (by rw [nm, HX.out]; simp [hnb]))
        rw [hnb] at HN
        clear hnb HA
        go_wp2_with fail
        refine (HN.out _).mono ?_
        rintro e w1 ⟨rfl, rfl⟩
        go_wp2_with fail
        go_ret
        exact ⟨ret_bool (by rw [HR.out]), rfl⟩
      | true =>
        rw [hnb] at HN
        by_cases hi : 0 ≤ idxS (l.take k) s
        · have HR : Hid (namesB l l.length = false) := Lib.hid (namesB_false hlt (by rw [nm, HX.out]; simp [hnb, hi]))
          have hdi : decide (0 ≤ idxS (l.take k) s) = true := decide_eq_true hi
          have HCC := Lib.hid (contains_ok (l.take k) s _ w HT.out)
          rw [hdi] at HCC
          clear hnb HA hdi
          go_wp2_with fail
          refine (HN.out _).mono ?_
          rintro e w1 ⟨rfl, rfl⟩
          go_wp2_with fail
          refine HCC.out.mono ?_
          rintro e w1 ⟨rfl, rfl⟩
          go_wp2_with fail
          go_ret
          exact ⟨ret_bool (by rw [HR.out]), rfl⟩
        · have HA2 : Hid (nmAll l (k + 1) = true) := Lib.hid (by rw [nmAll, HA.out, nm, HX.out]; simp [hnb]; omega)
          have hdi : decide (0 ≤ idxS (l.take k) s) = false := decide_eq_false hi
          have HCC := Lib.hid (contains_ok (l.take k) s _ w HT.out)
          rw [hdi] at HCC
          clear hnb HA hdi
          go_wp2_with fail
          refine (HN.out _).mono ?_
          rintro e w1 ⟨rfl, rfl⟩
          go_wp2_with fail
          refine HCC.out.mono ?_
          rintro e w1 ⟨rfl, rfl⟩
          go_wp2_with fail
          go_round
          case rel => exact ⟨k + 1, by go_num, by omega, HA2⟩
          case measure => simp [intOf]; omega
    · have hge : l.length ≤ k := by omega
      have HR : Hid (namesB l l.length = true) := Lib.hid (by
        have e : k = l.length := by omega
        rw [namesB, ← e, HA.out]; simp [e])
      clear hlt HA
      go_wp2_with fail
      go_ret
      exact ⟨ret_bool (by rw [HR.out]), rfl⟩

set_option maxRecDepth 100000 in
set_option maxHeartbeats 1000000 in
theorem rnames_ok (l : List ByteArray) (n : Int) (v : Value) (w : World) (hv : IsStrs w v l) :
    Calls Tryd.prog 66 #[v, .int .i64 n] w fun e w' => e = .returned (.bool (namesB l n)) ∧ w = w' := by
  have HV := Lib.hid hv
  obtain ⟨p, c, rfl, hc1, hc2, hcell, hsize⟩ := hv
  unfold maxLen at hc2
  have HC := Lib.hid hcell
  have HSZ := Lib.hid hsize
  have HNM := Lib.hid (fun s w h => rname_ok s w h)
  clear hcell hsize
  by_cases hn : (l.length : Int) = n
  rotate_left
  · have d0 : ((l.length : Int) != n) = true := by simpa using hn
    have HR : Hid (namesB l n = false) := Lib.hid (by rw [namesB, decide_eq_false hn]; rfl)
    clear hn
    go_enter Tryd.func66, Tryd.ntmps66
    go_wp2_with fail
    go_ret
    exact ⟨ret_bool (by rw [HR.out]), rfl⟩
  subst hn
  go_enter Tryd.func66, Tryd.ntmps66
  go_wp2_with fail
  go_loop [13] (fun i => ∃ k : Nat, i = .int .i64 k ∧ k ≤ l.length ∧ Hid (nmAll l k = true)) (fun i => l.length - (intOf i).toNat)
  case atStart => exact ⟨0, rfl, by omega, Lib.hid rfl⟩
  case round =>
    obtain ⟨k, rfl, hk, HA⟩ := hrel
    by_cases hlt : k < l.length
    · obtain ⟨b, o, rfl, hcl⟩ := HC.out (fun h => by simp [h] at hlt)
      have hx := List.getElem?_eq_getElem hlt
      obtain ⟨s, hs⟩ : ∃ s, s = l[k] := ⟨_, rfl⟩
      rw [← hs] at hx
      have c1 := hcl k s hx
      have hbl := World.block_lt_of_cell? _ _ c1
      simp only at hbl
      have HN := Lib.hid (fun w => HNM.out s w (HSZ.out s (by rw [hs]; exact List.getElem_mem hlt)))
      have HT := Lib.hid (HV.out.take k hk)
      have HX := Lib.hid hx
      clear hcl hx hs
      cases hnb : nameB s with
      | false =>
        have HR : Hid (namesB l l.length = false) := Lib.hid (namesB_false hlt (by rw [nm, HX.out]; simp [hnb]))
        rw [hnb] at HN
        clear hnb HA
        go_wp2_with fail
        refine (HN.out _).mono ?_
        rintro e w1 ⟨rfl, rfl⟩
        go_wp2_with fail
        go_ret
        exact ⟨ret_bool (by rw [HR.out]), rfl⟩
      | true =>
        rw [hnb] at HN
        by_cases hi : 0 ≤ idxS (l.take k) s
        · have HR : Hid (namesB l l.length = false) := Lib.hid (namesB_false hlt (by rw [nm, HX.out]; simp [hnb, hi]))
          have hdi : decide (0 ≤ idxS (l.take k) s) = true := decide_eq_true hi
          have HCC := Lib.hid (place_ok (l.take k) s _ w HT.out)
          skip
          clear hnb HA 
          go_wp2_with fail
          refine (HN.out _).mono ?_
          rintro e w1 ⟨rfl, rfl⟩
          go_wp2_with fail
          refine HCC.out.mono ?_
          rintro e w1 ⟨rfl, rfl⟩
          go_wp2_with fail
          go_ret
          exact ⟨ret_bool (by rw [HR.out]), rfl⟩
        · have HA2 : Hid (nmAll l (k + 1) = true) := Lib.hid (by rw [nmAll, HA.out, nm, HX.out]; simp [hnb]; omega)
          have hdi : decide (0 ≤ idxS (l.take k) s) = false := decide_eq_false hi
          have HCC := Lib.hid (place_ok (l.take k) s _ w HT.out)
          have hi2 : idxS (l.take k) s < 0 := by omega
          clear hnb HA 
          go_wp2_with fail
          refine (HN.out _).mono ?_
          rintro e w1 ⟨rfl, rfl⟩
          go_wp2_with fail
          refine HCC.out.mono ?_
          rintro e w1 ⟨rfl, rfl⟩
          go_wp2_with fail
          go_round
          case rel => exact ⟨k + 1, by go_num, by omega, HA2⟩
          case measure => simp [intOf]; omega
    · have hge : l.length ≤ k := by omega
      have HR : Hid (namesB l l.length = true) := Lib.hid (by
        have e : k = l.length := by omega
        rw [namesB, ← e, HA.out]; simp [e])
      clear hlt HA
      go_wp2_with fail
      go_ret
      exact ⟨ret_bool (by rw [HR.out]), rfl⟩

end Go.Proofs.YtkgoealanboolaaDoor

