/- Letters, digits, words. -/
import Derived.Test.YtkgoealanboolaaDoorTAt
namespace Go.Proofs.YtkgoealanboolaaDoor
open Go.RowKit Go.Shelf

def letB (c : Int) : Bool := (decide (97 ≤ c) && decide (c ≤ 122)) || (decide (65 ≤ c) && decide (c ≤ 90))
def digB (c : Int) : Bool := decide (48 ≤ c) && decide (c ≤ 57)
def byt (s : ByteArray) (i : Nat) : Int := if h : i < s.size then ((s[i]'h).toNat : Int) else 0
def alnum (c : Int) : Bool := letB c || digB c
/-- Where the run of letters and digits from i ends. -/
def wEnd (s : ByteArray) (i : Nat) : Nat := if i < s.size then (if alnum (byt s i) then wEnd s (i + 1) else i) else i
termination_by s.size - i

set_option maxHeartbeats 1000000 in
theorem letter_ok (c : Int) (w : World) : Calls Tryd.prog 79 #[.int .u8 c] w fun e w' => e = .returned (.bool (letB c)) ∧ w = w' := by
  have HL : Hid (letB c = ((decide (97 ≤ c) && decide (c ≤ 122)) || (decide (65 ≤ c) && decide (c ≤ 90)))) := Lib.hid rfl
  by_cases h1 : 97 ≤ c
  · have d1 : decide (97 ≤ c) = true := decide_eq_true h1
    by_cases h2 : c ≤ 122
    · have d2 : decide (c ≤ 122) = true := decide_eq_true h2
      rw [d1, d2] at HL
      go_enter Tryd.func79, Tryd.ntmps79
      go_wp2_with fail
      go_ret
      exact ⟨ret_bool (by rw [HL.out]; rfl), rfl⟩
    · have d2 : decide (c ≤ 122) = false := decide_eq_false h2
      have d3 : decide (65 ≤ c) = true := decide_eq_true (by omega)
      have d4 : decide (c ≤ 90) = false := decide_eq_false (by omega)
      rw [d1, d2, d3, d4] at HL
      go_enter Tryd.func79, Tryd.ntmps79
      go_wp2_with fail
      go_ret
      exact ⟨ret_bool (by rw [HL.out]; rfl), rfl⟩
  · have d1 : decide (97 ≤ c) = false := decide_eq_false h1
    by_cases h3 : 65 ≤ c
    · have d3 : decide (65 ≤ c) = true := decide_eq_true h3
      by_cases h4 : c ≤ 90
      · have d4 : decide (c ≤ 90) = true := decide_eq_true h4
        rw [d1, d3, d4] at HL
        go_enter Tryd.func79, Tryd.ntmps79
        go_wp2_with fail
        go_ret
        exact ⟨ret_bool (by rw [HL.out]; simp), rfl⟩
      · have d4 : decide (c ≤ 90) = false := decide_eq_false h4
        rw [d1, d3, d4] at HL
        go_enter Tryd.func79, Tryd.ntmps79
        go_wp2_with fail
        go_ret
        exact ⟨ret_bool (by rw [HL.out]; simp), rfl⟩
    · have d3 : decide (65 ≤ c) = false := decide_eq_false h3
      rw [d1, d3] at HL
      go_enter Tryd.func79, Tryd.ntmps79
      go_wp2_with fail
      go_ret
      exact ⟨ret_bool (by rw [HL.out]; simp), rfl⟩

set_option maxHeartbeats 1000000 in
theorem digit_ok (c : Int) (w : World) : Calls Tryd.prog 95 #[.int .u8 c] w fun e w' => e = .returned (.bool (digB c)) ∧ w = w' := by
  have HL : Hid (digB c = (decide (48 ≤ c) && decide (c ≤ 57))) := Lib.hid rfl
  by_cases h1 : 48 ≤ c
  · have d1 : decide (48 ≤ c) = true := decide_eq_true h1
    rw [d1] at HL
    go_enter Tryd.func95, Tryd.ntmps95
    go_wp2_with fail
    go_ret
    exact ⟨ret_bool (by rw [HL.out]; simp), rfl⟩
  · have d1 : decide (48 ≤ c) = false := decide_eq_false h1
    rw [d1] at HL
    go_enter Tryd.func95, Tryd.ntmps95
    go_wp2_with fail
    go_ret
    exact ⟨ret_bool (by rw [HL.out]; simp), rfl⟩

set_option maxRecDepth 100000 in
set_option maxHeartbeats 1000000 in
theorem wordEnd_ok (s : ByteArray) (i : Nat) (w : World) (hs : s.size ≤ 9223372036854775807) (hi : i ≤ s.size) : Calls Tryd.prog 80 #[.string s, .int .i64 i] w fun e w' => e = .returned (.int .i64 (wEnd s i)) ∧ w = w' := by
  have HLt := Lib.hid (fun c w => letter_ok c w)
  have HDg := Lib.hid (fun c w => digit_ok c w)
  go_enter Tryd.func80, Tryd.ntmps80
  go_wp2_with fail
  go_loop [1] (fun v => ∃ k : Nat, v = .int .i64 k ∧ k ≤ s.size ∧ Hid (wEnd s i = wEnd s k)) (fun v => s.size - (intOf v).toNat)
  case atStart => exact ⟨i, rfl, hi, Lib.hid rfl⟩
  case round =>
    obtain ⟨k, rfl, hk, HE⟩ := hrel
    by_cases hlt : k < s.size
    · have hby : Hid (byt s k = ((s[k]'hlt).toNat : Int)) := Lib.hid (by rw [byt, dif_pos hlt])
      cases hl : letB ((s[k]'hlt).toNat : Int) with
      | true =>
        have HW : Hid (wEnd s i = wEnd s (k + 1)) := Lib.hid (by rw [HE.out, wEnd, if_pos hlt, if_pos (by rw [hby.out, alnum, hl]; rfl)])
        clear HE hby
        go_wp2_with fail
        refine (HLt.out _ _).mono ?_
        rintro e w1 ⟨rfl, rfl⟩
        rw [hl]
        go_wp2_with fail
        go_round
        case rel => exact ⟨k + 1, by go_num, by omega, HW⟩
        case measure => simp [intOf]; omega
      | false =>
        cases hd : digB ((s[k]'hlt).toNat : Int) with
        | true =>
          have HW : Hid (wEnd s i = wEnd s (k + 1)) := Lib.hid (by rw [HE.out, wEnd, if_pos hlt, if_pos (by rw [hby.out, alnum, hd]; simp)])
          clear HE hby
          go_wp2_with fail
          refine (HLt.out _ _).mono ?_
          rintro e w1 ⟨rfl, rfl⟩
          rw [hl]
          go_wp2_with fail
          refine (HDg.out _ _).mono ?_
          rintro e w1 ⟨rfl, rfl⟩
          rw [hd]
          go_wp2_with fail
          go_round
          case rel => exact ⟨k + 1, by go_num, by omega, HW⟩
          case measure => simp [intOf]; omega
        | false =>
          have HW : Hid (wEnd s i = k) := Lib.hid (by rw [HE.out, wEnd, if_pos hlt, if_neg (by rw [hby.out, alnum, hl, hd]; decide)])
          clear HE hby
          go_wp2_with fail
          refine (HLt.out _ _).mono ?_
          rintro e w1 ⟨rfl, rfl⟩
          rw [hl]
          go_wp2_with fail
          refine (HDg.out _ _).mono ?_
          rintro e w1 ⟨rfl, rfl⟩
          rw [hd]
          go_wp2_with fail
          go_ret
          exact ⟨by rw [HW.out]; rfl, rfl⟩
    · have hge : s.size ≤ k := by omega
      have HW : Hid (wEnd s i = k) := Lib.hid (by rw [HE.out, wEnd, if_neg hlt])
      clear HE hlt
      go_wp2_with fail
      go_ret
      exact ⟨by rw [HW.out]; rfl, rfl⟩

end Go.Proofs.YtkgoealanboolaaDoor
