/- bitset.List: the members of a word. -/
import Derived.Test.YtopineheelkcmaaDoorSem
import Derived.Test.YtopineheelkcmaaDoorBs
import Derived.Shelf.Spec.TrailingZeros
namespace Go.Proofs.YtopineheelkcmaaDoor
open Go.RowKit Go.Shelf

theorem odd_bit (m d : Nat) : ((2 * m + 1).testBit d && (2 * m).testBit d) = ((2 * m + 1).testBit d && decide (d ≠ 0)) := by
  cases d with
  | zero => simp [Nat.testBit_zero]
  | succ d =>
    rw [Nat.testBit_succ, Nat.testBit_succ, show (2 * m + 1) / 2 = m by omega, show 2 * m / 2 = m by omega]
    simp
theorem pred_bit {x : Nat} (h0 : x ≠ 0) (hx : x < 18446744073709551616) (j : Nat) : (x &&& (x - 1)).testBit j = (x.testBit j && decide (j ≠ Lib.ctz 64 x)) := by
  have hc : Lib.ctz 64 x = Lib.ctzFrom 64 x := by unfold Lib.ctz; rw [if_neg h0]
  obtain ⟨m, hm, hk⟩ := Lib.ctzFrom_spec 64 x (by omega) hx
  rw [hc]
  generalize Lib.ctzFrom 64 x = k at hm hk
  have hp : 0 < 2 ^ k := Nat.two_pow_pos k
  have h1 : x - 1 = 2 ^ k * (2 * m) + (2 ^ k - 1) := by
    rw [hm, Nat.mul_add, Nat.mul_one]; omega
  rw [Nat.testBit_and, h1, Nat.testBit_two_pow_mul_add _ (by omega), hm, Nat.testBit_two_pow_mul]
  by_cases hj : j < k
  · have : ¬ j ≥ k := by omega
    simp [this]
  · rw [if_neg hj, decide_eq_true (show j ≥ k by omega), Bool.true_and, odd_bit]
    congr 1
    exact decide_eq_decide.2 (by omega)
theorem low_bit {x : Nat} (h0 : x ≠ 0) (hx : x < 18446744073709551616) : x.testBit (Lib.ctz 64 x) = true ∧ Lib.ctz 64 x < 64 ∧ ∀ j, j < Lib.ctz 64 x → x.testBit j = false := by
  have hc : Lib.ctz 64 x = Lib.ctzFrom 64 x := by unfold Lib.ctz; rw [if_neg h0]
  obtain ⟨m, hm, hk⟩ := Lib.ctzFrom_spec 64 x (by omega) hx
  rw [hc]
  generalize Lib.ctzFrom 64 x = k at hm hk
  refine ⟨?_, hk, fun j hj => ?_⟩
  · rw [hm, Nat.testBit_two_pow_mul]; simp [Nat.testBit_zero]
  · rw [hm, Nat.testBit_two_pow_mul]
    have : ¬ j ≥ k := by omega
    simp [this]

/-- The members of word i. -/
def bitsI (i x : Nat) : List Int := ((List.range 64).filter (fun j => x.testBit j)).map (fun j => ((64 * i + j : Nat) : Int))
theorem bitsI_mem {i x : Nat} {q : Int} : q ∈ bitsI i x ↔ ∃ j, j < 64 ∧ x.testBit j = true ∧ q = ((64 * i + j : Nat) : Int) := by
  simp only [bitsI, List.mem_map, List.mem_filter, List.mem_range]
  constructor
  · rintro ⟨j, ⟨h1, h2⟩, rfl⟩; exact ⟨j, h1, h2, rfl⟩
  · rintro ⟨j, h1, h2, rfl⟩; exact ⟨j, ⟨h1, h2⟩, rfl⟩
theorem bitsI_sorted (i x : Nat) : (bitsI i x).Pairwise (· < ·) := by
  unfold bitsI
  rw [List.pairwise_map]
  exact (List.pairwise_lt_range.filter _).imp (fun {a b} h => by omega)
theorem bitsI_zero (i : Nat) : bitsI i 0 = [] := by simp [bitsI]
theorem bitsI_step {i x : Nat} (h0 : x ≠ 0) (hx : x < 18446744073709551616) : bitsI i x = ((64 * i + Lib.ctz 64 x : Nat) : Int) :: bitsI i (x &&& (x - 1)) := by
  obtain ⟨h1, h2, h3⟩ := low_bit h0 hx
  refine sorted_eq (bitsI_sorted i x) (List.pairwise_cons.2 ⟨fun q hq => ?_, bitsI_sorted _ _⟩) (fun q => ?_)
  · obtain ⟨j, hj, hb, rfl⟩ := bitsI_mem.1 hq
    rw [pred_bit h0 hx, Bool.and_eq_true, decide_eq_true_eq] at hb
    have : ¬ j < Lib.ctz 64 x := fun h => by rw [h3 j h] at hb; cases hb.1
    have := hb.2
    omega
  · rw [List.mem_cons, bitsI_mem, bitsI_mem]
    constructor
    · rintro ⟨j, hj, hb, rfl⟩
      by_cases e : j = Lib.ctz 64 x
      · subst e; exact .inl rfl
      · exact .inr ⟨j, hj, by rw [pred_bit h0 hx, hb, decide_eq_true e]; rfl, rfl⟩
    · rintro (rfl | ⟨j, hj, hb, rfl⟩)
      · exact ⟨_, h2, h1, rfl⟩
      · rw [pred_bit h0 hx, Bool.and_eq_true] at hb
        exact ⟨j, hj, hb.1, rfl⟩

/-- The members of the first n words. -/
def listI (W : Nat → Nat) : Nat → List Int
  | 0 => []
  | n + 1 => listI W n ++ bitsI n (W n)
theorem listI_mem {W : Nat → Nat} {q : Int} : ∀ {n : Nat}, q ∈ listI W n ↔ ∃ p : Nat, p < 64 * n ∧ mem W p = true ∧ q = (p : Int)
  | 0 => by simp [listI]
  | n + 1 => by
    rw [listI, List.mem_append, listI_mem (n := n), bitsI_mem]
    constructor
    · rintro (⟨p, h1, h2, rfl⟩ | ⟨j, h1, h2, rfl⟩)
      · exact ⟨p, by omega, h2, rfl⟩
      · refine ⟨64 * n + j, by omega, ?_, rfl⟩
        unfold mem
        rw [show (64 * n + j) / 64 = n by omega, show (64 * n + j) % 64 = j by omega]; exact h2
    · rintro ⟨p, h1, h2, rfl⟩
      by_cases h : p < 64 * n
      · exact .inl ⟨p, h, h2, rfl⟩
      · refine .inr ⟨p - 64 * n, by omega, ?_, by omega⟩
        unfold mem at h2
        rwa [show p / 64 = n by omega, show p % 64 = p - 64 * n by omega] at h2
theorem listI_sorted (W : Nat → Nat) : ∀ n, (listI W n).Pairwise (· < ·)
  | 0 => List.Pairwise.nil
  | n + 1 => by
    rw [listI, List.pairwise_append]
    refine ⟨listI_sorted W n, bitsI_sorted _ _, fun a ha b hb => ?_⟩
    obtain ⟨p, h1, _, rfl⟩ := listI_mem.1 ha
    obtain ⟨j, _, _, rfl⟩ := bitsI_mem.1 hb
    omega

end Go.Proofs.YtopineheelkcmaaDoor
