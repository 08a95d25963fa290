/- The numbers of lists of trees, capped at 2^30, as the reference counts them. -/
import Derived.Test.YthhliogcafmnfaaDoorCen
import Derived.Test.YthhliogcafmnfaaDoorAllMath
namespace Go.Proofs.YthhliogcafmnfaaDoor
open Go.RowKit

def c30 (n : Nat) : Nat := min n (1073741824)
theorem c30_le (n : Nat) : c30 n ≤ 1073741824 := Nat.min_le_right ..
theorem c30_zero {n : Nat} : c30 n = 0 ↔ n = 0 := by unfold c30; omega
theorem c30_add (a b : Nat) : min (c30 a + c30 b) 1073741824 = c30 (a + b) := by unfold c30; omega
theorem c30_mul (x a b : Nat) : min (c30 x + c30 a * c30 b) 1073741824 = c30 (x + a * b) := by
  rcases Nat.eq_zero_or_pos a with rfl | ha
  · simp [c30]
  rcases Nat.eq_zero_or_pos b with rfl | hb
  · simp [c30]
  unfold c30
  by_cases h1 : a < 1073741824
  · by_cases h2 : b < 1073741824
    · rw [Nat.min_eq_left (Nat.le_of_lt h1), Nat.min_eq_left (Nat.le_of_lt h2)]
      generalize a * b = c
      omega
    · have e1 : 1073741824 ≤ a * b := Nat.le_trans (by omega) (Nat.le_mul_of_pos_left b ha)
      have e2 : 1073741824 ≤ min a 1073741824 * min b 1073741824 := by
        rw [Nat.min_eq_right (by omega : 1073741824 ≤ b)]
        exact Nat.le_mul_of_pos_left _ (by omega)
      generalize a * b = c at *
      generalize min a 1073741824 * min b 1073741824 = d at *
      omega
  · have e1 : 1073741824 ≤ a * b := Nat.le_trans (by omega) (Nat.le_mul_of_pos_right a hb)
    have e2 : 1073741824 ≤ min a 1073741824 * min b 1073741824 := by
      rw [Nat.min_eq_right (by omega : 1073741824 ≤ a)]
      exact Nat.le_mul_of_pos_right _ (by omega)
    generalize a * b = c at *
    generalize min a 1073741824 * min b 1073741824 = d at *
    omega
theorem c30_mul_le (a b : Nat) : c30 a * c30 b ≤ 1152921504606846976 := by
  have := Nat.mul_le_mul (c30_le a) (c30_le b)
  omega

/-- How many lists of k trees with n nodes. -/
def Wn (ranks : List Nat) (k n : Nat) : Nat := (LL ranks k n).length
theorem Wn_0 (ranks : List Nat) (n : Nat) : Wn ranks 0 n = if n = 0 then 1 else 0 := by
  unfold Wn; rw [LL_zero]; split <;> rfl
theorem Wn_pos0 {ranks : List Nat} (hr : ∀ r ∈ ranks, r ≤ 3) (k : Nat) : Wn ranks (k + 1) 0 = 0 := by
  unfold Wn; rw [LL_pos_zero ranks hr]; rfl
/-- The first j ranks' part of the trees with m + 1 nodes. -/
def W1 (ranks : List Nat) (m j : Nat) : Nat := sumL (ranks.take j) (fun r => Wn ranks r m)
theorem W1_0 (ranks : List Nat) (m : Nat) : W1 ranks m 0 = 0 := rfl
theorem W1_succ {ranks : List Nat} {m j r : Nat} (h : ranks[j]? = some r) : W1 ranks m (j + 1) = W1 ranks m j + Wn ranks r m := by
  unfold W1 sumL
  rw [List.take_add_one, h]
  simp
theorem W1_all {ranks : List Nat} (hr : ∀ r ∈ ranks, r ≤ 3) (m : Nat) : W1 ranks m ranks.length = Wn ranks 1 (m + 1) := by
  unfold W1 Wn
  rw [List.take_length, LL_one hr (m + 1) (by omega), TT_len]
/-- The part of the lists of i + 2 trees with m nodes whose first tree has at most j nodes. -/
def W2 (ranks : List Nat) (i m j : Nat) : Nat := sumL (List.range j) (fun x => Wn ranks 1 (x + 1) * Wn ranks (i + 1) (m - (x + 1)))
theorem W2_0 (ranks : List Nat) (i m : Nat) : W2 ranks i m 0 = 0 := rfl
theorem W2_succ (ranks : List Nat) (i m j : Nat) : W2 ranks i m (j + 1) = W2 ranks i m j + Wn ranks 1 (j + 1) * Wn ranks (i + 1) (m - (j + 1)) := by
  unfold W2 sumL
  rw [List.range_succ]
  simp
theorem W2_all {ranks : List Nat} (hr : ∀ r ∈ ranks, r ≤ 3) (i m : Nat) : W2 ranks i (m + 1) m = Wn ranks (i + 2) (m + 1) := by
  have h := LL_len hr (i + 1) (m + 1)
  have e : (LL ranks (i + 2) (m + 1)).length = W2 ranks i (m + 1) (m + 1) := by
    rw [show i + 2 = i + 1 + 1 from rfl, h]
    unfold W2 sumL
    congr 1
    refine List.map_congr_left (fun x _ => ?_)
    rw [← LL_one hr (x + 1) (by omega)]
    rfl
  unfold Wn
  rw [e, W2_succ, show m + 1 - (m + 1) = 0 by omega, Wn_pos0 hr]
  omega

end Go.Proofs.YthhliogcafmnfaaDoor
