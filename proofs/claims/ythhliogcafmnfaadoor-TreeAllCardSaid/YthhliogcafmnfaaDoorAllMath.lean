/- What tree.All gives, as data. -/
import Derived.Test.YthhliogcafmnfaaDoorAllFull
namespace Go.Proofs.YthhliogcafmnfaaDoor
open Go.RowKit Go.Shelf

/-- A list of trees, as kids. -/
def toH : List (Int × Hg) → Hg
  | [] => .nil
  | t :: l => .cons t.1 t.2 (toH l)
theorem toH_len (l : List (Int × Hg)) : (toH l).len = l.length := by
  induction l with
  | nil => rfl
  | cons t l ih => simp [toH, Hg.len, ih]
theorem dapp_toH (D : DL) : dapp D .nil = toH (D.map fun x => (x.1, x.2.1)) := by
  induction D with
  | nil => rfl
  | cons x D ih => simp [dapp, toH, ih]

theorem TT_le {ranks : List Nat} (hr : ∀ r ∈ ranks, r ≤ 3) (n : Nat) (hn : 1 ≤ n) : (TT ranks n).length ≤ (LL ranks 1 n).length := by
  obtain ⟨m, rfl⟩ : ∃ m, n = m + 1 := ⟨n - 1, by omega⟩
  have h := LL_len hr 0 (m + 1)
  rw [sumL_succ] at h
  rw [h, show m + 1 - (m + 1) = 0 by omega, show (LL ranks 0 0).length = 1 from rfl]
  omega
theorem TT_few {ranks : List Nat} (hr : ∀ r ∈ ranks, r ≤ 3) (n : Nat) (hn : 1 ≤ n) (h : tgt ranks 1 n ≤ 4096) : (TT ranks n).length ≤ 4096 := by
  have h1 := TT_le hr n hn
  unfold tgt cap at h
  omega
/-- There are as many lists of one tree as trees. -/
theorem LL_one {ranks : List Nat} (hr : ∀ r ∈ ranks, r ≤ 3) (n : Nat) (hn : 1 ≤ n) : (LL ranks 1 n).length = (TT ranks n).length := by
  obtain ⟨m, rfl⟩ : ∃ m, n = m + 1 := ⟨n - 1, by omega⟩
  have h := LL_len hr 0 (m + 1)
  rw [sumL_succ] at h
  rw [h, show m + 1 - (m + 1) = 0 by omega, show (LL ranks 0 0).length = 1 from rfl]
  have : ∀ j, j ≤ m → sumL (List.range j) (fun i => (TT ranks (i + 1)).length * (LL ranks 0 (m + 1 - (i + 1))).length) = 0 := by
    intro j
    induction j with
    | zero => intro _; rfl
    | succ j ih =>
      intro hj
      rw [sumL_succ, ih (by omega), LL_zero, if_neg (by omega)]
      simp
  rw [this m (Nat.le_refl _)]
  omega
theorem tgt_many {ranks : List Nat} (hr : ∀ r ∈ ranks, r ≤ 3) (n : Nat) (hn : 1 ≤ n) : 4096 < tgt ranks 1 n ↔ 4096 < (TT ranks n).length := by
  unfold tgt cap
  rw [LL_one hr n hn]
  omega

end Go.Proofs.YthhliogcafmnfaaDoor
