/- The sizes of the trees that tree.All gives. -/
import Derived.Test.YthhliogcafmnfaaDoorAllJ
namespace Go.Proofs.YthhliogcafmnfaaDoor
open Go.RowKit Go.Shelf

theorem LL_nodes {ranks : List Nat} (hr : ∀ r ∈ ranks, r ≤ 3) : ∀ (n k : Nat) (x : Hg), x ∈ LL ranks k n → x.size = n := by
  intro n
  induction n using Nat.strongRecOn with
  | ind n ih =>
    intro k x h
    cases k with
    | zero =>
      rw [LL_zero] at h
      split at h
      · rw [List.mem_singleton] at h; subst h; simp [Hg.size]; omega
      · cases h
    | succ k =>
      rw [LL_succ hr] at h
      simp only [List.mem_flatMap, List.mem_map, List.mem_range] at h
      obtain ⟨i, hi, t, ht, r, hr2, rfl⟩ := h
      have h1 := ih (n - (i + 1)) (by omega) _ _ hr2
      simp only [TT, List.mem_flatMap, List.mem_map] at ht
      obtain ⟨y, _, K, hK, rfl⟩ := ht
      have h2 := ih (i + 1 - 1) (by omega) _ _ hK
      simp only [Hg.size, h1, h2]
      omega
theorem TT_nodes {ranks : List Nat} (hr : ∀ r ∈ ranks, r ≤ 3) (n : Nat) (hn : 1 ≤ n) (t : Int × Hg) (h : t ∈ TT ranks n) : t.2.size + 1 = n := by
  simp only [TT, List.mem_flatMap, List.mem_map] at h
  obtain ⟨y, _, K, hK, rfl⟩ := h
  have := LL_nodes hr _ _ _ hK
  simp only [this]
  omega

theorem za_at (D : DL) (k : Nat) (h : D.length = k) : (dcells D ++ [Value.int .i64 0, .slice none 0 0])[k * 2]? = some (.int .i64 0) ∧ (dcells D ++ [Value.int .i64 0, .slice none 0 0])[k * 2 + 1]? = some (.slice none 0 0) := by
  subst h
  constructor
  · rw [List.getElem?_append_right (by rw [dcells_length]; omega), dcells_length, Nat.sub_self]; rfl
  · rw [List.getElem?_append_right (by rw [dcells_length]; omega), dcells_length, show D.length * 2 + 1 - D.length * 2 = 1 by omega]; rfl
theorem za_set (D : DL) (k : Nat) (hk : D.length = k) (l : Int) (K : Hg) (v : Value) : ((dcells D ++ [Value.int .i64 0, .slice none 0 0]).set (k * 2) (.int .i64 l)).set (k * 2 + 1) v = dcells (D ++ [(l, K, v)]) := by
  subst hk
  rw [List.set_append_right _ _ (by rw [dcells_length]; omega), dcells_length, Nat.sub_self]
  rw [List.set_append_right _ _ (by rw [dcells_length]; omega), dcells_length, show D.length * 2 + 1 - D.length * 2 = 1 by omega]
  rw [dcells_snoc]
  simp

end Go.Proofs.YthhliogcafmnfaaDoor
