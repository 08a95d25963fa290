/- What the descriptions of a hedge's nodes say of ancestors. -/
import Derived.Test.YthdaeblfehclcabCollect
namespace Go.Proofs.Ythdaeblfehclcab

def InfOk (F : List (Int × Int × Int × Int)) (par num : Int) (n : Nat) : Prop :=
  (∀ (i : Nat) (x : Int × Int × Int × Int), F[i]? = some x → (x.2.1 = par ∨ num ≤ x.2.1) ∧ x.2.1 < num + i ∧ num + i ≤ x.2.2.2 ∧ x.2.2.2 < num + n) ∧
  (∀ (i j : Nat) (x y : Int × Int × Int × Int), j < i → F[i]? = some x → F[j]? = some y → (num + i ≤ y.2.2.2 ↔ num + j ≤ x.2.1 ∧ x.2.1 ≤ y.2.2.2))

theorem inf_ok (H : Hg) : ∀ par idx num, par < num → InfOk (H.inf par idx num) par num H.size := by
  induction H with
  | nil =>
    intro par idx num _
    exact ⟨fun i x h => by simp [Hg.inf] at h, fun i j x y _ h => by simp [Hg.inf] at h⟩
  | cons l k r hk hr =>
    intro par idx num hp
    obtain ⟨k1, k3⟩ := hk num 0 (num + 1) (by omega)
    obtain ⟨r1, r3⟩ := hr par (idx + 1) (num + k.size + 1) (by omega)
    have hget : ∀ (i : Nat) (x : Int × Int × Int × Int), (Hg.inf (.cons l k r) par idx num)[i]? = some x →
        (i = 0 ∧ x = (l, par, idx, num + k.size)) ∨ (∃ i', i = i' + 1 ∧ i' < k.size ∧ (k.inf num 0 (num + 1))[i']? = some x) ∨
        (∃ i', i = i' + k.size + 1 ∧ i' < r.size ∧ (r.inf par (idx + 1) (num + k.size + 1))[i']? = some x) := by
      intro i x h
      cases i with
      | zero => simp [Hg.inf] at h; exact .inl ⟨rfl, h.symm⟩
      | succ i =>
        simp only [Hg.inf, List.getElem?_cons_succ] at h
        by_cases hi : i < k.size
        · rw [List.getElem?_append_left (by rw [Hg.inf_length]; exact hi)] at h
          exact .inr (.inl ⟨i, rfl, hi, h⟩)
        · rw [List.getElem?_append_right (by rw [Hg.inf_length]; omega), Hg.inf_length] at h
          have := (List.getElem?_eq_some_iff.1 h).1
          rw [Hg.inf_length] at this
          exact .inr (.inr ⟨i - k.size, by omega, this, h⟩)
    refine ⟨fun i x h => ?_, fun i j x y hij hx hy => ?_⟩
    · simp only [Hg.size]
      rcases hget i x h with ⟨rfl, rfl⟩ | ⟨i', rfl, hi, h'⟩ | ⟨i', rfl, hi, h'⟩
      · exact ⟨.inl rfl, by simpa using hp, by simp; omega, by simp; omega⟩
      · obtain ⟨a1, a2, a3, a4⟩ := k1 i' x h'
        exact ⟨.inr (by omega), by omega, by omega, by omega⟩
      · obtain ⟨a1, a2, a3, a4⟩ := r1 i' x h'
        exact ⟨by omega, by omega, by omega, by omega⟩
    · rcases hget j y hy with ⟨rfl, rfl⟩ | ⟨j', rfl, hj, hy'⟩ | ⟨j', rfl, hj, hy'⟩
      · rcases hget i x hx with ⟨rfl, rfl⟩ | ⟨i', rfl, hi, hx'⟩ | ⟨i', rfl, hi, hx'⟩
        · omega
        · obtain ⟨a1, a2, a3, a4⟩ := k1 i' x hx'
          simp only
          constructor
          · intro _; constructor <;> omega
          · intro _; omega
        · obtain ⟨a1, a2, a3, a4⟩ := r1 i' x hx'
          simp only
          constructor
          · intro _; omega
          · rintro ⟨b1, b2⟩; omega
      · obtain ⟨c1, c2, c3, c4⟩ := k1 j' y hy'
        rcases hget i x hx with ⟨rfl, rfl⟩ | ⟨i', rfl, hi, hx'⟩ | ⟨i', rfl, hi, hx'⟩
        · omega
        · have := k3 i' j' x y (by omega) hx' hy'
          constructor
          · intro h
            have := this.1 (by omega)
            exact ⟨by omega, this.2⟩
          · rintro ⟨b1, b2⟩
            have := this.2 ⟨by omega, b2⟩
            omega
        · obtain ⟨a1, a2, a3, a4⟩ := r1 i' x hx'
          constructor
          · intro _; omega
          · rintro ⟨b1, b2⟩; omega
      · rcases hget i x hx with ⟨rfl, rfl⟩ | ⟨i', rfl, hi, hx'⟩ | ⟨i', rfl, hi, hx'⟩
        · omega
        · omega
        · have := r3 i' j' x y (by omega) hx' hy'
          constructor
          · intro h
            have := this.1 (by omega)
            exact ⟨by omega, this.2⟩
          · rintro ⟨b1, b2⟩
            have := this.2 ⟨by omega, b2⟩
            omega

end Go.Proofs.Ythdaeblfehclcab
