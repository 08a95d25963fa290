/- slices.Clone of a list of trees. -/
import Derived.Test.YthhliogcafmnfaaDoorAllIt
import Derived.Lib.SliceRun
namespace Go.Proofs.YthhliogcafmnfaaDoor
open Go.RowKit Go.Shelf

set_option maxRecDepth 100000 in
set_option maxHeartbeats 1000000 in
theorem slclone_any (w : World) (n : Nat) (p : Option Addr) (c : Nat) (D : DL) (hsz : n ≤ 1000000) (hD : D.length = n)
    (hrow : 0 < n → ∃ b o, p = some ⟨b, o, none⟩ ∧ b < w.heap.size ∧ ∀ i u, (dcells D)[i]? = some u → w.cell? ⟨b, o + i, none⟩ = some u) (hone : ∀ u ∈ dcells D, u.oneCell' = true) :
    Calls Tryd.prog 118 #[.slice p n c] w fun e w' => Below w.heap.size w w' ∧
      ∃ v', e = .returned v' ∧ w'.ownsRow w.heap.size 27 2 v' n (dcells D) := by
  obtain ⟨i0, hi, hz0, hz1, hz2⟩ := info_parts Tryd.infoTree
  have HC := Lib.hid hrow
  have HI := Lib.hid hi
  clear hi
  cases p with
  | none =>
    have hn : n = 0 := by
      rcases Nat.eq_zero_or_pos n with h | h
      · exact h
      · obtain ⟨b, o, h, _⟩ := hrow h
        cases h
    have HN := Lib.hid hn
    clear hrow hn
    have heq : ∀ (W : World), (binOp .eql 25 (.slice none n c) (.slice none 0 0)).run Tryd.prog W = .ok (.bool true) W := fun W => (Go.Lib.run_eql_slice_nil W 25 27 _ _ _ _ _ Tryd.underlying25)
    go_enter Tryd.func118, Tryd.ntmps118
    go_wp2
    go_ret
    refine ⟨Below.refl _ _, ?_⟩
    exact ⟨_, rfl, by rw [dcells_length, hD], .inl ⟨rfl, HN.out⟩⟩
  | some ad =>
    clear hrow
    have heq : ∀ (W : World), (binOp .eql 25 (.slice (some ad) n c) (.slice none 0 0)).run Tryd.prog W = .ok (.bool false) W := fun W => (Go.Lib.run_eql_slice_nil W 25 27 _ _ _ _ _ Tryd.underlying25)
    have hnews : ∀ j u, (dcells D)[j]? = some u → (w.alloc (.cells #[] 27)).cell? (ad.add j) = some u := fun j u hu => by
      have hj := (List.getElem?_eq_some_iff.1 hu).1
      rw [dcells_length, hD] at hj
      obtain ⟨b, o, e, _, h⟩ := HC.out (by omega)
      cases e
      have e : ((⟨b, o, none⟩ : Addr).add j) = ⟨b, o + j, none⟩ := by unfold Addr.add; split <;> simp_all
      rw [e]
      exact cell_later ((Below.refl _ w).alloc (Nat.le_refl _) _) (h j u hu)
    have HNW := Lib.hid hnews
    clear hnews
    go_enter Tryd.func118, Tryd.ntmps118
    go_wp2_with (at_builtin; refine wpList_append_own_at _ rfl (.tmp 5) (.tmp 6) 25 rfl w.heap.size 27 i0 _ 2 32 Tryd.underlying25 HI.out hz0 hz1 hz2 rfl (by decide) (.slice (some ⟨w.heap.size, 0, none⟩) 0 0) 0 [] rfl ⟨rfl, .inr ⟨w.heap.size, 0, #[], rfl, Nat.le_refl _, World.alloc_heap_new w _, Nat.le_refl _, by simp [maxLen], rfl, rfl⟩⟩ ad n c (dcells D) rfl (by rw [dcells_length, hD]) HNW.out hone (by simp only [maxLen]; omega) (by omega) (by simp) ?_)
    intro v' w' ho hg _ hat
    have HO := Lib.hid ho
    clear ho
    go_wp2
    go_ret
    have hbel : Below w.heap.size w w' := ((Below.refl _ w).alloc (Nat.le_refl _) _).grown hg (by simp) (fun j e => by simp [Value.ownBlock] at e; omega)
    refine ⟨hbel, v', by simp, ?_⟩
    exact HO.out

end Go.Proofs.YthhliogcafmnfaaDoor
