/- A map of values whose keys all lie in a list, as a function of the key. -/
import Derived.Test.YtopineheelkcmaaDoorHgS
import Derived.Maps.OwnSet
namespace Go.Proofs.YtopineheelkcmaaDoor
open Go.RowKit Go.Maps Go.WideElems

def heldV (v : Value) : Option (DataW Value × List MemPlace) := some (.held v, [])

theorem nodup_le {α : Type} : ∀ (l m : List α), l.Pairwise (fun a b => a ≠ b) → (∀ x ∈ l, x ∈ m) → l.length ≤ m.length
  | [], _, _, _ => Nat.zero_le _
  | a :: l, m, hp, hs => by
    obtain ⟨m1, m2, rfl⟩ := List.append_of_mem (hs a (List.mem_cons_self ..))
    rw [List.pairwise_cons] at hp
    have := nodup_le l (m1 ++ m2) hp.2 (fun x hx => by
      have h1 := hs x (List.mem_cons_of_mem _ hx)
      have h2 := hp.1 x hx
      simp only [List.mem_append, List.mem_cons] at h1 ⊢
      rcases h1 with h | h | h
      · exact .inl h
      · exact absurd h.symm h2
      · exact .inr h)
    simp only [List.length_append, List.length_cons] at this ⊢
    omega

/-- Block b is a map that holds f, and its keys lie in ks. -/
def IsMp (P : Program) (k : TypeId) (ks : List Lit) (w : World) (b : Nat) (f : Lit → Option Value) : Prop :=
  ∃ D, w.ownsMap P k heldV b ks.length D ∧ (∀ kl, f kl = none → Maps.has D kl = false) ∧ (∀ kl v, f kl = some v → Maps.has D kl = true ∧ kl ∈ ks ∧ ∀ z, D.atKey kl z = .held v)

section
variable {P : Program} {k : TypeId} {ks : List Lit} {w : World} {b : Nat} {f : Lit → Option Value}

theorem IsMp.lt (h : IsMp P k ks w b f) : b < w.heap.size := by
  obtain ⟨D, h, _⟩ := h
  exact h.lt
theorem IsMp.made (w : World) (P : Program) (k : TypeId) (ks : List Lit) : IsMp P k ks (w.alloc (.map #[] 0)) w.heap.size (fun _ => none) :=
  ⟨.map [], (World.ownsMap_made w P k heldV).mono (Nat.zero_le _), fun _ _ => rfl, fun _ _ h => by cases h⟩
theorem IsMp.heap {w' : World} (h : IsMp P k ks w b f) (e : w'.heap[b]? = w.heap[b]?) : IsMp P k ks w' b f := by
  obtain ⟨D, ⟨es, clock, hb, h1⟩, h2⟩ := h
  exact ⟨D, ⟨es, clock, e.trans hb, h1⟩, h2⟩
theorem IsMp.kp {w' : World} {S : Nat → Prop} (h : IsMp P k ks w b f) (hk : Kp S w w') (hb : S b) : IsMp P k ks w' b f := h.heap (hk.block b h.lt hb)

theorem ownsMap_shrink {R : Value → Option (DataW Value × List MemPlace)} {n : Nat} {D : DataW Value} (h : w.ownsMap P k R b n D) (K : Keyed P k) (hks : ∀ kl, Maps.has D kl = true → kl ∈ ks) : w.ownsMap P k R b ks.length D := by
  obtain ⟨es, clock, hb, F, hs, rfl⟩ := h
  refine ⟨es, clock, hb, F, ?_, rfl⟩
  have h1 := fit_apart K F
  have h2 := nodup_le ((es.toList.map (rg P k R)).map (·.1)) ks (by rw [List.pairwise_map]; exact h1) (fun x hx => by
    obtain ⟨p, hp, rfl⟩ := List.mem_map.1 hx
    refine hks _ ?_
    rw [has_eq]
    obtain ⟨v, hv⟩ := fit_keys F p hp
    have : ∀ l : List (Lit × DataW Value), (l.foldr DataW.insert []).any (fun q => q.1.sameKey p.1) = l.any (fun q => q.1.sameKey p.1) := by
      intro l
      induction l with
      | nil => rfl
      | cons a l ih => simp only [List.foldr_cons, any_insert, List.any_cons, ih]
    rw [this, List.any_eq_true]
    exact ⟨p, hp, WideAt.sameKey_self (K.key hv)⟩)
  simpa using h2

theorem IsMp.look (h : IsMp P k ks w b f) (K : Keyed P k) {t e : TypeId} (ht : P.underlying t = some (.map k e)) {z : Value} (hz : (zeroValue e).run P w = .ok z w) {key : Value} {kl : Lit} (hkey : keyOf P k key = some kl) :
    (Instr.lookup t (.map (some b)) key false).run P w = .ok ((f kl).getD z) w := by
  obtain ⟨D, h1, h2, h3⟩ := h
  obtain ⟨v, ps, hrun, hv⟩ := h1.lookup K ht hz (R := heldV) (zd := .held z) (zp := []) rfl hkey
  rw [hrun]
  cases hf : f kl with
  | none =>
    rw [atKey_of_not_has (h2 kl hf)] at hv
    simp only [heldV, Option.some.injEq, Prod.mk.injEq, DataW.held.injEq] at hv
    rw [hv.1]; rfl
  | some u =>
    rw [(h3 kl u hf).2.2] at hv
    simp only [heldV, Option.some.injEq, Prod.mk.injEq, DataW.held.injEq] at hv
    rw [hv.1]; rfl

theorem IsMp.look_ok (h : IsMp P k ks w b f) (K : Keyed P k) {t e : TypeId} (ht : P.underlying t = some (.map k e)) {z : Value} (hz : (zeroValue e).run P w = .ok z w) {key : Value} {kl : Lit} (hkey : keyOf P k key = some kl) :
    (Instr.lookup t (.map (some b)) key true).run P w = .ok (.tuple #[(f kl).getD z, .bool (f kl).isSome]) w := by
  obtain ⟨D, h1, h2, h3⟩ := h
  obtain ⟨v, ps, hrun, hv⟩ := h1.look_ok K ht hz (R := heldV) (zd := .held z) (zp := []) rfl hkey
  rw [hrun]
  cases hf : f kl with
  | none =>
    rw [atKey_of_not_has (h2 kl hf)] at hv
    simp only [heldV, Option.some.injEq, Prod.mk.injEq, DataW.held.injEq] at hv
    rw [hv.1, h2 kl hf]; rfl
  | some u =>
    rw [(h3 kl u hf).2.2] at hv
    simp only [heldV, Option.some.injEq, Prod.mk.injEq, DataW.held.injEq] at hv
    rw [hv.1, (h3 kl u hf).1]; rfl

noncomputable def putF (f : Lit → Option Value) (kl : Lit) (v : Value) : Lit → Option Value := fun x => @ite _ (x = kl) (Classical.propDecidable _) (some v) (f x)
theorem putF_same (f : Lit → Option Value) (kl : Lit) (v : Value) : putF f kl v kl = some v := if_pos rfl
theorem putF_other (f : Lit → Option Value) {kl x : Lit} (v : Value) (h : x ≠ kl) : putF f kl v x = f x := if_neg h

theorem IsMp.put (h : IsMp P k ks w b f) (K : Keyed P k) {t e : TypeId} (ht : P.underlying t = some (.map k e)) {key val : Value} {kl : Lit} (hkey : keyOf P k key = some kl) (hks : kl ∈ ks) (hlen : ks.length < maxLen) :
    ∃ w', (Instr.mapUpdate t (.map (some b)) key val).run P w = .ok () w' ∧ IsMp P k ks w' b (putF f kl val) ∧ w.grownBy w' (some b) := by
  obtain ⟨D, h1, h2, h3⟩ := h
  obtain ⟨w', hrun, r1, r2⟩ := h1.update K ht hlen hkey (d := .held val) (ps := []) rfl
  have hne : ∀ x, x ≠ kl → Maps.has (D.put kl (.held val)) x = Maps.has D x := fun x hx => has_put_other hx _
  have hM := h1.isMap
  refine ⟨w', hrun, ⟨_, ownsMap_shrink r1 K ?_, ?_, ?_⟩, r2⟩
  · intro x hx
    by_cases e : x = kl
    · exact e ▸ hks
    · rw [hne x e] at hx
      cases hf : f x with
      | none => rw [h2 x hf] at hx; cases hx
      | some v => exact (h3 x v hf).2.1
  · intro x hx
    by_cases e : x = kl
    · subst e; rw [putF_same] at hx; cases hx
    · rw [putF_other f val e] at hx; rw [hne x e]; exact h2 x hx
  · intro x v hx
    by_cases e : x = kl
    · subst e
      rw [putF_same] at hx; cases hx
      exact ⟨has_put_same hM (K.key hkey) _, hks, fun z => atKey_put_same hM (K.key hkey) _ _⟩
    · rw [putF_other f val e] at hx
      obtain ⟨a1, a2, a3⟩ := h3 x v hx
      exact ⟨(hne x e).trans a1, a2, fun z => (atKey_put_other e _ _).trans (a3 z)⟩

end
end Go.Proofs.YtopineheelkcmaaDoor
