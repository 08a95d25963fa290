/- Hedges as data and as they lie in memory. -/
import Derived.WalkKit
import Derived.WalkSpells
import Derived.Lib.Hide
namespace Go.Proofs.YtedfldbknjcnlaaDoor
open Go.RowKit

theorem ret_int {k : IntKind} {a b : Int} (h : a = b) : Ending.returned (.int k a) = .returned (.int k b) := by rw [h]
theorem ret_bool {a b : Bool} (h : a = b) : Ending.returned (.bool a) = .returned (.bool b) := by rw [h]

inductive Hg where
  | nil : Hg
  | cons (l : Int) (k r : Hg) : Hg

namespace Hg
def len : Hg → Nat
  | .nil => 0
  | .cons _ _ r => r.len + 1
def size : Hg → Nat
  | .nil => 0
  | .cons _ k r => k.size + r.size + 1
theorem len_le_size (h : Hg) : h.len ≤ h.size := by
  induction h with
  | nil => exact Nat.le_refl _
  | cons l k r _ ih => simp only [len, size]; omega
end Hg

def Row (w : World) : Hg → Nat → Nat → Prop
  | .nil, _, _ => True
  | .cons l k r, b, o => w.cell? ⟨b, o, none⟩ = some (.int .i64 l) ∧ (Lit.int .i64 l).wf = true ∧
      (∃ p c, w.cell? ⟨b, o + 1, none⟩ = some (.slice p k.len c) ∧ k.len ≤ c ∧ c ≤ maxLen ∧ (k ≠ .nil → ∃ b' o', p = some ⟨b', o', none⟩ ∧ Row w k b' o')) ∧ Row w r b (o + 2)

def IsH (w : World) (v : Value) (h : Hg) : Prop :=
  ∃ p c, v = .slice p h.len c ∧ h.len ≤ c ∧ c ≤ maxLen ∧ (h ≠ .nil → ∃ b o, p = some ⟨b, o, none⟩ ∧ Row w h b o)

theorem Row.cons_iff {w : World} {l : Int} {k r : Hg} {b o : Nat} : Row w (.cons l k r) b o ↔
    w.cell? ⟨b, o, none⟩ = some (.int .i64 l) ∧ (Lit.int .i64 l).wf = true ∧ (∃ v, w.cell? ⟨b, o + 1, none⟩ = some v ∧ IsH w v k) ∧ Row w r b (o + 2) := by
  constructor
  · rintro ⟨h1, h2, ⟨p, c, h3, h4⟩, h5⟩
    exact ⟨h1, h2, ⟨_, h3, p, c, rfl, h4⟩, h5⟩
  · rintro ⟨h1, h2, ⟨v, h3, p, c, rfl, h4⟩, h5⟩
    exact ⟨h1, h2, ⟨p, c, h3, h4⟩, h5⟩

theorem Row.below' {w w' : World} (hb : Below w.heap.size w w') : ∀ (h : Hg) (b o : Nat), Row w h b o → Row w' h b o
  | .nil, _, _, _ => trivial
  | .cons l k r, b, o, ⟨h1, h2, ⟨p, c, h3, h4, h5, h6⟩, h7⟩ =>
    ⟨cell_later hb h1, h2, ⟨p, c, cell_later hb h3, h4, h5, fun hk => (by
      obtain ⟨b', o', e, hr⟩ := h6 hk
      exact ⟨b', o', e, Row.below' hb k b' o' hr⟩)⟩, Row.below' hb r b (o + 2) h7⟩

theorem Row.below {w w' : World} {h : Hg} {b o : Nat} (hr : Row w h b o) (hb : Below w.heap.size w w') : Row w' h b o := Row.below' hb h b o hr

theorem IsH.below' {w w' : World} (hb : Below w.heap.size w w') {v : Value} {h : Hg} : IsH w v h → IsH w' v h
  | ⟨p, c, e, h4, h5, h6⟩ => ⟨p, c, e, h4, h5, fun hk => (by
      obtain ⟨b', o', e, hr⟩ := h6 hk
      exact ⟨b', o', e, Row.below' hb h b' o' hr⟩)⟩

theorem IsH.below {w w' : World} {v : Value} {h : Hg} (hv : IsH w v h) (hb : Below w.heap.size w w') : IsH w' v h := IsH.below' hb hv

end Go.Proofs.YtedfldbknjcnlaaDoor
