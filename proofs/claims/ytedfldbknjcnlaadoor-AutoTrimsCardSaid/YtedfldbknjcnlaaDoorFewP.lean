/- Small facts for the laws' walks. -/
import Derived.Test.YtedfldbknjcnlaaDoorALaw
import Derived.Test.YtedfldbknjcnlaaDoorLFew
namespace Go.Proofs.YtedfldbknjcnlaaDoor
open Go.RowKit Go.Shelf

theorem few_parts {al : List Int} {A : Au} {K : Hg} (h : fewB al A K = true) : K.size + 1 ≤ 400 ∧ A.ru.length ≤ 60 := by
  unfold fewB fewA at h
  simp only [Bool.and_eq_true, decide_eq_true_eq] at h
  omega

/-- Four boxes. -/
theorem four_boxes (w : World) (a b c d : Array Value) (ta tb tc td : TypeId) : ∀ W, Below ((((w.alloc (.cells a ta)).alloc (.cells b tb)).alloc (.cells c tc)).alloc (.cells d td)).heap.size ((((w.alloc (.cells a ta)).alloc (.cells b tb)).alloc (.cells c tc)).alloc (.cells d td)) W →
    Blk W w.heap.size ta a ∧ Blk W (w.heap.size + 1) tb b ∧ Blk W (w.heap.size + 1 + 1) tc c ∧ Blk W (w.heap.size + 1 + 1 + 1) td d ∧ Below w.heap.size w W := fun W hW => by
  obtain ⟨h1, h2, h3, h0⟩ := blk4 w ta tb tc td a b c d
  exact ⟨h0.below hW (by simp <;> omega), h1.below hW (by simp <;> omega), h2.below hW (by simp <;> omega), h3.below hW (by simp), (((((Below.refl _ w).alloc (Nat.le_refl _) _).alloc (by simp) _).alloc (by simp; omega) _).alloc (by simp; omega) _).trans (hW.mono (by simp <;> omega))⟩

end Go.Proofs.YtedfldbknjcnlaaDoor
