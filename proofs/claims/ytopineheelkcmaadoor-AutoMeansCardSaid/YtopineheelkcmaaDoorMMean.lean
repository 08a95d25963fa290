/- A state at a node depends on the subtree alone. -/
import Derived.Test.YtopineheelkcmaaDoorASm
import Derived.Test.YtopineheelkcmaaDoorMPos
namespace Go.Proofs.YtopineheelkcmaaDoor
open Go.RowKit Go.Shelf

def SubL : List (List Int) → List (List Int) → Prop
  | [], [] => True
  | s :: S, t :: T => (∀ q, q ∈ s → q ∈ t) ∧ SubL S T
  | _, _ => False
theorem SubL.refl : ∀ S, SubL S S
  | [] => trivial
  | _ :: S => ⟨fun _ h => h, SubL.refl S⟩
theorem fitsL_mono : ∀ {S T : List (List Int)} {F : List Int}, SubL S T → fitsL S F = true → fitsL T F = true
  | [], [], _, _, h => h
  | _ :: _, _ :: _, [], _, h => by simp [fitsL] at h
  | s :: S, t :: T, f :: F, h, hf => by
    simp only [fitsL, Bool.and_eq_true] at hf ⊢
    exact ⟨inB_iff.2 (h.1 _ (inB_iff.1 hf.1)), fitsL_mono h.2 hf.2⟩
theorem step_mono {R : List Ru} {l : Int} {S T : List (List Int)} (h : SubL S T) {q : Int} (hq : q ∈ stepL R l S []) : q ∈ stepL R l T [] := by
  rw [stepL_mem] at hq ⊢
  rcases hq with h0 | ⟨r, h1, h2, h3⟩
  · cases h0
  · refine .inr ⟨r, h1, ?_, h3⟩
    unfold stepF at h2 ⊢
    simp only [Bool.and_eq_true] at h2 ⊢
    exact ⟨h2.1, fitsL_mono h h2.2⟩
theorem ofL_upd (R : List Ru) : ∀ (h : Hg) (i : Nat) (k z : Int × Hg), h.nth i = some k → (∀ q, q ∈ stepL R k.1 (ofL R k.2) [] → q ∈ stepL R z.1 (ofL R z.2) []) → SubL (ofL R h) (ofL R (h.upd i z))
  | .cons l K r, 0, k, z, e, hs => by
    simp only [Hg.nth, Option.some.injEq] at e
    subst e
    exact ⟨hs, SubL.refl _⟩
  | .cons l K r, i + 1, k, z, e, hs => ⟨fun _ h => h, ofL_upd R r i k z e hs⟩
theorem put_mono (A : Au) : ∀ (ps : List Int) (t y x : Int × Hg), getT ps t = some y → (∀ q, q ∈ stsL A y.1 y.2 → q ∈ stsL A x.1 x.2) → ∀ q, q ∈ stsL A t.1 t.2 → q ∈ stsL A (putT ps t x).1 (putT ps t x).2
  | [], t, y, x, h, hs => by
    simp only [getT, Option.some.injEq] at h
    subst h
    exact hs
  | i :: ps, t, y, x, h, hs => by
    obtain ⟨hi, k, h1, h2⟩ := getT_step h
    simp only [putT, h1]
    intro q hq
    exact step_mono (ofL_upd A.ru t.2 i.toNat k _ h1 (put_mono A ps k y x h2 hs)) hq
theorem has_mono (A : Au) {ps : List Int} {t y x : Int × Hg} (h : getT ps t = some y) (hs : ∀ q, q ∈ stsL A y.1 y.2 → q ∈ stsL A x.1 x.2) (ht : hasB A t.1 t.2 = true) : hasB A (putT ps t x).1 (putT ps t x).2 = true := by
  unfold hasB at ht ⊢
  rw [meetB_iff] at ht ⊢
  obtain ⟨q, h1, h2⟩ := ht
  exact ⟨q, put_mono A ps t y x h hs q h1, h2⟩

end Go.Proofs.YtopineheelkcmaaDoor
