/- What automata do with trees, as data. -/
import Derived.Test.YtopineheelkcmaaDoorAu
namespace Go.Proofs.YtopineheelkcmaaDoor
open Go.RowKit

def inB : List Int → Int → Bool
  | [], _ => false
  | x :: l, n => x == n || inB l n
theorem inB_iff {l : List Int} {n : Int} : inB l n = true ↔ n ∈ l := by
  induction l with
  | nil => simp [inB]
  | cons x l ih => simp only [inB, Bool.or_eq_true, beq_iff_eq, ih, List.mem_cons]; constructor <;> (rintro (h | h) <;> simp [h])
def insL (n : Int) : List Int → List Int
  | [] => [n]
  | x :: l => if x < n then x :: insL n l else if x = n then x :: l else n :: x :: l
theorem insL_mem {n q : Int} {l : List Int} : q ∈ insL n l ↔ q = n ∨ q ∈ l := by
  induction l with
  | nil => simp [insL]
  | cons x l ih =>
    unfold insL
    split
    · simp only [List.mem_cons, ih]; constructor <;> (rintro (h | h | h) <;> simp [h])
    · split
      · rename_i h; subst h; simp
      · simp
theorem insL_sorted {n : Int} {l : List Int} (h : l.Pairwise (· < ·)) : (insL n l).Pairwise (· < ·) := by
  induction l with
  | nil => simp [insL]
  | cons x l ih =>
    rw [List.pairwise_cons] at h
    unfold insL
    split
    · rename_i hx
      rw [List.pairwise_cons]
      refine ⟨fun y hy => ?_, ih h.2⟩
      rcases insL_mem.1 hy with rfl | hy
      · exact hx
      · exact h.1 y hy
    · split
      · exact List.pairwise_cons.2 h
      · rw [List.pairwise_cons]
        refine ⟨fun y hy => ?_, List.pairwise_cons.2 h⟩
        rcases List.mem_cons.1 hy with rfl | hy
        · omega
        · have := h.1 y hy; omega
theorem insL_len {n : Int} {l : List Int} : (insL n l).length ≤ l.length + 1 := by
  induction l with
  | nil => simp [insL]
  | cons x l ih =>
    unfold insL
    split
    · simp; omega
    · split <;> simp
/-- Two increasing lists with the same members are the same. -/
theorem sorted_eq : ∀ {l m : List Int}, l.Pairwise (· < ·) → m.Pairwise (· < ·) → (∀ q, q ∈ l ↔ q ∈ m) → l = m
  | [], [], _, _, _ => rfl
  | [], y :: m, _, _, h => by have := (h y).2 (List.mem_cons_self ..); cases this
  | x :: l, [], _, _, h => by have := (h x).1 (List.mem_cons_self ..); cases this
  | x :: l, y :: m, h1, h2, h => by
    rw [List.pairwise_cons] at h1 h2
    have e : x = y := by
      have a := (h x).1 (List.mem_cons_self ..)
      have b := (h y).2 (List.mem_cons_self ..)
      rcases List.mem_cons.1 a with a | a
      · exact a
      · rcases List.mem_cons.1 b with b | b
        · exact b.symm
        · have := h2.1 x a; have := h1.1 y b; omega
    subst e
    rw [sorted_eq h1.2 h2.2 (fun q => ?_)]
    constructor
    · intro hq
      rcases List.mem_cons.1 ((h q).1 (List.mem_cons_of_mem _ hq)) with rfl | hq'
      · have := h1.1 q hq; omega
      · exact hq'
    · intro hq
      rcases List.mem_cons.1 ((h q).2 (List.mem_cons_of_mem _ hq)) with rfl | hq'
      · have := h2.1 q hq; omega
      · exact hq'

def fitsL : List (List Int) → List Int → Bool
  | [], _ => true
  | _ :: _, [] => false
  | s :: S, f :: F => inB s f && fitsL S F
def stepF (sym : Int) (S : List (List Int)) (r : Ru) : Bool := r.sym == sym && fitsL S r.fr
def stepL (R : List Ru) (sym : Int) (S : List (List Int)) (out : List Int) : List Int :=
  match R with
  | [] => out
  | r :: R => stepL R sym S (if stepF sym S r = true then insL r.to out else out)
theorem stepL_sorted (sym : Int) (S : List (List Int)) : ∀ (R : List Ru) (out : List Int), out.Pairwise (· < ·) → (stepL R sym S out).Pairwise (· < ·)
  | [], _, h => h
  | r :: R, out, h => by
    rw [stepL]
    refine stepL_sorted sym S R _ ?_
    split
    · exact insL_sorted h
    · exact h
theorem stepL_mem (sym : Int) (S : List (List Int)) (q : Int) : ∀ (R : List Ru) (out : List Int), q ∈ stepL R sym S out ↔ q ∈ out ∨ ∃ r ∈ R, stepF sym S r = true ∧ r.to = q
  | [], out => by simp [stepL]
  | r :: R, out => by
    rw [stepL, stepL_mem sym S q R]
    by_cases h : stepF sym S r = true
    · rw [if_pos h, insL_mem]
      constructor
      · rintro ((rfl | h1) | ⟨r', h1, h2⟩)
        · exact .inr ⟨r, List.mem_cons_self .., h, rfl⟩
        · exact .inl h1
        · exact .inr ⟨r', List.mem_cons_of_mem _ h1, h2⟩
      · rintro (h1 | ⟨r', h1, h2, h3⟩)
        · exact .inl (.inr h1)
        · rcases List.mem_cons.1 h1 with rfl | h1
          · exact .inl (.inl h3.symm)
          · exact .inr ⟨r', h1, h2, h3⟩
    · rw [if_neg h]
      constructor
      · rintro (h1 | ⟨r', h1, h2⟩)
        · exact .inl h1
        · exact .inr ⟨r', List.mem_cons_of_mem _ h1, h2⟩
      · rintro (h1 | ⟨r', h1, h2, h3⟩)
        · exact .inl h1
        · rcases List.mem_cons.1 h1 with rfl | h1
          · exact absurd h2 h
          · exact .inr ⟨r', h1, h2, h3⟩
theorem stepL_len (sym : Int) (S : List (List Int)) : ∀ (R : List Ru) (out : List Int), (stepL R sym S out).length ≤ out.length + R.length
  | [], _ => by simp [stepL]
  | r :: R, out => by
    rw [stepL]
    have h1 := stepL_len sym S R (if stepF sym S r = true then insL r.to out else out)
    have h2 : (if stepF sym S r = true then insL r.to out else out).length ≤ out.length + 1 := by
      split
      · exact insL_len
      · omega
    simp only [List.length_cons]
    omega

end Go.Proofs.YtopineheelkcmaaDoor
