/- What a valid question says. -/
import Derived.Test.YtopineheelkcmaaDoorAnn
import Derived.Test.YtopineheelkcmaaDoorRAcc
namespace Go.Proofs.YtopineheelkcmaaDoor
open Go.RowKit Go.Shelf

theorem okS_of {al : List Int} (hr : ∀ x ∈ al, x ≤ 3) : ∀ (K : Hg), K.fitAll al = true → OkS al.length K
  | .nil, _ => trivial
  | .cons l k r, h => by
    simp only [Hg.fitAll, Bool.and_eq_true] at h
    have hf := h.1
    unfold fit at hf
    simp only [Bool.and_eq_true, decide_eq_true_eq, beq_iff_eq] at hf
    refine ⟨⟨l.toNat, by omega, by omega⟩, ?_, okS_of hr k h.2.1, okS_of hr r h.2.2⟩
    have h1 : al.getD l.toNat 0 ≤ 3 := by
      rw [List.getD_eq_getElem?_getD]
      cases h : al[l.toNat]? with
      | none => simp
      | some x => exact hr x (List.mem_of_getElem? h)
    omega
theorem fin_nat {st : Int} (hst : st ≤ 300) : ∀ {l : List Int} {last : Int}, -1 ≤ last → finB st last l = true → ∃ F : List Nat, l = F.map (fun q : Nat => (q : Int)) ∧ ∀ q ∈ F, q < 320
  | [], _, _, _ => ⟨[], rfl, fun _ h => by cases h⟩
  | x :: l, last, h0, h => by
    simp only [finB, Bool.and_eq_true, decide_eq_true_eq] at h
    obtain ⟨F, h1, h2⟩ := fin_nat hst (l := l) (last := x) (by omega) h.2.2
    refine ⟨x.toNat :: F, ?_, fun q hq => ?_⟩
    · rw [List.map_cons, h1, Int.toNat_of_nonneg (by omega)]
    · rcases List.mem_cons.1 hq with rfl | hq
      · omega
      · exact h2 q hq

/-- A valid automaton and tree, as the program's contracts want them. -/
structure Good (al : List Int) (A : Au) (s : Nat) (K : Hg) : Prop where
  alen : al.length ≤ 1000
  rlen : A.ru.length ≤ 20000
  rus : ∀ r ∈ A.ru, RuV al.length r
  fin : ∃ F : List Nat, A.fin = F.map (fun q : Nat => (q : Int)) ∧ ∀ q ∈ F, q < 320
  slt : s < al.length
  k3 : K.len ≤ 3
  oks : OkS al.length K
  fits : ∀ x ∈ A.ru, x.sym = (s : Int) → K.len ≤ x.fr.length
  okh : OkH A.ru K
  size : K.size ≤ 300
theorem good_of {al : List Int} {A : Au} {l : Int} {K : Hg} (h : askB al A l K = true) : ∃ s : Nat, l = (s : Int) ∧ Good al A s K := by
  have hfit := ask_ok h
  unfold askB validA tvalid at h
  simp only [Bool.and_eq_true, decide_eq_true_eq] at h
  obtain ⟨⟨h1, h2, h3, h4, h5, h6⟩, _, h7, h8, h9⟩ := h
  unfold validAl at h1
  simp only [Bool.and_eq_true, decide_eq_true_eq] at h1
  have hrk : ∀ x ∈ al, x ≤ 3 := fun x hx => by
    have := List.all_eq_true.1 h1.2 x hx
    unfold rok at this
    simp only [Bool.and_eq_true, decide_eq_true_eq] at this
    exact this.2
  have hcons := okS_of hrk (.cons l K .nil) (by simp only [Hg.fitAll, Bool.and_eq_true]; exact ⟨h8, h9, trivial⟩)
  obtain ⟨⟨s, rfl, hs⟩, hk3, hos, _⟩ := hcons
  refine ⟨s, rfl, by omega, by omega, fun r hr => ?_, fin_nat h3 (by omega) h5, hs, hk3, hos, hfit.1, hfit.2, by omega⟩
  have hb := List.all_eq_true.1 h6 r hr
  have hf := ruB_fit hb
  unfold ruB at hb
  simp only [Bool.and_eq_true, decide_eq_true_eq, beq_iff_eq] at hb
  obtain ⟨b1, b2, b3, b4, b5⟩ := hb
  have hst : ∀ x, stIn A.st x = true → 0 ≤ x ∧ x < 300 := fun x hx => by
    unfold stIn at hx
    simp only [Bool.and_eq_true, decide_eq_true_eq] at hx
    omega
  refine ⟨⟨r.sym.toNat, by omega, by omega⟩, ⟨r.to.toNat, by have := hst _ b4; omega, by have := hst _ b4; omega⟩, ?_, fun x hx => hst x (List.all_eq_true.1 b5 x hx)⟩
  have : al.getD r.sym.toNat 0 ≤ 3 := by
    rw [List.getD_eq_getElem?_getD]
    cases h : al[r.sym.toNat]? with
    | none => simp
    | some x => exact hrk x (List.mem_of_getElem? h)
  omega

/-- The list of the set is the list of the states. -/
theorem list_eq {R : List Ru} {l : Int} {S : List (List Int)} {W : Nat → Nat} (h : ∀ q : Nat, mem W q = true ↔ (q : Int) ∈ stepL R l S []) (hr : ∀ r ∈ R, ∃ q : Nat, r.to = (q : Int) ∧ q < 320) : listI W 5 = stepL R l S [] := by
  refine sorted_eq (listI_sorted W 5) (stepL_sorted l S R [] List.Pairwise.nil) (fun q => ?_)
  rw [listI_mem]
  constructor
  · rintro ⟨p, _, h2, rfl⟩; exact (h p).1 h2
  · intro hq
    have hq2 := hq
    rw [stepL_mem] at hq2
    rcases hq2 with h0 | ⟨r, h1, _, rfl⟩
    · cases h0
    · obtain ⟨p, hp, hlt⟩ := hr r h1
      rw [hp] at hq ⊢
      exact ⟨p, by omega, (h p).2 hq, rfl⟩
/-- Acceptance. -/
theorem acc_eq {R : List Ru} {l : Int} {S : List (List Int)} {W : Nat → Nat} {F : List Nat} (h : ∀ q : Nat, mem W q = true ↔ (q : Int) ∈ stepL R l S []) (hr : ∀ r ∈ R, ∃ q : Nat, r.to = (q : Int) ∧ q < 320) : decide (0 ≤ accI W F) = meetB (stepL R l S []) (F.map (fun q : Nat => (q : Int))) := by
  rw [accI_ge, Bool.eq_iff_iff, List.any_eq_true, meetB_iff]
  constructor
  · rintro ⟨q, hq, hm⟩
    exact ⟨(q : Int), (h q).1 hm, List.mem_map_of_mem hq⟩
  · rintro ⟨x, hx, hm⟩
    obtain ⟨q, hq, rfl⟩ := List.mem_map.1 hm
    exact ⟨q, hq, (h q).2 hx⟩

end Go.Proofs.YtopineheelkcmaaDoor
