/- Encoding and decoding, as data. -/
import Derived.Test.YtkbcehapalcadabDec
import Derived.Test.YtkbcehapalcadabBin
import Derived.Test.YtkbcehapalcadabShaped
namespace Go.Proofs.Ytkbcehapalcadab
open Go.RowKit

theorem enc_size (n : Int) (H : Hg) : (H.enc n).2.size = 2 * H.size := by
  induction H with
  | nil => rfl
  | cons l k r hk hr => simp only [Hg.enc, Hg.size, hk, hr]; omega

theorem flat_lok_cons (n l : Int) (k r : Hg) : (Hg.cons l k r).flat.all (lok n) = (lok n (l, k) && (k.flat.all (lok n) && r.flat.all (lok n))) := by
  simp [Hg.flat]

theorem no_of_lok {n : Int} {H : Hg} (h : H.flat.all (lok n) = true) : H.no n := by
  induction H with
  | nil => trivial
  | cons l k r hk hr =>
    rw [flat_lok_cons] at h
    simp only [Bool.and_eq_true] at h
    refine ⟨?_, hk h.2.1, hr h.2.2⟩
    have := h.1
    simp [lok] at this
    omega

theorem bin_get (n s : Nat) (hs : s ≤ n) : (bin n).getD s 0 = if s < n then 2 else 0 := by
  by_cases h : s < n
  · rw [if_pos h]
    simp only [bin, List.getD_eq_getElem?_getD]
    rw [List.getElem?_append_left (by simpa using h)]
    simp [h]
  · have : s = n := by omega
    subst this
    rw [if_neg h]
    simp only [bin, List.getD_eq_getElem?_getD]
    rw [List.getElem?_append_right (by simp)]
    simp

theorem fit_bin (n : Nat) (s : Int) (k : Nat) : fit (bin n) s k = true ↔ (0 ≤ s ∧ s < n ∧ k = 2) ∨ (s = n ∧ k = 0) := by
  simp only [fit, Bool.and_eq_true, decide_eq_true_eq, beq_iff_eq, bin_length]
  constructor
  · rintro ⟨h1, h2, h3⟩
    obtain ⟨m, rfl⟩ := Int.eq_ofNat_of_zero_le h1
    rw [Int.toNat_natCast, bin_get n m (by omega)] at h3
    by_cases h : m < n
    · rw [if_pos h] at h3; left; omega
    · rw [if_neg h] at h3; right; omega
  · rintro (⟨h1, h2, rfl⟩ | ⟨rfl, rfl⟩)
    · obtain ⟨m, rfl⟩ := Int.eq_ofNat_of_zero_le h1
      rw [Int.toNat_natCast, bin_get n m (by omega), if_pos (by omega)]
      omega
    · rw [Int.toNat_natCast, bin_get n n (by omega), if_neg (by omega)]
      omega

theorem shape_enc (n : Nat) (H : Hg) (h : H.flat.all (lok n) = true) : shape (bin n) (H.enc n).1 (H.enc n).2 = true := by
  induction H with
  | nil => simp [shape, Hg.enc, Hg.fitAll, Hg.len, fit_bin]
  | cons l k r hk hr =>
    rw [flat_lok_cons] at h
    simp only [Bool.and_eq_true] at h
    have h1 := hk h.2.1
    have h2 := hr h.2.2
    have h0 := h.1
    simp only [lok, Bool.and_eq_true, decide_eq_true_eq] at h0
    simp only [shape, Bool.and_eq_true] at h1 h2 ⊢
    simp only [Hg.enc, Hg.fitAll, Hg.len, Bool.and_eq_true, fit_bin]
    refine ⟨.inl ⟨h0.1, h0.2, trivial⟩, (fit_bin ..).1 h1.1, h1.2, (fit_bin ..).1 h2.1, h2.2, trivial⟩

theorem dec_exists (n : Nat) (N : Nat) : ∀ (s : Int) (K : Hg), K.size < N → shape (bin n) s K = true → ∃ H : Hg, H.enc n = (s, K) ∧ H.flat.all (lok n) = true := by
  induction N with
  | zero => intro s K hN; omega
  | succ N ih =>
    intro s K hN h
    simp only [shape, Bool.and_eq_true, fit_bin] at h
    obtain ⟨hf, ha⟩ := h
    rcases hf with ⟨h1, h2, h3⟩ | ⟨rfl, h3⟩
    · cases K with
      | nil => simp [Hg.len] at h3
      | cons a A R =>
        cases R with
        | nil => simp [Hg.len] at h3
        | cons b B R =>
          cases R with
          | cons c C R => simp [Hg.len] at h3
          | nil =>
            simp only [Hg.fitAll, Bool.and_eq_true, Bool.and_true] at ha
            simp only [Hg.size] at hN
            obtain ⟨HA, e1, g1⟩ := ih a A (by omega) (by simp [shape, ha.1, ha.2.1])
            obtain ⟨HB, e2, g2⟩ := ih b B (by omega) (by simp [shape, ha.2.2.1, ha.2.2.2])
            refine ⟨.cons s HA HB, by simp [Hg.enc, e1, e2], ?_⟩
            rw [flat_lok_cons, g1, g2]
            simp [lok, h1, h2]
    · cases K with
      | cons a A R => simp [Hg.len] at h3
      | nil => exact ⟨.nil, rfl, rfl⟩

theorem validAl_bin (n : Nat) (h : n ≤ 8) : validAl (bin n) = true := by
  simp only [validAl, Bool.and_eq_true, decide_eq_true_eq, bin_length]
  refine ⟨by omega, ?_⟩
  simp [bin, rok]

/-- A valid tree over the binary alphabet is the encoding of a hedge. -/
theorem tvalid_dec (n : Nat) (s : Int) (K : Hg) (h : tvalid (bin n) s K = true) : ∃ H : Hg, H.enc n = (s, K) ∧ H.flat.all (lok n) = true ∧ 2 * H.size + 1 ≤ 300 := by
  simp only [tvalid, Bool.and_eq_true, decide_eq_true_eq] at h
  obtain ⟨H, e, hl⟩ := dec_exists n (K.size + 1) s K (by omega) (by simp [shape, h.2.2.1, h.2.2.2])
  refine ⟨H, e, hl, ?_⟩
  have := enc_size n H
  rw [e] at this
  simp only at this
  omega

theorem tvalid_enc (n : Nat) (H : Hg) (hn : n ≤ 8) (h : H.flat.all (lok n) = true) (hs : 2 * H.size + 1 ≤ 300) : tvalid (bin n) (H.enc n).1 (H.enc n).2 = true := by
  have h1 := shape_enc n H h
  simp only [shape, Bool.and_eq_true] at h1
  simp only [tvalid, validAl_bin n hn, h1.1, h1.2, enc_size]
  simp
  omega

theorem vh_of (n : Nat) (H : Hg) (hn : vlab n = true) (h : H.flat.all (lok n) = true) (hs : 2 * H.size + 1 ≤ 300) : vh n H = true := by
  simp only [vh, hn, h, Bool.true_and, Bool.and_true, decide_eq_true_eq]
  omega

/-- The encoding is one to one. -/
theorem enc_inj (n : Int) : ∀ (H H' : Hg), H.no n → H'.no n → H.enc n = H'.enc n → H = H' := by
  intro H
  induction H with
  | nil =>
    intro H' _ h' e
    cases H' with
    | nil => rfl
    | cons l k r => simp only [Hg.enc, Prod.mk.injEq] at e; exact absurd e.1.symm h'.1
  | cons l k r hk hr =>
    intro H' h h' e
    cases H' with
    | nil => simp only [Hg.enc, Prod.mk.injEq] at e; exact absurd e.1 h.1
    | cons l' k' r' =>
      simp only [Hg.enc, Prod.mk.injEq, Hg.cons.injEq] at e
      obtain ⟨rfl, e1, e2, e3, e4, _⟩ := e
      rw [hk k' h.2.1 h'.2.1 (Prod.ext e1 e2), hr r' h.2.2 h'.2.2 (Prod.ext e3 e4)]

end Go.Proofs.Ytkbcehapalcadab
