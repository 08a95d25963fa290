/- Positions, subtrees and replacement as data. -/
import Derived.Test.YtopineheelkcmaaDoorTValid
import Derived.Shelf.Abstract
import Derived.Deep.RegionHeld3
namespace Go.Proofs.YtopineheelkcmaaDoor
open Go.RowKit

def Hg.nth : Hg → Nat → Option (Int × Hg)
  | .nil, _ => none
  | .cons l k _, 0 => some (l, k)
  | .cons _ _ r, i + 1 => r.nth i
def Hg.upd : Hg → Nat → (Int × Hg) → Hg
  | .nil, _, _ => .nil
  | .cons _ _ r, 0, x => .cons x.1 x.2 r
  | .cons l k r, i + 1, x => .cons l k (r.upd i x)
def getT : List Int → Int × Hg → Option (Int × Hg)
  | [], t => some t
  | i :: ps, t => if i < 0 then none else (t.2.nth i.toNat).bind (getT ps)
def putT : List Int → Int × Hg → Int × Hg → Int × Hg
  | [], _, x => x
  | i :: ps, t, x => match t.2.nth i.toNat with
    | none => t
    | some k => (t.1, t.2.upd i.toNat (putT ps k x))

theorem Hg.nth_lt : ∀ {h : Hg} {i : Nat} {x : Int × Hg}, h.nth i = some x → i < h.len
  | .cons _ _ _, 0, _, _ => by simp [Hg.len]
  | .cons _ _ _, i + 1, _, e => by
    have := Hg.nth_lt (h := _) (i := i) e
    simp only [Hg.len]; omega
theorem Hg.nth_some : ∀ {h : Hg} {i : Nat}, i < h.len → ∃ x, h.nth i = some x
  | .nil, _, e => by simp [Hg.len] at e
  | .cons l k _, 0, _ => ⟨(l, k), rfl⟩
  | .cons _ _ r, i + 1, e => Hg.nth_some (h := r) (i := i) (by simp only [Hg.len] at e; omega)
theorem Hg.nth_none {h : Hg} {i : Nat} (e : h.len ≤ i) : h.nth i = none := by
  cases e' : h.nth i with
  | none => rfl
  | some x => have := Hg.nth_lt e'; omega
theorem Hg.nth_size : ∀ {h : Hg} {i : Nat} {x : Int × Hg}, h.nth i = some x → x.2.size + 1 ≤ h.size
  | .cons _ _ _, 0, _, e => by
    simp only [Hg.nth, Option.some.injEq] at e
    subst e
    simp only [Hg.size]; omega
  | .cons _ _ _, i + 1, _, e => by
    have := Hg.nth_size (h := _) (i := i) e
    simp only [Hg.size]; omega
theorem Hg.upd_len : ∀ (h : Hg) (i : Nat) (x : Int × Hg), (h.upd i x).len = h.len
  | .nil, _, _ => rfl
  | .cons _ _ _, 0, _ => rfl
  | .cons _ _ r, i + 1, x => by simp only [Hg.upd, Hg.len, Hg.upd_len r i x]
theorem Hg.upd_nth : ∀ {h : Hg} {i : Nat} (x : Int × Hg), i < h.len → (h.upd i x).nth i = some x
  | .nil, _, _, e => by simp [Hg.len] at e
  | .cons _ _ _, 0, _, _ => rfl
  | .cons _ _ r, i + 1, x, e => Hg.upd_nth (h := r) (i := i) x (by simp only [Hg.len] at e; omega)
theorem Hg.upd_self : ∀ {h : Hg} {i : Nat} {x : Int × Hg}, h.nth i = some x → h.upd i x = h
  | .cons _ _ _, 0, _, e => by
    simp only [Hg.nth, Option.some.injEq] at e
    subst e
    rfl
  | .cons l k r, i + 1, _, e => by
    have := Hg.upd_self (h := r) (i := i) e
    simp only [Hg.upd, this]
theorem Hg.upd_size : ∀ {h : Hg} {i : Nat} {x : Int × Hg} (y : Int × Hg), h.nth i = some x → (h.upd i y).size + x.2.size = h.size + y.2.size
  | .cons _ _ _, 0, _, y, e => by
    simp only [Hg.nth, Option.some.injEq] at e
    subst e
    simp only [Hg.upd, Hg.size]; omega
  | .cons l k r, i + 1, _, y, e => by
    have := Hg.upd_size (h := r) (i := i) y e
    simp only [Hg.upd, Hg.size]; omega
theorem Hg.fit_nth {al : List Int} : ∀ {h : Hg} {i : Nat} {x : Int × Hg}, h.nth i = some x → h.fitAll al = true → fit al x.1 x.2.len = true ∧ x.2.fitAll al = true
  | .cons _ _ _, 0, _, e, hf => by
    simp only [Hg.nth, Option.some.injEq] at e
    subst e
    simp only [Hg.fitAll, Bool.and_eq_true] at hf
    exact ⟨hf.1, hf.2.1⟩
  | .cons _ _ r, i + 1, _, e, hf => by
    simp only [Hg.fitAll, Bool.and_eq_true] at hf
    exact Hg.fit_nth (h := r) (i := i) e hf.2.2
theorem Hg.fit_upd {al : List Int} : ∀ {h : Hg} {i : Nat} {x : Int × Hg}, h.fitAll al = true → fit al x.1 x.2.len = true → x.2.fitAll al = true → (h.upd i x).fitAll al = true
  | .nil, _, _, _, _, _ => rfl
  | .cons _ _ _, 0, _, hf, h1, h2 => by
    simp only [Hg.fitAll, Bool.and_eq_true] at hf
    simp only [Hg.upd, Hg.fitAll, Bool.and_eq_true]
    exact ⟨h1, h2, hf.2.2⟩
  | .cons _ _ r, i + 1, _, hf, h1, h2 => by
    simp only [Hg.fitAll, Bool.and_eq_true] at hf
    simp only [Hg.upd, Hg.fitAll, Bool.and_eq_true]
    exact ⟨hf.1, hf.2.1, Hg.fit_upd (h := r) (i := i) hf.2.2 h1 h2⟩

theorem getT_step {i : Int} {ps : List Int} {t y : Int × Hg} (h : getT (i :: ps) t = some y) : 0 ≤ i ∧ ∃ k, t.2.nth i.toNat = some k ∧ getT ps k = some y := by
  simp only [getT] at h
  split at h
  · cases h
  · next hi =>
    obtain ⟨k, h1, h2⟩ := Option.bind_eq_some_iff.1 h
    exact ⟨by omega, k, h1, h2⟩
theorem get_put : ∀ (ps : List Int) (t x y : Int × Hg), getT ps t = some y → getT ps (putT ps t x) = some x
  | [], _, _, _, _ => rfl
  | i :: ps, t, x, y, h => by
    obtain ⟨hi, k, h1, h2⟩ := getT_step h
    simp only [putT, h1, getT]
    rw [if_neg (by omega), Hg.upd_nth _ (Hg.nth_lt h1)]
    exact get_put ps k x y h2
theorem put_get : ∀ (ps : List Int) (t y : Int × Hg), getT ps t = some y → putT ps t y = t
  | [], _, _, h => by simp only [getT, Option.some.injEq] at h; exact h.symm
  | i :: ps, t, y, h => by
    obtain ⟨hi, k, h1, h2⟩ := getT_step h
    simp only [putT, h1]
    rw [put_get ps k y h2, Hg.upd_self h1]
theorem put_size : ∀ (ps : List Int) (t x y : Int × Hg), getT ps t = some y → (putT ps t x).2.size + y.2.size = t.2.size + x.2.size
  | [], _, _, _, h => by simp only [getT, Option.some.injEq] at h; subst h; simp only [putT]; omega
  | i :: ps, t, x, y, h => by
    obtain ⟨hi, k, h1, h2⟩ := getT_step h
    have e1 := put_size ps k x y h2
    have e2 := Hg.upd_size (putT ps k x) h1
    simp only [putT, h1]; omega
theorem get_size : ∀ (ps : List Int) (t y : Int × Hg), getT ps t = some y → y.2.size ≤ t.2.size
  | [], _, _, h => by simp only [getT, Option.some.injEq] at h; subst h; exact Nat.le_refl _
  | i :: ps, t, y, h => by
    obtain ⟨hi, k, h1, h2⟩ := getT_step h
    have e1 := get_size ps k y h2
    have e2 := Hg.nth_size h1
    omega
def fitsT (al : List Int) (t : Int × Hg) : Bool := fit al t.1 t.2.len && t.2.fitAll al
theorem fitsT_nth {al : List Int} {t k : Int × Hg} {i : Nat} (h : fitsT al t = true) (e : t.2.nth i = some k) : fitsT al k = true := by
  simp only [fitsT, Bool.and_eq_true] at h ⊢
  exact Hg.fit_nth e h.2
theorem get_fits {al : List Int} : ∀ (ps : List Int) (t y : Int × Hg), getT ps t = some y → fitsT al t = true → fitsT al y = true
  | [], _, _, h, hf => by simp only [getT, Option.some.injEq] at h; subst h; exact hf
  | i :: ps, t, y, h, hf => by
    obtain ⟨hi, k, h1, h2⟩ := getT_step h
    exact get_fits ps k y h2 (fitsT_nth hf h1)
theorem put_fits {al : List Int} : ∀ (ps : List Int) (t x : Int × Hg), fitsT al t = true → fitsT al x = true → fitsT al (putT ps t x) = true
  | [], _, _, _, hx => hx
  | i :: ps, t, x, hf, hx => by
    simp only [putT]
    cases h1 : t.2.nth i.toNat with
    | none => exact hf
    | some k =>
      have e1 := put_fits ps k x (fitsT_nth hf h1) hx
      simp only [fitsT, Bool.and_eq_true] at hf e1 ⊢
      exact ⟨by rw [Hg.upd_len]; exact hf.1, Hg.fit_upd hf.2 e1.1 e1.2⟩
theorem tvalid_iff (al : List Int) (t : Int × Hg) : tvalid al t.1 t.2 = (validAl al && (decide (t.2.size + 1 ≤ 300) && fitsT al t)) := rfl
theorem get_valid {al : List Int} {ps : List Int} {t y : Int × Hg} (h : getT ps t = some y) (hv : tvalid al t.1 t.2 = true) : tvalid al y.1 y.2 = true := by
  rw [tvalid_iff] at hv ⊢
  simp only [Bool.and_eq_true, decide_eq_true_eq] at hv ⊢
  have := get_size ps t y h
  exact ⟨hv.1, by omega, get_fits ps t y h hv.2.2⟩
theorem put_valid {al : List Int} {ps : List Int} {t x : Int × Hg} (hs : (putT ps t x).2.size + 1 ≤ 300) (hv : tvalid al t.1 t.2 = true) (hx : tvalid al x.1 x.2 = true) : tvalid al (putT ps t x).1 (putT ps t x).2 = true := by
  rw [tvalid_iff] at hv hx ⊢
  simp only [Bool.and_eq_true, decide_eq_true_eq] at hv hx ⊢
  exact ⟨hv.1, hs, put_fits ps t x hv.2.2 hx.2.2⟩

/-- The positions of a list of trees from the i-th on. -/
def placesH : Hg → Nat → List (List Nat)
  | .nil, _ => []
  | .cons _ k r, i => ([] :: placesH k 0).map (fun p => i :: p) ++ placesH r (i + 1)
def placesT (t : Int × Hg) : List (List Nat) := [] :: placesH t.2 0
theorem places_subs : ∀ (h : Hg) (path : List Nat) (i : Nat), (h.subs path i).map (·.1) = (placesH h i).map (fun p => path ++ p)
  | .nil, _, _ => rfl
  | .cons l k r, path, i => by
    simp only [Hg.subs, placesH, List.map_cons, List.map_append, List.map_map]
    rw [places_subs k, places_subs r]
    simp [Function.comp_def]
theorem places_tsubs (s : Int) (K : Hg) : (tsubs s K).map (·.1) = placesT (s, K) := by
  simp only [tsubs, List.map_cons, placesT]
  rw [places_subs]
  simp
theorem placesH_len : ∀ (h : Hg) (i : Nat), (placesH h i).length = h.size
  | .nil, _ => rfl
  | .cons l k r, i => by
    simp only [placesH, List.length_append, List.length_map, List.length_cons, placesH_len k, placesH_len r, Hg.size]; omega

end Go.Proofs.YtopineheelkcmaaDoor
