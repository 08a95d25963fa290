/- auto.Single as data: the automaton of one tree. -/
import Derived.Test.YtedfldbknjcnlaaDoorTrM
import Derived.Test.YtedfldbknjcnlaaDoorFG5
namespace Go.Proofs.YtedfldbknjcnlaaDoor
open Go.RowKit Go.Shelf Go.Maps Go.WideElems

def hdOf (l : Int) (F : List Int) (r : Ru) : Bool := r.sym == l && r.fr == F
theorem hdOf_iff {l : Int} {F : List Int} {r : Ru} : hdOf l F r = true ↔ r.sym = l ∧ r.fr = F := by
  unfold hdOf
  rw [Bool.and_eq_true, beq_iff_eq, beq_iff_eq]
/-- The number of the rule with a head, or of the next one. -/
def idxR (R : List Ru) (l : Int) (F : List Int) : Nat := R.findIdx (hdOf l F)
def addR (R : List Ru) (l : Int) (F : List Int) : List Ru := if idxR R l F < R.length then R else R ++ [⟨l, F, (R.length : Int)⟩]
/-- The states of a list of trees, and the rules behind them. -/
def sgH : Hg → List Ru → List Int × List Ru
  | .nil, R => ([], R)
  | .cons l k r, R => (((idxR (sgH k R).2 l (sgH k R).1 : Nat) : Int) :: (sgH r (addR (sgH k R).2 l (sgH k R).1)).1, (sgH r (addR (sgH k R).2 l (sgH k R).1)).2)

structure SgI (al : List Int) (R : List Ru) : Prop where
  to : ∀ (i : Nat) r, R[i]? = some r → r.to = (i : Int)
  lt : ∀ (i : Nat) r, R[i]? = some r → ∀ x ∈ r.fr, 0 ≤ x ∧ x < (i : Int)
  hd : ∀ (i j : Nat) r s, R[i]? = some r → R[j]? = some s → r.sym = s.sym → r.fr = s.fr → i = j
  fit : ∀ r ∈ R, 0 ≤ r.sym ∧ r.sym < al.length ∧ (r.fr.length : Int) = al.getD r.sym.toNat 0

theorem SgI.nil (al : List Int) : SgI al [] := ⟨(fun i r h => by simp at h), (fun i r h => by simp at h), (fun i j r s h => by simp at h), (fun r h => by cases h)⟩
theorem idxR_le (R : List Ru) (l : Int) (F : List Int) : idxR R l F ≤ R.length := List.findIdx_le_length
theorem idxR_at {R : List Ru} {l : Int} {F : List Int} (h : idxR R l F < R.length) : ∃ r, R[idxR R l F]? = some r ∧ r.sym = l ∧ r.fr = F := by
  refine ⟨R[idxR R l F], List.getElem?_eq_getElem h, ?_⟩
  exact hdOf_iff.1 (List.findIdx_getElem (p := hdOf l F) (xs := R) (w := h))
theorem idxR_no {R : List Ru} {l : Int} {F : List Int} (h : ¬ idxR R l F < R.length) : ∀ r ∈ R, ¬ (r.sym = l ∧ r.fr = F) := fun r hr e => by
  have h1 : idxR R l F = R.length := by have := idxR_le R l F; omega
  have := List.findIdx_eq_length.1 h1 r hr
  rw [hdOf_iff.2 e] at this
  cases this
theorem addR_pre (R : List Ru) (l : Int) (F : List Int) : R <+: addR R l F := by
  unfold addR
  split
  · exact List.prefix_refl _
  · exact List.prefix_append _ _
theorem addR_len (R : List Ru) (l : Int) (F : List Int) : (addR R l F).length ≤ R.length + 1 := by
  unfold addR
  split <;> simp
theorem addR_at {al : List Int} {R : List Ru} (h : SgI al R) (l : Int) (F : List Int) : (addR R l F)[idxR R l F]? = some ⟨l, F, (idxR R l F : Nat)⟩ := by
  unfold addR
  split
  · rename_i hlt
    obtain ⟨r, h1, h2, h3⟩ := idxR_at hlt
    rw [h1]
    have h4 := h.to _ _ h1
    obtain ⟨a, b, c⟩ := r
    simp only at h2 h3 h4
    rw [h2, h3, h4]
  · rename_i hn
    have h1 : idxR R l F = R.length := by have := idxR_le R l F; omega
    rw [h1, List.getElem?_append_right (Nat.le_refl _)]
    simp
theorem addR_inv {al : List Int} {R : List Ru} (h : SgI al R) {l : Int} {F : List Int} (hF : ∀ x ∈ F, 0 ≤ x ∧ x < (R.length : Int)) (hl : 0 ≤ l ∧ l < al.length ∧ (F.length : Int) = al.getD l.toNat 0) : SgI al (addR R l F) := by
  unfold addR
  split
  · exact h
  · rename_i hn
    have hno := idxR_no hn
    have hget : ∀ (i : Nat) r, (R ++ [⟨l, F, (R.length : Int)⟩])[i]? = some r → R[i]? = some r ∨ (i = R.length ∧ r = ⟨l, F, (R.length : Int)⟩) := fun i r hi => by
      rcases Nat.lt_or_ge i R.length with g | g
      · rw [List.getElem?_append_left g] at hi
        exact .inl hi
      · rw [List.getElem?_append_right g] at hi
        have h0 : i - R.length = 0 := by
          rcases Nat.eq_zero_or_pos (i - R.length) with h0 | h0
          · exact h0
          · rw [List.getElem?_eq_none (by simp; omega)] at hi
            cases hi
        rw [h0] at hi
        simp only [List.getElem?_cons_zero, Option.some.injEq] at hi
        exact .inr ⟨by omega, hi.symm⟩
    refine ⟨fun i r hi => ?_, fun i r hi => ?_, fun i j r s hi hj e1 e2 => ?_, fun r hr => ?_⟩
    · rcases hget i r hi with g | ⟨rfl, rfl⟩
      · exact h.to i r g
      · rfl
    · rcases hget i r hi with g | ⟨rfl, rfl⟩
      · exact h.lt i r g
      · exact hF
    · rcases hget i r hi with g | ⟨g1, g2⟩
      · rcases hget j s hj with k | ⟨k1, k2⟩
        · exact h.hd i j r s g k e1 e2
        · subst k2
          exact absurd ⟨e1, e2⟩ (hno r (List.mem_of_getElem? g))
      · rcases hget j s hj with k | ⟨k1, k2⟩
        · subst g2
          exact absurd ⟨e1.symm, e2.symm⟩ (hno s (List.mem_of_getElem? k))
        · omega
    · rcases List.mem_append.1 hr with g | g
      · exact h.fit r g
      · rw [List.mem_singleton] at g
        subst g
        exact hl

theorem pre_len {α : Type} {a b : List α} (h : a <+: b) : a.length ≤ b.length := h.length_le
theorem pre_at {α : Type} {a b : List α} (h : a <+: b) {i : Nat} {x : α} (hx : a[i]? = some x) : b[i]? = some x := by
  obtain ⟨t, rfl⟩ := h
  rw [List.getElem?_append_left (List.getElem?_eq_some_iff.1 hx).1]
  exact hx
theorem fit_of {al : List Int} {l : Int} {n : Nat} (h : fit al l n = true) : 0 ≤ l ∧ l < al.length ∧ (n : Int) = al.getD l.toNat 0 := by
  unfold fit at h
  simp only [Bool.and_eq_true, decide_eq_true_eq, beq_iff_eq] at h
  exact h

structure SgO (al : List Int) (h : Hg) (R : List Ru) : Prop where
  inv : SgI al (sgH h R).2
  pre : R <+: (sgH h R).2
  len : (sgH h R).1.length = h.len
  lt : ∀ x ∈ (sgH h R).1, 0 ≤ x ∧ x < ((sgH h R).2.length : Int)
  siz : (sgH h R).2.length ≤ R.length + h.size
theorem sg_ok {al : List Int} : ∀ (h : Hg) (R : List Ru), SgI al R → h.fitAll al = true → SgO al h R
  | .nil, R, hi, _ => ⟨hi, List.prefix_refl _, rfl, (fun x hx => by cases hx), by simp [sgH, Hg.size]⟩
  | .cons l k r, R, hi, hf => by
    simp only [Hg.fitAll, Bool.and_eq_true] at hf
    have hl := fit_of hf.1
    have a := sg_ok k R hi hf.2.1
    have i2 := addR_inv a.inv a.lt (l := l) (by rw [a.len]; exact hl)
    have b := sg_ok r (addR (sgH k R).2 l (sgH k R).1) i2 hf.2.2
    have hq := addR_at a.inv l (sgH k R).1
    have hlt := (List.getElem?_eq_some_iff.1 hq).1
    have hp := pre_len b.pre
    have h3 := addR_len (sgH k R).2 l (sgH k R).1
    have h4 := a.siz
    have h5 := b.siz
    refine ⟨b.inv, (a.pre.trans (addR_pre _ _ _)).trans b.pre, by simp [sgH, Hg.len, b.len], fun x hx => ?_, ?_⟩
    · simp only [sgH] at hx ⊢
      rcases List.mem_cons.1 hx with rfl | hx
      · exact ⟨by omega, by omega⟩
      · exact b.lt x hx
    · simp only [sgH, Hg.size]
      omega

def sing (F : List Int) : List (List Int) := F.map fun q => [q]
theorem fits_sing : ∀ (F G : List Int), F.length = G.length → (fitsL (sing F) G = true ↔ G = F)
  | [], [], _ => by simp [sing, fitsL]
  | x :: F, y :: G, h => by
    have ih := fits_sing F G (by simpa using h)
    show (inB [x] y && fitsL (sing F) G) = true ↔ _
    rw [Bool.and_eq_true, ih, inB_iff, List.mem_singleton]
    constructor
    · rintro ⟨rfl, rfl⟩; rfl
    · intro e; cases e; exact ⟨rfl, rfl⟩
  | [], _ :: _, h => by simp at h
  | _ :: _, [], h => by simp at h
theorem step_sing {al : List Int} {R : List Ru} (h : SgI al R) {l : Int} {F : List Int} {q : Nat} (hq : R[q]? = some ⟨l, F, (q : Int)⟩) : stepL R l (sing F) [] = [(q : Int)] := by
  have hm := List.mem_of_getElem? hq
  have hF := h.fit _ hm
  refine sorted_eq (stepL_sorted l (sing F) R [] List.Pairwise.nil) (List.pairwise_singleton _ _) (fun x => ?_)
  rw [stepL_mem, List.mem_singleton]
  constructor
  · rintro (hx | ⟨r, hr, hs, rfl⟩)
    · cases hx
    · unfold stepF at hs
      rw [Bool.and_eq_true, beq_iff_eq] at hs
      have hrf := h.fit r hr
      have hlen : F.length = r.fr.length := by
        have h1 := hF.2.2
        have h2 := hrf.2.2
        rw [hs.1] at h2
        simp only at h1
        omega
      have e := (fits_sing F r.fr hlen).1 hs.2
      obtain ⟨i, hi⟩ := List.getElem?_of_mem hr
      have := h.hd i q r _ hi hq hs.1 e
      subst this
      rw [h.to i r hi]
  · rintro rfl
    refine .inr ⟨_, hm, ?_, rfl⟩
    unfold stepF
    rw [Bool.and_eq_true, beq_iff_eq]
    exact ⟨rfl, (fits_sing F F rfl).2 rfl⟩
/-- Each tree has one state. -/
theorem sg_of {al : List Int} : ∀ (h : Hg) (R R' : List Ru), SgI al R → h.fitAll al = true → (sgH h R).2 <+: R' → SgI al R' → ofL R' h = sing (sgH h R).1
  | .nil, R, R', _, _, _, _ => rfl
  | .cons l k r, R, R', hi, hf, hp, hi' => by
    simp only [Hg.fitAll, Bool.and_eq_true] at hf
    have a := sg_ok k R hi hf.2.1
    have i2 := addR_inv a.inv a.lt (l := l) (by rw [a.len]; exact fit_of hf.1)
    have b := sg_ok r (addR (sgH k R).2 l (sgH k R).1) i2 hf.2.2
    have hp2 : (sgH r (addR (sgH k R).2 l (sgH k R).1)).2 <+: R' := hp
    have e1 := sg_of k R R' hi hf.2.1 (((addR_pre _ _ _).trans b.pre).trans hp2) hi'
    have e2 := sg_of r _ R' i2 hf.2.2 hp2 hi'
    have hq := pre_at (b.pre.trans hp2) (addR_at a.inv l (sgH k R).1)
    show stepL R' l (ofL R' k) [] :: ofL R' r = _
    rw [e1, e2, step_sing hi' hq]
    rfl
/-- Each state is below those of the list. -/
theorem sg_use {al : List Int} (U : Nat → Prop) : ∀ (h : Hg) (R R' : List Ru), SgI al R → h.fitAll al = true → (sgH h R).2 <+: R' → (∀ r ∈ R', U r.to.toNat → ∀ x ∈ r.fr, U x.toNat) → (∀ x ∈ (sgH h R).1, U x.toNat) → ∀ i, R.length ≤ i → i < (sgH h R).2.length → U i
  | .nil, R, R', _, _, _, _, _, i, h1, h2 => by simp only [sgH] at h2; omega
  | .cons l k r, R, R', hi, hf, hp, hU, hF, i, h1, h2 => by
    simp only [Hg.fitAll, Bool.and_eq_true] at hf
    have a := sg_ok k R hi hf.2.1
    have i2 := addR_inv a.inv a.lt (l := l) (by rw [a.len]; exact fit_of hf.1)
    have b := sg_ok r (addR (sgH k R).2 l (sgH k R).1) i2 hf.2.2
    have hp2 : (sgH r (addR (sgH k R).2 l (sgH k R).1)).2 <+: R' := hp
    have h2' : i < (sgH r (addR (sgH k R).2 l (sgH k R).1)).2.length := h2
    have hq := pre_at (b.pre.trans hp2) (addR_at a.inv l (sgH k R).1)
    have hUq : U (idxR (sgH k R).2 l (sgH k R).1) := by
      have := hF ((idxR (sgH k R).2 l (sgH k R).1 : Nat) : Int) List.mem_cons_self
      simpa using this
    have hUF := hU _ (List.mem_of_getElem? hq) (by simpa using hUq)
    have hle := addR_len (sgH k R).2 l (sgH k R).1
    by_cases g1 : i < (sgH k R).2.length
    · exact sg_use U k R R' hi hf.2.1 (((addR_pre _ _ _).trans b.pre).trans hp2) hU hUF i h1 g1
    · by_cases g2 : i < (addR (sgH k R).2 l (sgH k R).1).length
      · have : i = idxR (sgH k R).2 l (sgH k R).1 := by
          have hid := idxR_le (sgH k R).2 l (sgH k R).1
          by_cases g3 : idxR (sgH k R).2 l (sgH k R).1 < (sgH k R).2.length
          · unfold addR at g2
            rw [if_pos g3] at g2
            omega
          · omega
        rw [this]
        exact hUq
      · exact sg_use U r _ R' i2 hf.2.2 hp2 hU (fun x hx => hF x (List.mem_cons_of_mem _ hx)) i (by omega) h2'

/-- The automaton of a tree. -/
def sgA (l : Int) (K : Hg) : Au := ⟨((addR (sgH K []).2 l (sgH K []).1).length : Int), [((idxR (sgH K []).2 l (sgH K []).1 : Nat) : Int)], addR (sgH K []).2 l (sgH K []).1⟩
theorem sgA_eq (l : Int) (K : Hg) : sgH (.cons l K .nil) [] = ((sgA l K).fin, (sgA l K).ru) := rfl
structure SgA (al : List Int) (l : Int) (K : Hg) : Prop where
  inv : SgI al (sgA l K).ru
  valid : validA al (sgA l K) = true
  one : oneB (sgA l K).ru = true
  has : hasB (sgA l K) l K = true
  used : IsUsd (sgA l K).ru (sgA l K).fin (sgA l K).st.toNat (List.replicate (sgA l K).st.toNat true)
  len : (sgA l K).ru.length ≤ K.size + 1
theorem SgI.rch {al : List Int} {R : List Ru} (h : SgI al R) : ∀ (n i : Nat), i < n → i < R.length → Rch R i
  | 0, i, hn, _ => by omega
  | n + 1, i, hn, hi => by
    have hr : R[i]? = some R[i] := List.getElem?_eq_getElem hi
    have := Rch.mk R[i] (List.getElem_mem hi) (fun s hs => by
      have := h.lt i _ hr s hs
      exact h.rch n s.toNat (by omega) (by omega))
    rw [h.to i _ hr] at this
    simpa using this
theorem sgA_ok {al : List Int} {l : Int} {K : Hg} (ht : tvalid al l K = true) : SgA al l K := by
  unfold tvalid at ht
  simp only [Bool.and_eq_true, decide_eq_true_eq] at ht
  obtain ⟨h1, h2, h3, h4⟩ := ht
  have hf : (Hg.cons l K .nil).fitAll al = true := by simp only [Hg.fitAll, Bool.and_eq_true]; exact ⟨h3, h4, trivial⟩
  have o := sg_ok (.cons l K .nil) [] (SgI.nil al) hf
  have hinv : SgI al (sgA l K).ru := o.inv
  have hsz : (sgA l K).ru.length ≤ K.size + 1 := by
    have := o.siz
    rw [sgA_eq] at this
    simpa [Hg.size] using this
  have hlt : ∀ x ∈ (sgA l K).fin, 0 ≤ x ∧ x < (((sgA l K).ru.length : Nat) : Int) := o.lt
  have hsts : ∀ r ∈ (sgA l K).ru, stIn (sgA l K).st r.to = true ∧ ∀ x ∈ r.fr, stIn (sgA l K).st x = true := fun r hr => by
    obtain ⟨i, hi⟩ := List.getElem?_of_mem hr
    have hi2 := (List.getElem?_eq_some_iff.1 hi).1
    have e : (sgA l K).st = (((sgA l K).ru.length : Nat) : Int) := rfl
    refine ⟨by rw [stIn_iff, e, hinv.to i r hi]; omega, fun x hx => ?_⟩
    have := hinv.lt i r hi x hx
    rw [stIn_iff, e]
    omega
  refine ⟨hinv, ?_, ?_, ?_, ?_, hsz⟩
  · unfold validA
    simp only [Bool.and_eq_true, decide_eq_true_eq]
    refine ⟨h1, ?_, ?_, ?_, ?_, ?_⟩
    · show (0 : Int) ≤ (((sgA l K).ru.length : Nat) : Int); omega
    · show (((sgA l K).ru.length : Nat) : Int) ≤ 300; omega
    · omega
    · rw [finB_iff]
      refine ⟨List.pairwise_singleton _ _, fun s hs => ?_⟩
      have := hlt s hs
      refine ⟨by omega, ?_⟩
      show s < (((sgA l K).ru.length : Nat) : Int)
      omega
    · rw [List.all_eq_true]
      intro r hr
      have hfr := hinv.fit r hr
      unfold ruB
      simp only [Bool.and_eq_true, decide_eq_true_eq, beq_iff_eq]
      exact ⟨hfr.1, hfr.2.1, hfr.2.2, (hsts r hr).1, List.all_eq_true.2 (hsts r hr).2⟩
  · unfold oneB
    rw [oneB'_iff]
    intro i r hi s hs
    rw [List.nil_append] at hs
    obtain ⟨j, hj⟩ := List.getElem?_of_mem hs
    rw [List.getElem?_take] at hj
    split at hj
    · rename_i hji
      cases hb : sameH r s with
      | false => rfl
      | true =>
        unfold sameH at hb
        rw [Bool.and_eq_true, beq_iff_eq] at hb
        have hb2 : r.fr = s.fr := by
          have h9 := hb.2
          unfold eqL at h9
          exact beq_iff_eq.1 h9
        have := hinv.hd i j r s hi hj hb.1 hb2
        omega
    · cases hj
  · have e := sg_of (.cons l K .nil) [] (sgA l K).ru (SgI.nil al) hf (List.prefix_refl _) hinv
    have e2 : stsL (sgA l K) l K = (sgA l K).fin := by
      have h0 : (stsL (sgA l K) l K) :: [] = sing (sgA l K).fin := e
      have h3 : sing (sgA l K).fin = [(sgA l K).fin] := rfl
      rw [h3] at h0
      exact (List.cons.inj h0).1
    unfold hasB
    rw [e2, meetB_iff]
    exact ⟨_, List.mem_cons_self, List.mem_cons_self⟩
  · refine ⟨by simp, fun i => ?_⟩
    have e : (sgA l K).st.toNat = (sgA l K).ru.length := by show ((((sgA l K).ru.length : Nat) : Int)).toNat = _; omega
    rw [getD_all, decide_eq_true_eq, e]
    constructor
    · intro hi
      have hR : ∀ j, j < (sgA l K).ru.length → Rch (sgA l K).ru j := fun j hj => hinv.rch (j + 1) j (by omega) hj
      refine sg_use (Usd (sgA l K).ru (sgA l K).fin) (.cons l K .nil) [] (sgA l K).ru (SgI.nil al) hf (List.prefix_refl _) (fun r hr hu x hx => ?_) (fun x hx => ?_) i (Nat.zero_le _) hi
      · refine Usd.src r hr (fun s hs => ?_) hu x hx
        have := stIn_iff.1 ((hsts r hr).2 s hs)
        exact hR _ (by have e3 : (sgA l K).st = (((sgA l K).ru.length : Nat) : Int) := rfl; omega)
      · have := hlt x hx
        exact Usd.fin x hx (hR _ (by omega))
    · intro hu
      cases hu.rch with
      | mk r hr hs =>
        have := stIn_iff.1 (hsts r hr).1
        have e3 : (sgA l K).st = (((sgA l K).ru.length : Nat) : Int) := rfl
        omega

theorem strS_nodup {L : List Ru} (h : StrS L) : L.Nodup := List.Pairwise.imp (fun {a b} hab e => by subst e; exact ltR_irrefl _ hab) h
theorem SgI.nodup {al : List Int} {R : List Ru} (h : SgI al R) : R.Nodup := by
  rw [List.Nodup, List.pairwise_iff_getElem]
  intro i j hi hj hij e
  have h1 := h.to i _ (List.getElem?_eq_getElem hi)
  have h2 := h.to j _ (List.getElem?_eq_getElem hj)
  rw [e] at h1
  omega
/-- What Trim leaves of it. -/
theorem sgA_trim {al : List Int} {l : Int} {K : Hg} (h : SgA al l K) {C : Au} (hT : TrimOf (sgA l K) (List.replicate (sgA l K).st.toNat true) C) : C.st = (sgA l K).st ∧ C.fin = (sgA l K).fin ∧ C.ru.Perm (sgA l K).ru := by
  have hV := h.valid
  unfold validA at hV
  simp only [Bool.and_eq_true, decide_eq_true_eq] at hV
  obtain ⟨h1, h2, h3, h4, h5, h6⟩ := hV
  have hst : (((sgA l K).st.toNat : Nat) : Int) = (sgA l K).st := by omega
  have hf : ∀ s ∈ (sgA l K).fin, stIn (((sgA l K).st.toNat : Nat) : Int) s = true := fun s hs => by
    rw [hst]
    exact fin_in (sgA l K).fin (-1) (by omega) h5 s hs
  have hr : ∀ r ∈ (sgA l K).ru, stIn (((sgA l K).st.toNat : Nat) : Int) r.to = true ∧ ∀ x ∈ r.fr, stIn (((sgA l K).st.toNat : Nat) : Int) x = true := fun r hr => by
    have := List.all_eq_true.1 h6 r hr
    unfold ruB at this
    simp only [Bool.and_eq_true, decide_eq_true_eq] at this
    rw [hst]
    exact ⟨this.2.2.2.1, fun x hx => List.all_eq_true.1 this.2.2.2.2 x hx⟩
  refine ⟨?_, ?_, ?_⟩
  · rw [hT.st, List.length_replicate, numK_all]
    omega
  · rw [hT.fin]
    unfold finK
    rw [List.filter_eq_self.2 (fun s hs => mark_all (hf s hs))]
    conv => rhs; rw [← List.map_id (sgA l K).fin]
    exact List.map_congr_left fun s hs => nuI_all (hf s hs)
  · have e : ruK (List.replicate (sgA l K).st.toNat true) (sgA l K).ru = (sgA l K).ru := by
      unfold ruK
      rw [List.filter_eq_self.2 (fun r hr2 => by
        unfold keepB
        rw [Bool.and_eq_true]
        exact ⟨mark_all (hr r hr2).1, List.all_eq_true.2 fun x hx => mark_all ((hr r hr2).2 x hx)⟩)]
      conv => rhs; rw [← List.map_id (sgA l K).ru]
      refine List.map_congr_left fun r hr2 => ?_
      obtain ⟨sy, fr, to⟩ := r
      unfold renum
      have e1 := nuI_all (hr _ hr2).1
      have e2 : fr.map (nuI (List.replicate (sgA l K).st.toNat true)) = fr := by
        conv => rhs; rw [← List.map_id fr]
        exact List.map_congr_left fun x hx => nuI_all ((hr _ hr2).2 x hx)
      simp only at e1
      rw [e1, e2]
      rfl
    refine (List.perm_ext_iff_of_nodup (strS_nodup hT.str) h.inv.nodup).2 (fun r => ?_)
    rw [hT.mem, e]
/-- Each state is the To of one rule. -/
theorem SgI.count {al : List Int} {R : List Ru} (h : SgI al R) {q : Nat} (hq : q < R.length) : R.countP (fun r => r.to.toNat == q) = 1 := by
  have h1 : R = R.take q ++ R[q] :: R.drop (q + 1) := by
    rw [← List.drop_eq_getElem_cons hq, List.take_append_drop]
  have hne : ∀ (i : Nat) r, R[i]? = some r → i ≠ q → ¬ (r.to.toNat == q) = true := fun i r hi hn e => by
    rw [beq_iff_eq, h.to i r hi] at e
    omega
  rw [h1, List.countP_append, List.countP_cons]
  have a : (R.take q).countP (fun r => r.to.toNat == q) = 0 := by
    rw [List.countP_eq_zero]
    intro r hr
    obtain ⟨i, hi⟩ := List.getElem?_of_mem hr
    rw [List.getElem?_take] at hi
    split at hi
    · exact hne i r hi (by omega)
    · cases hi
  have b : (R.drop (q + 1)).countP (fun r => r.to.toNat == q) = 0 := by
    rw [List.countP_eq_zero]
    intro r hr
    obtain ⟨i, hi⟩ := List.getElem?_of_mem hr
    rw [List.getElem?_drop] at hi
    exact hne _ r hi (by omega)
  have c : (R[q].to.toNat == q) = true := by
    rw [beq_iff_eq, h.to q _ (List.getElem?_eq_getElem hq)]
    omega
  rw [a, b, c]
  rfl

end Go.Proofs.YtedfldbknjcnlaaDoor
