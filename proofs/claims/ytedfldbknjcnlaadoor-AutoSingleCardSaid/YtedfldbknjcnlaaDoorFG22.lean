/- SortFunc and CompactFunc over rules of the call's own: at any number of them. Trim as data: the automaton of some states, renumbered. Numbers that grow keep the order of rules, as data. -/
import Derived.Test.YtedfldbknjcnlaaDoorFCq
import Derived.Shelf.SlSortCmp.NoneTotal
import Derived.Test.YtedfldbknjcnlaaDoorRSo
namespace Go.Proofs.YtedfldbknjcnlaaDoor
section
open Go.RowKit Go.Shelf Go.Maps Go.WideElems

theorem row3_nil {w : World} {B n : Nat} {e : TypeId} {v : Value} {xs : List Value} (h : w.ownsRow B e 3 v n xs) (hn : n = 0) : ∃ p c, v = .slice p 0 c := by
  rcases h.2 with ⟨rfl, _⟩ | ⟨g, cap, cur, rfl, _⟩
  · exact ⟨none, 0, rfl⟩
  · exact ⟨some ⟨g, 0, none⟩, cap, by rw [hn]⟩

theorem rsortA_ok (D : List (Ru × Value)) (hlen : D.length ≤ 20000) (v : Value) (B : Nat) (w : World) (ho : w.ownsRow B 70 3 v D.length (rcells D))
    (hD : ∀ x ∈ D, ∀ W, Kp (fun c => v.ownBlock ≠ some c) w W → IsInts W x.2 x.1.fr) (hR : ∀ x ∈ D, ∀ y ∈ D, x.1.sym = y.1.sym → x.1.fr.length = y.1.fr.length) :
    Calls Tryd.prog 86 #[v, .func (.func 87) #[] #[]] w fun e w' => e = .returned (.tuple #[]) ∧
      ∃ D' : List (Ru × Value), D'.Perm D ∧ D'.Pairwise (fun x y => ¬ ltR y.1 x.1) ∧ w'.ownsRow B 70 3 v D'.length (rcells D') ∧ Kp (fun c => v.ownBlock ≠ some c) w w' := by
  rcases Nat.eq_zero_or_pos D.length with h0 | h0
  · obtain ⟨p, c, rfl⟩ := row3_nil ho h0
    have hd := List.eq_nil_of_length_eq_zero h0
    subst hd
    refine (AnyF.slices_SortFunc_none sortRule p c _ w).mono ?_
    rintro e w' ⟨rfl, rfl⟩
    exact ⟨rfl, [], List.Perm.refl _, List.Pairwise.nil, ho, Kp.refl _ _⟩
  · obtain ⟨g, cap, rfl, _⟩ := row3_shape ho h0
    have e : ∀ c, (c ≠ g) ↔ ((Value.slice (some ⟨g, 0, none⟩) D.length cap).ownBlock ≠ some c) := fun c => by
      simp only [Value.ownBlock, ne_eq, Option.some.injEq]
      exact ⟨fun h k => h k.symm, fun h k => h k.symm⟩
    haveI : Inhabited (Fin D.length) := ⟨⟨0, h0⟩⟩
    refine (rsortF_ok D h0 (by omega) g cap B w ho (fun x hx W hW => hD x hx W (hW.mono (fun c _ h => (e c).2 h))) hR).mono ?_
    rintro x w' ⟨rfl, D', h1, h2, h3, h4⟩
    exact ⟨rfl, D', h1, h2, by rw [h1.length_eq]; exact h3, h4.mono (fun c _ h => (e c).2 h)⟩

set_option maxRecDepth 100000 in
theorem rcompA_ok (E : List (Ru × Value)) (hlen : E.length ≤ 20000) (v : Value) (B : Nat) (w : World) (ho : w.ownsRow B 70 3 v E.length (rcells E))
    (hD : ∀ x ∈ E, ∀ W, Kp (fun c => v.ownBlock ≠ some c) w W → IsInts W x.2 x.1.fr) (hR : ∀ x ∈ E, ∀ y ∈ E, x.1.sym = y.1.sym → x.1.fr.length = y.1.fr.length) (hE : E.Pairwise (fun x y => ¬ ltR y.1 x.1)) :
    Calls Tryd.prog 88 #[v, .func (.func 89) #[] #[]] w fun e w' =>
      (∃ (u : Value) (F : List (Ru × Value)), e = .returned u ∧ w'.ownsRow B 70 3 u F.length (rcells F) ∧ StrS (F.map Prod.fst) ∧ (∀ r, r ∈ F.map Prod.fst ↔ r ∈ E.map Prod.fst) ∧ (∀ x ∈ F, x ∈ E) ∧ F.length ≤ E.length) ∧ Kp (fun c => v.ownBlock ≠ some c) w w' := by
  rcases Nat.eq_zero_or_pos E.length with h0 | h0
  · obtain ⟨p, c, rfl⟩ := row3_nil ho h0
    have hd := List.eq_nil_of_length_eq_zero h0
    subst hd
    have HO := Lib.hid ho
    clear ho hD hR hE hlen h0
    go_enter Tryd.func88, Tryd.ntmps88
    go_wp2_with fail
    go_ret
    exact ⟨⟨_, [], rfl, HO.out, List.Pairwise.nil, fun r => Iff.rfl, fun x h => h, Nat.le_refl _⟩, Kp.refl _ _⟩
  · obtain ⟨g, cap, rfl, _⟩ := row3_shape ho h0
    have e : ∀ c, (c ≠ g) ↔ ((Value.slice (some ⟨g, 0, none⟩) E.length cap).ownBlock ≠ some c) := fun c => by
      simp only [Value.ownBlock, ne_eq, Option.some.injEq]
      exact ⟨fun h k => h k.symm, fun h k => h k.symm⟩
    refine (rcompact_ok E E.length rfl h0 hlen g cap B w ho (fun x hx W hW => hD x hx W (hW.mono (fun c _ h => (e c).2 h))) hR).mono ?_
    rintro x w' ⟨rfl, h1, h2⟩
    obtain ⟨h3, h4⟩ := cmpd_ok E hE E.length (Nat.le_refl _)
    rw [List.take_length] at h4
    exact ⟨⟨_, cmpd E E.length, rfl, h1, h3, h4, fun x hx => by have := cmpd_sub E E.length x hx; rwa [List.take_length] at this, cmpd_len E E.length⟩, h2.mono (fun c _ h => (e c).2 h)⟩
end

section
open Go.RowKit Go.Shelf Go.Maps Go.WideElems

/-- The number of a state: how many marked ones come before it. -/
def numK (M : List Bool) (s : Nat) : Nat := (M.take s).count true
/-- .. as the reference keeps it: 0 where there is no mark. -/
def numR (M : List Bool) (s : Nat) : Nat := if M.getD s false = true then numK M s else 0
theorem numK_succ {M : List Bool} {k : Nat} {b : Bool} (h : M[k]? = some b) : numK M (k + 1) = numK M k + if b then 1 else 0 := by
  unfold numK
  rw [List.take_add_one, h, List.count_append]
  cases b <;> simp
theorem numK_le (M : List Bool) (s : Nat) : numK M s ≤ s := by
  unfold numK
  have h := List.count_le_length (a := true) (l := M.take s)
  rw [List.length_take] at h
  omega
theorem numR_le (M : List Bool) (s : Nat) : numR M s ≤ s := by
  unfold numR
  split
  · exact numK_le M s
  · exact Nat.zero_le _
def nuI (M : List Bool) (s : Int) : Int := (numK M s.toNat : Int)
def nuR (M : List Bool) (s : Int) : Int := (numR M s.toNat : Int)
theorem nuR_eq {M : List Bool} {s : Int} (h : M.getD s.toNat false = true) : nuR M s = nuI M s := by unfold nuR nuI numR; rw [if_pos h]
def keepB (M : List Bool) (r : Ru) : Bool := M.getD r.to.toNat false && mkd M r.fr
def renum (M : List Bool) (r : Ru) : Ru := ⟨r.sym, r.fr.map (nuI M), nuI M r.to⟩
theorem map_nuR {M : List Bool} {l : List Int} (h : mkd M l = true) : l.map (nuR M) = l.map (nuI M) :=
  List.map_congr_left fun s hs => nuR_eq (List.all_eq_true.1 h s hs)
/-- The final states that are kept. -/
def finK (M : List Bool) (F : List Int) : List Int := (F.filter fun s => M.getD s.toNat false).map (nuI M)
theorem finK_app (M : List Bool) (F G : List Int) : finK M (F ++ G) = finK M F ++ finK M G := by unfold finK; rw [List.filter_append, List.map_append]
theorem finK_one (M : List Bool) (x : Int) : finK M [x] = if M.getD x.toNat false = true then [nuI M x] else [] := by
  unfold finK
  rw [List.filter_cons]
  by_cases h : M.getD x.toNat false = true
  · rw [if_pos h, if_pos h]; rfl
  · rw [if_neg h, if_neg h]; rfl
theorem finK_len (M : List Bool) (F : List Int) : (finK M F).length ≤ F.length := by unfold finK; rw [List.length_map]; exact List.length_filter_le _ _
/-- The rules that are kept, in the order of the given ones. -/
def ruK (M : List Bool) (R : List Ru) : List Ru := (R.filter (keepB M)).map (renum M)
theorem ruK_app (M : List Bool) (R S : List Ru) : ruK M (R ++ S) = ruK M R ++ ruK M S := by unfold ruK; rw [List.filter_append, List.map_append]
theorem ruK_one (M : List Bool) (r : Ru) : ruK M [r] = if keepB M r = true then [renum M r] else [] := by
  unfold ruK
  cases h : keepB M r <;> simp [h]
theorem ruK_len (M : List Bool) (R : List Ru) : (ruK M R).length ≤ R.length := by unfold ruK; rw [List.length_map]; exact List.length_filter_le _ _
/-- What Trim answers, when M marks the useful states. -/
structure TrimOf (A : Au) (M : List Bool) (B : Au) : Prop where
  st : B.st = (numK M M.length : Int)
  fin : B.fin = finK M A.fin
  str : StrS B.ru
  mem : ∀ r, r ∈ B.ru ↔ r ∈ ruK M A.ru
theorem TrimOf.uniq {A B B' : Au} {M : List Bool} (h : TrimOf A M B) (h' : TrimOf A M B') : B = B' := by
  obtain ⟨st, fin, ru⟩ := B
  obtain ⟨st', fin', ru'⟩ := B'
  have h1 := h.st.trans h'.st.symm
  have h2 := h.fin.trans h'.fin.symm
  have h3 : ru = ru' := strS_ext h.str h'.str (fun r => (h.mem r).trans (h'.mem r).symm)
  simp only at h1 h2
  subst h1 h2 h3
  rfl

/-- The numbers that are laid when k states were seen. -/
def numL (M : List Bool) (k : Nat) : List Int := (List.range M.length).map fun i => if i < k then (numR M i : Int) else 0
theorem numL_len (M : List Bool) (k : Nat) : (numL M k).length = M.length := by unfold numL; simp
theorem numL_zero (M : List Bool) : numL M 0 = List.replicate M.length 0 := by
  unfold numL
  simp only [Nat.not_lt_zero, if_false]
  rw [List.map_const', List.length_range]
theorem numL_at {M : List Bool} {k i : Nat} (hi : i < M.length) (hk : i < k) : (numL M k).getD i 0 = (numR M i : Int) := by
  unfold numL
  rw [List.getD_eq_getElem?_getD, List.getElem?_map, List.getElem?_range hi]
  simp [hk]
theorem numL_next {M : List Bool} {k : Nat} (hk : k < M.length) : numL M (k + 1) = if M.getD k false = true then (numL M k).set k (numK M k : Int) else numL M k := by
  have hne : ∀ i : Nat, k ≠ i → (numL M (k + 1))[i]? = (numL M k)[i]? := fun i h => by
    unfold numL
    rw [List.getElem?_map, List.getElem?_map]
    by_cases hi : i < M.length
    · rw [List.getElem?_range hi]
      have : (i < k + 1) ↔ (i < k) := by omega
      simp only [Option.map_some, this]
    · rw [List.getElem?_eq_none (by simp; omega)]; rfl
  have hkk : (numL M (k + 1))[k]? = some (numR M k : Int) := by
    unfold numL
    rw [List.getElem?_map, List.getElem?_range hk]
    simp
  cases hm : M.getD k false with
  | true =>
    rw [if_pos rfl]
    apply List.ext_getElem?
    intro i
    by_cases e : k = i
    · subst e
      rw [hkk, List.getElem?_set_self (by rw [numL_len]; exact hk)]
      unfold numR
      rw [if_pos hm]
    · rw [hne i e, List.getElem?_set_ne e]
  | false =>
    rw [if_neg (by simp)]
    apply List.ext_getElem?
    intro i
    by_cases e : k = i
    · subst e
      rw [hkk]
      unfold numR
      rw [hm, if_neg (by simp)]
      unfold numL
      rw [List.getElem?_map, List.getElem?_range hk]
      simp
    · exact hne i e

/-- A list of numbers in a block of numbers that lies at B or behind. -/
def IsIntsT (B : Nat) (w : World) (v : Value) (l : List Int) : Prop :=
  ∃ p c, v = .slice p l.length c ∧ l.length ≤ c ∧ c ≤ maxLen ∧ (l ≠ [] → ∃ b o cur, p = some ⟨b, o, none⟩ ∧ B ≤ b ∧ Blk w b 3 cur ∧ ∀ (i : Nat) (x : Int), l[i]? = some x → w.cell? ⟨b, o + i, none⟩ = some (.int .i64 x))
theorem IsIntsT.isInts {B : Nat} {w : World} {v : Value} {l : List Int} (h : IsIntsT B w v l) : IsInts w v l := by
  obtain ⟨p, c, e, h1, h2, h3⟩ := h
  exact ⟨p, c, e, h1, h2, fun hne => by obtain ⟨b, o, cur, e2, _, _, hc⟩ := h3 hne; exact ⟨b, o, e2, hc⟩⟩
theorem IsIntsT.kp {B : Nat} {S : Nat → Prop} {w w' : World} {v : Value} {l : List Int} (h : IsIntsT B w v l) (hk : Kp S w w') (hS : ∀ b cur, B ≤ b → Blk w b 3 cur → S b) : IsIntsT B w' v l := by
  obtain ⟨p, c, e, h1, h2, h3⟩ := h
  refine ⟨p, c, e, h1, h2, fun hne => ?_⟩
  obtain ⟨b, o, cur, e2, hB, hb, hc⟩ := h3 hne
  exact ⟨b, o, cur, e2, hB, hb.kp hk (hS b cur hB hb), fun i x hx => hk.cell (hc i x hx) (hS b cur hB hb)⟩
theorem own_intsT {W : World} {B B' n : Nat} {v : Value} {l : List Int} (h : W.ownsRow B' 3 1 v n (intV l)) (hBB : B ≤ B') : IsIntsT B W v l := by
  have hn : n = l.length := by have := h.1; rw [intV_len] at this; omega
  subst hn
  rcases h.2 with ⟨rfl, h0⟩ | ⟨g, cap, cur, rfl, hB, hg, h1, h2, _, ht⟩
  · have := List.eq_nil_of_length_eq_zero h0
    subst this
    exact ⟨none, 0, rfl, Nat.le_refl _, Nat.zero_le _, fun h => absurd rfl h⟩
  · refine ⟨_, _, rfl, h1, h2, fun _ => ⟨g, 0, cur, rfl, Nat.le_trans hBB hB, hg, fun i x hx => ?_⟩⟩
    rw [cell_of_row W g (0 + i) cur _ (0, 0) hg, Nat.zero_add]
    have h2 : (intV l)[i]? = some (.int .i64 x) := by unfold intV; rw [List.getElem?_map, hx]; rfl
    rw [← ht, List.getElem?_take] at h2
    split at h2
    · simpa using h2
    · cases h2
/-- An automaton that stays as long as what lies at B or behind stays. -/
def IsAuK (B : Nat) (w : World) (v : Value) (A : Au) : Prop := ∀ W, Kp (fun c => B ≤ c) w W → IsAu W v A
theorem IsAuK.isAu {B : Nat} {w : World} {v : Value} {A : Au} (h : IsAuK B w v A) : IsAu w v A := h w (Kp.refl _ _)
theorem IsAuK.kp {B : Nat} {w w' : World} {v : Value} {A : Au} (h : IsAuK B w v A) (hk : Kp (fun c => B ≤ c) w w') : IsAuK B w' v A := fun W hW => h W (hk.trans hW)
end

section
open Go.RowKit Go.Shelf Go.Maps Go.WideElems

theorem numK_mono (M : List Bool) {s t : Nat} (h : s ≤ t) : numK M s ≤ numK M t := by
  unfold numK
  have e : M.take s = (M.take t).take s := by rw [List.take_take, Nat.min_eq_left h]
  rw [e]
  exact (List.take_sublist s (M.take t)).count_le true
theorem numK_lt {M : List Bool} {s t : Nat} (hs : M.getD s false = true) : numK M s < numK M t ↔ s < t := by
  have hs2 : M[s]? = some true := by
    rw [List.getD_eq_getElem?_getD] at hs
    cases h : M[s]? with
    | none => rw [h] at hs; cases hs
    | some b => rw [h] at hs; simp at hs; rw [hs]
  have h1 := numK_succ hs2
  rw [if_pos rfl] at h1
  constructor
  · intro h
    rcases Nat.lt_or_ge s t with g | g
    · exact g
    · have := numK_mono M g; omega
  · intro h
    have := numK_mono M (show s + 1 ≤ t from h)
    omega
theorem nuI_lt {M : List Bool} {s t : Int} (hs : M.getD s.toNat false = true) (h0 : 0 ≤ s) (h1 : 0 ≤ t) : nuI M s < nuI M t ↔ s < t := by
  unfold nuI
  have := numK_lt (M := M) (s := s.toNat) (t := t.toNat) hs
  omega
theorem lessL_map (f : Int → Int) : ∀ (l m : List Int), (∀ a ∈ l, ∀ b ∈ m, (f a < f b ↔ a < b) ∧ (f b < f a ↔ b < a)) → lessL (l.map f) (m.map f) = lessL l m
  | [], [], _ => rfl
  | [], _ :: _, _ => rfl
  | _ :: _, [], _ => rfl
  | a :: l, b :: m, h => by
    have h1 := h a List.mem_cons_self b List.mem_cons_self
    have ih := lessL_map f l m (fun x hx y hy => h x (List.mem_cons_of_mem _ hx) y (List.mem_cons_of_mem _ hy))
    rw [List.map_cons, List.map_cons, lessL, lessL, ih]
    by_cases g : a < b
    · rw [if_pos g, if_pos (h1.1.2 g)]
    · rw [if_neg g, if_neg (fun k => g (h1.1.1 k))]
      by_cases k : b < a
      · rw [if_pos k, if_pos (h1.2.2 k)]
      · rw [if_neg k, if_neg (fun j => k (h1.2.1 j))]
/-- The states of a rule: none is negative, all are marked. -/
def MarkR (M : List Bool) (r : Ru) : Prop := ∀ s ∈ r.fr ++ [r.to], 0 ≤ s ∧ M.getD s.toNat false = true
theorem markR_of {M : List Bool} {r : Ru} (h : keepB M r = true) (h0 : ∀ s ∈ r.fr ++ [r.to], 0 ≤ s) : MarkR M r := fun s hs => by
  refine ⟨h0 s hs, ?_⟩
  unfold keepB at h
  rw [Bool.and_eq_true] at h
  rcases List.mem_append.1 hs with g | g
  · exact List.all_eq_true.1 h.2 s g
  · rw [List.mem_singleton] at g
    subst g
    exact h.1
theorem ltR_renum {M : List Bool} {x y : Ru} (hx : MarkR M x) (hy : MarkR M y) : ltR (renum M x) (renum M y) ↔ ltR x y := by
  have e : ∀ r : Ru, keyL (renum M r) = r.sym :: (r.fr ++ [r.to]).map (nuI M) := fun r => by
    unfold keyL renum
    simp
  have h := lessL_map (nuI M) (x.fr ++ [x.to]) (y.fr ++ [y.to]) (fun a ha b hb => ⟨nuI_lt (hx a ha).2 (hx a ha).1 (hy b hb).1, nuI_lt (hy b hb).2 (hy b hb).1 (hx a ha).1⟩)
  unfold ltR
  rw [e, e]
  show lessL _ _ < 0 ↔ lessL (x.sym :: (x.fr ++ [x.to])) (y.sym :: (y.fr ++ [y.to])) < 0
  rw [lessL, lessL, h]
theorem ruK_str {M : List Bool} {F : List Ru} (hF : StrS F) (h0 : ∀ r ∈ F, ∀ s ∈ r.fr ++ [r.to], 0 ≤ s) : StrS (ruK M F) := by
  unfold StrS ruK at *
  rw [List.pairwise_map]
  have h1 : (F.filter (keepB M)).Pairwise ltR := hF.filter _
  refine h1.imp_of_mem ?_
  intro a b ha hb hab
  obtain ⟨ha1, ha2⟩ := List.mem_filter.1 ha
  obtain ⟨hb1, hb2⟩ := List.mem_filter.1 hb
  exact (ltR_renum (markR_of ha2 (h0 a ha1)) (markR_of hb2 (h0 b hb1))).2 hab
theorem ruK_mem {M : List Bool} {F G : List Ru} (h : ∀ r, r ∈ F ↔ r ∈ G) (r : Ru) : r ∈ ruK M F ↔ r ∈ ruK M G := by
  unfold ruK
  simp only [List.mem_map, List.mem_filter, h]
end

end Go.Proofs.YtedfldbknjcnlaaDoor
