/- ref03.Less. The order of rules as data: keys, strictly sorted lists, insertion. -/
import Derived.Test.YtedfldbknjcnlaaDoorFG12
namespace Go.Proofs.YtedfldbknjcnlaaDoor
section
open Go.RowKit Go.Shelf Go.Maps Go.WideElems

def lessL : List Int → List Int → Int
  | [], [] => 0
  | [], _ :: _ => -1
  | _ :: _, [] => 1
  | a :: l, b :: m => if a < b then -1 else if b < a then 1 else lessL l m
theorem lessL_drop {l m : List Int} {k : Nat} {x y : Int} (hx : l[k]? = some x) (hy : m[k]? = some y) : lessL (l.drop k) (m.drop k) = if x < y then -1 else if y < x then 1 else lessL (l.drop (k + 1)) (m.drop (k + 1)) := by
  obtain ⟨h1, rfl⟩ := List.getElem?_eq_some_iff.1 hx
  obtain ⟨h2, rfl⟩ := List.getElem?_eq_some_iff.1 hy
  rw [List.drop_eq_getElem_cons h1, List.drop_eq_getElem_cons h2]
  rfl
theorem lessL_end {l m : List Int} {k : Nat} (h : k = min l.length m.length) : lessL (l.drop k) (m.drop k) = if l.length < m.length then -1 else if m.length < l.length then 1 else 0 := by
  rcases Nat.lt_trichotomy l.length m.length with h1 | h1 | h1
  · have hk : k = l.length := by omega
    subst hk
    rw [if_pos h1, List.drop_of_length_le (Nat.le_refl _), List.drop_eq_getElem_cons h1]
    rfl
  · rw [if_neg (by omega), if_neg (by omega), List.drop_of_length_le (by omega), List.drop_of_length_le (by omega)]
    rfl
  · have hk : k = m.length := by omega
    subst hk
    rw [if_neg (by omega), if_pos h1, List.drop_of_length_le (Nat.le_refl _), List.drop_eq_getElem_cons h1]
    rfl

set_option maxRecDepth 100000 in
set_option maxHeartbeats 2000000 in
theorem rless_ok (l m : List Int) (v v' : Value) (w : World) (hv : IsInts w v l) (hv' : IsInts w v' m) :
    Calls Tryd.prog 111 #[v, v'] w fun e w' => e = .returned (.int .i64 (lessL l m)) ∧ Below w.heap.size w w' := by
  obtain ⟨p, c, rfl, h1, h2, hc⟩ := hv
  obtain ⟨p', c', rfl, h1', h2', hc'⟩ := hv'
  unfold maxLen at h2 h2'
  have HC := Lib.hid hc
  have HC' := Lib.hid hc'
  have HB := Lib.hid (Below.refl w.heap.size w)
  clear hc hc'
  rcases Nat.lt_or_ge m.length l.length with g | g
  · have gi : (m.length : Int) < (l.length : Int) := by omega
    have HMU : Hid (m.length = min l.length m.length) := Lib.hid (by omega)
    have hml : m.length ≤ l.length := by omega
    have hml' : m.length ≤ m.length := by omega
    go_enter Tryd.func111, Tryd.ntmps111
    go_wp2_with fail
    go_loopw [11] (fun iv wr => ∃ k : Nat, iv = .int .i64 (k : Nat) ∧ k ≤ m.length ∧ Hid (lessL l m = lessL (l.drop k) (m.drop k)) ∧ Hid (Below w.heap.size w wr)) (fun iv _ => m.length - (intOf iv).toNat)
    case atStart => exact ⟨0, rfl, by omega, Lib.hid rfl, HB⟩
    case round =>
      rename World => wr
      obtain ⟨k, rfl, hk, HE, HBr⟩ := hrel
      by_cases hlt : k < m.length
      · obtain ⟨x, hx⟩ : ∃ x, l[k]? = some x := ⟨_, List.getElem?_eq_getElem (by omega)⟩
        obtain ⟨y, hy⟩ : ∃ y, m[k]? = some y := ⟨_, List.getElem?_eq_getElem (by omega)⟩
        obtain ⟨b, o, rfl, hcl⟩ := HC.out (fun h => by simp [h] at hx)
        obtain ⟨b', o', rfl, hcl'⟩ := HC'.out (fun h => by simp [h] at hy)
        have q0 : wr.cell? ⟨b, o + k, none⟩ = some (.int .i64 x) := cell_later HBr.out (hcl k _ hx)
        have q1 : wr.cell? ⟨b', o' + k, none⟩ = some (.int .i64 y) := cell_later HBr.out (hcl' k _ hy)
        have l0 := World.block_lt_of_cell? _ _ q0
        have l1 := World.block_lt_of_cell? _ _ q1
        simp only at l0 l1
        have HN := Lib.hid (HE.out.trans (lessL_drop hx hy))
        have hk1 : (k : Int) < (m.length : Int) := by omega
        have hk2 : (k : Int) < (l.length : Int) := by omega
        have hk3 : (k : Int) < (m.length : Int) := by omega
        clear hcl hcl' hx hy
        by_cases hxy : x < y
        · have HR : Hid (lessL l m = -1) := Lib.hid (by rw [HN.out, if_pos hxy])
          have d1 : decide (x < y) = true := decide_eq_true hxy
          go_wp2_with fail
          go_quiet (fail)
          go_wp2_with fail
          go_ret
          exact ⟨by rw [HR.out]; rfl, below_drewN HBr.out _⟩
        · by_cases hyx : y < x
          · have HR : Hid (lessL l m = 1) := Lib.hid (by rw [HN.out, if_neg hxy, if_pos hyx])
            have d1 : decide (x < y) = false := decide_eq_false hxy
            have d2 : decide (y < x) = true := decide_eq_true hyx
            go_wp2_with fail
            go_quiet (fail)
            go_wp2_with fail
            go_quiet (fail)
            go_wp2_with fail
            go_ret
            exact ⟨by rw [HR.out]; rfl, below_drewN (below_drewN HBr.out _) _⟩
          · have HR : Hid (lessL l m = lessL (l.drop (k + 1)) (m.drop (k + 1))) := Lib.hid (by rw [HN.out, if_neg hxy, if_neg hyx])
            have d1 : decide (x < y) = false := decide_eq_false hxy
            have d2 : decide (y < x) = false := decide_eq_false hyx
            go_wp2_with fail
            go_quiet (fail)
            go_wp2_with fail
            go_quiet (fail)
            go_wp2_with fail
            go_roundw
            case rel => exact ⟨k + 1, by go_num, by omega, HR, Lib.hid (below_drewN HBr.out _)⟩
            case measure => simp [intOf]; omega
      · have hke : k = m.length := by omega
        have HR : Hid (lessL l m = if l.length < m.length then -1 else if m.length < l.length then 1 else 0) := Lib.hid (by rw [HE.out, lessL_end (hke.trans HMU.out)])
        have hkd : decide (k < m.length) = false := decide_eq_false hlt
        have hkd2 : decide ((k : Int) < (m.length : Int)) = false := decide_eq_false (by omega)
        clear hke
        rcases Nat.lt_trichotomy l.length m.length with g1 | g1 | g1
        · have HF : Hid (lessL l m = -1) := Lib.hid (by rw [HR.out, if_pos g1])
          have d1 : (l.length : Int) < (m.length : Int) := by omega
          go_wp2_with fail
          go_ret
          exact ⟨by rw [HF.out]; rfl, HBr.out⟩
        · exact absurd g1 (by omega)
        · have HF : Hid (lessL l m = 1) := Lib.hid (by rw [HR.out, if_neg (by omega), if_pos g1])
          have d1 : ¬ (l.length : Int) < (m.length : Int) := by omega
          have d2 : (m.length : Int) < (l.length : Int) := by omega
          go_wp2_with fail
          go_ret
          exact ⟨by rw [HF.out]; rfl, HBr.out⟩

  · have gi : ¬ (m.length : Int) < (l.length : Int) := by omega
    have HMU : Hid (l.length = min l.length m.length) := Lib.hid (by omega)
    have hml : l.length ≤ l.length := by omega
    have hml' : l.length ≤ m.length := by omega
    go_enter Tryd.func111, Tryd.ntmps111
    go_wp2_with fail
    go_loopw [11] (fun iv wr => ∃ k : Nat, iv = .int .i64 (k : Nat) ∧ k ≤ l.length ∧ Hid (lessL l m = lessL (l.drop k) (m.drop k)) ∧ Hid (Below w.heap.size w wr)) (fun iv _ => l.length - (intOf iv).toNat)
    case atStart => exact ⟨0, rfl, by omega, Lib.hid rfl, HB⟩
    case round =>
      rename World => wr
      obtain ⟨k, rfl, hk, HE, HBr⟩ := hrel
      by_cases hlt : k < l.length
      · obtain ⟨x, hx⟩ : ∃ x, l[k]? = some x := ⟨_, List.getElem?_eq_getElem (by omega)⟩
        obtain ⟨y, hy⟩ : ∃ y, m[k]? = some y := ⟨_, List.getElem?_eq_getElem (by omega)⟩
        obtain ⟨b, o, rfl, hcl⟩ := HC.out (fun h => by simp [h] at hx)
        obtain ⟨b', o', rfl, hcl'⟩ := HC'.out (fun h => by simp [h] at hy)
        have q0 : wr.cell? ⟨b, o + k, none⟩ = some (.int .i64 x) := cell_later HBr.out (hcl k _ hx)
        have q1 : wr.cell? ⟨b', o' + k, none⟩ = some (.int .i64 y) := cell_later HBr.out (hcl' k _ hy)
        have l0 := World.block_lt_of_cell? _ _ q0
        have l1 := World.block_lt_of_cell? _ _ q1
        simp only at l0 l1
        have HN := Lib.hid (HE.out.trans (lessL_drop hx hy))
        have hk1 : (k : Int) < (l.length : Int) := by omega
        have hk2 : (k : Int) < (l.length : Int) := by omega
        have hk3 : (k : Int) < (m.length : Int) := by omega
        clear hcl hcl' hx hy
        by_cases hxy : x < y
        · have HR : Hid (lessL l m = -1) := Lib.hid (by rw [HN.out, if_pos hxy])
          have d1 : decide (x < y) = true := decide_eq_true hxy
          go_wp2_with fail
          go_quiet (fail)
          go_wp2_with fail
          go_ret
          exact ⟨by rw [HR.out]; rfl, below_drewN HBr.out _⟩
        · by_cases hyx : y < x
          · have HR : Hid (lessL l m = 1) := Lib.hid (by rw [HN.out, if_neg hxy, if_pos hyx])
            have d1 : decide (x < y) = false := decide_eq_false hxy
            have d2 : decide (y < x) = true := decide_eq_true hyx
            go_wp2_with fail
            go_quiet (fail)
            go_wp2_with fail
            go_quiet (fail)
            go_wp2_with fail
            go_ret
            exact ⟨by rw [HR.out]; rfl, below_drewN (below_drewN HBr.out _) _⟩
          · have HR : Hid (lessL l m = lessL (l.drop (k + 1)) (m.drop (k + 1))) := Lib.hid (by rw [HN.out, if_neg hxy, if_neg hyx])
            have d1 : decide (x < y) = false := decide_eq_false hxy
            have d2 : decide (y < x) = false := decide_eq_false hyx
            go_wp2_with fail
            go_quiet (fail)
            go_wp2_with fail
            go_quiet (fail)
            go_wp2_with fail
            go_roundw
            case rel => exact ⟨k + 1, by go_num, by omega, HR, Lib.hid (below_drewN HBr.out _)⟩
            case measure => simp [intOf]; omega
      · have hke : k = l.length := by omega
        have HR : Hid (lessL l m = if l.length < m.length then -1 else if m.length < l.length then 1 else 0) := Lib.hid (by rw [HE.out, lessL_end (hke.trans HMU.out)])
        have hkd : decide (k < l.length) = false := decide_eq_false hlt
        have hkd2 : decide ((k : Int) < (l.length : Int)) = false := decide_eq_false (by omega)
        clear hke
        rcases Nat.lt_trichotomy l.length m.length with g1 | g1 | g1
        · have HF : Hid (lessL l m = -1) := Lib.hid (by rw [HR.out, if_pos g1])
          have d1 : (l.length : Int) < (m.length : Int) := by omega
          go_wp2_with fail
          go_ret
          exact ⟨by rw [HF.out]; rfl, HBr.out⟩
        · have HF : Hid (lessL l m = 0) := Lib.hid (by rw [HR.out, if_neg (by omega), if_neg (by omega)])
          have d1 : ¬ (l.length : Int) < (m.length : Int) := by omega
          have d2 : ¬ (m.length : Int) < (l.length : Int) := by omega
          have HG1 := Lib.hid g1
          clear g1
          go_wp2_with fail
          go_ret
          exact ⟨by rw [HF.out]; rfl, HBr.out⟩
        · have HF : Hid (lessL l m = 1) := Lib.hid (by rw [HR.out, if_neg (by omega), if_pos g1])
          have d1 : ¬ (l.length : Int) < (m.length : Int) := by omega
          have d2 : (m.length : Int) < (l.length : Int) := by omega
          go_wp2_with fail
          go_ret
          exact ⟨by rw [HF.out]; rfl, HBr.out⟩
end

section
open Go.RowKit Go.Shelf Go.Maps Go.WideElems

theorem lessL_refl : ∀ l : List Int, lessL l l = 0
  | [] => rfl
  | a :: l => by rw [lessL, if_neg (by omega), if_neg (by omega)]; exact lessL_refl l
theorem lessL_eq : ∀ {l m : List Int}, lessL l m = 0 → l = m
  | [], [], _ => rfl
  | [], _ :: _, h => by simp [lessL] at h
  | _ :: _, [], h => by simp [lessL] at h
  | a :: l, b :: m, h => by
    rw [lessL] at h
    split at h
    · cases h
    · split at h
      · cases h
      · have := lessL_eq h
        subst this
        have : a = b := by omega
        rw [this]
theorem lessL_anti : ∀ l m : List Int, lessL m l = - lessL l m
  | [], [] => rfl
  | [], _ :: _ => rfl
  | _ :: _, [] => rfl
  | a :: l, b :: m => by
    rw [lessL, lessL]
    rcases Int.lt_trichotomy a b with h | h | h
    · rw [if_neg (by omega), if_pos h, if_pos h]; rfl
    · subst h
      rw [if_neg (by omega), if_neg (by omega), if_neg (by omega), if_neg (by omega)]
      exact lessL_anti l m
    · rw [if_pos h, if_neg (by omega), if_pos h]
theorem lessL_val : ∀ l m : List Int, lessL l m = -1 ∨ lessL l m = 0 ∨ lessL l m = 1
  | [], [] => .inr (.inl rfl)
  | [], _ :: _ => .inl rfl
  | _ :: _, [] => .inr (.inr rfl)
  | a :: l, b :: m => by
    rw [lessL]
    split
    · exact .inl rfl
    · split
      · exact .inr (.inr rfl)
      · exact lessL_val l m
theorem lessL_trans : ∀ {l m k : List Int}, lessL l m < 0 → lessL m k < 0 → lessL l k < 0
  | [], [], _, h, _ => by simp [lessL] at h
  | [], _ :: _, [], _, h => by simp [lessL] at h
  | [], _ :: _, _ :: _, _, _ => by simp [lessL]
  | _ :: _, [], _, h, _ => by simp [lessL] at h
  | _ :: _, _ :: _, [], _, h => by simp [lessL] at h
  | a :: l, b :: m, c :: k, h1, h2 => by
    rw [lessL] at h1 h2 ⊢
    rcases Int.lt_trichotomy a b with x | x | x
    · rcases Int.lt_trichotomy b c with y | y | y
      · rw [if_pos (by omega)]; omega
      · rw [if_pos (by omega)]; omega
      · rw [if_neg (by omega), if_pos y] at h2; omega
    · subst x
      rw [if_neg (by omega), if_neg (by omega)] at h1
      rcases Int.lt_trichotomy a c with y | y | y
      · rw [if_pos y]; omega
      · subst y
        rw [if_neg (by omega), if_neg (by omega)] at h2 ⊢
        exact lessL_trans h1 h2
      · rw [if_neg (by omega), if_pos y] at h2; omega
    · rw [if_neg (by omega), if_pos x] at h1; omega

def keyL (r : Ru) : List Int := r.sym :: (r.fr ++ [r.to])
theorem keyL_inj {x y : Ru} (h : keyL x = keyL y) : x = y := by
  unfold keyL at h
  obtain ⟨h1, h2⟩ := List.cons.inj h
  obtain ⟨h3, h4⟩ := List.append_inj' h2 rfl
  obtain ⟨s, f, t⟩ := x
  obtain ⟨s', f', t'⟩ := y
  simp only at h1 h3 h4
  subst h1 h3
  simp at h4
  subst h4
  rfl
/-- Comes before. -/
def ltR (x y : Ru) : Prop := lessL (keyL x) (keyL y) < 0
theorem ltR_irrefl (x : Ru) : ¬ ltR x x := by unfold ltR; rw [lessL_refl]; omega
theorem ltR_trans {x y z : Ru} (h1 : ltR x y) (h2 : ltR y z) : ltR x z := lessL_trans h1 h2
theorem ltR_asymm {x y : Ru} (h : ltR x y) : ¬ ltR y x := fun h2 => ltR_irrefl x (ltR_trans h h2)
theorem ltR_tri (x y : Ru) : ltR x y ∨ x = y ∨ ltR y x := by
  unfold ltR
  rcases lessL_val (keyL x) (keyL y) with h | h | h
  · exact .inl (by omega)
  · exact .inr (.inl (keyL_inj (lessL_eq h)))
  · refine .inr (.inr ?_)
    rw [lessL_anti, h]
    omega
/-- Strictly ascending. -/
def StrS (L : List Ru) : Prop := L.Pairwise ltR
/-- A strictly ascending list is told by its members. -/
theorem strS_ext : ∀ {L M : List Ru}, StrS L → StrS M → (∀ r, r ∈ L ↔ r ∈ M) → L = M
  | [], [], _, _, _ => rfl
  | [], y :: _, _, _, h => by have := (h y).2 (List.mem_cons_self ..); cases this
  | x :: _, [], _, _, h => by have := (h x).1 (List.mem_cons_self ..); cases this
  | x :: L, y :: M, hL, hM, h => by
    obtain ⟨hx, hL2⟩ := List.pairwise_cons.1 hL
    obtain ⟨hy, hM2⟩ := List.pairwise_cons.1 hM
    have e : x = y := by
      rcases List.mem_cons.1 ((h x).1 (List.mem_cons_self ..)) with e | e
      · exact e
      · rcases List.mem_cons.1 ((h y).2 (List.mem_cons_self ..)) with e2 | e2
        · exact e2.symm
        · exact absurd (hx y e2) (ltR_asymm (hy x e))
    subst e
    refine congrArg (x :: ·) (strS_ext hL2 hM2 fun r => ⟨fun hr => ?_, fun hr => ?_⟩)
    · rcases List.mem_cons.1 ((h r).1 (List.mem_cons_of_mem _ hr)) with e | e
      · subst e; exact absurd (hx r hr) (ltR_irrefl r)
      · exact e
    · rcases List.mem_cons.1 ((h r).2 (List.mem_cons_of_mem _ hr)) with e | e
      · subst e; exact absurd (hy r hr) (ltR_irrefl r)
      · exact e
/-- Where a rule belongs. -/
def At (L : List Ru) (r : Ru) (p : Nat) : Prop := p ≤ L.length ∧ (∀ (i : Nat) x, i < p → L[i]? = some x → ltR x r) ∧ (∀ (i : Nat) x, p ≤ i → L[i]? = some x → ¬ ltR x r)
theorem At.mem {L : List Ru} {r : Ru} {p : Nat} (hs : StrS L) (h : At L r p) : r ∈ L ↔ L[p]? = some r := by
  constructor
  · intro hr
    obtain ⟨i, hi, e⟩ := List.getElem_of_mem hr
    have hi2 : L[i]? = some r := by rw [List.getElem?_eq_getElem hi, e]
    rcases Nat.lt_trichotomy i p with g | g | g
    · exact absurd (h.2.1 i r g hi2) (ltR_irrefl r)
    · rw [← g]; exact hi2
    · have hp : p < L.length := by omega
      have := List.pairwise_iff_getElem.1 hs p i hp hi g
      rw [e] at this
      exact absurd this (h.2.2 p _ (Nat.le_refl _) (List.getElem?_eq_getElem hp))
  · exact fun e => List.mem_of_getElem? e
theorem At.ins {L : List Ru} {r : Ru} {p : Nat} (hs : StrS L) (h : At L r p) (hn : ¬ r ∈ L) : StrS (L.take p ++ r :: L.drop p) := by
  unfold StrS
  have hlt : ∀ x ∈ L.take p, ltR x r := fun x hx => by
    obtain ⟨i, hi, e⟩ := List.getElem_of_mem hx
    rw [List.length_take] at hi
    refine h.2.1 i x (by omega) ?_
    rw [List.getElem_take] at e
    rw [List.getElem?_eq_getElem (by omega), e]
  have hgt : ∀ x ∈ L.drop p, ltR r x := fun x hx => by
    obtain ⟨i, hi, e⟩ := List.getElem_of_mem hx
    rw [List.length_drop] at hi
    have h1 : L[p + i]? = some x := by
      rw [List.getElem_drop] at e
      rw [List.getElem?_eq_getElem (by omega), e]
    rcases ltR_tri x r with g | g | g
    · exact absurd g (h.2.2 (p + i) x (by omega) h1)
    · subst g; exact absurd (List.mem_of_getElem? h1) hn
    · exact g
  refine List.pairwise_append.2 ⟨hs.sublist (List.take_sublist _ _), List.pairwise_cons.2 ⟨hgt, hs.sublist (List.drop_sublist _ _)⟩, fun x hx y hy => ?_⟩
  rcases List.mem_cons.1 hy with e | e
  · subst e; exact hlt x hx
  · exact ltR_trans (hlt x hx) (hgt y e)
theorem mem_ins {L : List Ru} {r x : Ru} {p : Nat} : x ∈ L.take p ++ r :: L.drop p ↔ x = r ∨ x ∈ L := by
  rw [List.mem_append, List.mem_cons]
  constructor
  · rintro (h | h | h)
    · exact .inr (List.mem_of_mem_take h)
    · exact .inl h
    · exact .inr (List.mem_of_mem_drop h)
  · rintro (h | h)
    · exact .inr (.inl h)
    · rw [← List.take_append_drop p L, List.mem_append] at h
      exact h.elim .inl (fun h => .inr (.inr h))
end

end Go.Proofs.YtedfldbknjcnlaaDoor
