/- The rows of uses, as data: in row q stands i as often as rule i uses q. The memory of the pass for reachable states: rows of numbers, what is missing, and the work list. A range over a shared queue at the outermost, with the frame of a round given. What the pass for reachable states keeps while it takes states from the list. -/
import Derived.Test.YtedfldbknjcnlaaDoorFG16
namespace Go.Proofs.YtedfldbknjcnlaaDoor
section
open Go.RowKit Go.Shelf Go.Maps Go.WideElems

def cnt (q : Nat) (l : List Int) : Nat := l.countP (fun s => s.toNat == q)
theorem cnt_snoc (q : Nat) (l : List Int) (x : Int) : cnt q (l ++ [x]) = cnt q l + if x.toNat = q then 1 else 0 := by
  unfold cnt
  rw [List.countP_append, List.countP_singleton]
  by_cases h : x.toNat = q <;> simp [h]
theorem cnt_le (q : Nat) (l : List Int) : cnt q l ≤ l.length := List.countP_le_length
def frAt (R : List Ru) (k : Nat) : List Int := ((R[k]?).map Ru.fr).getD []
theorem frAt_of {R : List Ru} {k : Nat} {r : Ru} (h : R[k]? = some r) : frAt R k = r.fr := by unfold frAt; rw [h]; rfl
def useK (R : List Ru) (q : Nat) : Nat → List Int
  | 0 => []
  | k + 1 => useK R q k ++ List.replicate (cnt q (frAt R k)) (k : Int)
theorem useK_len (R : List Ru) (q : Nat) (h : ∀ r ∈ R, r.fr.length ≤ 3) : ∀ k, (useK R q k).length ≤ 3 * k
  | 0 => Nat.le_refl _
  | k + 1 => by
    have ih := useK_len R q h k
    rw [useK, List.length_append, List.length_replicate]
    have h1 := cnt_le q (frAt R k)
    have h2 : (frAt R k).length ≤ 3 := by
      unfold frAt
      cases e : R[k]? with
      | none => simp
      | some r => exact h r (List.mem_of_getElem? e)
    omega
theorem useK_mem (R : List Ru) (q : Nat) : ∀ k, ∀ x ∈ useK R q k, ∃ i : Nat, x = (i : Int) ∧ i < k ∧ 0 < cnt q (frAt R i)
  | 0, x, h => by cases h
  | k + 1, x, h => by
    rw [useK, List.mem_append] at h
    rcases h with h | h
    · obtain ⟨i, h1, h2, h3⟩ := useK_mem R q k x h
      exact ⟨i, h1, by omega, h3⟩
    · rw [List.mem_replicate] at h
      exact ⟨k, h.2, by omega, by omega⟩
theorem useK_count (R : List Ru) (q i : Nat) : ∀ k, (useK R q k).count (i : Int) = if i < k then cnt q (frAt R i) else 0
  | 0 => by simp [useK]
  | k + 1 => by
    rw [useK, List.count_append, useK_count R q i k, List.count_replicate]
    by_cases h : i = k
    · subst h
      simp
    · have h2 : ¬ ((k : Int) == (i : Int)) = true := by simp; omega
      rw [if_neg h2]
      by_cases h3 : i < k
      · rw [if_pos h3, if_pos (by omega)]; rfl
      · rw [if_neg h3, if_neg (by omega)]
/-- While rule k is laid: the first j of its states are. -/
def useJ (R : List Ru) (k : Nat) (l : List Int) (q : Nat) : List Int := useK R q k ++ List.replicate (cnt q l) (k : Int)
theorem useJ_zero (R : List Ru) (k q : Nat) : useJ R k [] q = useK R q k := by simp [useJ, cnt]
theorem useJ_full {R : List Ru} {k : Nat} {r : Ru} (h : R[k]? = some r) (q : Nat) : useJ R k r.fr q = useK R q (k + 1) := by
  rw [useJ, useK, frAt_of h]
theorem useJ_same (R : List Ru) (k : Nat) (l : List Int) (x : Int) : useJ R k (l ++ [x]) x.toNat = useJ R k l x.toNat ++ [(k : Int)] := by
  unfold useJ
  rw [cnt_snoc, if_pos rfl, List.replicate_succ', List.append_assoc]
theorem useJ_other (R : List Ru) (k : Nat) (l : List Int) (x : Int) (q : Nat) (h : x.toNat ≠ q) : useJ R k (l ++ [x]) q = useJ R k l q := by
  unfold useJ
  rw [cnt_snoc, if_neg h, Nat.add_zero]
theorem useJ_len {R : List Ru} (h : ∀ r ∈ R, r.fr.length ≤ 3) (k : Nat) (l : List Int) (hl : l.length ≤ 3) (q : Nat) : (useJ R k l q).length ≤ 3 * k + 3 := by
  unfold useJ
  rw [List.length_append, List.length_replicate]
  have := useK_len R q h k
  have := cnt_le q l
  omega

theorem unm_none (n : Nat) (l : List Int) : unm (List.replicate n false) l = l.length := by
  unfold unm
  rw [List.countP_eq_length]
  intro s _
  rw [List.getD_eq_getElem?_getD, List.getElem?_replicate]
  split <;> rfl

def misK (R : List Ru) (k : Nat) : List Int := (List.range R.length).map fun i => if i < k then ((frAt R i).length : Int) else 0
theorem misK_zero (R : List Ru) : misK R 0 = List.replicate R.length 0 := by
  unfold misK
  simp only [Nat.not_lt_zero, if_false]
  rw [List.map_const', List.length_range]
theorem misK_len (R : List Ru) (k : Nat) : (misK R k).length = R.length := by unfold misK; simp
theorem misK_set {R : List Ru} {k : Nat} {r : Ru} (h : R[k]? = some r) : (misK R k).set k (r.fr.length : Int) = misK R (k + 1) := by
  have hk : k < R.length := (List.getElem?_eq_some_iff.1 h).1
  apply List.ext_getElem?
  intro i
  by_cases e : k = i
  · subst e
    rw [List.getElem?_set_self (by rw [misK_len]; exact hk)]
    unfold misK
    rw [List.getElem?_map, List.getElem?_range hk]
    simp [frAt_of h]
  · rw [List.getElem?_set_ne e]
    unfold misK
    rw [List.getElem?_map, List.getElem?_map]
    by_cases hi : i < R.length
    · rw [List.getElem?_range hi]
      simp only [Option.map_some]
      have : (i < k) ↔ (i < k + 1) := by omega
      simp only [this]
    · rw [List.getElem?_eq_none (by simp; omega)]
      rfl
theorem misK_at {R : List Ru} {k : Nat} {r : Ru} (h : R[k]? = some r) : (misK R (k + 1)).getD k 0 = (r.fr.length : Int) := by
  have hk : k < R.length := (List.getElem?_eq_some_iff.1 h).1
  rw [← misK_set h, List.getD_eq_getElem?_getD, List.getElem?_set_self (by rw [misK_len]; exact hk)]
  rfl
theorem misK_full (R : List Ru) : misK R R.length = R.map fun r => (r.fr.length : Int) := by
  apply List.ext_getElem?
  intro i
  unfold misK
  rw [List.getElem?_map, List.getElem?_map]
  by_cases hi : i < R.length
  · rw [List.getElem?_range hi, List.getElem?_eq_getElem hi]
    simp only [Option.map_some, if_pos hi, frAt_of (List.getElem?_eq_getElem hi)]
  · rw [List.getElem?_eq_none (by simp; omega), List.getElem?_eq_none (by omega)]
    rfl
/-- What is missing of each rule, when of a row only the last part is to come. -/
def MisOf (R : List Ru) (M : List Bool) (rest : List Int) (ms : List Int) : Prop :=
  ms.length = R.length ∧ ∀ i r, R[i]? = some r → ms.getD i 0 = (unm M r.fr + rest.count (i : Int) : Nat)
theorem MisOf.start {R : List Ru} (n : Nat) : MisOf R (List.replicate n false) [] (R.map fun r => (r.fr.length : Int)) := by
  refine ⟨List.length_map _, fun i r h => ?_⟩
  rw [unm_none, List.getD_eq_getElem?_getD, List.getElem?_map, h]
  simp
theorem MisOf.pop {R : List Ru} {M : List Bool} {ms : List Int} {q : Nat} (h : MisOf R M [] ms) (hq : q < M.length) (hf : M.getD q false = false) : MisOf R (M.set q true) (useK R q R.length) ms := by
  refine ⟨h.1, fun i r hi => ?_⟩
  have hl : i < R.length := (List.getElem?_eq_some_iff.1 hi).1
  rw [h.2 i r hi, unm_set hq hf, useK_count, if_pos hl, frAt_of hi, List.count_nil, Nat.add_zero]
  rfl
/-- One item of the row. -/
theorem MisOf.item {R : List Ru} {M : List Bool} {rest ms : List Int} {i : Nat} {r : Ru} (hi : R[i]? = some r) (h : MisOf R M ((i : Int) :: rest) ms) : ms.getD i 0 = (unm M r.fr + rest.count (i : Int) + 1 : Nat) ∧ MisOf R M rest (ms.set i (ms.getD i 0 - 1)) := by
  have hl : i < R.length := (List.getElem?_eq_some_iff.1 hi).1
  have h0 := h.2 i r hi
  rw [List.count_cons_self] at h0
  refine ⟨by rw [h0]; rfl, by rw [List.length_set]; exact h.1, fun x s hx => ?_⟩
  have hxl : x < R.length := (List.getElem?_eq_some_iff.1 hx).1
  by_cases e : i = x
  · subst e
    rw [hi] at hx
    cases hx
    rw [List.getD_eq_getElem?_getD, List.getElem?_set_self (by rw [h.1]; exact hl)]
    simp only [Option.getD_some]
    rw [h0]
    simp
    omega
  · rw [List.getD_eq_getElem?_getD, List.getElem?_set_ne e, ← List.getD_eq_getElem?_getD, h.2 x s hx, List.count_cons_of_ne (by intro h2; exact e (by omega))]

/-- One item of a row, its rule not yet complete. -/
theorem RMid.skip {R : List Ru} {n : Nat} {M : List Bool} {S I : List Nat} {rest : List Int} {i : Nat} {r : Ru} (hi : R[i]? = some r) (h : RMid R n M S I (fun x => (x : Int) ∈ (i : Int) :: rest)) (hn : unm M r.fr + rest.count (i : Int) ≠ 0) : RMid R n M S I (fun x => (x : Int) ∈ rest) :=
  h.less fun x s hx hu hd hnd => by
    rcases List.mem_cons.1 hd with e | e
    · have : x = i := by omega
      subst this
      rw [hi] at hx
      cases hx
      exact absurd (by rw [hu, List.count_eq_zero.2 hnd]) hn
    · exact absurd e hnd
/-- One item of a row, its rule complete: its state is added. -/
theorem RMid.item {R : List Ru} {n : Nat} {M : List Bool} {S I : List Nat} {rest : List Int} {i q : Nat} {r : Ru} (hi : R[i]? = some r) (h : RMid R n M S I (fun x => (x : Int) ∈ (i : Int) :: rest)) (hu : unm M r.fr = 0) (hlt : ∀ s ∈ r.fr, s.toNat < n) (hq : r.to.toNat = q) (hqn : q < n) : RMid R n M (addS S q) (addI S I q) (fun x => (x : Int) ∈ rest) := by
  subst hq
  refine (h.add hqn (h.reach (List.mem_of_getElem? hi) hlt hu)).less fun x s hx _ hd hnd => ?_
  rcases List.mem_cons.1 hd with e | e
  · have : x = i := by omega
    subst this
    rw [hi] at hx
    cases hx
    exact mem_addS.2 (.inl rfl)
  · exact absurd e hnd
theorem RMid.pop2 {R : List Ru} {n : Nat} {M : List Bool} {S T : List Nat} {q : Nat} (h : RMid R n M S (q :: T) (fun _ => False)) : q < n ∧ M.getD q false = false ∧ RMid R n (M.set q true) S T (fun i => (i : Int) ∈ useK R q R.length) := by
  obtain ⟨h1, h2, h3⟩ := h.pop
  refine ⟨h1, h2, h3.less fun i r hi _ hd hnd => ?_⟩
  obtain ⟨r', hr', s, hs, e⟩ := hd
  refine absurd ?_ hnd
  have hl : i < R.length := (List.getElem?_eq_some_iff.1 hr').1
  have hc : 0 < (useK R q R.length).count (i : Int) := by
    rw [useK_count, if_pos hl, frAt_of hr']
    exact List.countP_pos_iff.2 ⟨s, hs, by simpa using e⟩
  exact List.count_pos_iff.1 hc
theorem RMid.wait {R : List Ru} {n k : Nat} {M : List Bool} {S I : List Nat} {r : Ru} (hi : R[k]? = some r) (h : RMid R n M S I (fun i => k ≤ i)) (hn : unm M r.fr ≠ 0) : RMid R n M S I (fun i => k + 1 ≤ i) :=
  h.less fun x s hx hu hd hnd => by
    have hd2 : k ≤ x := hd
    have hnd2 : ¬ k + 1 ≤ x := hnd
    have : x = k := by omega
    subst this
    rw [hi] at hx
    cases hx
    exact absurd hu hn
theorem RMid.leaf {R : List Ru} {n k q : Nat} {M : List Bool} {S I : List Nat} {r : Ru} (hi : R[k]? = some r) (h : RMid R n M S I (fun i => k ≤ i)) (hu : unm M r.fr = 0) (hlt : ∀ s ∈ r.fr, s.toNat < n) (hq : r.to.toNat = q) (hqn : q < n) : RMid R n M (addS S q) (addI S I q) (fun i => k + 1 ≤ i) := by
  subst hq
  refine (h.add hqn (h.reach (List.mem_of_getElem? hi) hlt hu)).less fun x s hx _ hd hnd => ?_
  have hd2 : k ≤ x := hd
  have hnd2 : ¬ k + 1 ≤ x := hnd
  have : x = k := by omega
  subst this
  rw [hi] at hx
  cases hx
  exact mem_addS.2 (.inl rfl)
theorem RMid.ready {R : List Ru} {n : Nat} {M : List Bool} {S I : List Nat} (h : RMid R n M S I (fun i => R.length ≤ i)) : RMid R n M S I (fun _ => False) :=
  h.less fun i r hi _ hd _ => absurd (List.getElem?_eq_some_iff.1 hi).1 (by have hd2 : R.length ≤ i := hd; omega)
/-- What is left fits. -/
theorem nodup_len : ∀ {n : Nat} {I : List Nat}, I.Pairwise (fun a b => a ≠ b) → (∀ q ∈ I, q < n) → I.length ≤ n
  | 0, [], _, _ => Nat.le_refl _
  | 0, q :: _, _, h => absurd (h q (List.mem_cons_self ..)) (by omega)
  | n + 1, I, hp, h => by
    have h1 : (I.erase n).length ≤ n := by
      refine nodup_len (hp.sublist (List.erase_sublist)) (fun q hq => ?_)
      have h2 := h q (List.mem_of_mem_erase hq)
      have h3 : q ≠ n := by
        rintro rfl
        have h4 : I.Nodup := hp
        exact (h4.not_mem_erase) hq
      omega
    have h5 : I.length ≤ (I.erase n).length + 1 := by
      rw [List.length_erase]
      split <;> omega
    omega
theorem RMid.ile {R : List Ru} {n : Nat} {M : List Bool} {S I : List Nat} {D : Nat → Prop} (h : RMid R n M S I D) : I.length ≤ n := nodup_len h.nod (fun q hq => h.lt q (h.sub q hq))
end

section
open Go.RowKit Go.Shelf Go.Maps Go.WideElems

def intV (l : List Int) : List Value := l.map fun x => Value.int .i64 x
theorem intV_app (l m : List Int) : intV (l ++ m) = intV l ++ intV m := List.map_append
theorem intV_len (l : List Int) : (intV l).length = l.length := List.length_map _

theorem WL.bound {w : World} {C : Nat → Prop} {n L : Nat} {S I : List Nat} (h : WL w C n L S I) : WL w (fun c => C c ∧ c < w.heap.size) n L S I := by
  obtain ⟨v, mv, hL, hCL, hv, hvC, hm⟩ := h
  refine ⟨v, mv, hL, ⟨hCL, hL.lt⟩, hv, fun k hk => ⟨hvC k hk, (hv.lt k hk).2⟩, ?_⟩
  rcases hm with h | ⟨mb, f, h1, h2, h3, h4⟩
  · exact .inl h
  · exact .inr ⟨mb, f, h1, ⟨h2, h3.lt⟩, h3, h4⟩

/-- The rows, what is missing, the list at L with memory C; all but L is from B on. -/
structure PM (B n mi G L : Nat) (w : World) (C : Nat → Prop) (rows : List Value) (U : Nat → List Int) (ms : List Int) (S I : List Nat) : Prop where
  g : Blk w G 22 rows.toArray
  len : rows.length = n
  row : ∀ (q : Nat) v, rows[q]? = some v → w.ownsRow B 3 1 v (U q).length (intV (U q))
  apart : ∀ (q q' : Nat) v v' b, q ≠ q' → rows[q]? = some v → rows[q']? = some v' → v.ownBlock = some b → v'.ownBlock ≠ some b
  m : Blk w mi 3 (intV ms).toArray
  wl : WL w C n L S I
  clt : ∀ c, C c → c < w.heap.size
  cge : ∀ c, C c → c = L ∨ B ≤ c
  cG : ¬ C G
  cM : ¬ C mi
  cR : ∀ (q : Nat) v b, rows[q]? = some v → v.ownBlock = some b → ¬ C b
  mB : mi < B

theorem PM.lt_row {B n mi G L : Nat} {w : World} {C : Nat → Prop} {rows : List Value} {U : Nat → List Int} {ms : List Int} {S I : List Nat} (h : PM B n mi G L w C rows U ms S I) {q : Nat} {v : Value} {b : Nat} (hv : rows[q]? = some v) (hb : v.ownBlock = some b) : B ≤ b ∧ b < w.heap.size ∧ b ≠ G ∧ b ≠ mi ∧ b ≠ L := by
  obtain ⟨cur, hc, hB⟩ := own_cells (h.row q v hv) hb
  obtain ⟨lv, mv, hL, _⟩ := h.wl
  refine ⟨hB, hc.lt, hc.ne_ h.g (by decide), ?_, hc.ne_ hL (by decide)⟩
  have := h.mB
  omega

theorem PM.kp {B n mi G L : Nat} {w w' : World} {C S' : Nat → Prop} {rows : List Value} {U : Nat → List Int} {ms : List Int} {S I : List Nat} (h : PM B n mi G L w C rows U ms S I) (hk : Kp S' w w') (hG : S' G) (hM : S' mi) (hC : ∀ c, C c → S' c) (hR : ∀ (q : Nat) v b, rows[q]? = some v → v.ownBlock = some b → S' b) : PM B n mi G L w' C rows U ms S I where
  g := h.g.kp hk hG
  len := h.len
  row q v hv := ownsRow_kp (h.row q v hv) hk (hR q v · hv)
  apart := h.apart
  m := h.m.kp hk hM
  wl := h.wl.kp (hk.mono fun c _ hc => hC c hc)
  clt c hc := Nat.lt_of_lt_of_le (h.clt c hc) hk.size
  cge := h.cge
  cG := h.cG
  cM := h.cM
  cR := h.cR
  mB := h.mB
/-- All that was there is as it was. -/
theorem PM.kpT {B n mi G L : Nat} {w w' : World} {C : Nat → Prop} {rows : List Value} {U : Nat → List Int} {ms : List Int} {S I : List Nat} (h : PM B n mi G L w C rows U ms S I) (hk : Kp (fun _ => True) w w') : PM B n mi G L w' C rows U ms S I :=
  h.kp hk trivial trivial (fun _ _ => trivial) (fun _ _ _ _ _ => trivial)

theorem PM.start {B n mi G L k : Nat} {w : World} (hG : Blk w G 22 (List.replicate n (Value.slice none 0 0)).toArray) (hM : Blk w mi 3 (List.replicate k (Value.int .i64 0)).toArray) (hL : Blk w L 113 #[.slice none 0 0, .map none]) (hGL : G ≠ L) (hML : mi ≠ L) (hB : mi < B) :
    PM B n mi G L w (fun c => c = L) (List.replicate n (.slice none 0 0)) (fun _ => []) (List.replicate k 0) [] [] where
  g := hG
  len := List.length_replicate
  row q v hv := by
    rw [List.getElem?_replicate] at hv
    split at hv
    · cases hv; exact World.ownsRow_nil _ _ _ _
    · cases hv
  apart q q' v v' b _ h1 _ hb := by
    rw [List.getElem?_replicate] at h1
    split at h1
    · cases h1; cases hb
    · cases h1
  m := by unfold intV; rw [List.map_replicate]; exact hM
  wl := ⟨_, _, hL, rfl, ownsQ.nil _ _ _, fun k hk => (by cases hk), .inl ⟨rfl, rfl⟩⟩
  clt c hc := by subst hc; exact hL.lt
  cge c hc := .inl hc
  cG := hGL
  cM := hML
  cR q v b h1 hb := by
    rw [List.getElem?_replicate] at h1
    split at h1
    · cases h1; cases hb
    · cases h1
  mB := hB

/-- One number of what is missing. -/
theorem PM.setM {B n mi G L : Nat} {w : World} {C : Nat → Prop} {rows : List Value} {U : Nat → List Int} {ms : List Int} {S I : List Nat} (h : PM B n mi G L w C rows U ms S I) (i : Nat) (x : Int) : PM B n mi G L (w.setCell ⟨mi, i, none⟩ (.int .i64 x)) C rows U (ms.set i x) S I := by
  have hk : Kp (fun c => c ≠ mi) w (w.setCell ⟨mi, i, none⟩ (.int .i64 x)) := (Kp.refl _ w).setCell (p := ⟨mi, i, none⟩) (fun h => absurd rfl h) _
  have hne : G ≠ mi := h.g.ne_ h.m (by decide)
  exact {
    g := h.g.kp hk hne
    len := h.len
    row := fun q v hv => ownsRow_kp (h.row q v hv) hk (fun b hb => (h.lt_row hv hb).2.2.2.1)
    apart := h.apart
    m := by
      have := h.m.set_ i (.int .i64 x)
      rw [List.setIfInBounds_toArray] at this
      unfold intV
      rw [List.map_set]
      exact this
    wl := h.wl.kp (hk.mono fun c _ hc => fun e => h.cM (e ▸ hc))
    clt := fun c hc => by rw [World.size_setCell]; exact h.clt c hc
    cge := h.cge
    cG := h.cG
    cM := h.cM
    cR := h.cR
    mB := h.mB }

/-- One row grows. -/
theorem PM.app {B n mi G L : Nat} {w w3 : World} {C : Nat → Prop} {rows : List Value} {U U' : Nat → List Int} {ms : List Int} {S I : List Nat} (h : PM B n mi G L w C rows U ms S I) {q : Nat} {v v' : Value} (hq : rows[q]? = some v) (hk : Kp (fun c => v.ownBlock ≠ some c) w w3)
    (ho : w3.ownsRow B 3 1 v' (U' q).length (intV (U' q))) (hb : v'.ownBlock = v.ownBlock ∨ ∃ b, v'.ownBlock = some b ∧ w.heap.size ≤ b) (hU : ∀ p, p ≠ q → U' p = U p) :
    PM B n mi G L (w3.setCell ⟨G, q, none⟩ v') C (rows.set q v') U' ms S I ∧ Kp (fun c => v.ownBlock ≠ some c ∧ c ≠ G) w (w3.setCell ⟨G, q, none⟩ v') := by
  have hvG : v.ownBlock ≠ some G := fun e => (h.lt_row hq e).2.2.1 rfl
  have hvM : v.ownBlock ≠ some mi := fun e => (h.lt_row hq e).2.2.2.1 rfl
  have hvC : ∀ c, C c → v.ownBlock ≠ some c := fun c hc e => h.cR q v c hq e hc
  have hkf : Kp (fun c => v.ownBlock ≠ some c ∧ c ≠ G) w (w3.setCell ⟨G, q, none⟩ v') := (hk.mono fun _ _ h => h.1).setCell (p := ⟨G, q, none⟩) (fun h => absurd rfl h.2) v'
  have hql : q < rows.length := (List.getElem?_eq_some_iff.1 hq).1
  have hg3 : Blk w3 G 22 rows.toArray := h.g.kp hk hvG
  have hnG : ∀ b, v'.ownBlock = some b → b ≠ G := fun b e => by
    obtain ⟨cur, hc, _⟩ := own_cells ho e
    exact hc.ne_ hg3 (by decide)
  have hMG : mi ≠ G := fun e => h.m.ne_ h.g (by decide) e
  have hold : ∀ (p : Nat) u, p ≠ q → (rows.set q v')[p]? = some u → rows[p]? = some u := fun p u hp hu => by
    rwa [List.getElem?_set_ne (fun e => hp e.symm)] at hu
  have hnew : ∀ u, (rows.set q v')[q]? = some u → u = v' := fun u hu => by
    rw [List.getElem?_set_self hql] at hu
    exact (Option.some.inj hu).symm
  refine ⟨{
    g := by
      have := hg3.set_ q v'
      rwa [List.setIfInBounds_toArray] at this
    len := by rw [List.length_set]; exact h.len
    row := fun p u hu => by
      by_cases hp : p = q
      · subst hp
        rw [hnew u hu]
        exact ownsRow_kp ho ((Kp.refl (fun c => c ≠ G) w3).setCell (p := ⟨G, p, none⟩) (fun h => absurd rfl h) v') hnG
      · rw [hU p hp]
        have hu2 := hold p u hp hu
        exact ownsRow_kp (h.row p u hu2) hkf (fun b hb2 => ⟨fun e => h.apart p q u v b hp hu2 hq hb2 e, (h.lt_row hu2 hb2).2.2.1⟩)
    apart := fun p p' u u' b hpp hu hu' hub hub' => by
      by_cases hp : p = q
      · subst hp
        have hu2 := hold p' u' (fun e => hpp e.symm) hu'
        rw [hnew u hu] at hub
        rcases hb with e | ⟨b', e, hge⟩
        · exact h.apart p p' v u' b hpp hq hu2 (e ▸ hub) hub'
        · have := (h.lt_row hu2 hub').2.1
          rw [e] at hub
          cases hub
          omega
      · have hu2 := hold p u hp hu
        by_cases hp' : p' = q
        · subst hp'
          rw [hnew u' hu'] at hub'
          rcases hb with e | ⟨b', e, hge⟩
          · exact h.apart p p' u v b hpp hu2 hq hub (e ▸ hub')
          · have := (h.lt_row hu2 hub).2.1
            rw [e] at hub'
            cases hub'
            omega
        · exact h.apart p p' u u' b hpp hu2 (hold p' u' hp' hu') hub hub'
    m := h.m.kp hkf ⟨hvM, hMG⟩
    wl := h.wl.kp (hkf.mono fun c _ hc => ⟨hvC c hc, fun e => h.cG (e ▸ hc)⟩)
    clt := fun c hc => Nat.lt_of_lt_of_le (h.clt c hc) hkf.size
    cge := h.cge
    cG := h.cG
    cM := h.cM
    cR := fun p u b hu hub hCb => by
      by_cases hp : p = q
      · subst hp
        rw [hnew u hu] at hub
        rcases hb with e | ⟨b', e, hge⟩
        · exact h.cR p v b hq (e ▸ hub) hCb
        · rw [e] at hub
          cases hub
          have := h.clt _ hCb
          omega
      · exact h.cR p u b (hold p u hp hu) hub hCb
    mB := h.mB }, hkf⟩

/-- An item was added to the list. -/
theorem PM.add {B n mi G L : Nat} {w w' : World} {C C' : Nat → Prop} {rows : List Value} {U : Nat → List Int} {ms : List Int} {S I S' I' : List Nat} (h : PM B n mi G L w C rows U ms S I) (hw : WL w' C' n L S' I') (hC : ∀ c, C' c → C c ∨ w.heap.size ≤ c) (hk : Kp (fun c => ¬ C c) w w') (hB : B ≤ w.heap.size) :
    PM B n mi G L w' (fun c => C' c ∧ c < w'.heap.size) rows U ms S' I' where
  g := h.g.kp hk h.cG
  len := h.len
  row q v hv := ownsRow_kp (h.row q v hv) hk (fun b hb => h.cR q v b hv hb)
  apart := h.apart
  m := h.m.kp hk h.cM
  wl := hw.bound
  clt c hc := hc.2
  cge c hc := (hC c hc.1).elim (h.cge c) (fun e => .inr (Nat.le_trans hB e))
  cG hc := (hC _ hc.1).elim h.cG (fun e => by have := h.g.lt; omega)
  cM hc := (hC _ hc.1).elim h.cM (fun e => by have := h.m.lt; omega)
  cR q v b hv hb hc := (hC _ hc.1).elim (h.cR q v b hv hb) (fun e => by have := (h.lt_row hv hb).2.1; omega)
  mB := h.mB
/-- The head of the list was taken. -/
theorem PM.pop {B n mi G L : Nat} {w w' : World} {C : Nat → Prop} {rows : List Value} {U : Nat → List Int} {ms : List Int} {S I : List Nat} (h : PM B n mi G L w C rows U ms S I) (hp : PopQ L I w w') : PM B n mi G L w' C rows U ms S I.tail ∧ Kp (fun c => ¬ C c) w w' := by
  obtain ⟨h1, hk⟩ := h.wl.popped hp
  exact ⟨{
    g := h.g.kp hk h.cG
    len := h.len
    row := fun q v hv => ownsRow_kp (h.row q v hv) hk (fun b hb => h.cR q v b hv hb)
    apart := h.apart
    m := h.m.kp hk h.cM
    wl := h1
    clt := fun c hc => Nat.lt_of_lt_of_le (h.clt c hc) hk.size
    cge := h.cge
    cG := h.cG
    cM := h.cM
    cR := h.cR
    mB := h.mB }, hk⟩
theorem PM.mcell {B n mi G L : Nat} {w : World} {C : Nat → Prop} {rows : List Value} {U : Nat → List Int} {ms : List Int} {S I : List Nat} (h : PM B n mi G L w C rows U ms S I) {i : Nat} (hi : i < ms.length) : w.cell? ⟨mi, i, none⟩ = some (.int .i64 (ms.getD i 0)) := by
  rw [h.m.cell, List.getD_eq_getElem?_getD]
  simp [intV, hi]
theorem PM.rcell {B n mi G L : Nat} {w : World} {C : Nat → Prop} {rows : List Value} {U : Nat → List Int} {ms : List Int} {S I : List Nat} (h : PM B n mi G L w C rows U ms S I) {q : Nat} (hq : q < n) : ∃ v, rows[q]? = some v ∧ w.cell? ⟨G, q, none⟩ = some v := by
  refine ⟨_, List.getElem?_eq_getElem (by rw [h.len]; exact hq), ?_⟩
  rw [h.g.cell]
  simp [List.getElem?_eq_getElem (show q < rows.length by rw [h.len]; exact hq)]
/-- What the pass leaves as it is: what is below B, but for three blocks. -/
def FxA (B mi G L : Nat) (c : Nat) : Prop := c < B ∧ c ≠ mi ∧ c ≠ G ∧ c ≠ L
theorem row_cell {w : World} {B : Nat} {v : Value} {l : List Int} (h : w.ownsRow B 3 1 v l.length (intV l)) : ∃ p c, v = .slice p l.length c ∧ (l ≠ [] → ∃ g, p = some ⟨g, 0, none⟩ ∧ ∀ (i : Nat) x, l[i]? = some x → w.cell? ⟨g, i, none⟩ = some (.int .i64 x)) := by
  rcases h.2 with ⟨rfl, hn⟩ | ⟨g, cap, cur, rfl, _, hg, _, _, _, ht⟩
  · have := List.eq_nil_of_length_eq_zero hn
    subst this
    exact ⟨_, _, rfl, fun h => absurd rfl h⟩
  · refine ⟨_, _, rfl, fun _ => ⟨g, rfl, fun i x hx => ?_⟩⟩
    rw [cell_of_row w g i cur _ (0, 0) hg]
    have h2 : (intV l)[i]? = some (.int .i64 x) := by unfold intV; rw [List.getElem?_map, hx]; rfl
    rw [← ht, List.getElem?_take] at h2
    split at h2
    · simpa using h2
    · cases h2
end

section
open Go.RowKit

/-- A post that allows no panic. -/
def noPanic (Q : Exit → Act → World → Prop) : Exit → Act → World → Prop
  | .panic _, _, _ => False
  | .normal, a, w => Q .normal a w
  | .ret, a, w => Q .ret a w
  | .exit i, a, w => Q (.exit i) a w
  | .goto i, a, w => Q (.goto i) a w
  | .outgrown, a, w => Q .outgrown a w
theorem noPanic_imp {Q : Exit → Act → World → Prop} : ∀ e a w, noPanic Q e a w → Q e a w
  | .panic _, _, _, h => h.elim
  | .normal, _, _, h => h
  | .ret, _, _, h => h
  | .exit _, _, _, h => h
  | .goto _, _, _, h => h
  | .outgrown, _, _, h => h

theorem rq_frame {P : Program} {n : Nat} {σ α : Type} {g : Operand} {ps : Array Tmp} {assign body : Code} {Q : Exit → Act → World → Prop} {a : Act} {w : World}
    {gf : Nat} {lb : Array Value} (hg : a.eval g = .func (.func gf) #[] lb) (eg : ∀ args w, (callFunc gf args).run P w = .ok (.enter gf args) w)
    {Enc : α → Array Value} (hps : ∀ x, (Enc x).size = ps.size) {pend : σ → Option α} {Φ : σ → World → Prop} {Pop : σ → World → World → Prop} (μ : σ → Nat) (s0 : σ)
    (C0 : Nat → Prop) (hC0 : ∀ c, C0 c → c < w.heap.size)
    (J JP : σ → (Nat → Prop) → World → Prop) (F : α → Array Value → Array Value)
    (hJ : ∀ k C W W', J k C W → Kp C W W' → J k C W')
    (hJP : ∀ k C W W', JP k C W → Kp C W W' → JP k C W')
    (hΦ : ∀ s C W, J s C W → Φ s W)
    (hpop : ∀ s x C W W', J s C W → pend s = some x → Pop s W W' → JP s C W' ∧ Kp (fun k => ¬ C k) W W')
    (hseq : IterQ P gf lb pend Enc Φ Pop C0 w) (h0 : J s0 C0 w)
    (hassign : ∀ L x W (K' : Act → World → Prop), K' { tmps := F x a.tmps, defers := [] } W →
      assign.wpIn (fnc (some L)) n P (Exit.then K' (fun _ _ _ => False)) { tmps := (ps.zip (Enc x)).foldl (fun t (p, v) => t.setIfInBounds p v) a.tmps, defers := [] } W)
    (hbody : ∀ L k x C W, pend k = some x → JP k C W → Grow C0 w C W → ¬ C L → (∃ r, W.heap[L]? = some (.loop r)) →
      body.wpIn (fnc (some L)) n P (rqPost C W J μ k) { tmps := F x a.tmps, defers := [] } W)
    (hdone : ∀ D s C W, Grow C0 w C W → pend s = none → J s C W → W.heap[D]? = some (.deferred (some [])) → ¬ C D → w.heap.size ≤ D → Q .normal { a with defers := { target := .collected D, args := #[] } :: a.defers } W) :
    (Code.rangeFunc g ps assign body).wpIn (fnc none) n P Q a w := by
  refine rq_outer hg eg hps μ s0 C0 hC0 J JP (fun k a' C W => ∃ x, pend k = some x ∧ a' = { tmps := F x a.tmps, defers := [] } ∧ JP k C W) hJ ?_ hΦ hpop hseq h0 ?_ ?_ hdone
  · rintro L k a' C W W' _ hn ⟨x, h1, h2, h3⟩ hk
    exact ⟨x, h1, h2, hJP k C W W' h3 (hk.mono fun c _ hc => fun e => hn (e ▸ hc))⟩
  · intro L k x C W K' hx hj hg hn hr hK
    exact hassign L x W K' (hK _ C W (Grow.refl hg.lt) ⟨x, hx, rfl, hj⟩)
  · rintro L k a' C W ⟨x, hx, rfl, hj⟩ hg hn hr
    exact hbody L k x C W hx hj hg hn hr
end

section
open Go.RowKit Go.Shelf Go.Maps Go.WideElems

structure RS where
  M : List Bool
  ms : List Int
  S : List Nat
  I : List Nat

theorem WL.mono {w : World} {C C' : Nat → Prop} {n L : Nat} {S I : List Nat} (h : WL w C n L S I) (hC : ∀ c, C c → C' c) : WL w C' n L S I := by
  obtain ⟨v, mv, hL, hCL, hv, hvC, hm⟩ := h
  refine ⟨v, mv, hL, hC _ hCL, hv, fun k hk => hC _ (hvC k hk), ?_⟩
  rcases hm with h | ⟨mb, f, h1, h2, h3, h4⟩
  · exact .inl h
  · exact .inr ⟨mb, f, h1, hC _ h2, h3, h4⟩

structure PJ (R : List Ru) (n mi ob L : Nat) (w : World) (C : Nat → Prop) (s : RS) (I : List Nat) (rest : List Int) : Prop where
  m : Blk w mi 3 (intV s.ms).toArray
  b : BB w ob s.M
  wl : WL w C n L s.S I
  nM : ¬ C mi
  nB : ¬ C ob
  mid : RMid R n s.M s.S s.I (fun i => (i : Int) ∈ rest)
  mis : MisOf R s.M rest s.ms

theorem BB.kp {w w' : World} {b : Nat} {M : List Bool} {S : Nat → Prop} (h : BB w b M) (hk : Kp S w w') (hb : S b) : BB w' b M := Blk.kp (show Blk w b 4 (M.map Value.bool).toArray from h) hk hb
theorem PJ.kp {R : List Ru} {n mi ob L : Nat} {w w' : World} {C S' : Nat → Prop} {s : RS} {I : List Nat} {rest : List Int} (h : PJ R n mi ob L w C s I rest) (hk : Kp S' w w') (hM : S' mi) (hB : S' ob) (hC : ∀ c, C c → S' c) : PJ R n mi ob L w' C s I rest :=
  ⟨h.m.kp hk hM, h.b.kp hk hB, h.wl.kp (hk.mono fun c _ hc => hC c hc), h.nM, h.nB, h.mid, h.mis⟩
theorem PJ.pop {R : List Ru} {n mi ob L : Nat} {w w' : World} {C : Nat → Prop} {s : RS} {rest : List Int} (h : PJ R n mi ob L w C s s.I rest) (hp : PopQ L s.I w w') : PJ R n mi ob L w' C s s.I.tail rest ∧ Kp (fun c => ¬ C c) w w' := by
  obtain ⟨h1, hk⟩ := h.wl.popped hp
  exact ⟨⟨h.m.kp hk h.nM, h.b.kp hk h.nB, h1, h.nM, h.nB, h.mid, h.mis⟩, hk⟩
theorem PJ.data {R : List Ru} {n mi ob L q : Nat} {T I : List Nat} {w : World} {C : Nat → Prop} {M : List Bool} {ms : List Int} {S : List Nat} (h : PJ R n mi ob L w C ⟨M, ms, S, q :: T⟩ I []) : q < n ∧ M.getD q false = false ∧ M.length = n ∧ ms.length = R.length := by
  have hmid : RMid R n M S (q :: T) (fun _ => False) := h.mid.less (fun i r _ _ hd _ => by cases hd)
  obtain ⟨h1, h2, _⟩ := hmid.pop2
  exact ⟨h1, h2, h.mid.len, h.mis.1⟩
/-- The state that was taken is marked: its row comes. -/
theorem PJ.marked {R : List Ru} {n mi ob L q : Nat} {T : List Nat} {w : World} {C : Nat → Prop} {M : List Bool} {ms : List Int} {S : List Nat} (h : PJ R n mi ob L w C ⟨M, ms, S, q :: T⟩ T []) :
    PJ R n mi ob L (w.setCell ⟨ob, q, none⟩ (.bool true)) C ⟨M.set q true, ms, S, T⟩ T (useK R q R.length) := by
  have hmid : RMid R n M S (q :: T) (fun _ => False) := h.mid.less (fun i r _ _ hd _ => by cases hd)
  obtain ⟨hq, hf, h3⟩ := hmid.pop2
  have hb : Blk w ob 4 (M.map Value.bool).toArray := h.b
  have hne : ¬ mi = ob := h.m.ne_ hb (by decide)
  have hk : Kp (fun c => c ≠ ob) w (w.setCell ⟨ob, q, none⟩ (.bool true)) := (Kp.refl _ w).setCell (p := ⟨ob, q, none⟩) (fun h => absurd rfl h) _
  exact ⟨h.m.kp hk hne, h.b.set_ q true, h.wl.kp (hk.mono fun c _ hc e => h.nB (e ▸ hc)), h.nM, h.nB, h3, h.mis.pop (by have := h.mid.len; omega) hf⟩
theorem PJ.setm {R : List Ru} {n mi ob L : Nat} {w : World} {C : Nat → Prop} {s : RS} {I : List Nat} {rest : List Int} (h : PJ R n mi ob L w C s I rest) (i : Nat) (x : Int) :
    Blk (w.setCell ⟨mi, i, none⟩ (.int .i64 x)) mi 3 (intV (s.ms.set i x)).toArray ∧ BB (w.setCell ⟨mi, i, none⟩ (.int .i64 x)) ob s.M ∧ WL (w.setCell ⟨mi, i, none⟩ (.int .i64 x)) C n L s.S I := by
  have hb : Blk w ob 4 (s.M.map Value.bool).toArray := h.b
  have hne : ¬ mi = ob := h.m.ne_ hb (by decide)
  have hk : Kp (fun c => c ≠ mi) w (w.setCell ⟨mi, i, none⟩ (.int .i64 x)) := (Kp.refl _ w).setCell (p := ⟨mi, i, none⟩) (fun h => absurd rfl h) _
  refine ⟨?_, h.b.kp hk (fun e => hne e.symm), h.wl.kp (hk.mono fun c _ hc e => h.nM (e ▸ hc))⟩
  have := h.m.set_ i (.int .i64 x)
  rw [List.setIfInBounds_toArray] at this
  unfold intV
  rw [List.map_set]
  exact this
theorem PJ.skip {R : List Ru} {n mi ob L i : Nat} {w : World} {C : Nat → Prop} {s : RS} {rest : List Int} {r : Ru} (hi : R[i]? = some r) (h : PJ R n mi ob L w C s s.I ((i : Int) :: rest)) (hn : s.ms.getD i 0 - 1 ≠ 0) :
    PJ R n mi ob L (w.setCell ⟨mi, i, none⟩ (.int .i64 (s.ms.getD i 0 - 1))) C ⟨s.M, s.ms.set i (s.ms.getD i 0 - 1), s.S, s.I⟩ s.I rest := by
  obtain ⟨h1, h2, h3⟩ := h.setm i (s.ms.getD i 0 - 1)
  obtain ⟨h4, h5⟩ := h.mis.item hi
  exact ⟨h1, h2, h3, h.nM, h.nB, h.mid.skip hi (fun hz => hn (by rw [h4, hz]; rfl)), h5⟩
theorem PJ.item {R : List Ru} {n mi ob L i q : Nat} {w w6 : World} {C C' : Nat → Prop} {s : RS} {rest : List Int} {r : Ru} (hi : R[i]? = some r) (h : PJ R n mi ob L w C s s.I ((i : Int) :: rest)) (hn : s.ms.getD i 0 - 1 = 0)
    (hlt : ∀ x ∈ r.fr, x.toNat < n) (hq : r.to.toNat = q) (hqn : q < n) (hwl : WL w6 C' n L (addS s.S q) (addI s.S s.I q)) (hC' : ∀ c, C' c → C c ∨ w.heap.size ≤ c) (hk : Kp (fun c => ¬ C c) (w.setCell ⟨mi, i, none⟩ (.int .i64 (s.ms.getD i 0 - 1))) w6) :
    PJ R n mi ob L w6 (fun c => C c ∨ (C' c ∧ c < w6.heap.size)) ⟨s.M, s.ms.set i (s.ms.getD i 0 - 1), addS s.S q, addI s.S s.I q⟩ (addI s.S s.I q) rest := by
  obtain ⟨h1, h2, h3⟩ := h.setm i (s.ms.getD i 0 - 1)
  obtain ⟨h4, h5⟩ := h.mis.item hi
  have hml := h.m.lt
  have hbl : ob < w.heap.size := Blk.lt (show Blk w ob 4 (s.M.map Value.bool).toArray from h.b)
  exact ⟨h1.kp hk h.nM, h2.kp hk h.nB, hwl.bound.mono (fun c hc => .inr hc),
    fun hc => hc.elim h.nM (fun e => (hC' _ e.1).elim h.nM (fun e => by omega)),
    fun hc => hc.elim h.nB (fun e => (hC' _ e.1).elim h.nB (fun e => by omega)),
    h.mid.item hi (by
      rw [h4] at hn
      simp only [Int.natCast_add] at hn
      show unm s.M r.fr = 0
      omega) hlt hq hqn, h5⟩
theorem PJ.done {R : List Ru} {n mi ob L : Nat} {w : World} {C : Nat → Prop} {s : RS} (h : PJ R n mi ob L w C s s.I []) (hI : s.I = []) : IsRch R n s.M := by
  have hmid : RMid R n s.M s.S s.I (fun _ => False) := h.mid.less (fun i r _ _ hd _ => by cases hd)
  rw [hI] at hmid
  exact hmid.done
theorem PJ.mcell {R : List Ru} {n mi ob L : Nat} {w : World} {C : Nat → Prop} {s : RS} {I : List Nat} {rest : List Int} (h : PJ R n mi ob L w C s I rest) {i : Nat} (hi : i < R.length) : w.cell? ⟨mi, i, none⟩ = some (.int .i64 (s.ms.getD i 0)) := by
  have hl := h.mis.1
  rw [h.m.cell, List.getD_eq_getElem?_getD]
  simp [intV, hl, hi]
/-- The blocks of the pass. -/
def PB (C : Nat → Prop) (mi ob : Nat) (c : Nat) : Prop := C c ∨ c = mi ∨ c = ob
theorem unm_le (M : List Bool) (l : List Int) : unm M l ≤ l.length := List.countP_le_length
end

end Go.Proofs.YtedfldbknjcnlaaDoor
