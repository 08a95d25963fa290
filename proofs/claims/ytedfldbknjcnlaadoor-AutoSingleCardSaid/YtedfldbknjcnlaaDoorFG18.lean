/- The states of the pass for useful states, as data. Rows of numbers that grow by lists of numbers. -/
import Derived.Test.YtedfldbknjcnlaaDoorFG16
import Derived.Test.YtedfldbknjcnlaaDoorFG17
namespace Go.Proofs.YtedfldbknjcnlaaDoor
section
open Go.RowKit Go.Shelf Go.Maps Go.WideElems

/-- The states from which the rules to p that can be used come, in order. -/
def srcL (R : List Ru) (Q : List Bool) (p : Nat) : List Int := (R.filter fun r => r.to.toNat == p && mkd Q r.fr).flatMap Ru.fr
theorem mem_srcL {R : List Ru} {Q : List Bool} {p : Nat} {x : Int} : x ∈ srcL R Q p ↔ ∃ r ∈ R, r.to.toNat = p ∧ mkd Q r.fr = true ∧ x ∈ r.fr := by
  unfold srcL
  rw [List.mem_flatMap]
  constructor
  · rintro ⟨r, hr, hx⟩
    rw [List.mem_filter, Bool.and_eq_true, beq_iff_eq] at hr
    exact ⟨r, hr.1, hr.2.1, hr.2.2, hx⟩
  · rintro ⟨r, h1, h2, h3, hx⟩
    exact ⟨r, by rw [List.mem_filter, Bool.and_eq_true, beq_iff_eq]; exact ⟨h1, h2, h3⟩, hx⟩

/-- What is marked, seen and left; E p: what is still to come of the sources of p. -/
structure UMid (R : List Ru) (F : List Int) (Q : List Bool) (n : Nat) (M : List Bool) (S I : List Nat) (E : Nat → Int → Prop) : Prop where
  len : M.length = n
  lt : ∀ q ∈ S, q < n
  mrk : ∀ q, q < n → (M.getD q false = true ↔ q ∈ S ∧ ¬ q ∈ I)
  sub : ∀ q ∈ I, q ∈ S
  nod : I.Pairwise (fun a b => a ≠ b)
  snd : ∀ q ∈ S, Usd R F q
  cls : ∀ p, M.getD p false = true → ∀ x ∈ srcL R Q p, ¬ E p x → x.toNat ∈ S

theorem UMid.start (R : List Ru) (F : List Int) (Q : List Bool) (n : Nat) : UMid R F Q n (List.replicate n false) [] [] (fun _ _ => False) where
  len := by simp
  lt q h := by cases h
  mrk q hq := by rw [List.getD_eq_getElem?_getD, List.getElem?_replicate, if_pos hq]; simp
  sub q h := by cases h
  nod := List.Pairwise.nil
  snd q h := by cases h
  cls p hp := by
    rw [List.getD_eq_getElem?_getD, List.getElem?_replicate] at hp
    split at hp <;> simp at hp
theorem UMid.add {R : List Ru} {F : List Int} {Q : List Bool} {n : Nat} {M : List Bool} {S I : List Nat} {E : Nat → Int → Prop} (h : UMid R F Q n M S I E) {q : Nat} (hq : q < n) (hr : Usd R F q) : UMid R F Q n M (addS S q) (addI S I q) E where
  len := h.len
  lt x hx := (mem_addS.1 hx).elim (fun e => e ▸ hq) (h.lt x)
  mrk x hx := by
    rw [h.mrk x hx, mem_addS]
    unfold addI
    by_cases hs : q ∈ S
    · rw [if_pos hs]
      constructor
      · rintro ⟨a, b⟩; exact ⟨.inr a, b⟩
      · rintro ⟨a | a, b⟩
        · subst a; exact ⟨hs, b⟩
        · exact ⟨a, b⟩
    · rw [if_neg hs, List.mem_append, List.mem_singleton]
      constructor
      · rintro ⟨a, b⟩
        exact ⟨.inr a, fun c => c.elim b (fun e => hs (e ▸ a))⟩
      · rintro ⟨a | a, b⟩
        · exact absurd (.inr a) b
        · exact ⟨a, fun c => b (.inl c)⟩
  sub x hx := by
    rw [mem_addS]
    unfold addI at hx
    split at hx
    · exact .inr (h.sub x hx)
    · rcases List.mem_append.1 hx with a | a
      · exact .inr (h.sub x a)
      · exact .inl (List.mem_singleton.1 a)
  nod := by
    unfold addI
    split
    · exact h.nod
    · rename_i hs
      rw [List.pairwise_append]
      refine ⟨h.nod, List.pairwise_singleton _ _, fun a ha b hb e => ?_⟩
      rw [List.mem_singleton] at hb
      subst hb
      exact hs (e ▸ h.sub a ha)
  snd x hx := (mem_addS.1 hx).elim (fun e => e ▸ hr) (h.snd x)
  cls p hp x hx he := mem_addS.2 (.inr (h.cls p hp x hx he))
theorem UMid.less {R : List Ru} {F : List Int} {Q : List Bool} {n : Nat} {M : List Bool} {S I : List Nat} {E E' : Nat → Int → Prop} (h : UMid R F Q n M S I E) (hd : ∀ p x, E p x → ¬ E' p x → x.toNat ∈ S) : UMid R F Q n M S I E' :=
  ⟨h.len, h.lt, h.mrk, h.sub, h.nod, h.snd, fun p hp x hx hn => by
    by_cases hE : E p x
    · exact hd p x hE hn
    · exact h.cls p hp x hx hE⟩
/-- A source of a state that is seen. -/
theorem UMid.used {R : List Ru} {F : List Int} {Q : List Bool} {n m : Nat} {M : List Bool} {S I : List Nat} {E : Nat → Int → Prop} (h : UMid R F Q n M S I E) (hQ : IsRch R m Q) {p : Nat} (hp : p ∈ S) {x : Int} (hx : x ∈ srcL R Q p) : Usd R F x.toNat := by
  obtain ⟨r, h1, h2, h3, h4⟩ := mem_srcL.1 hx
  exact Usd.src r h1 ((hQ.mk_iff _).1 h3) (by rw [h2]; exact h.snd p hp) x h4
/-- The next state is marked: its sources come. -/
theorem UMid.pop {R : List Ru} {F : List Int} {Q : List Bool} {n : Nat} {M : List Bool} {S T : List Nat} {q : Nat} (h : UMid R F Q n M S (q :: T) (fun _ _ => False)) : q < n ∧ q ∈ S ∧ M.getD q false = false ∧ UMid R F Q n (M.set q true) S T (fun p _ => p = q) := by
  have hqS := h.sub q (List.mem_cons_self ..)
  have hq := h.lt q hqS
  have hqm : M.getD q false = false := by
    cases hm : M.getD q false with
    | false => rfl
    | true => exact absurd (List.mem_cons_self ..) ((h.mrk q hq).1 hm).2
  have hnd := List.pairwise_cons.1 h.nod
  refine ⟨hq, hqS, hqm, ⟨by rw [List.length_set]; exact h.len, h.lt, fun x hx => ?_, fun x hx => h.sub x (List.mem_cons_of_mem _ hx), hnd.2, h.snd, fun p hp x hx hn => ?_⟩⟩
  · rw [getD_set2 M q x true (by rw [h.len]; exact hq)]
    by_cases e : q = x
    · subst e
      rw [if_pos rfl]
      exact ⟨fun _ => ⟨hqS, fun hT => hnd.1 q hT rfl⟩, fun _ => rfl⟩
    · rw [if_neg e, h.mrk x hx, List.mem_cons]
      exact ⟨fun ⟨a, b⟩ => ⟨a, fun c => b (.inr c)⟩, fun ⟨a, b⟩ => ⟨a, fun c => c.elim (fun e2 => e e2.symm) b⟩⟩
  · rw [getD_set2 M q p true (by rw [h.len]; exact hq), if_neg (fun e => hn e.symm)] at hp
    exact h.cls p hp x hx (fun hf => hf)
/-- Nothing is left: what is marked is what is useful. -/
theorem UMid.done {R : List Ru} {F : List Int} {Q : List Bool} {n : Nat} {M : List Bool} {S : List Nat} (h : UMid R F Q n M S [] (fun _ _ => False)) (hQ : IsRch R n Q) (hF : ∀ s ∈ F, Q.getD s.toNat false = true → s.toNat ∈ S) : IsUsd R F n M := by
  have hmS : ∀ q ∈ S, M.getD q false = true := fun q hq => (h.mrk q (h.lt q hq)).2 ⟨hq, fun hn => by cases hn⟩
  have hSm : ∀ i, M.getD i false = true → i ∈ S := fun i hi => by
    have hin : i < n := by
      rcases Nat.lt_or_ge i n with h1 | h1
      · exact h1
      · rw [List.getD_eq_getElem?_getD, List.getElem?_eq_none (by rw [h.len]; exact h1)] at hi
        cases hi
    exact ((h.mrk i hin).1 hi).1
  refine isUsd_of hQ h.len (fun i hi => h.snd i (hSm i hi)) (fun s hs hq => hmS _ (hF s hs hq)) (fun r hr ht hm x hx => ?_)
  exact hmS _ (h.cls _ ht x (mem_srcL.2 ⟨r, hr, rfl, hm, hx⟩) (fun hf => hf))
end

section
open Go.RowKit Go.Shelf Go.Maps Go.WideElems

theorem run_append_nilnil {P : Program} (t ty e : TypeId) (i : TypeInfo) (ht : P.underlying t = some (.slice e)) (hi : P.info? e = some i) (w : World) (c2 : Nat) :
    (Builtin.append_ #[t, t] ty #[.slice none 0 0, .slice none 0 c2]).run P w = .ok (.slice none 0 0) w := by
  simp [Builtin.append_, run_underlying ht, sizeOf, typeInfo, hi, Builtin.lenOf, Builtin.firstCells, loadCells, loadCellsFrom, storeCells]

theorem grownBy_refl (w : World) (r : Option Nat) : w.grownBy w r := ⟨rfl, rfl, rfl, Nat.le_refl _, fun _ _ _ => rfl⟩

theorem run_append_ints {P : Program} (w : World) (base : Nat) (t ty e : TypeId) (i : TypeInfo) (z : Value) (bytes : Nat) (ht : P.underlying t = some (.slice e)) (hi : P.info? e = some i) (hz : i.zero = some z)
    (hsize : i.size = 1) (hby : i.bytes = bytes) (hzs : z.cells.size = 1)
    (v : Value) (n : Nat) (xs : List Value) (hown : w.ownsRow base e 1 v n xs) (pu : Option Addr) (fr : List Int) (cu : Nat)
    (hc : fr ≠ [] → ∃ b o, pu = some ⟨b, o, none⟩ ∧ ∀ (i : Nat) (x : Int), fr[i]? = some x → w.cell? ⟨b, o + i, none⟩ = some (.int .i64 x))
    (h63 : n + fr.length ≤ maxLen) (hbytes : (n + fr.length) * bytes ≤ 140737488355328) (hbase : base ≤ w.heap.size) :
    ∃ v' w', (Builtin.append_ #[t, t] ty #[v, .slice pu fr.length cu]).run P w = .ok v' w' ∧ w'.ownsRow base e 1 v' (n + fr.length) (xs ++ intV fr) ∧ w.grownBy w' v.ownBlock ∧ (v'.ownBlock = v.ownBlock ∨ v'.ownBlock = some w.heap.size) := by
  cases pu with
  | some ad =>
    obtain ⟨v', w', hr, h2, h3, _, h5⟩ := run_append_own_at (P := P) w base t ty e i z 1 bytes ht hi hz hsize hby hzs (by decide) v n xs hown ad fr.length cu (intV fr) (by rw [intV_len, Nat.mul_one]) (fun j u hu => by
      unfold intV at hu
      rw [List.getElem?_map] at hu
      cases hj : fr[j]? with
      | none => rw [hj] at hu; cases hu
      | some x =>
        rw [hj] at hu
        obtain ⟨b, o, e2, h6⟩ := hc (fun h => by rw [h] at hj; cases hj)
        cases e2
        rw [add_q, h6 j x hj]
        exact hu) (one_int fr) h63 hbytes hbase
    exact ⟨v', w', hr, h2, h3, h5⟩
  | none =>
    have hfr : fr = [] := by
      cases fr with
      | nil => rfl
      | cons a l => obtain ⟨_, _, e2, _⟩ := hc (by simp); cases e2
    subst hfr
    have h2 : w.ownsRow base e 1 v (n + ([] : List Int).length) (xs ++ intV []) := by simpa [intV] using hown
    refine ⟨v, w, ?_, h2, grownBy_refl w _, .inl rfl⟩
    rcases hown.2 with ⟨rfl, rfl⟩ | ⟨g, cap, cur, rfl, _, _, h1, _⟩
    · exact run_append_nilnil t ty e i ht hi w cu
    · exact run_append_nil (P := P) t ty e i ht hi w ⟨g, 0, none⟩ n cap cu h1

theorem step_append_ints {P : Program} {ops : Array Oper} {o : Oper} {a : Act} {K : Act → World → Prop} {Q : Exit → Act → World → Prop} {E : Prop} (w : World) (hgd : o.guard = none) (s x : Operand) (t : TypeId)
    (ho : o.op = .call { callee := .builtin .append, args := #[s, x], argTypes := #[t, t] })
    (base : Nat) (e : TypeId) (i : TypeInfo) (z : Value) (bytes : Nat) (ht : P.underlying t = some (.slice e)) (hi : P.info? e = some i) (hz : i.zero = some z)
    (hsize : i.size = 1) (hby : i.bytes = bytes) (hzs : z.cells.size = 1)
    (v : Value) (n : Nat) (xs : List Value) (hs : a.eval s = v) (hown : w.ownsRow base e 1 v n xs) (pu : Option Addr) (fr : List Int) (cu : Nat) (hx : a.eval x = .slice pu fr.length cu)
    (hc : fr ≠ [] → ∃ b o, pu = some ⟨b, o, none⟩ ∧ ∀ (i : Nat) (x : Int), fr[i]? = some x → w.cell? ⟨b, o + i, none⟩ = some (.int .i64 x))
    (h63 : n + fr.length ≤ maxLen) (hbytes : (n + fr.length) * bytes ≤ 140737488355328) (hbase : base ≤ w.heap.size)
    (h : ∀ v' w', w'.ownsRow base e 1 v' (n + fr.length) (xs ++ intV fr) → w.grownBy w' v.ownBlock → (v'.ownBlock = v.ownBlock ∨ v'.ownBlock = some w.heap.size) → K (a.put o.dst v') w') :
    if Region.wanted o (yielded ops a.tmps) = true then Oper.wp P o a w K Q else E := by
  have hw : Region.wanted o (yielded ops a.tmps) = true := by simp [Region.wanted, hgd]
  rw [if_pos hw]
  obtain ⟨v', w', hr, h2, h3, h5⟩ := run_append_ints (P := P) w base t o.type e i z bytes ht hi hz hsize hby hzs v n xs hown pu fr cu hc h63 hbytes hbase
  unfold Oper.wp execOp
  simp only [ho, resolve, invoke, builtin, Sem.run_bind, Sem.run_pure, Result.andThen_ok, List.map_toArray, List.map_cons, List.map_nil, hs, hx, hr]
  exact h v' w' h2 h3 h5

theorem srcL_take {R : List Ru} {Q : List Bool} {k : Nat} {r : Ru} (h : R[k]? = some r) (p : Nat) : srcL (R.take (k + 1)) Q p = srcL (R.take k) Q p ++ if r.to.toNat = p ∧ mkd Q r.fr = true then r.fr else [] := by
  have e : R.take (k + 1) = R.take k ++ [r] := by rw [List.take_add_one, h]; rfl
  unfold srcL
  rw [e, List.filter_append, List.flatMap_append]
  congr 1
  by_cases h1 : r.to.toNat = p
  · cases h2 : mkd Q r.fr <;> simp [h1, h2]
  · simp [h1]
theorem srcL_len {R : List Ru} {Q : List Bool} (h3 : ∀ r ∈ R, r.fr.length ≤ 3) (p : Nat) : ∀ k, (srcL (R.take k) Q p).length ≤ 3 * k
  | 0 => by simp [srcL]
  | k + 1 => by
    have ih := srcL_len (Q := Q) h3 p k
    cases hk : R[k]? with
    | none =>
      have hl : R.length ≤ k := by rwa [List.getElem?_eq_none_iff] at hk
      rw [List.take_of_length_le hl] at ih
      rw [List.take_of_length_le (by omega)]
      omega
    | some r =>
      rw [srcL_take hk p, List.length_append]
      have := h3 r (List.mem_of_getElem? hk)
      split <;> simp <;> omega

/-- Rows of numbers at block G, their own memory from B on. -/
structure RWs (B n G : Nat) (w : World) (rows : List Value) (U : Nat → List Int) : Prop where
  g : Blk w G 22 rows.toArray
  len : rows.length = n
  row : ∀ (q : Nat) v, rows[q]? = some v → w.ownsRow B 3 1 v (U q).length (intV (U q))
  apart : ∀ (q q' : Nat) v v' b, q ≠ q' → rows[q]? = some v → rows[q']? = some v' → v.ownBlock = some b → v'.ownBlock ≠ some b
theorem RWs.lt_row {B n G : Nat} {w : World} {rows : List Value} {U : Nat → List Int} (h : RWs B n G w rows U) {q : Nat} {v : Value} {b : Nat} (hv : rows[q]? = some v) (hb : v.ownBlock = some b) : B ≤ b ∧ b < w.heap.size ∧ b ≠ G := by
  obtain ⟨cur, hc, hB⟩ := own_cells (h.row q v hv) hb
  exact ⟨hB, hc.lt, hc.ne_ h.g (by decide)⟩
theorem RWs.kp {B n G : Nat} {w w' : World} {S' : Nat → Prop} {rows : List Value} {U : Nat → List Int} (h : RWs B n G w rows U) (hk : Kp S' w w') (hG : S' G) (hR : ∀ b, B ≤ b → b < w.heap.size → b ≠ G → S' b) : RWs B n G w' rows U where
  g := h.g.kp hk hG
  len := h.len
  row q v hv := ownsRow_kp (h.row q v hv) hk (fun b hb => by obtain ⟨h1, h2, h3⟩ := h.lt_row hv hb; exact hR b h1 h2 h3)
  apart := h.apart
theorem RWs.start {B n G : Nat} {w : World} (U : Nat → List Int) (hU : ∀ q, U q = []) (hG : Blk w G 22 (List.replicate n (Value.slice none 0 0)).toArray) : RWs B n G w (List.replicate n (.slice none 0 0)) U where
  g := hG
  len := List.length_replicate
  row q v hv := by
    rw [List.getElem?_replicate] at hv
    split at hv
    · cases hv; rw [hU]; exact World.ownsRow_nil _ _ _ _
    · cases hv
  apart q q' v v' b _ h1 _ hb := by
    rw [List.getElem?_replicate] at h1
    split at h1
    · cases h1; cases hb
    · cases h1
theorem RWs.rcell {B n G : Nat} {w : World} {rows : List Value} {U : Nat → List Int} (h : RWs B n G w rows U) {q : Nat} (hq : q < n) : ∃ v, rows[q]? = some v ∧ w.cell? ⟨G, q, none⟩ = some v := by
  refine ⟨_, List.getElem?_eq_getElem (by rw [h.len]; exact hq), ?_⟩
  rw [h.g.cell]
  simp [List.getElem?_eq_getElem (show q < rows.length by rw [h.len]; exact hq)]
theorem RWs.app {B n G : Nat} {w w3 : World} {rows : List Value} {U U' : Nat → List Int} (h : RWs B n G w rows U) {q : Nat} {v v' : Value} (hq : rows[q]? = some v) (hk : Kp (fun c => v.ownBlock ≠ some c) w w3)
    (ho : w3.ownsRow B 3 1 v' (U' q).length (intV (U' q))) (hb : v'.ownBlock = v.ownBlock ∨ ∃ b, v'.ownBlock = some b ∧ w.heap.size ≤ b) (hU : ∀ p, p ≠ q → U' p = U p) :
    RWs B n G (w3.setCell ⟨G, q, none⟩ v') (rows.set q v') U' ∧ Kp (fun c => v.ownBlock ≠ some c ∧ c ≠ G) w (w3.setCell ⟨G, q, none⟩ v') := by
  have hvG : v.ownBlock ≠ some G := fun e => (h.lt_row hq e).2.2 rfl
  have hkf : Kp (fun c => v.ownBlock ≠ some c ∧ c ≠ G) w (w3.setCell ⟨G, q, none⟩ v') := (hk.mono fun _ _ h => h.1).setCell (p := ⟨G, q, none⟩) (fun h => absurd rfl h.2) v'
  have hql : q < rows.length := (List.getElem?_eq_some_iff.1 hq).1
  have hg3 : Blk w3 G 22 rows.toArray := h.g.kp hk hvG
  have hnG : ∀ b, v'.ownBlock = some b → b ≠ G := fun b e => by
    obtain ⟨cur, hc, _⟩ := own_cells ho e
    exact hc.ne_ hg3 (by decide)
  have hold : ∀ (p : Nat) u, p ≠ q → (rows.set q v')[p]? = some u → rows[p]? = some u := fun p u hp hu => by
    rwa [List.getElem?_set_ne (fun e => hp e.symm)] at hu
  have hnew : ∀ u, (rows.set q v')[q]? = some u → u = v' := fun u hu => by
    rw [List.getElem?_set_self hql] at hu
    exact (Option.some.inj hu).symm
  refine ⟨{
    g := by
      have := hg3.set_ q v'
      rwa [List.setIfInBounds_toArray] at this
    len := by rw [List.length_set]; exact h.len
    row := fun p u hu => by
      by_cases hp : p = q
      · subst hp
        rw [hnew u hu]
        exact ownsRow_kp ho ((Kp.refl (fun c => c ≠ G) w3).setCell (p := ⟨G, p, none⟩) (fun h => absurd rfl h) v') hnG
      · rw [hU p hp]
        have hu2 := hold p u hp hu
        exact ownsRow_kp (h.row p u hu2) hkf (fun b hb2 => ⟨fun e => h.apart p q u v b hp hu2 hq hb2 e, (h.lt_row hu2 hb2).2.2⟩)
    apart := fun p p' u u' b hpp hu hu' hub hub' => by
      by_cases hp : p = q
      · subst hp
        have hu2 := hold p' u' (fun e => hpp e.symm) hu'
        rw [hnew u hu] at hub
        rcases hb with e | ⟨b', e, hge⟩
        · exact h.apart p p' v u' b hpp hq hu2 (e ▸ hub) hub'
        · have := (h.lt_row hu2 hub').2.1
          rw [e] at hub
          cases hub
          omega
      · have hu2 := hold p u hp hu
        by_cases hp' : p' = q
        · subst hp'
          rw [hnew u' hu'] at hub'
          rcases hb with e | ⟨b', e, hge⟩
          · exact h.apart p p' u v b hpp hu2 hq hub (e ▸ hub')
          · have := (h.lt_row hu2 hub).2.1
            rw [e] at hub'
            cases hub'
            omega
        · exact h.apart p p' u u' b hpp hu2 (hold p' u' hp' hu') hub hub' }, hkf⟩

structure US where
  M : List Bool
  S : List Nat
  I : List Nat
/-- What the pass for useful states keeps. -/
structure UJ (R : List Ru) (F : List Int) (Q : List Bool) (n ob L : Nat) (w : World) (C : Nat → Prop) (s : US) (I : List Nat) (E : Nat → Int → Prop) : Prop where
  b : BB w ob s.M
  wl : WL w C n L s.S I
  nB : ¬ C ob
  mid : UMid R F Q n s.M s.S s.I E
  fin : ∀ x ∈ F, Q.getD x.toNat false = true → x.toNat ∈ s.S
def noE (_ : Nat) (_ : Int) : Prop := False
theorem UJ.kp {R : List Ru} {F : List Int} {Q : List Bool} {n ob L : Nat} {w w' : World} {C S' : Nat → Prop} {s : US} {I : List Nat} {E : Nat → Int → Prop} (h : UJ R F Q n ob L w C s I E) (hk : Kp S' w w') (hB : S' ob) (hC : ∀ c, C c → S' c) : UJ R F Q n ob L w' C s I E :=
  ⟨h.b.kp hk hB, h.wl.kp (hk.mono fun c _ hc => hC c hc), h.nB, h.mid, h.fin⟩
theorem UJ.pop {R : List Ru} {F : List Int} {Q : List Bool} {n ob L : Nat} {w w' : World} {C : Nat → Prop} {s : US} {E : Nat → Int → Prop} (h : UJ R F Q n ob L w C s s.I E) (hp : PopQ L s.I w w') : UJ R F Q n ob L w' C s s.I.tail E ∧ Kp (fun c => ¬ C c) w w' := by
  obtain ⟨h1, hk⟩ := h.wl.popped hp
  exact ⟨⟨h.b.kp hk h.nB, h1, h.nB, h.mid, h.fin⟩, hk⟩
theorem UJ.marked {R : List Ru} {F : List Int} {Q : List Bool} {n ob L q : Nat} {T : List Nat} {w : World} {C : Nat → Prop} {M : List Bool} {S : List Nat} (h : UJ R F Q n ob L w C ⟨M, S, q :: T⟩ T noE) :
    q < n ∧ q ∈ S ∧ M.getD q false = false ∧ M.length = n ∧ UJ R F Q n ob L (w.setCell ⟨ob, q, none⟩ (.bool true)) C ⟨M.set q true, S, T⟩ T (fun p x => p = q ∧ x ∈ srcL R Q q) := by
  have hmid : UMid R F Q n M S (q :: T) (fun _ _ => False) := h.mid.less (fun _ _ hd _ => hd.elim)
  obtain ⟨hq, hqS, hf, h3⟩ := hmid.pop
  have hk : Kp (fun c => c ≠ ob) w (w.setCell ⟨ob, q, none⟩ (.bool true)) := (Kp.refl _ w).setCell (p := ⟨ob, q, none⟩) (fun h => absurd rfl h) _
  refine ⟨hq, hqS, hf, h.mid.len, h.b.set_ q true, h.wl.kp (hk.mono fun c _ hc e => h.nB (e ▸ hc)), h.nB, ?_, h.fin⟩
  exact ⟨h3.len, h3.lt, h3.mrk, h3.sub, h3.nod, h3.snd, fun p hp x hx hn => h3.cls p hp x hx (fun e => by
    have e : p = q := e
    subst e
    exact hn ⟨rfl, hx⟩)⟩
theorem UJ.item {R : List Ru} {F : List Int} {Q : List Bool} {n m ob L q p : Nat} {w w6 : World} {C C' : Nat → Prop} {s : US} {rest : List Int} (h : UJ R F Q n ob L w C s s.I (fun p' x => p' = q ∧ x ∈ (p : Int) :: rest)) (hQ : IsRch R m Q) (hqS : q ∈ s.S) (hx : (p : Int) ∈ srcL R Q q) (hp : p < n)
    (hwl : WL w6 C' n L (addS s.S p) (addI s.S s.I p)) (hC' : ∀ c, C' c → C c ∨ w.heap.size ≤ c) (hk : Kp (fun c => ¬ C c) w w6) :
    UJ R F Q n ob L w6 (fun c => C c ∨ (C' c ∧ c < w6.heap.size)) ⟨s.M, addS s.S p, addI s.S s.I p⟩ (addI s.S s.I p) (fun p' x => p' = q ∧ x ∈ rest) := by
  have hbl : ob < w.heap.size := Blk.lt (show Blk w ob 4 (s.M.map Value.bool).toArray from h.b)
  have hus : Usd R F p := by
    have := h.mid.used hQ hqS hx
    rwa [Int.toNat_natCast] at this
  refine ⟨h.b.kp hk h.nB, hwl.bound.mono (fun c hc => .inr hc), fun hc => hc.elim h.nB (fun e => (hC' _ e.1).elim h.nB (fun e => by omega)), ?_, fun x hx hq => mem_addS.2 (.inr (h.fin x hx hq))⟩
  refine (h.mid.add hp hus).less (fun p' x hE hn => ?_)
  obtain ⟨e, hm⟩ := hE
  rcases List.mem_cons.1 hm with e2 | e2
  · subst e2
    rw [Int.toNat_natCast]
    exact mem_addS.2 (.inl rfl)
  · exact absurd ⟨e, e2⟩ hn
theorem UJ.full {R : List Ru} {F : List Int} {Q : List Bool} {n m ob L : Nat} {w : World} {C : Nat → Prop} {s : US} (h : UJ R F Q n ob L w C s s.I noE) (hI : s.I = []) (hQ : IsRch R m Q) (e : m = n) : IsUsd R F n s.M := by
  subst e
  have hmid : UMid R F Q m s.M s.S s.I (fun _ _ => False) := h.mid.less (fun _ _ hd _ => hd.elim)
  rw [hI] at hmid
  exact hmid.done hQ h.fin
end

end Go.Proofs.YtedfldbknjcnlaaDoor
