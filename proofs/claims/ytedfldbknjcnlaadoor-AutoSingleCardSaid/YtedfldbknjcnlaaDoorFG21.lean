/- slices.Clone of a list of rules. Neighbours that are equal are dropped, as data; the closure that compares; clear. -/
import Derived.Test.YtedfldbknjcnlaaDoorRSo
import Derived.Lib.SliceRun
import Derived.Test.YtedfldbknjcnlaaDoorFSrt
namespace Go.Proofs.YtedfldbknjcnlaaDoor
section
open Go.RowKit Go.Shelf Go.Maps Go.WideElems

/-- A list of rules in the memory, with the words of their From. -/
theorem rus_rows {w : World} {v : Value} {R : List Ru} (h : IsRus w v R) : ∃ p c D, v = .slice p D.length c ∧ D.map Prod.fst = R ∧ c ≤ maxLen ∧ (∀ x ∈ D, IsInts w x.2 x.1.fr) ∧
    (0 < D.length → ∃ b o, p = some ⟨b, o, none⟩ ∧ b < w.heap.size ∧ ∀ i u, (rcells D)[i]? = some u → w.cell? ⟨b, o + i, none⟩ = some u) := by
  obtain ⟨p, c, rfl, _, hc, hr⟩ := h
  have key : ∀ (b o : Nat) (R : List Ru), (∀ (i : Nat) (r : Ru), R[i]? = some r → IsRu w b (o + i * 3) r) → ∃ D : List (Ru × Value), D.map Prod.fst = R ∧ (∀ x ∈ D, IsInts w x.2 x.1.fr) ∧ ∀ i u, (rcells D)[i]? = some u → w.cell? ⟨b, o + i, none⟩ = some u := by
    intro b o R
    induction R generalizing o with
    | nil => exact fun _ => ⟨[], rfl, fun _ h => absurd h List.not_mem_nil, fun i u h => by cases h⟩
    | cons r R ih =>
      intro h
      obtain ⟨h1, ⟨u, h2, h3⟩, h4⟩ := h 0 r rfl
      obtain ⟨D, hD, hI, hC⟩ := ih (o + 3) (fun i r hr => by have := h (i + 1) r (by simpa using hr); rw [show o + (i + 1) * 3 = o + 3 + i * 3 by omega] at this; exact this)
      refine ⟨(r, u) :: D, by rw [List.map_cons, hD], ?_, ?_⟩
      · intro x hx
        rcases List.mem_cons.1 hx with e | e
        · rw [e]; exact h3
        · exact hI x e
      · intro i y hy
        rw [rcells_cons] at hy
        by_cases hi : i < 3
        · rw [List.getElem?_append_left (by exact hi)] at hy
          rcases (by omega : i = 0 ∨ i = 1 ∨ i = 2) with rfl | rfl | rfl
          · simp only [rcell, List.getElem?_cons_zero, Option.some.injEq] at hy; subst hy; simpa using h1
          · simp only [rcell, List.getElem?_cons_zero, List.getElem?_cons_succ, Option.some.injEq] at hy; subst hy; simpa using h2
          · simp only [rcell, List.getElem?_cons_zero, List.getElem?_cons_succ, Option.some.injEq] at hy; subst hy; simpa using h4
        · rw [List.getElem?_append_right (by show 3 ≤ i; omega)] at hy
          have := hC (i - 3) y hy
          rw [show o + 3 + (i - 3) = o + i by omega] at this
          exact this
  cases R with
  | nil => exact ⟨p, c, [], rfl, rfl, hc, fun _ h => absurd h List.not_mem_nil, fun h => absurd h (by simp)⟩
  | cons r R =>
    obtain ⟨b, o, rfl, hcell⟩ := hr (by simp)
    obtain ⟨D, hD, hI, hC⟩ := key b o (r :: R) hcell
    have hl : D.length = (r :: R).length := by rw [← hD, List.length_map]
    refine ⟨some ⟨b, o, none⟩, c, D, by rw [hl], hD, hc, hI, fun _ => ⟨b, o, rfl, ?_, hC⟩⟩
    obtain ⟨h1, _, _⟩ := hcell 0 r rfl
    rcases Nat.lt_or_ge b w.heap.size with h | h
    · exact h
    · simp [World.cell?, Array.getElem?_eq_none h] at h1

set_option maxRecDepth 100000 in
set_option maxHeartbeats 1000000 in
theorem rsclone_ok (w : World) (n : Nat) (p : Option Addr) (c : Nat) (D : List (Ru × Value)) (hsz : n ≤ 20000) (hD : D.length = n)
    (hrow : 0 < n → ∃ b o, p = some ⟨b, o, none⟩ ∧ b < w.heap.size ∧ ∀ i u, (rcells D)[i]? = some u → w.cell? ⟨b, o + i, none⟩ = some u) (hone : ∀ u ∈ rcells D, u.oneCell' = true) :
    Calls Tryd.prog 85 #[.slice p n c] w fun e w' => Below w.heap.size w w' ∧
      ∃ v', e = .returned v' ∧ w'.ownsRow w.heap.size 70 3 v' n (rcells D) := by
  obtain ⟨i0, hi, hz0, hz1, hz2⟩ := info_parts Tryd.infoRule
  have HC := Lib.hid hrow
  have HI := Lib.hid hi
  clear hi
  cases p with
  | none =>
    have hn : n = 0 := by
      rcases Nat.eq_zero_or_pos n with h | h
      · exact h
      · obtain ⟨b, o, h, _⟩ := hrow h
        cases h
    have HN := Lib.hid hn
    clear hrow hn
    have heq : ∀ (W : World), (binOp .eql 25 (.slice none n c) (.slice none 0 0)).run Tryd.prog W = .ok (.bool true) W := fun W => (Go.Lib.run_eql_slice_nil W 25 70 _ _ _ _ _ Tryd.underlying25)
    go_enter Tryd.func85, Tryd.ntmps85
    go_wp2
    go_ret
    refine ⟨Below.refl _ _, ?_⟩
    exact ⟨_, rfl, by rw [rcells_len, hD], .inl ⟨rfl, HN.out⟩⟩
  | some ad =>
    clear hrow
    have heq : ∀ (W : World), (binOp .eql 25 (.slice (some ad) n c) (.slice none 0 0)).run Tryd.prog W = .ok (.bool false) W := fun W => (Go.Lib.run_eql_slice_nil W 25 70 _ _ _ _ _ Tryd.underlying25)
    have hnews : ∀ j u, (rcells D)[j]? = some u → (w.alloc (.cells #[] 70)).cell? (ad.add j) = some u := fun j u hu => by
      have hj := (List.getElem?_eq_some_iff.1 hu).1
      rw [rcells_len, hD] at hj
      obtain ⟨b, o, e, _, h⟩ := HC.out (by omega)
      cases e
      have e : ((⟨b, o, none⟩ : Addr).add j) = ⟨b, o + j, none⟩ := by unfold Addr.add; split <;> simp_all
      rw [e]
      exact cell_later ((Below.refl _ w).alloc (Nat.le_refl _) _) (h j u hu)
    have HNW := Lib.hid hnews
    clear hnews
    go_enter Tryd.func85, Tryd.ntmps85
    go_wp2_with (at_builtin; refine wpList_append_own_at _ rfl (.tmp 5) (.tmp 6) 25 rfl w.heap.size 70 i0 _ 3 40 Tryd.underlying25 HI.out hz0 hz1 hz2 rfl (by decide) (.slice (some ⟨w.heap.size, 0, none⟩) 0 0) 0 [] rfl ⟨rfl, .inr ⟨w.heap.size, 0, #[], rfl, Nat.le_refl _, World.alloc_heap_new w _, Nat.le_refl _, by simp [maxLen], rfl, rfl⟩⟩ ad n c (rcells D) rfl (by rw [rcells_len, hD]) HNW.out hone (by simp only [maxLen]; omega) (by omega) (by simp) ?_)
    intro v' w' ho hg _ hat
    have HO := Lib.hid ho
    clear ho
    go_wp2
    go_ret
    have hbel : Below w.heap.size w w' := ((Below.refl _ w).alloc (Nat.le_refl _) _).grown hg (by simp) (fun j e => by simp [Value.ownBlock] at e; omega)
    refine ⟨hbel, v', by simp, ?_⟩
    exact HO.out
end

section
open Go.RowKit Go.Shelf Go.Maps Go.WideElems

instance ruDec : DecidableEq Ru := fun x y =>
  if h : x.sym = y.sym ∧ x.fr = y.fr ∧ x.to = y.to then isTrue (by cases x; cases y; simp only at h; obtain ⟨rfl, rfl, rfl⟩ := h; rfl) else isFalse (fun e => h (by subst e; exact ⟨rfl, rfl, rfl⟩))
/-- Entry i is kept: it is the first, or its rule is another than the one before. -/
def keepQ (E : List (Ru × Value)) : Nat → Bool
  | 0 => true
  | i + 1 => decide (E[i + 1]?.map Prod.fst ≠ E[i]?.map Prod.fst)
/-- The first m entries without those that are equal to the one before. -/
def cmpd (E : List (Ru × Value)) : Nat → List (Ru × Value)
  | 0 => []
  | m + 1 => if keepQ E m = true then cmpd E m ++ E[m]?.toList else cmpd E m
theorem cmpd_keep {E : List (Ru × Value)} {m : Nat} {x : Ru × Value} (hx : E[m]? = some x) (h : keepQ E m = true) : cmpd E (m + 1) = cmpd E m ++ [x] := by
  rw [cmpd, if_pos h, hx]; rfl
theorem cmpd_skip {E : List (Ru × Value)} {m : Nat} (h : keepQ E m = false) : cmpd E (m + 1) = cmpd E m := by
  rw [cmpd, if_neg (by rw [h]; decide)]
theorem keepQ_ne {E : List (Ru × Value)} {m : Nat} {x y : Ru × Value} (hx : E[m + 1]? = some x) (hy : E[m]? = some y) (h : x.1 ≠ y.1) : keepQ E (m + 1) = true := by
  rw [keepQ, hx, hy]
  exact decide_eq_true (fun e => h (by simpa using e))
theorem keepQ_eq {E : List (Ru × Value)} {m : Nat} {x y : Ru × Value} (hx : E[m + 1]? = some x) (hy : E[m]? = some y) (h : x.1 = y.1) : keepQ E (m + 1) = false := by
  rw [keepQ, hx, hy]
  exact decide_eq_false (fun e => e (by simpa using h))
theorem cmpd_len (E : List (Ru × Value)) : ∀ m, (cmpd E m).length ≤ m
  | 0 => Nat.le_refl _
  | m + 1 => by
    have ih := cmpd_len E m
    rw [cmpd]
    split
    · rw [List.length_append]
      have : E[m]?.toList.length ≤ 1 := by cases E[m]? <;> simp
      omega
    · omega
theorem cmpd_sub (E : List (Ru × Value)) : ∀ m, ∀ x ∈ cmpd E m, x ∈ E.take m
  | 0, x, h => by cases h
  | m + 1, x, h => by
    rw [List.take_add_one]
    rw [cmpd] at h
    split at h
    · rcases List.mem_append.1 h with h | h
      · exact List.mem_append_left _ (cmpd_sub E m x h)
      · exact List.mem_append_right _ h
    · exact List.mem_append_left _ (cmpd_sub E m x h)
theorem cmpd_ok (E : List (Ru × Value)) (hE : E.Pairwise (fun x y => ¬ ltR y.1 x.1)) : ∀ m, m ≤ E.length → StrS ((cmpd E m).map Prod.fst) ∧ ∀ r, r ∈ (cmpd E m).map Prod.fst ↔ r ∈ (E.take m).map Prod.fst
  | 0, _ => ⟨List.Pairwise.nil, fun r => by simp [cmpd]⟩
  | m + 1, hm => by
    obtain ⟨ihS, ihM⟩ := cmpd_ok E hE m (by omega)
    obtain ⟨x, hx⟩ : ∃ x, E[m]? = some x := ⟨_, List.getElem?_eq_getElem (by omega)⟩
    have ht : (E.take (m + 1)).map Prod.fst = (E.take m).map Prod.fst ++ [x.1] := by rw [List.take_add_one, hx, List.map_append]; rfl
    have hno : ∀ (i : Nat) (z : Ru × Value), i < m → E[i]? = some z → ¬ ltR x.1 z.1 := fun i z hi hz => by
      have h2 := List.pairwise_iff_getElem.1 hE i m (List.getElem?_eq_some_iff.1 hz).1 (by omega) hi
      rw [(List.getElem?_eq_some_iff.1 hz).2, (List.getElem?_eq_some_iff.1 hx).2] at h2
      exact h2
    cases m with
    | zero =>
      rw [cmpd_keep hx rfl, ht]
      exact ⟨by simp [cmpd, StrS], fun r => by simp [cmpd]⟩
    | succ k =>
      obtain ⟨y, hy⟩ : ∃ y, E[k]? = some y := ⟨_, List.getElem?_eq_getElem (by omega)⟩
      by_cases he : x.1 = y.1
      · rw [cmpd_skip (keepQ_eq hx hy he), ht]
        refine ⟨ihS, fun r => ?_⟩
        rw [ihM r, List.mem_append, List.mem_singleton]
        refine ⟨.inl, fun h => h.elim id (fun e => ?_)⟩
        rw [e, he]
        exact List.mem_map_of_mem (List.mem_of_getElem? (by rw [List.getElem?_take_of_lt (Nat.lt_succ_self k)]; exact hy))
      · rw [cmpd_keep hx (keepQ_ne hx hy he), List.map_append, ht]
        refine ⟨List.pairwise_append.2 ⟨ihS, List.pairwise_singleton _ _, fun a ha b hb => ?_⟩, fun r => ?_⟩
        · have hb' : b = x.1 := by simpa using hb
          subst hb'
          obtain ⟨z, hz, rfl⟩ := List.mem_map.1 ((ihM a).1 ha)
          obtain ⟨i, hi⟩ := List.mem_iff_getElem?.1 hz
          have hik : i < k + 1 := by have := (List.getElem?_eq_some_iff.1 hi).1; rw [List.length_take] at this; omega
          rw [List.getElem?_take_of_lt hik] at hi
          have hyx : ltR y.1 x.1 := by
            rcases ltR_tri y.1 x.1 with h | h | h
            · exact h
            · exact absurd h.symm he
            · exact absurd h (hno k y (Nat.lt_succ_self k) hy)
          rcases Nat.lt_or_ge i k with h | h
          · have h2 := List.pairwise_iff_getElem.1 hE i k (List.getElem?_eq_some_iff.1 hi).1 (List.getElem?_eq_some_iff.1 hy).1 h
            rw [(List.getElem?_eq_some_iff.1 hi).2, (List.getElem?_eq_some_iff.1 hy).2] at h2
            rcases ltR_tri z.1 y.1 with h3 | h3 | h3
            · exact ltR_trans h3 hyx
            · rw [h3]; exact hyx
            · exact absurd h3 h2
          · have : i = k := by omega
            subst this
            rw [hy] at hi
            cases hi
            exact hyx
        · rw [List.mem_append, List.mem_append, ihM r]
          simp
theorem rcmp_zero {x y : Ru} (h : x.sym = y.sym → x.fr.length = y.fr.length) : rcmp x y = 0 ↔ x = y := by
  rw [rcmp_key h]
  constructor
  · intro e
    rcases ltR_tri x y with h1 | h1 | h1
    · unfold ltR at h1; omega
    · exact h1
    · unfold ltR at h1; rw [lessL_anti] at h1; omega
  · rintro rfl
    exact lessL_refl _

set_option maxRecDepth 100000 in
set_option maxHeartbeats 1000000 in
theorem ruEq_ok (x y : Ru) (u v : Value) (w : World) (hu : IsInts w u x.fr) (hv : IsInts w v y.fr) (h : x.sym = y.sym → x.fr.length = y.fr.length) :
    Calls Tryd.prog 89 #[.agg #[.int .i64 x.sym, u, .int .i64 x.to], .agg #[.int .i64 y.sym, v, .int .i64 y.to]] w fun e w' => e = .returned (.bool (decide (x = y))) ∧ Kp (fun _ => True) w w' := by
  obtain ⟨X, hX⟩ : ∃ X, X = (w.alloc (.cells #[.int .i64 x.sym, u, .int .i64 x.to] 70)).alloc (.cells #[.int .i64 y.sym, v, .int .i64 y.to] 70) := ⟨_, rfl⟩
  have hk : Kp (fun _ => True) w X := by rw [hX]; exact ((Kp.refl _ w).alloc _).alloc _
  have HX0 : Blk X w.heap.size 70 #[.int .i64 x.sym, u, .int .i64 x.to] := hX ▸ (Blk.new w _ _).alloc _
  have HX1 : Blk X (w.heap.size + 1) 70 #[.int .i64 y.sym, v, .int .i64 y.to] := hX ▸ (by
    have := Blk.new (w.alloc (.cells #[.int .i64 x.sym, u, .int .i64 x.to] 70)) 70 #[.int .i64 y.sym, v, .int .i64 y.to]
    simpa using this)
  have HC := Lib.hid (rcompare_ok x y u v X (hu.below (hk.below (Nat.le_refl _) (fun _ _ => trivial))) (hv.below (hk.below (Nat.le_refl _) (fun _ _ => trivial))))
  have HK := Lib.hid hk
  obtain ⟨c, hc⟩ : ∃ c, c = rcmp x y := ⟨_, rfl⟩
  have HZ : Hid ((c == 0) = decide (x = y)) := Lib.hid (by
    rw [hc, Bool.eq_iff_iff, beq_iff_eq, decide_eq_true_eq]; exact rcmp_zero h)
  rw [← hc] at HC
  clear hc
  obtain ⟨pu, cu, rfl, _⟩ := hu
  obtain ⟨pv, cv, rfl, _⟩ := hv
  have x0 : X.cell? ⟨w.heap.size, 0, none⟩ = some (.int .i64 x.sym) := by rw [HX0.cell]; rfl
  have x1 : X.cell? ⟨w.heap.size, 1, none⟩ = some (.slice pu x.fr.length cu) := by rw [HX0.cell]; rfl
  have x2 : X.cell? ⟨w.heap.size, 2, none⟩ = some (.int .i64 x.to) := by rw [HX0.cell]; rfl
  have x3 : X.cell? ⟨w.heap.size + 1, 0, none⟩ = some (.int .i64 y.sym) := by rw [HX1.cell]; rfl
  have x4 : X.cell? ⟨w.heap.size + 1, 1, none⟩ = some (.slice pv y.fr.length cv) := by rw [HX1.cell]; rfl
  have x5 : X.cell? ⟨w.heap.size + 1, 2, none⟩ = some (.int .i64 y.to) := by rw [HX1.cell]; rfl
  have xl := HX0.lt
  have xl2 := HX1.lt
  clear HX0 HX1 hk h
  go_enter Tryd.func89, Tryd.ntmps89
  go_wp2_with fail
  rw [← hX]
  clear hX
  refine HC.out.mono ?_
  rintro e w1 ⟨rfl, rfl⟩
  go_wp2_with fail
  go_ret
  exact ⟨by rw [← HZ.out]; rfl, (((HK.out.alloc _).alloc _).alloc _).drew⟩

theorem clear_rules (w : World) (g o n c : Nat) (cur : Array Value) (hn : 0 < n) (hg : w.heap[g]? = some (.cells cur 70 (0, 0))) (hfit : o + n * 3 ≤ cur.size) :
    ∃ cs : List Value, cs.length = n * 3 ∧ ∀ ty, (Builtin.clear_ #[25] ty #[.slice (some ⟨g, o, none⟩) n c]).run Tryd.prog w = .ok (.tuple #[]) (w.setRow g (cur.toList.take o ++ cs ++ cur.toList.drop (o + cs.length)).toArray) := by
  obtain ⟨i, hi, hz0, hz1, hz2⟩ := info_parts Tryd.infoRule
  obtain ⟨m, rfl⟩ : ∃ m, n = m + 1 := ⟨n - 1, by omega⟩
  have hlen : (Builtin.zeroCells (Value.agg #[.int .i64 0, .slice none 0 0, .int .i64 0]).cells (m + 1)).toList.length = (m + 1) * 3 := by
    simp [Builtin.zeroCells, Value.cells]
  have hone : ∀ v ∈ (Builtin.zeroCells (Value.agg #[.int .i64 0, .slice none 0 0, .int .i64 0]).cells (m + 1)).toList, v.oneCell' = true := fun v hv => by
    unfold Builtin.zeroCells at hv
    simp only [Array.toList_map, List.mem_map] at hv
    obtain ⟨i, _, rfl⟩ := hv
    show (#[Value.int .i64 0, .slice none 0 0, .int .i64 0][i % 3]!).oneCell' = true
    rcases (by omega : i % 3 = 0 ∨ i % 3 = 1 ∨ i % 3 = 2) with h | h | h <;> rw [h] <;> rfl
  have hst := run_storeCells_at Tryd.prog g o 70 _ 0 cur w hg (by rw [hlen, Nat.add_zero]; exact hfit) hone
  have hv : ∀ w, (zeroValue 70).run Tryd.prog w = .ok (.agg #[.int .i64 0, .slice none 0 0, .int .i64 0]) w := fun w => by
    simp [zeroValue, typeInfo, hi, hz0]
  refine ⟨_, hlen, fun ty => ?_⟩
  simp only [Nat.add_zero] at hst
  simp [Builtin.clear_, run_underlying Tryd.underlying25, hv, hst]
theorem own_short {w : World} {B g n k cap : Nat} {e : TypeId} {a b : List Value} (h : w.ownsRow B e 3 (.slice (some ⟨g, 0, none⟩) n cap) n (a ++ b)) (ha : a.length = k * 3) (hk : k ≤ n) : w.ownsRow B e 3 (.slice (some ⟨g, 0, none⟩) k cap) k a := by
  rcases h.2 with ⟨e2, _⟩ | ⟨g', cap', cur, e2, hB, hg, h1, h2, h3, ht⟩
  · cases e2
  · simp only [Value.slice.injEq, Option.some.injEq, Addr.mk.injEq] at e2
    obtain ⟨⟨rfl, _⟩, _, rfl⟩ := e2
    refine ⟨ha, .inr ⟨g, cap, cur, rfl, hB, hg, by omega, h2, h3, ?_⟩⟩
    have : cur.toList.take (k * 3) = (cur.toList.take (n * 3)).take (k * 3) := by rw [List.take_take, Nat.min_eq_left (Nat.mul_le_mul_right 3 hk)]
    rw [this, ht, ← ha, List.take_left]
theorem kp_setRow {S : Nat → Prop} {a w : World} {g : Nat} {xs : Array Value} (h : Kp S a w) (hg : S g → a.heap.size ≤ g) : Kp S a (w.setRow g xs) :=
  ⟨h.os, h.tape, h.output, by rw [setRow_size]; exact h.size, fun k hk hS => by
    rw [setRow_other w g k xs (fun e => by subst e; have := hg hS; omega)]
    exact h.block k hk hS⟩
end

end Go.Proofs.YtedfldbknjcnlaaDoor
