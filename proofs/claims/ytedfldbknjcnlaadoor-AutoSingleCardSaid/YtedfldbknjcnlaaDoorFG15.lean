/- A queue: a slice of the call's own that loses its head and grows at its end. (*work.List[int]).Add. -/
import Derived.Test.YtedfldbknjcnlaaDoorHgS
import Derived.Maps.AppendAt
import Derived.Test.YtedfldbknjcnlaaDoorFG11
import Derived.WalkSpells
namespace Go.Proofs.YtedfldbknjcnlaaDoor
section
open Go.RowKit Go.Maps

theorem add_q (g o j : Nat) : (⟨g, o, none⟩ : Addr).add j = ⟨g, o + j, none⟩ := by unfold Addr.add; split <;> simp_all

/-- As ownsRow, of elements of one cell, at any offset. -/
def ownsQ (w : World) (base : Nat) (e : TypeId) (v : Value) (n : Nat) (xs : List Value) : Prop :=
  xs.length = n ∧ ((v = .slice none 0 0 ∧ n = 0) ∨
    ∃ g o cap cur, v = .slice (some ⟨g, o, none⟩) n cap ∧ base ≤ g ∧ w.heap[g]? = some (.cells cur e (0, 0)) ∧ n ≤ cap ∧ cap ≤ maxLen ∧ o + cap ≤ cur.size ∧ (cur.toList.drop o).take n = xs)

theorem ownsQ.of_row {w : World} {base : Nat} {e : TypeId} {v : Value} {n : Nat} {xs : List Value} (h : w.ownsRow base e 1 v n xs) : ownsQ w base e v n xs := by
  refine ⟨by simpa using h.1, ?_⟩
  rcases h.2 with h | ⟨g, cap, cur, h1, h2, h3, h4, h5, h6, h7⟩
  · exact .inl h
  · exact .inr ⟨g, 0, cap, cur, h1, h2, h3, h4, h5, by omega, by simpa using h7⟩
theorem ownsQ.nil (w : World) (base : Nat) (e : TypeId) : ownsQ w base e (.slice none 0 0) 0 [] := ⟨rfl, .inl ⟨rfl, rfl⟩⟩
theorem ownsQ.lt {w : World} {base : Nat} {e : TypeId} {v : Value} {n : Nat} {xs : List Value} (h : ownsQ w base e v n xs) : ∀ k, v.ownBlock = some k → base ≤ k ∧ k < w.heap.size := by
  intro k hk
  rcases h.2 with ⟨rfl, _⟩ | ⟨g, o, cap, cur, rfl, h2, h3, _⟩
  · simp [Value.ownBlock] at hk
  · simp only [Value.ownBlock, Option.some.injEq] at hk
    subst hk
    exact ⟨h2, (Array.getElem?_eq_some_iff.1 h3).1⟩
theorem ownsQ.heap {w w' : World} {base : Nat} {e : TypeId} {v : Value} {n : Nat} {xs : List Value} (h : ownsQ w base e v n xs) (hk : ∀ k, v.ownBlock = some k → w'.heap[k]? = w.heap[k]?) : ownsQ w' base e v n xs := by
  refine ⟨h.1, ?_⟩
  rcases h.2 with h | ⟨g, o, cap, cur, rfl, h2, h3, h4⟩
  · exact .inl h
  · exact .inr ⟨g, o, cap, cur, rfl, h2, (hk g rfl).trans h3, h4⟩
theorem ownsQ.cell {w : World} {base g o n cap : Nat} {e : TypeId} {xs : List Value} (h : ownsQ w base e (.slice (some ⟨g, o, none⟩) n cap) n xs) : ∀ j u, xs[j]? = some u → w.cell? ⟨g, o + j, none⟩ = some u := by
  intro j u hu
  rcases h.2 with ⟨h, _⟩ | ⟨g', o', cap', cur, h1, _, h3, _, _, _, h7⟩
  · cases h
  · simp only [Value.slice.injEq, Option.some.injEq, Addr.mk.injEq] at h1
    obtain ⟨⟨rfl, rfl, _⟩, _, rfl⟩ := h1
    rw [cell_of_row w g (o + j) cur e (0, 0) h3]
    rw [← h7, List.getElem?_take] at hu
    split at hu
    · simpa using hu
    · cases hu
/-- The queue without its head. -/
theorem ownsQ.tail {w : World} {base g o n cap : Nat} {e : TypeId} {x : Value} {xs : List Value} (h : ownsQ w base e (.slice (some ⟨g, o, none⟩) (n + 1) cap) (n + 1) (x :: xs)) : ownsQ w base e (.slice (some ⟨g, if cap = 1 then o else o + 1, none⟩) n (cap - 1)) n xs := by
  refine ⟨by have := h.1; simpa using this, ?_⟩
  rcases h.2 with ⟨h, _⟩ | ⟨g', o', cap', cur, h1, h2, h3, h4, h5, h6, h7⟩
  · cases h
  · simp only [Value.slice.injEq, Option.some.injEq, Addr.mk.injEq] at h1
    obtain ⟨⟨rfl, rfl, _⟩, _, rfl⟩ := h1
    have h8 : ((cur.toList.drop o).drop 1).take n = xs := by
      have h9 := congrArg (List.drop 1) h7
      rw [List.drop_take] at h9
      simpa using h9
    rw [List.drop_drop] at h8
    by_cases hc : cap = 1
    · subst hc
      have hn : n = 0 := by omega
      subst hn
      refine .inr ⟨g, o, 0, cur, by simp, h2, h3, by omega, by omega, by omega, by simpa using h8⟩
    · refine .inr ⟨g, o + 1, cap - 1, cur, by simp [hc], h2, h3, by omega, by omega, by omega, h8⟩

theorem run_append_room_q {P : Program} (w : World) (t ty e : TypeId) (i : TypeInfo) (ht : P.underlying t = some (.slice e)) (hi : P.info? e = some i) (hsz : i.size = 1)
    (g o sLen sCap : Nat) (cur : Array Value) (hg : w.heap[g]? = some (.cells cur e (0, 0)))
    (a : Addr) (m c : Nat) (news : List Value) (hl : news.length = m) (hnews : ∀ j u, news[j]? = some u → w.cell? (a.add j) = some u) (h1 : ∀ u ∈ news, u.oneCell' = true)
    (hroom : sLen + m ≤ sCap) (hfit : o + sLen + news.length ≤ cur.size) :
    (Builtin.append_ #[t, t] ty #[.slice (some ⟨g, o, none⟩) sLen sCap, .slice (some a) m c]).run P w =
      .ok (.slice (some ⟨g, o, none⟩) (sLen + m) sCap) (w.setRow g (cur.toList.take (o + sLen) ++ news ++ cur.toList.drop (o + sLen + news.length)).toArray) := by
  have hf := run_firstCells_some (P := P) w i.size m a m c news (by rw [hsz, hl]; omega) hnews
  have hst := run_storeCells_at P g (o + sLen) e news 0 cur w hg (by simpa using hfit) h1
  simp only [Nat.add_zero] at hst
  rw [hsz] at hf
  simp [Builtin.append_, run_underlying ht, sizeOf, typeInfo, hi, Builtin.lenOf, hroom, hsz, hf, add_q, hst]

theorem run_append_q {P : Program} (w : World) (base : Nat) (t ty e : TypeId) (i : TypeInfo) (z : Value) (bytes : Nat) (ht : P.underlying t = some (.slice e)) (hi : P.info? e = some i) (hz : i.zero = some z)
    (hsize : i.size = 1) (hby : i.bytes = bytes) (hzs : z.cells.size = 1)
    (v : Value) (n : Nat) (xs : List Value) (hown : ownsQ w base e v n xs)
    (a : Addr) (m c : Nat) (news : List Value) (hm : 0 < m) (hl : news.length = m) (hnews : ∀ j u, news[j]? = some u → w.cell? (a.add j) = some u) (h1 : ∀ u ∈ news, u.oneCell' = true)
    (h63 : n + m ≤ maxLen) (hbytes : (n + m) * bytes ≤ 140737488355328) (hbase : base ≤ w.heap.size) :
    ∃ v' w', (Builtin.append_ #[t, t] ty #[v, .slice (some a) m c]).run P w = .ok v' w' ∧ ownsQ w' base e v' (n + m) (xs ++ news) ∧ w.grownBy w' v.ownBlock ∧ (v'.ownBlock = v.ownBlock ∨ v'.ownBlock = some w.heap.size) := by
  rcases hown.2 with ⟨rfl, rfl⟩ | ⟨g, o, cap, cur, rfl, hbg, hg, hnc, hcm, hcs, htake⟩
  · have hx : xs = [] := List.eq_nil_of_length_eq_zero hown.1
    subst hx
    obtain ⟨v', w', hr, h2, h3, _, h5⟩ := run_append_own_at (P := P) w base t ty e i z 1 bytes ht hi hz hsize hby hzs (by decide) (.slice none 0 0) 0 [] (World.ownsRow_nil w base e 1) a m c news (by omega) hnews h1 h63 hbytes hbase
    exact ⟨v', w', hr, ownsQ.of_row h2, h3, h5⟩
  · by_cases hroom : n + m ≤ cap
    · have hr := run_append_room_q (P := P) w t ty e i ht hi hsize g o n cap cur hg a m c news hl hnews h1 hroom (by omega)
      refine ⟨_, _, hr, ⟨by rw [List.length_append, hown.1, hl], .inr ⟨g, o, cap, _, rfl, hbg, setRow_heap w g cur _ e _ hg, hroom, hcm, ?_, ?_⟩⟩, ⟨rfl, rfl, rfl, by simp, fun k _ hk => setRow_other w g k _ (fun e => hk (by simp [Value.ownBlock, e]))⟩, Or.inl rfl⟩
      · simp only [List.size_toArray, List.length_append, List.length_take, List.length_drop, Array.length_toList]
        omega
      · have h2 : cur.toList.take (o + n) = cur.toList.take o ++ xs := by rw [List.take_add, htake]
        have h3 : (cur.toList.take o).length = o := by rw [List.length_take, Array.length_toList]; omega
        show (((cur.toList.take (o + n) ++ news ++ _).toArray).toList.drop o).take (n + m) = _
        rw [h2, List.append_assoc, List.append_assoc]
        simp only
        rw [List.drop_append_of_le_length (by omega), List.drop_of_length_le (by omega), List.nil_append, ← List.append_assoc]
        exact List.take_left' (by rw [List.length_append, hown.1, hl])
    · have holds : ∀ j u, xs[j]? = some u → w.cell? ((⟨g, o, none⟩ : Addr).add j) = some u := fun j u hu => by
        have := hown.cell j u hu
        rw [add_q]; exact this
      subst hby
      have hr := run_append_grow (P := P) w t ty e i z ht hi hz ⟨g, o, none⟩ n cap xs (by rw [hsize, hown.1]; omega) holds a m c news (by rw [hsize, hl]; omega) hnews (by omega) (by simp only [maxLen] at h63; omega) (growslice_fits (by omega) hbytes)
      have hge := grownCap_ge w (n + m) cap e
      have hcm2 : grownCap w (n + m) cap e ≤ maxLen := grownCap_le_maxLen w (n + m) cap e h63
      refine ⟨_, _, hr, ⟨by rw [List.length_append, hown.1, hl], .inr ⟨w.heap.size, 0, _, _, rfl, hbase, heap_alloc_new w.drew _, hge, hcm2, ?_, ?_⟩⟩, ⟨rfl, rfl, rfl, by simp, fun k hk _ => _root_.Go.heap_alloc_old w.drew _ hk⟩, .inr rfl⟩
      · simp only [Array.size_append, List.size_toArray, size_zeroCells, hzs, hown.1, hl]
        omega
      · simp only [Array.toList_append, List.append_assoc, List.drop_zero]
        rw [← List.append_assoc]
        exact List.take_left' (by rw [List.length_append, hown.1, hl])

theorem wpList_append_q {P : Program} {ops : Array Oper} {rest : List Oper} {o : Oper} {a : Act} {Q : Exit → Act → World → Prop} (w : World) (hgd : o.guard = none) (s x : Operand) (t : TypeId)
    (ho : o.op = .call { callee := .builtin .append, args := #[s, x], argTypes := #[t, t] })
    (base : Nat) (e : TypeId) (i : TypeInfo) (z : Value) (bytes : Nat) (ht : P.underlying t = some (.slice e)) (hi : P.info? e = some i) (hz : i.zero = some z)
    (hsize : i.size = 1) (hby : i.bytes = bytes) (hzs : z.cells.size = 1)
    (v : Value) (n : Nat) (xs : List Value) (hs : a.eval s = v) (hown : ownsQ w base e v n xs)
    (ad : Addr) (m c : Nat) (news : List Value) (hm : 0 < m) (hx : a.eval x = .slice (some ad) m c) (hl : news.length = m) (hnews : ∀ j u, news[j]? = some u → w.cell? (ad.add j) = some u) (h1 : ∀ u ∈ news, u.oneCell' = true)
    (h63 : n + m ≤ maxLen) (hbytes : (n + m) * bytes ≤ 140737488355328) (hbase : base ≤ w.heap.size)
    (h : ∀ v' w', ownsQ w' base e v' (n + m) (xs ++ news) → w.grownBy w' v.ownBlock → (v'.ownBlock = v.ownBlock ∨ v'.ownBlock = some w.heap.size) → wpList P ops Q rest (a.put o.dst v') w') : wpList P ops Q (o :: rest) a w :=
  wpList_plain hgd fun K hK => by
    obtain ⟨v', w', hr, h2, h3, h4⟩ := run_append_q (P := P) w base t o.type e i z bytes ht hi hz hsize hby hzs v n xs hown ad m c news hm hl hnews h1 h63 hbytes hbase
    unfold Oper.wp execOp
    simp only [ho, resolve, invoke, builtin, Sem.run_bind, Sem.run_pure, Result.andThen_ok, List.map_toArray, List.map_cons, List.map_nil, hs, hx, hr]
    exact hK _ _ (h v' w' h2 h3 h4)
end

section
open Go.RowKit Go.Shelf Go.Maps Go.WideElems

def wlKs (n : Nat) : List Lit := (List.range n).map fun q : Nat => Lit.int .i64 (q : Int)
theorem wlKs_mem {n q : Nat} (h : q < n) : Lit.int .i64 (q : Int) ∈ wlKs n := List.mem_map.2 ⟨q, List.mem_range.2 h, rfl⟩
/-- A work list at block L, whose memory is C: what was seen, and what is left. -/
def WL (w : World) (C : Nat → Prop) (n L : Nat) (S I : List Nat) : Prop :=
  ∃ v mv, Blk w L 113 #[v, mv] ∧ C L ∧ ownsQ w 0 3 v I.length (I.map fun q : Nat => Value.int .i64 (q : Int)) ∧ (∀ k, v.ownBlock = some k → C k) ∧
    ((mv = .map none ∧ S = []) ∨ ∃ mb f, mv = .map (some mb) ∧ C mb ∧ IsMp Tryd.prog 3 (wlKs n) w mb f ∧ ∀ q : Nat, q < n → f (.int .i64 (q : Int)) = if q ∈ S then some (.bool true) else none)
def addS (S : List Nat) (q : Nat) : List Nat := if q ∈ S then S else q :: S
def addI (S I : List Nat) (q : Nat) : List Nat := if q ∈ S then I else I ++ [q]
theorem zero_bool (w : World) : (zeroValue 4).run Tryd.prog w = .ok (.bool false) w := by kernel_rfl
theorem ownsQ.ne_blk {w : World} {base L n : Nat} {e t : TypeId} {v : Value} {xs : List Value} {cs : Array Value} (h : ownsQ w base e v n xs) (hL : Blk w L t cs) (ht : t ≠ e) : v.ownBlock ≠ some L := fun e2 => by
  rcases h.2 with ⟨rfl, _⟩ | ⟨g, o, cap, cur, rfl, h2, h3, _⟩
  · simp [Value.ownBlock] at e2
  · simp only [Value.ownBlock, Option.some.injEq] at e2
    subst e2
    unfold Blk at hL
    rw [hL] at h3
    simp only [Option.some.injEq, Obj.cells.injEq] at h3
    exact ht h3.2.1
theorem ownsQ.ne_mp {w : World} {base mb n : Nat} {e k : TypeId} {P : Program} {ks : List Lit} {f : Lit → Option Value} {v : Value} {xs : List Value} (h : ownsQ w base e v n xs) (hm : IsMp P k ks w mb f) : v.ownBlock ≠ some mb := fun e2 => by
  rcases h.2 with ⟨rfl, _⟩ | ⟨g, o, cap, cur, rfl, h2, h3, _⟩
  · simp [Value.ownBlock] at e2
  · simp only [Value.ownBlock, Option.some.injEq] at e2
    subst e2
    exact hm.ne_blk (show Blk w g e cur from h3) rfl

theorem ownsQ.slice {w : World} {base n : Nat} {e : TypeId} {v : Value} {xs : List Value} (h : ownsQ w base e v n xs) : ∃ a m c, v = .slice a m c := by
  rcases h.2 with ⟨rfl, _⟩ | ⟨g, o, cap, cur, rfl, _⟩
  · exact ⟨_, _, _, rfl⟩
  · exact ⟨_, _, _, rfl⟩

/-- What Add leaves, from the world behind the append. -/
theorem wl_done {w w1 w2 w3 : World} {C : Nat → Prop} {n L mb : Nat} {S I : List Nat} {v v' : Value} {f : Lit → Option Value} {q : Nat} (hq : q < n) (hs : q ∉ S)
    (hL : Blk w1 L 113 #[v, .map (some mb)]) (hCL : C L) (hCm : C mb ∨ w.heap.size ≤ mb) (hvC : ∀ k, v.ownBlock = some k → C k) (hk : Kp (fun c => ¬ C c) w w1)
    (hm : IsMp Tryd.prog 3 (wlKs n) w1 mb f) (hf : ∀ q : Nat, q < n → f (.int .i64 (q : Int)) = if q ∈ S then some (.bool true) else none)
    (hv : ownsQ w1 0 3 v I.length (I.map fun q : Nat => Value.int .i64 (q : Int)))
    (hm2 : IsMp Tryd.prog 3 (wlKs n) w2 mb (putF f (.int .i64 (q : Int)) (.bool true))) (hg2 : w1.grownBy w2 (some mb))
    (hv3 : ownsQ w3 0 3 v' (I.length + 1) ((I.map fun q : Nat => Value.int .i64 (q : Int)) ++ [.int .i64 (q : Int)])) (hg3 : (w2.alloc (.cells #[.int .i64 (q : Int)] 3)).grownBy w3 v.ownBlock)
    (hb3 : v'.ownBlock = v.ownBlock ∨ v'.ownBlock = some (w2.alloc (.cells #[.int .i64 (q : Int)] 3)).heap.size) :
    (∃ C', WL (w3.setCell ⟨L, 0, none⟩ v') C' n L (addS S q) (addI S I q) ∧ ∀ c, C' c → C c ∨ w.heap.size ≤ c) ∧ Kp (fun c => ¬ C c) w (w3.setCell ⟨L, 0, none⟩ v') := by
  have hvL := hv.ne_blk hL (by decide)
  have hvm := hv.ne_mp hm
  have hLm : L ≠ mb := hm.ne_blk hL
  have hL2 : Blk w2 L 113 #[v, .map (some mb)] := (hg2.block _ hL.lt (fun e => hLm (Option.some.inj e))).trans hL
  have hL3 : Blk w3 L 113 #[v, .map (some mb)] := (hg3.block _ (by rw [World.size_alloc]; exact Nat.lt_succ_of_lt hL2.lt) (fun e => hvL e.symm)).trans (hL2.alloc _)
  have hv'L := hv3.ne_blk hL3 (by decide)
  have hm3 : IsMp Tryd.prog 3 (wlKs n) w3 mb (putF f (.int .i64 (q : Int)) (.bool true)) := by
    refine hm2.heap ((hg3.block _ (by rw [World.size_alloc]; exact Nat.lt_succ_of_lt hm2.lt) (fun e => hvm e.symm)).trans ?_)
    exact Below.heap_alloc w2 _ _ hm2.lt
  have hsz1 := hk.size
  have hsz2 := hg2.size
  refine ⟨⟨fun c => C c ∨ w.heap.size ≤ c, ⟨v', .map (some mb), ?_, .inl hCL, ?_, ?_, .inr ⟨mb, putF f (.int .i64 (q : Int)) (.bool true), rfl, hCm, ?_, ?_⟩⟩, fun c h => h⟩, ?_⟩
  · have := hL3.set_ 0 v'
    simpa using this
  · rw [addI, if_neg hs, List.map_append, List.length_append]
    refine ownsQ.heap hv3 (fun k hk2 => Below.heap_setCell w3 _ _ k (fun e => hv'L ?_))
    rw [hk2, e]
  · intro k hk2
    rcases hb3 with e | e
    · exact .inl (hvC k (e ▸ hk2))
    · rw [e] at hk2
      simp only [Option.some.injEq, World.size_alloc] at hk2
      exact .inr (by omega)
  · exact hm3.heap (Below.heap_setCell w3 _ _ mb (fun e => hLm e.symm))
  · intro x hx
    by_cases hxq : x = q
    · subst hxq
      rw [putF_same, addS, if_neg hs, if_pos (List.mem_cons_self ..)]
    · rw [putF_other f _ (fun e => hxq (by simp only [Lit.int.injEq, true_and] at e; omega)), hf x hx, addS, if_neg hs]
      simp [hxq]
  · exact (((hk.grown hg2 (fun k e hS => by
      cases e
      rcases hCm with h | h
      · exact absurd h hS
      · exact h)).alloc _).grown hg3 (fun k e hS => absurd (hvC k e) hS)).setCell (p := ⟨L, 0, none⟩) (fun hS => absurd hCL hS) v'

set_option maxRecDepth 100000 in
set_option maxHeartbeats 4000000 in
theorem ladd_ok {w : World} {C : Nat → Prop} {n L : Nat} {S I : List Nat} (h : WL w C n L S I) (q : Nat) (hq : q < n) (hn : n ≤ 300) (hI : I.length ≤ 1000) :
    Calls Tryd.prog 82 #[.pointer (some ⟨L, 0, none⟩), .int .i64 (q : Int)] w fun e w' => e = .returned (.tuple #[]) ∧ (∃ C', WL w' C' n L (addS S q) (addI S I q) ∧ ∀ c, C' c → C c ∨ w.heap.size ≤ c) ∧ Kp (fun c => ¬ C c) w w' := by
  have HWL := Lib.hid h
  obtain ⟨v, mv, hL, hCL, hv, hvC, hm⟩ := h
  have HW := Lib.hid hL
  have HV := Lib.hid hv
  have HVC := Lib.hid hvC
  have hll := hL.lt
  have l0 : w.cell? ⟨L, 0, none⟩ = some v := by rw [hL.cell]; rfl
  have l1 : w.cell? ⟨L, 1, none⟩ = some mv := by rw [hL.cell]; rfl
  have l2 := hL.frozen 1
  have hkey : keyOf Tryd.prog 3 (.int .i64 (q : Int)) = some (.int .i64 (q : Int)) := keyOf_int_mk Tryd.underlying3 (wf_small (by omega) (by omega))
  have HKEY := Lib.hid hkey
  have HKS : Hid (Lit.int .i64 (q : Int) ∈ wlKs n) := Lib.hid (wlKs_mem hq)
  have HKL : Hid ((wlKs n).length < maxLen) := Lib.hid (by simp only [wlKs, List.length_map, List.length_range, maxLen]; omega)
  have HIL : Hid (I.length + 1 ≤ maxLen ∧ (I.length + 1) * 8 ≤ 140737488355328) := Lib.hid (by simp only [maxLen]; omega)
  have heq : ∀ (W : World) r, (binOp .eql 111 (.map r) (.map none)).run Tryd.prog W = .ok (.bool r.isNone) W := fun W r => run_eql_map_nil W _ _ _ r Tryd.underlying111
  obtain ⟨i0, hi, hz0, hz1, hz2⟩ := info_parts Tryd.infoInt
  have HI := Lib.hid hi
  clear hL hv hvC hkey hi
  rcases hm with ⟨rfl, rfl⟩ | ⟨mb, f, rfl, hCm, hmp, hf⟩
  · have hlk : (Instr.lookup 111 (.map none) (.int .i64 (q : Int)) false).run Tryd.prog w = .ok (.bool false) w := by
      simpa using Maps.look_nil (w := w) false (int_keyed Tryd.underlying3) Tryd.underlying111 (zero_bool w) HKEY.out
    have hmm := @run_makeMap Tryd.prog
    have HL1 : Hid (Blk ((w.setCell ⟨L, 1, none⟩ (.map (some w.heap.size))).alloc (.map #[] 0)) L 113 #[v, .map (some w.heap.size)]) := Lib.hid (by
      have := (HW.out.set_ 1 (.map (some w.heap.size))).alloc (.map #[] 0)
      simpa using this)
    have HM1 : Hid (IsMp Tryd.prog 3 (wlKs n) ((w.setCell ⟨L, 1, none⟩ (.map (some w.heap.size))).alloc (.map #[] 0)) w.heap.size (fun _ => none)) := Lib.hid (by
      have := IsMp.made (w.setCell ⟨L, 1, none⟩ (.map (some w.heap.size))) Tryd.prog 3 (wlKs n)
      simpa using this)
    have HV1 : Hid (ownsQ ((w.setCell ⟨L, 1, none⟩ (.map (some w.heap.size))).alloc (.map #[] 0)) 0 3 v I.length (I.map fun q : Nat => Value.int .i64 (q : Int))) := Lib.hid (HV.out.heap (fun k hk => by
      have h1 := HV.out.lt k hk
      rw [Below.heap_alloc _ _ k (by rw [World.size_setCell]; exact h1.2)]
      exact Below.heap_setCell w _ _ k (fun e => HV.out.ne_blk HW.out (by decide) (by rw [hk, e]))))
    have HK1 : Hid (Kp (fun c => ¬ C c) w ((w.setCell ⟨L, 1, none⟩ (.map (some w.heap.size))).alloc (.map #[] 0))) := Lib.hid (((Kp.refl _ w).setCell (p := ⟨L, 1, none⟩) (fun hS => absurd hCL hS) _).alloc _)
    obtain ⟨w2, hput, hm2, hg2⟩ := HM1.out.put (int_keyed Tryd.underlying3) (t := 111) Tryd.underlying111 (val := .bool true) HKEY.out HKS.out HKL.out
    have HM2 := Lib.hid hm2
    have HG2 := Lib.hid hg2
    have hL2 : Blk w2 L 113 #[v, .map (some w.heap.size)] := (hg2.block _ HL1.out.lt (fun e => HM1.out.ne_blk HL1.out (Option.some.inj e))).trans HL1.out
    have HL2 := Lib.hid hL2
    have HV2 : Hid (ownsQ w2 0 3 v I.length (I.map fun q : Nat => Value.int .i64 (q : Int))) := Lib.hid (HV1.out.heap (fun k hk => hg2.block k (HV1.out.lt k hk).2 (fun e => HV1.out.ne_mp HM1.out (e ▸ hk))))
    have HVL : Hid (v.ownBlock ≠ some L) := Lib.hid (HV.out.ne_blk HW.out (by decide))
    have j0 : w2.cell? ⟨L, 0, none⟩ = some v := by rw [hL2.cell]; rfl
    have j1 := hL2.lt
    clear hm2 hg2 hL2
    go_enter Tryd.func82, Tryd.ntmps82
    go_wp2_with (at_builtin; refine wpList_append_q _ rfl (.tmp 28) (.tmp 30) 22 rfl 0 3 i0 _ 8 Tryd.underlying22 HI.out hz0 hz1 hz2 rfl v I.length (I.map fun q : Nat => Value.int .i64 (q : Int)) rfl (HV2.out.heap (fun k hk => Below.heap_alloc _ _ k (HV2.out.lt k hk).2)) _ 1 1 [.int .i64 (q : Int)] (by decide) rfl rfl (new_one (Blk.new w2 _ _)) (by simp [Value.oneCell']) HIL.out.1 HIL.out.2 (Nat.zero_le _) ?_)
    intro v' w3 hv3 hg3 hb3
    obtain ⟨va, vm, vc, rfl⟩ := hv3.slice
    have HV3 := Lib.hid hv3
    have HG3 := Lib.hid hg3
    have HB3 := Lib.hid hb3
    have hL3 : Blk w3 L 113 #[v, .map (some w.heap.size)] := (hg3.block _ (by rw [World.size_alloc]; exact Nat.lt_succ_of_lt HL2.out.lt) (fun e => HVL.out e.symm)).trans (HL2.out.alloc _)
    have k0 : w3.cell? ⟨L, 0, none⟩ = some v := by rw [hL3.cell]; rfl
    have k1 := hL3.frozen 0
    have k2 := hL3.lt
    clear hv3 hg3 hb3 hL3
    go_wp2_with fail
    go_end0
    exact ⟨rfl, wl_done hq (by simp) HL1.out hCL (.inr (Nat.le_refl _)) HVC.out HK1.out HM1.out (fun _ _ => by simp) HV1.out HM2.out HG2.out HV3.out HG3.out (by rw [World.size_alloc]; exact HB3.out)⟩
  · have hlk := hmp.look (int_keyed Tryd.underlying3) (t := 111) Tryd.underlying111 (zero_bool w) HKEY.out
    rw [hf q hq] at hlk
    by_cases hs : q ∈ S
    · rw [if_pos hs] at hlk
      simp only [Option.getD_some] at hlk
      go_enter Tryd.func82, Tryd.ntmps82
      go_wp2_with fail
      (try simp only [Exit.inBlock, Exit.then])
      refine bodyPost_ret (results_none rfl _ _ _) rfl ?_
      exact ⟨rfl, ⟨C, by rw [addS, addI, if_pos hs, if_pos hs]; exact HWL.out, fun c h => .inl h⟩, Kp.refl _ _⟩
    · rw [if_neg hs] at hlk
      simp only [Option.getD_none] at hlk
      obtain ⟨w2, hput, hm2, hg2⟩ := hmp.put (int_keyed Tryd.underlying3) (t := 111) Tryd.underlying111 (val := .bool true) HKEY.out HKS.out HKL.out
      have HM2 := Lib.hid hm2
      have HG2 := Lib.hid hg2
      have HF := Lib.hid hf
      have HMP := Lib.hid hmp
      have HCM := Lib.hid hCm
      have hL2 : Blk w2 L 113 #[v, .map (some mb)] := (hg2.block _ HW.out.lt (fun e => hmp.ne_blk HW.out (Option.some.inj e))).trans HW.out
      have HL2 := Lib.hid hL2
      have HV2 : Hid (ownsQ w2 0 3 v I.length (I.map fun q : Nat => Value.int .i64 (q : Int))) := Lib.hid (HV.out.heap (fun k hk => hg2.block k (HV.out.lt k hk).2 (fun e => HV.out.ne_mp hmp (e ▸ hk))))
      have HVL : Hid (v.ownBlock ≠ some L) := Lib.hid (HV.out.ne_blk HW.out (by decide))
      have j0 : w2.cell? ⟨L, 0, none⟩ = some v := by rw [hL2.cell]; rfl
      have j1 := hL2.lt
      clear hm2 hg2 hf hmp hCm hL2
      go_enter Tryd.func82, Tryd.ntmps82
      go_wp2_with (at_builtin; refine wpList_append_q _ rfl (.tmp 28) (.tmp 30) 22 rfl 0 3 i0 _ 8 Tryd.underlying22 HI.out hz0 hz1 hz2 rfl v I.length (I.map fun q : Nat => Value.int .i64 (q : Int)) rfl (HV2.out.heap (fun k hk => Below.heap_alloc _ _ k (HV2.out.lt k hk).2)) _ 1 1 [.int .i64 (q : Int)] (by decide) rfl rfl (new_one (Blk.new w2 _ _)) (by simp [Value.oneCell']) HIL.out.1 HIL.out.2 (Nat.zero_le _) ?_)
      intro v' w3 hv3 hg3 hb3
      obtain ⟨va, vm, vc, rfl⟩ := hv3.slice
      have HV3 := Lib.hid hv3
      have HG3 := Lib.hid hg3
      have HB3 := Lib.hid hb3
      have hL3 : Blk w3 L 113 #[v, .map (some mb)] := (hg3.block _ (by rw [World.size_alloc]; exact Nat.lt_succ_of_lt HL2.out.lt) (fun e => HVL.out e.symm)).trans (HL2.out.alloc _)
      have k0 : w3.cell? ⟨L, 0, none⟩ = some v := by rw [hL3.cell]; rfl
      have k1 := hL3.frozen 0
      have k2 := hL3.lt
      clear hv3 hg3 hb3 hL3
      go_wp2_with fail
      go_end0
      exact ⟨rfl, wl_done hq hs HW.out hCL (.inl HCM.out) HVC.out (Kp.refl _ _) HMP.out HF.out HV.out HM2.out HG2.out HV3.out HG3.out (by rw [World.size_alloc]; exact HB3.out)⟩
end

end Go.Proofs.YtedfldbknjcnlaaDoor
