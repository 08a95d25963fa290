/- The census of trees: takeCensus. -/
import Derived.Test.YthhliogcafmnfaaDoorCount2
import Derived.Laws.Tables
import Derived.Deep.WholeRow
namespace Go.Proofs.YthhliogcafmnfaaDoor
open Go.RowKit Go.Shelf

/-- The number of lists of k trees with n nodes together, capped. -/
def tgt (ranks : List Nat) (k n : Nat) : Nat := cap (LL ranks k n).length
theorem cap_sumL (a b : Nat → Nat) (n : Nat) : cap (sumL (List.range n) (fun i => cap (a i) * cap (b i))) = cap (sumL (List.range n) (fun i => a i * b i)) := by
  induction n with
  | zero => rfl
  | succ n ih => rw [sumL_succ, sumL_succ, ← cap_add, ih, ← cap_add2, cap_mul, cap_add, cap_add2]
theorem cap_sum_list (l : List Nat) (f : Nat → Nat) : cap (sumL l (fun r => cap (f r))) = cap (sumL l f) := by
  induction l with
  | nil => rfl
  | cons a l ih =>
    have e1 : sumL (a :: l) (fun r => cap (f r)) = cap (f a) + sumL l (fun r => cap (f r)) := by simp [sumL]
    have e2 : sumL (a :: l) f = f a + sumL l f := by simp [sumL]
    rw [e1, e2, ← cap_add2, ih, cap_add, cap_add2]
theorem sumL_congr {α : Type} {l : List α} {f g : α → Nat} (h : ∀ x ∈ l, f x = g x) : sumL l f = sumL l g := by
  unfold sumL; rw [List.map_congr_left h]
theorem LL_one_len {ranks : List Nat} (hr : ∀ r ∈ ranks, r ≤ 3) (n : Nat) : (LL ranks 1 (n + 1)).length = (TT ranks (n + 1)).length := by
  rw [LL_len hr, sumL_succ]
  have : sumL (List.range n) (fun i => (TT ranks (i + 1)).length * (LL ranks 0 (n + 1 - (i + 1))).length) = sumL (List.range n) (fun _ => 0) := sumL_congr (fun i hi => by
    have hi : i < n := List.mem_range.1 hi
    rw [LL_zero, if_neg (by omega)]; rfl)
  rw [this, sumL_const, LL_zero, if_pos (by omega)]
  simp
theorem tgt_zero (ranks : List Nat) (n : Nat) : tgt ranks 0 (n + 1) = 0 := by rw [tgt, LL_zero, if_neg (by omega)]; rfl
theorem tgt_one {ranks : List Nat} (hr : ∀ r ∈ ranks, r ≤ 3) (n : Nat) : tgt ranks 1 (n + 1) = cap (sumL ranks (fun r => tgt ranks r n)) := by
  rw [tgt, LL_one_len hr, TT_len]
  unfold tgt
  rw [cap_sum_list]
theorem tgt_more {ranks : List Nat} (hr : ∀ r ∈ ranks, r ≤ 3) (k n : Nat) : tgt ranks (k + 1) n = cap (sumL (List.range n) (fun i => tgt ranks 1 (i + 1) * tgt ranks k (n - (i + 1)))) := by
  unfold tgt
  rw [cap_sumL, LL_len hr]
  congr 1
  refine sumL_congr (fun i _ => ?_)
  rw [LL_one_len hr]

/-- How far the census has come: all of the sizes below n, and below k0 of n. -/
def Got (ranks : List Nat) (v : Nat → Nat → Nat) (n k0 : Nat) : Prop := ∀ k j, v k j = if k < 4 ∧ j < 13 ∧ (j < n ∨ (j = n ∧ k < k0)) then tgt ranks k j else 0

def czero : Array Value := #[Value.slice none 0 0] ++ Array.replicate 52 (.int .i64 0)
theorem Tryd.infoCensus : (Tryd.prog.info? 98).map (·.size) = some 53 := by kernel_rfl
theorem cs0_is (p : Option Addr) (n c : Nat) : Tryd.prog.built 98 [(0, .slice p n c)] = some (#[Value.slice p n c] ++ Array.replicate 52 (.int .i64 0)) := by kernel_rfl
theorem all_one (rv : Value) (h : rv.oneCell' = true) : (#[rv] ++ Array.replicate 52 (Value.int .i64 0)).all (·.oneCell') = true := by
  rw [Array.all_append]
  have h2 : (Array.replicate 52 (Value.int .i64 0)).all (·.oneCell') = true := by kernel_rfl
  rw [h2]; simpa using h
theorem wp_build_as {P : Program} {o : Oper} {a : Act} {w : World} {K : Act → World → Prop} {Q : Exit → Act → World → Prop} (t : TypeId) (l : List (Nat × Operand)) (ho : o.op = .build t l.toArray) (cs : Array Value)
    (hf : P.built t (l.map fun (i, x) => (i, a.eval x)) = some cs)
    (h : K (a.put o.dst (.agg cs)) w) : o.wp P a w K Q := by
  have e : (l.toArray.map fun (i, x) => (i, a.eval x)).toList = l.map fun (i, x) => (i, a.eval x) := by simp
  exact wp_build t l.toArray ho (by rw [e, hf]; rfl) (by rw [e, hf]; exact h)

theorem wp_alloc_as {P : Program} {o : Oper} {a : Act} {w : World} {K : Act → World → Prop} {Q : Exit → Act → World → Prop} (t : TypeId) (ho : o.op = .alloc t) (Z : Array Value)
    (hz : ∀ w, (zeroValue t).run P w = .ok (.agg Z) w) (h : K (a.put o.dst (.pointer (some ⟨w.heap.size, 0, none⟩))) (w.alloc (.cells Z t))) : o.wp P a w K Q := by
  unfold Oper.wp execOp
  simp only [ho, Instr.alloc, Sem.run_bind, hz, Result.andThen_ok]
  exact h
theorem zero_census : ∃ Z : Array Value, Z.size = 53 ∧ ∀ w, (zeroValue 98).run Tryd.prog w = .ok (.agg Z) w := ⟨_, by kernel_rfl, fun w => Tryd.zeroValue98 w⟩
theorem setRow_new (w : World) (b : Nat) (c c' : Array Value) (t : TypeId) (hb : b = w.heap.size) : (w.alloc (.cells c t)).setRow b c' = w.alloc (.cells c' t) := by
  subst hb; exact World.setRow_alloc_new w c c' t

theorem below_setRow {B : Nat} {w w' : World} (h : Below B w w') {g : Nat} (hg : B ≤ g) (cs : Array Value) : Below B w (w'.setRow g cs) :=
  ⟨h.os, h.tape, h.output, by simpa [World.setRow] using h.size, fun k hk => by
    rw [← h.block k hk]
    simp only [World.setRow, Array.getElem?_modify]
    rw [if_neg (by omega)]⟩

theorem Cn.fresh {w : World} {b : Nat} {rv : Value} {cs : Array Value} (h : Blk w b 98 cs) (e : cs = #[rv] ++ Array.replicate 52 (.int .i64 0)) : Cn w b rv (fun _ _ => 0) := by
  subst e
  refine ⟨_, h, by simp, by simp, fun k n hk hn => ?_⟩
  rw [Array.getElem?_append_right (by simp; omega), Array.getElem?_replicate, if_pos (by simp; omega)]
  rfl
theorem got_start {ranks : List Nat} (hr : ∀ r ∈ ranks, r ≤ 3) : Got ranks (upd (fun _ _ => 0) 0 0 1) 1 1 := by
  intro k j
  unfold upd
  by_cases h : k = 0 ∧ j = 0
  · obtain ⟨rfl, rfl⟩ := h
    rw [if_pos ⟨rfl, rfl⟩, if_pos (by omega), tgt, LL_zero, if_pos rfl]; rfl
  · rw [if_neg h]
    by_cases h1 : k < 4 ∧ j < 13 ∧ (j < 1 ∨ (j = 1 ∧ k < 1))
    · rw [if_pos h1]
      rcases h1.2.2 with h2 | ⟨rfl, h2⟩
      · have : j = 0 := by omega
        subst this
        obtain ⟨k', rfl⟩ : ∃ k', k = k' + 1 := ⟨k - 1, by omega⟩
        rw [tgt, LL_pos_zero ranks hr]; rfl
      · have : k = 0 := by omega
        subst this
        rw [tgt_zero]
    · rw [if_neg h1]

theorem Got.upd {ranks : List Nat} {v : Nat → Nat → Nat} {n k0 x : Nat} (h : Got ranks v n k0) (hx : x = tgt ranks k0 n) (hk0 : k0 < 4) (hn : n < 13) : Got ranks (upd v k0 n x) n (k0 + 1) := by
  intro k j
  show (if k = k0 ∧ j = n then x else v k j) = _
  by_cases e : k = k0 ∧ j = n
  · obtain ⟨rfl, rfl⟩ := e
    rw [if_pos ⟨rfl, rfl⟩, if_pos (by omega), hx]
  · rw [if_neg e, h k j]
    by_cases h1 : k < 4 ∧ j < 13 ∧ (j < n ∨ (j = n ∧ k < k0))
    · rw [if_pos h1, if_pos (by omega)]
    · rw [if_neg h1, if_neg (by omega)]
theorem Got.next {ranks : List Nat} {v : Nat → Nat → Nat} {n : Nat} (h : Got ranks v n 4) : Got ranks v (n + 1) 1 := by
  intro k j
  rw [h k j]
  by_cases h1 : k < 4 ∧ j < 13 ∧ (j < n ∨ (j = n ∧ k < 4))
  · rw [if_pos h1, if_pos (by omega)]
  · rw [if_neg h1]
    by_cases h2 : k < 4 ∧ j < 13 ∧ (j < n + 1 ∨ (j = n + 1 ∧ k < 1))
    · rw [if_pos h2]
      have hk0 : k = 0 := by omega
      have hjn : j = n + 1 := by omega
      rw [hk0, hjn, tgt_zero]
    · rw [if_neg h2]
theorem Got.le {ranks : List Nat} {v : Nat → Nat → Nat} {n k0 : Nat} (h : Got ranks v n k0) (k j : Nat) : v k j ≤ 4097 := by
  rw [h k j]; split
  · exact cap_le _
  · omega
theorem Got.done {ranks : List Nat} {v : Nat → Nat → Nat} {n k0 : Nat} (h : Got ranks v n k0) {k j : Nat} (hk : k < 4) (hj : j < 13) (hd : j < n ∨ (j = n ∧ k < k0)) : v k j = tgt ranks k j := by
  rw [h k j, if_pos ⟨hk, hj, hd⟩]
theorem sumL_take_succ (l : List Nat) (f : Nat → Nat) (i : Nat) (r : Nat) (h : l[i]? = some r) : sumL (l.take (i + 1)) f = sumL (l.take i) f + f r := by
  rw [List.take_add_one, h]; simp [sumL]

set_option maxRecDepth 100000 in
set_option maxHeartbeats 4000000 in
theorem takeCensus_ok (ranks : List Nat) (rv : Value) (w : World) (hi : IsInts w rv (ranks.map (fun r : Nat => (r : Int)))) (hr : ∀ r ∈ ranks, r ≤ 3) (hlen : ranks.length ≤ 12) :
    Calls Tryd.prog 76 #[.agg #[rv]] w fun e w' => ∃ cs, e = .returned (.agg cs) ∧ cs.size = 53 ∧ cs[0]? = some rv ∧ (∀ k n, k < 4 → n < 13 → cs[1 + k * 13 + n]? = some (.int .i64 (tgt ranks k n : Nat))) ∧ Below w.heap.size w w' := by
  have HI := Lib.hid hi
  obtain ⟨p, c, rfl, hc1, hc2, hcell⟩ := hi
  rw [List.length_map] at hc1
  have hlm : (ranks.map (fun r : Nat => (r : Int))).length = ranks.length := List.length_map ..
  rw [hlm] at HI ⊢
  unfold maxLen at hc2
  have HCL := Lib.hid hcell
  have HR := Lib.hid hr
  obtain ⟨cs0, hcs0⟩ : ∃ cs0, cs0 = (#[Value.slice p ranks.length c] ++ Array.replicate 52 (.int .i64 0)) := ⟨_, rfl⟩
  have HBU := Lib.hid (hcs0 ▸ cs0_is p ranks.length c)
  have HC0 := Lib.hid hcs0
  have h53 : cs0.size = 53 := by rw [hcs0]; simp
  have hone : cs0.all (·.oneCell') = true := by rw [hcs0]; exact all_one _ rfl
  clear hcell hlm hr hcs0
  obtain ⟨Z, hZ53, hZ⟩ := zero_census
  have HZ := Lib.hid hZ
  clear hZ
  go_enter Tryd.func76, Tryd.ntmps76
  iterate 44 (first
    | (refine wp_alloc_as 98 rfl Z HZ.out ?_; simp [go_sem])
    | (refine wp_build_as 98 [(0, .tmp 10)] rfl cs0 HBU.out ?_; simp [go_sem])
    | (refine wp_store_row 98 (.tmp 3) (.tmp 11) rfl (w.heap.size + 1 + 1) cs0 rfl rfl 98 Z (by have := heap_alloc_last ((w.alloc (.cells #[.slice p ranks.length c] 24)).alloc (.cells Z 98)) (.cells Z 98); simpa using this) (by rw [h53]; exact Tryd.infoCensus) (by rw [hZ53, h53]) hone ?_; rw [setRow_new _ _ _ _ _ (by simp)]; simp [go_sem])
    | go_step)
  clear hone
  have hb0 : Blk (w.alloc (.cells #[.slice p ranks.length c] 24)) w.heap.size 24 #[.slice p ranks.length c] := Blk.new w _ _
  have hb1 : Blk ((w.alloc (.cells #[.slice p ranks.length c] 24)).alloc (.cells Z 98)) (w.heap.size + 1) 98 Z := by
    have := Blk.new (w.alloc (.cells #[.slice p ranks.length c] 24)) 98 Z; simpa using this
  have hb2 : Blk (((w.alloc (.cells #[.slice p ranks.length c] 24)).alloc (.cells Z 98)).alloc (.cells cs0 98)) (w.heap.size + 1 + 1) 98 cs0 := by
    have := Blk.new ((w.alloc (.cells #[.slice p ranks.length c] 24)).alloc (.cells Z 98)) 98 cs0; simpa using this
  have hc2' : Cn (((w.alloc (.cells #[.slice p ranks.length c] 24)).alloc (.cells Z 98)).alloc (.cells cs0 98)) (w.heap.size + 1 + 1) (.slice p ranks.length c) (fun _ _ => 0) := Cn.fresh hb2 HC0.out
  have hA3 := (hb0.alloc (.cells Z 98)).alloc (.cells cs0 98)
  have hZ3 := hb1.alloc (.cells cs0 98)
  have hB3 : Below w.heap.size w (((w.alloc (.cells #[.slice p ranks.length c] 24)).alloc (.cells Z 98)).alloc (.cells cs0 98)) := (((Below.refl _ w).alloc (Nat.le_refl _) _).alloc (by simp) _).alloc (by simp; omega) _
  generalize (((w.alloc (.cells #[.slice p ranks.length c] 24)).alloc (.cells Z 98)).alloc (.cells cs0 98)) = w3 at hA3 hZ3 hB3 hc2' ⊢
  have y0 := hc2'.cell (k := 0) (n := 0) (by omega) (by omega)
  have y1 := hc2'.frozen 1
  have y2 := hc2'.lt
  have H1 := Lib.hid (hA3.far (p := ⟨w.heap.size + 1 + 1, 1, none⟩) (by simp; omega) (.int .i64 1))
  have H2 := Lib.hid (hZ3.far (p := ⟨w.heap.size + 1 + 1, 1, none⟩) (by simp) (.int .i64 1))
  have H3 : Hid (Cn (w3.setCell ⟨w.heap.size + 1 + 1, 1, none⟩ (.int .i64 1)) (w.heap.size + 1 + 1) (.slice p ranks.length c) (upd (fun _ _ => 0) 0 0 1)) := Lib.hid (hc2'.set (k := 0) (n := 0) 1 (by omega) (by omega))
  have H4 : Hid (Below w.heap.size w (w3.setCell ⟨w.heap.size + 1 + 1, 1, none⟩ (.int .i64 1))) := Lib.hid (hB3.setCell (by simp; omega) _)
  have HG0 := Lib.hid (got_start HR.out)
  clear hb0 hb1 hb2 hc2' h53 hA3 hZ3 hB3
  have HZ53 := Lib.hid hZ53
  clear hZ53
  go_wp2_with fail
  clear y0 y1 y2
  generalize w3.setCell ⟨w.heap.size + 1 + 1, 1, none⟩ (.int .i64 1) = w4 at H1 H2 H3 H4 ⊢
  go_loopw [4] (fun nv wr => ∃ (m : Nat) (v : Nat → Nat → Nat), nv = .int .i64 (m : Nat) ∧ 1 ≤ m ∧ m ≤ 13 ∧ Hid (Got ranks v m 1) ∧ Hid (Cn wr (w.heap.size + 1 + 1) (.slice p ranks.length c) v) ∧ Hid (Blk wr w.heap.size 24 #[.slice p ranks.length c]) ∧ Hid (Blk wr (w.heap.size + 1) 98 Z) ∧ Hid (Below w.heap.size w wr))
    (fun nv _ => 13 - (intOf nv).toNat)
  case atStart =>
    exact ⟨1, _, rfl, by omega, by omega, HG0, H3, H1, H2, H4⟩
  case round =>
    obtain ⟨m, v, rfl, hm1, hm13, HG, HC, HA, HZb, HB⟩ := hrel
    have z0 : wr.cell? ⟨w.heap.size, 0, none⟩ = some (.slice p ranks.length c) := by rw [HA.out.cell]; rfl
    have z1 := HA.out.lt
    by_cases hm : m ≤ 12
    · have hle : (m : Int) ≤ 12 := by omega
      have hdd : decide ((m : Int) ≤ 12) = true := decide_eq_true hle
      have HVL : Hid (∀ k j, v k j ≤ 4097) := Lib.hid (fun k j => HG.out.le k j)
      go_wp2_with fail
      go_loop [5, 22] (fun tv iv => ∃ (S i : Nat), tv = .int .i64 (S : Nat) ∧ iv = .int .i64 (i : Nat) ∧ i ≤ ranks.length ∧ S ≤ i * 4097 ∧ Hid (S = sumL (ranks.take i) (fun r => v r (m - 1)))) (fun _ iv => ranks.length - (intOf iv).toNat)
      case atStart => exact ⟨0, 0, rfl, rfl, by omega, by omega, Lib.hid rfl⟩
      case round =>
        obtain ⟨S, i, rfl, rfl, hil, hSl, hS⟩ := hrel
        by_cases hlt : i < ranks.length
        · obtain ⟨r, hri⟩ : ∃ r, ranks[i]? = some r := ⟨_, List.getElem?_eq_getElem hlt⟩
          have hr3 : r ≤ 3 := HR.out r (List.mem_of_getElem? hri)
          obtain ⟨b, o, rfl, hcl⟩ := HCL.out (fun h => by simp at h; simp [h] at hlt)
          have c1 := cell_later HB.out (hcl i (r : Int) (by simp [hri]))
          have c2 := HC.out.cell (k := r) (n := m - 1) (by omega) (by omega)
          have hv1 := HVL.out r (m - 1)
          have hbl := World.block_lt_of_cell? _ _ c1
          have hbl2 := HC.out.lt
          simp only at hbl
          have HS2 := Lib.hid (sumL_take_succ ranks (fun r => v r (m - 1)) i r hri)
          have hlti : (i : Int) < (ranks.length : Int) := by omega
          have hdi : decide ((i : Int) < (ranks.length : Int)) = true := decide_eq_true hlti
          have hdn : decide (i < ranks.length) = true := decide_eq_true hlt
          clear hri hcl
          go_wp2_with fail
          go_round
          case rel => exact ⟨S + v r (m - 1), i + 1, by push_cast; rfl, by push_cast; rfl, by omega, by omega, Lib.hid (by rw [HS2.out, hS.out])⟩
          case measure => simp [intOf]; omega
        · have hnl : ¬ (i : Int) < (ranks.length : Int) := by omega
          have hdi : decide ((i : Int) < (ranks.length : Int)) = false := decide_eq_false hnl
          have hdn : decide (i < ranks.length) = false := decide_eq_false hlt
          have HSF : Hid (cap S = tgt ranks 1 m) := Lib.hid (by
            obtain ⟨m', rfl⟩ : ∃ m', m = m' + 1 := ⟨m - 1, by omega⟩
            rw [tgt_one HR.out, hS.out, List.take_of_length_le (by omega)]
            congr 1
            refine sumL_congr (fun r hr => ?_)
            have := HR.out r hr
            exact HG.out.done (by omega) (by omega) (.inl (by omega)))
          have c2 := HC.out.cell (k := 1) (n := m) (by omega) (by omega)
          have c3 := HC.out.frozen (14 + m)
          have c4 := HC.out.lt
          by_cases hcp : S ≤ 4097
          · have hm1 : ¬ (4097 : Int) < (S : Int) := by omega
            have HXT : Hid ((S) = tgt ranks 1 m) := Lib.hid (by rw [← HSF.out]; unfold cap; omega)
            have HG2 := Lib.hid (HG.out.upd (x := S) HXT.out (by omega) (by omega))
            have HC2 : Hid (Cn (wr.setCell ⟨w.heap.size + 1 + 1, 14 + m, none⟩ (.int .i64 ((S : Nat) : Int))) (w.heap.size + 1 + 1) (.slice p ranks.length c) (upd v 1 m (S))) := Lib.hid (HC.out.set (k := 1) (n := m) (S) (by omega) (by omega))
            have HA2 := Lib.hid (HA.out.far (p := ⟨w.heap.size + 1 + 1, 14 + m, none⟩) (by simp; omega) (.int .i64 ((S : Nat) : Int)))
            have HZ2 := Lib.hid (HZb.out.far (p := ⟨w.heap.size + 1 + 1, 14 + m, none⟩) (by simp) (.int .i64 ((S : Nat) : Int)))
            have HB2 := Lib.hid (HB.out.setCell (p := ⟨w.heap.size + 1 + 1, 14 + m, none⟩) (by simp; omega) (.int .i64 ((S : Nat) : Int)))
            go_wp2_with fail
            generalize wr.setCell ⟨w.heap.size + 1 + 1, 14 + m, none⟩ (.int .i64 ((S : Nat) : Int)) = wz at HC2 HA2 HZ2 HB2 ⊢
            clear HA HZb HB HC z0 z1 c2 c3 c4 hnl hdi hdn
            go_loopw [8] (fun kv wq => ∃ (kk : Nat) (v' : Nat → Nat → Nat), kv = .int .i64 (kk : Nat) ∧ 2 ≤ kk ∧ kk ≤ 4 ∧ Hid (Got ranks v' m kk) ∧ Hid (Cn wq (w.heap.size + 1 + 1) (.slice p ranks.length c) v') ∧ Hid (Blk wq w.heap.size 24 #[.slice p ranks.length c]) ∧ Hid (Blk wq (w.heap.size + 1) 98 Z) ∧ Hid (Below w.heap.size w wq))
              (fun kv _ => 4 - (intOf kv).toNat)
            case atStart => exact ⟨2, _, rfl, by omega, by omega, HG2, HC2, HA2, HZ2, HB2⟩
            case round =>
              rename World => wq
              obtain ⟨kk, v', rfl, hk2, hk4, HG3, HC3, HA3, HZ3, HB3⟩ := hrel
              by_cases hk3 : kk ≤ 3
              · have hki : (kk : Int) ≤ 3 := by omega
                have hkd : decide ((kk : Int) ≤ 3) = true := decide_eq_true hki
                have HCnt := Lib.hid (fun W hc => countLists_ok (w.heap.size + 1 + 1) (.slice p ranks.length c) v' kk m W hc (by omega) hk3 (by omega) (fun k j => HG3.out.le k j))
                obtain ⟨x, hx⟩ : ∃ x, x = cap (sumL (List.range m) (fun i => v' 1 (i + 1) * v' (kk - 1) (m - (i + 1)))) := ⟨_, rfl⟩
                rw [← hx] at HCnt
                have HXV : Hid (x = tgt ranks kk m) := Lib.hid (by
                  obtain ⟨k', rfl⟩ : ∃ k', kk = k' + 1 := ⟨kk - 1, by omega⟩
                  rw [hx, tgt_more HR.out]
                  congr 1
                  refine sumL_congr (fun i hi => ?_)
                  have hi : i < m := List.mem_range.1 hi
                  rw [HG3.out.done (k := 1) (j := i + 1) (by omega) (by omega) (by omega), Nat.add_sub_cancel, HG3.out.done (k := k') (j := m - (i + 1)) (by omega) (by omega) (by omega)])
                have d1 := HC3.out.cell (k := kk) (n := m) (by omega) (by omega)
                have d2 := HC3.out.frozen (1 + kk * 13 + m)
                have d3 := HC3.out.lt
                have e1 : (0 : Int) ≤ (kk : Int) := by omega
                have e2 : (kk : Int) < 4 := by omega
                have e3 : (0 : Int) ≤ (m : Int) := by omega
                have e4 : (m : Int) < 13 := by omega
                have e5 : kk < 4 := by omega
                have e6 : m < 13 := by omega
                have HG4 := Lib.hid (HG3.out.upd (x := x) HXV.out (by omega) (by omega))
                clear hx
                go_wp2_with fail
                go_region_held3 (fun _ => True)
                  (exact trivial)
                  (first
                    | (go_at_call 119; refine (HCnt.out _ HC3.out.drew).mono ?_; rintro e w1 ⟨rfl, q, rfl⟩))
                all_goals
                  have HC5 : Hid (Cn ((wq.drewN (1 + q)).setCell ⟨w.heap.size + 1 + 1, 1 + kk * 13 + m, none⟩ (.int .i64 (x : Nat))) (w.heap.size + 1 + 1) (.slice p ranks.length c) (upd v' kk m x)) := Lib.hid ((HC3.out.kp ((Kp.refl (fun _ => True) wq).drewN (1 + q)) trivial).set (k := kk) (n := m) x (by omega) (by omega))
                  have HA5 : Hid (Blk ((wq.drewN (1 + q)).setCell ⟨w.heap.size + 1 + 1, 1 + kk * 13 + m, none⟩ (.int .i64 (x : Nat))) w.heap.size 24 #[.slice p ranks.length c]) := Lib.hid ((HA3.out.kp ((Kp.refl (fun _ => True) wq).drewN (1 + q)) trivial).far (by simp; omega) _)
                  have HZ5 : Hid (Blk ((wq.drewN (1 + q)).setCell ⟨w.heap.size + 1 + 1, 1 + kk * 13 + m, none⟩ (.int .i64 (x : Nat))) (w.heap.size + 1) 98 Z) := Lib.hid ((HZ3.out.kp ((Kp.refl (fun _ => True) wq).drewN (1 + q)) trivial).far (by simp) _)
                  have HB5 : Hid (Below w.heap.size w ((wq.drewN (1 + q)).setCell ⟨w.heap.size + 1 + 1, 1 + kk * 13 + m, none⟩ (.int .i64 (x : Nat)))) := Lib.hid ((below_drewN HB3.out (1 + q)).setCell (by simp; omega) _)
                  go_wp2_with fail
                  go_roundw
                  case rel => exact ⟨kk + 1, _, by push_cast; rfl, by omega, by omega, HG4, HC5, HA5, HZ5, HB5⟩
                  case measure => simp [intOf]; omega
              · have hki : ¬ (kk : Int) ≤ 3 := by omega
                have hkd : decide ((kk : Int) ≤ 3) = false := decide_eq_false hki
                have hk4' : kk = 4 := by omega
                have HGN : Hid (Got ranks v' (m + 1) 1) := Lib.hid (by have := HG3.out; rw [hk4'] at this; exact this.next)
                clear hk4'
                go_wp2_with fail
                go_roundw
                case rel => exact ⟨m + 1, v', by push_cast; rfl, by omega, by omega, HGN, HC3, HA3, HZ3, HB3⟩
                case measure => simp [intOf]; omega
          · have hm1 : (4097 : Int) < (S : Int) := by omega
            have HXT : Hid (4097 = tgt ranks 1 m) := Lib.hid (by rw [← HSF.out]; unfold cap; omega)
            have HG2 := Lib.hid (HG.out.upd (x := 4097) HXT.out (by omega) (by omega))
            have HC2 : Hid (Cn (wr.setCell ⟨w.heap.size + 1 + 1, 14 + m, none⟩ (.int .i64 (4097 : Int))) (w.heap.size + 1 + 1) (.slice p ranks.length c) (upd v 1 m 4097)) := Lib.hid (by have h := HC.out.set (k := 1) (n := m) 4097 (by omega) (by omega); simpa using h)
            have HA2 := Lib.hid (HA.out.far (p := ⟨w.heap.size + 1 + 1, 14 + m, none⟩) (by simp; omega) (.int .i64 (4097 : Int)))
            have HZ2 := Lib.hid (HZb.out.far (p := ⟨w.heap.size + 1 + 1, 14 + m, none⟩) (by simp) (.int .i64 (4097 : Int)))
            have HB2 := Lib.hid (HB.out.setCell (p := ⟨w.heap.size + 1 + 1, 14 + m, none⟩) (by simp; omega) (.int .i64 (4097 : Int)))
            go_wp2_with fail
            generalize wr.setCell ⟨w.heap.size + 1 + 1, 14 + m, none⟩ (.int .i64 (4097 : Int)) = wz at HC2 HA2 HZ2 HB2 ⊢
            clear HA HZb HB HC z0 z1 c2 c3 c4 hnl hdi hdn
            go_loopw [8] (fun kv wq => ∃ (kk : Nat) (v' : Nat → Nat → Nat), kv = .int .i64 (kk : Nat) ∧ 2 ≤ kk ∧ kk ≤ 4 ∧ Hid (Got ranks v' m kk) ∧ Hid (Cn wq (w.heap.size + 1 + 1) (.slice p ranks.length c) v') ∧ Hid (Blk wq w.heap.size 24 #[.slice p ranks.length c]) ∧ Hid (Blk wq (w.heap.size + 1) 98 Z) ∧ Hid (Below w.heap.size w wq))
              (fun kv _ => 4 - (intOf kv).toNat)
            case atStart => exact ⟨2, _, rfl, by omega, by omega, HG2, HC2, HA2, HZ2, HB2⟩
            case round =>
              rename World => wq
              obtain ⟨kk, v', rfl, hk2, hk4, HG3, HC3, HA3, HZ3, HB3⟩ := hrel
              by_cases hk3 : kk ≤ 3
              · have hki : (kk : Int) ≤ 3 := by omega
                have hkd : decide ((kk : Int) ≤ 3) = true := decide_eq_true hki
                have HCnt := Lib.hid (fun W hc => countLists_ok (w.heap.size + 1 + 1) (.slice p ranks.length c) v' kk m W hc (by omega) hk3 (by omega) (fun k j => HG3.out.le k j))
                obtain ⟨x, hx⟩ : ∃ x, x = cap (sumL (List.range m) (fun i => v' 1 (i + 1) * v' (kk - 1) (m - (i + 1)))) := ⟨_, rfl⟩
                rw [← hx] at HCnt
                have HXV : Hid (x = tgt ranks kk m) := Lib.hid (by
                  obtain ⟨k', rfl⟩ : ∃ k', kk = k' + 1 := ⟨kk - 1, by omega⟩
                  rw [hx, tgt_more HR.out]
                  congr 1
                  refine sumL_congr (fun i hi => ?_)
                  have hi : i < m := List.mem_range.1 hi
                  rw [HG3.out.done (k := 1) (j := i + 1) (by omega) (by omega) (by omega), Nat.add_sub_cancel, HG3.out.done (k := k') (j := m - (i + 1)) (by omega) (by omega) (by omega)])
                have d1 := HC3.out.cell (k := kk) (n := m) (by omega) (by omega)
                have d2 := HC3.out.frozen (1 + kk * 13 + m)
                have d3 := HC3.out.lt
                have e1 : (0 : Int) ≤ (kk : Int) := by omega
                have e2 : (kk : Int) < 4 := by omega
                have e3 : (0 : Int) ≤ (m : Int) := by omega
                have e4 : (m : Int) < 13 := by omega
                have e5 : kk < 4 := by omega
                have e6 : m < 13 := by omega
                have HG4 := Lib.hid (HG3.out.upd (x := x) HXV.out (by omega) (by omega))
                clear hx
                go_wp2_with fail
                go_region_held3 (fun _ => True)
                  (exact trivial)
                  (first
                    | (go_at_call 119; refine (HCnt.out _ HC3.out.drew).mono ?_; rintro e w1 ⟨rfl, q, rfl⟩))
                all_goals
                  have HC5 : Hid (Cn ((wq.drewN (1 + q)).setCell ⟨w.heap.size + 1 + 1, 1 + kk * 13 + m, none⟩ (.int .i64 (x : Nat))) (w.heap.size + 1 + 1) (.slice p ranks.length c) (upd v' kk m x)) := Lib.hid ((HC3.out.kp ((Kp.refl (fun _ => True) wq).drewN (1 + q)) trivial).set (k := kk) (n := m) x (by omega) (by omega))
                  have HA5 : Hid (Blk ((wq.drewN (1 + q)).setCell ⟨w.heap.size + 1 + 1, 1 + kk * 13 + m, none⟩ (.int .i64 (x : Nat))) w.heap.size 24 #[.slice p ranks.length c]) := Lib.hid ((HA3.out.kp ((Kp.refl (fun _ => True) wq).drewN (1 + q)) trivial).far (by simp; omega) _)
                  have HZ5 : Hid (Blk ((wq.drewN (1 + q)).setCell ⟨w.heap.size + 1 + 1, 1 + kk * 13 + m, none⟩ (.int .i64 (x : Nat))) (w.heap.size + 1) 98 Z) := Lib.hid ((HZ3.out.kp ((Kp.refl (fun _ => True) wq).drewN (1 + q)) trivial).far (by simp) _)
                  have HB5 : Hid (Below w.heap.size w ((wq.drewN (1 + q)).setCell ⟨w.heap.size + 1 + 1, 1 + kk * 13 + m, none⟩ (.int .i64 (x : Nat)))) := Lib.hid ((below_drewN HB3.out (1 + q)).setCell (by simp; omega) _)
                  go_wp2_with fail
                  go_roundw
                  case rel => exact ⟨kk + 1, _, by push_cast; rfl, by omega, by omega, HG4, HC5, HA5, HZ5, HB5⟩
                  case measure => simp [intOf]; omega
              · have hki : ¬ (kk : Int) ≤ 3 := by omega
                have hkd : decide ((kk : Int) ≤ 3) = false := decide_eq_false hki
                have hk4' : kk = 4 := by omega
                have HGN : Hid (Got ranks v' (m + 1) 1) := Lib.hid (by have := HG3.out; rw [hk4'] at this; exact this.next)
                clear hk4'
                go_wp2_with fail
                go_roundw
                case rel => exact ⟨m + 1, v', by push_cast; rfl, by omega, by omega, HGN, HC3, HA3, HZ3, HB3⟩
                case measure => simp [intOf]; omega
    · have hle : ¬ (m : Int) ≤ 12 := by omega
      have hdd : decide ((m : Int) ≤ 12) = false := decide_eq_false hle
      have hmm : m = 13 := by omega
      obtain ⟨cs, hbC, hs53, hcs0, hcc⟩ := HC.out
      have hone : cs.all (·.oneCell') = true := by
        rw [Array.all_eq_true_iff_forall_mem]
        intro u hu
        obtain ⟨i, hi, rfl⟩ := Array.getElem_of_mem hu
        rcases Nat.eq_zero_or_pos i with rfl | hp
        · have := Array.getElem?_eq_getElem hi
          rw [hcs0] at this
          simp only [Option.some.injEq] at this
          rw [← this]; rfl
        · have h1 := hcc ((i - 1) / 13) ((i - 1) % 13) (by omega) (by omega)
          rw [show 1 + (i - 1) / 13 * 13 + (i - 1) % 13 = i by omega, Array.getElem?_eq_getElem hi] at h1
          simp only [Option.some.injEq] at h1
          rw [h1]; rfl
      have HCC : Hid (∀ k n, k < 4 → n < 13 → cs[1 + k * 13 + n]? = some (.int .i64 (tgt ranks k n : Nat))) := Lib.hid (fun k n hk hn => by
        rw [hcc k n hk hn, HG.out.done hk hn (.inl (by omega))])
      have HBC := Lib.hid hbC
      have HC0 := Lib.hid hcs0
      have HI2 := Lib.hid (show (Tryd.prog.info? 98).map (·.size) = some cs.size by rw [hs53]; exact Tryd.infoCensus)
      have HZS := Lib.hid (show Z.size = cs.size by rw [HZ53.out, hs53])
      clear hcc hbC hcs0 hmm
      iterate 26 (first
        | (refine wp_load_row 98 (.tmp 3) rfl (w.heap.size + 1 + 1) rfl 98 cs (0, 0) _ HBC.out Tryd.underlying98 rfl HI2.out ?_; simp [go_sem]; done)
        | (refine wp_load_row 98 (.tmp 3) rfl (w.heap.size + 1 + 1) rfl 98 cs (0, 0) _ HBC.out Tryd.underlying98 rfl HI2.out ?_; simp [go_sem])
        | (refine wp_store_row 98 (.tmp 2) (.tmp 54) rfl (w.heap.size + 1) cs rfl rfl 98 Z HZb.out HI2.out HZS.out hone ?_; simp [go_sem])
        | go_step)
      go_wp2_with fail
      refine bodyPost_ret (v := .agg cs) (results_cell_row rfl _ _ (w.heap.size + 1) 98 cs (0, 0) _ rfl (setRow_heap _ _ _ _ _ _ HZb.out) Tryd.underlying98 rfl HI2.out) rfl ?_
      exact ⟨cs, rfl, hs53, HC0.out, HCC.out, below_setRow HB.out (by omega) _⟩

end Go.Proofs.YthhliogcafmnfaaDoor
