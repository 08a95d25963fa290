/- hedge.nodes, an iterator. -/
import Derived.Test.YthdaeblfehclcabRows
import Derived.Test.YthdaeblfehclcabHg
import Derived.Test.YthdaeblfehclcabRF
namespace Go.Proofs.Ythdaeblfehclcab
open Go.RowKit
attribute [local go_sem] Oper.semAt_some fwd fwf

def Hg.flat : Hg → List (Int × Hg)
  | .nil => []
  | .cons l k r => (l, k) :: (k.flat ++ r.flat)
theorem Hg.flat_length (h : Hg) : h.flat.length = h.size := by
  induction h with
  | nil => rfl
  | cons l k r hk hr => simp [Hg.flat, Hg.size, hk, hr]

def vfun (bn by' bv : Nat) : Value := .func (.func 70) #[] #[.pointer (some ⟨bn, 0, none⟩), .pointer (some ⟨by', 0, none⟩), .pointer (some ⟨bv, 0, none⟩)]

structure NBx (W : World) (C : Nat → Prop) (n1 L bn by' bv : Nat) (k : Int) : Prop where
  nx : Boxed W bn 3 (.int .i64 k)
  yl : Boxed W by' 34 (.func (.yield L) #[] #[])
  vs : Boxed W bv 108 (vfun bn by' bv)
  c1 : ¬ C bn
  c2 : ¬ C by'
  c3 : ¬ C bv
  g1 : n1 ≤ bn
  g2 : n1 ≤ by'
  g3 : n1 ≤ bv
  d1 : bn ≠ by'
  d2 : bn ≠ bv

theorem NBx.keep {W W' : World} {C C' : Nat → Prop} {n1 L bn by' bv : Nat} {k : Int} (h : NBx W C n1 L bn by' bv k) (g : Grow C W C' W') : NBx W' C' n1 L bn by' bv k :=
  ⟨g.kp.boxed h.nx h.c1, g.kp.boxed h.yl h.c2, g.kp.boxed h.vs h.c3, fun e => (g.new _ e).elim h.c1 (fun x => by have := h.nx.lt; omega), fun e => (g.new _ e).elim h.c2 (fun x => by have := h.yl.lt; omega),
   fun e => (g.new _ e).elim h.c3 (fun x => by have := h.vs.lt; omega), h.g1, h.g2, h.g3, h.d1, h.d2⟩
theorem NBx.next {W : World} {C : Nat → Prop} {n1 L bn by' bv : Nat} {k : Int} (h : NBx W C n1 L bn by' bv k) (o : Obj) (k' : Int) : NBx ((W.setCell ⟨bn, 0, none⟩ (.int .i64 k')).alloc o) C n1 L bn by' bv k' :=
  ⟨(h.nx.set _).alloc o, (h.yl.other h.d1.symm _).alloc o, (h.vs.other h.d2.symm _).alloc o, h.c1, h.c2, h.c3, h.g1, h.g2, h.g3, h.d1, h.d2⟩

/-- How an element of nodes(h) is handed to yield. -/
def NEnc (wB : World) (k : Nat) (x : Int × Hg) (vals : Array Value) (W : World) : Prop :=
  ∃ vk, vals = #[.int .i64 k, .agg #[.int .i64 x.1, vk]] ∧ (Lit.int .i64 x.1).wf = true ∧ IsH wB vk x.2 ∧ Below wB.heap.size wB W

set_option maxHeartbeats 1000000 in
theorem visit_any (L : Nat) (xs : List (Int × Hg)) (wB : World) (J : Nat → (Nat → Prop) → World → Prop) (Jx : (Nat → Prop) → World → Prop) (C1 : Nat → Prop) (W1 : World) (hw1 : Below wB.heap.size wB W1)
    (hC1 : ∀ c, C1 c → wB.heap.size ≤ c)
    (hJ : ∀ k C W W', J k C W → Kp C W W' → J k C W') (hJx : ∀ C W W', Jx C W → Kp C W W' → Jx C W')
    (hY : ∀ k x vals C W, xs[k]? = some x → NEnc wB k x vals W → Grow C1 W1 C W → J k C W →
      Yields Try.prog L vals W fun e W' => ∃ C', Grow C W C' W' ∧ ((e = .returned (.bool true) ∧ J (k + 1) C' W') ∨ (e = .returned (.bool false) ∧ Jx C' W')))
    (bn by' bv : Nat) (N : Nat) : ∀ (H : Hg) (v : Value) (k : Nat) (C : Nat → Prop) (W : World), H.size < N → IsH wB v H → Grow C1 W1 C W → J k C W → NBx W C W1.heap.size L bn by' bv k →
      (∀ i x, H.flat[i]? = some x → xs[k + i]? = some x) → k + H.size ≤ 1000000 →
      CallsIn (fnc none) 0 Try.prog 70 #[v, .pointer (some ⟨bn, 0, none⟩), .pointer (some ⟨by', 0, none⟩), .pointer (some ⟨bv, 0, none⟩)] W fun e W' =>
        ∃ C', Grow C1 W1 C' W' ∧ ((e = .returned (.bool true) ∧ J (k + H.size) C' W' ∧ NBx W' C' W1.heap.size L bn by' bv (k + H.size : Nat)) ∨ (e = .returned (.bool false) ∧ Jx C' W')) := by
  induction N with
  | zero => intro H v k C W hN; omega
  | succ N ih =>
    intro H v k0 C W hN hv hgr hj hbx hfl hk0
    obtain ⟨p, c, rfl, hc1, hc2, hrow⟩ := hv
    unfold maxLen at hc2
    have HI := Lib.hid ih
    have HY := Lib.hid hY
    have HF := Lib.hid hfl
    clear ih hY hfl
    refine callsIn_of_wp Try.func70 rfl trivial ?_ rfl
    simp only [Try.ntmps70, List.size_toArray, List.length_cons, List.length_nil, Nat.reduceAdd, Nat.reduceSub, Array.replicate_succ, Array.replicate_zero, List.push_toArray, List.append_toArray, List.nil_append, List.cons_append]
    gi_wp2
    gi_loopw [11] (fun i wr => ∃ (j d : Nat) (R : Hg) (C' : Nat → Prop), i = .int .i64 j ∧ Hid (j + R.len = H.len) ∧ Hid (d + R.size = H.size) ∧ Hid (∀ i x, R.flat[i]? = some x → xs[k0 + d + i]? = some x) ∧ Grow C1 W1 C' wr ∧ J (k0 + d) C' wr ∧ NBx wr C' W1.heap.size L bn by' bv (k0 + d : Nat) ∧ (R ≠ .nil → ∃ b o, p = some ⟨b, o, none⟩ ∧ Row wB R b (o + j * 2)))
      (fun i _ => H.len - (intOf i).toNat)
    case atStart =>
      exact ⟨0, 0, H, C, rfl, Lib.hid (by omega), Lib.hid (by omega), Lib.hid (by simpa using HF.out), hgr, hj, hbx, by simpa using hrow⟩
    case round =>
      obtain ⟨j, d, R, C', rfl, hk, hd, hf, hg, hj', hb', hR⟩ := hrel
      cases R with
      | nil =>
        have hge : H.len ≤ j := by have := hk.out; simp only [Hg.len] at this; omega
        have hds : Hid (d = H.size) := Lib.hid (by have := hd.out; simpa [Hg.size] using this)
        clear hR hrow hk hd hf hj hbx hgr
        gi_wp2
        go_ret
        refine ⟨C', hg, .inl ⟨rfl, ?_, ?_⟩⟩
        · rw [← hds.out]; exact hj'
        · rw [← hds.out]; exact hb'
      | cons l K R =>
        obtain ⟨b, o, rfl, hr⟩ := hR (by simp)
        rw [Row.cons_iff] at hr
        obtain ⟨c1, hl, ⟨vk, c2, hvk⟩, hr⟩ := hr
        have hvk' := hvk
        obtain ⟨p', c', rfl, hc1', hc2', _⟩ := hvk'
        have hlt : j < H.len := by have := hk.out; simp only [Hg.len] at this; omega
        have hds : d + (K.size + R.size + 1) ≤ H.size := by have := hd.out; simp only [Hg.size] at this; omega
        have hbw : Below wB.heap.size wB wr := hw1.trans (hg.below hw1.size hC1)
        have c1 := (hbw.cell (World.block_lt_of_cell? _ _ c1)).trans c1
        have c2 := (hbw.cell (World.block_lt_of_cell? _ _ c2)).trans c2
        have hbl := World.block_lt_of_cell? _ _ c1
        simp only at hbl
        have x1 := hb'.nx.cell
        have x2 := hb'.yl.cell
        have x3 := hb'.vs.cell
        have x4 := hb'.nx.frozen
        have l1 := hb'.nx.lt
        have l2 := hb'.yl.lt
        have l3 := hb'.vs.lt
        have e1 : ¬ bn = by' := hb'.d1
        have e2 : ¬ bn = bv := hb'.d2
        have e3 : ¬ by' = bn := fun e => hb'.d1 e.symm
        have e4 : ¬ bv = bn := fun e => hb'.d2 e.symm
        have hkp : Kp (fun c => ¬ c = bn) wr ((wr.setCell ⟨bn, 0, none⟩ (.int .i64 ((k0 : Int) + d + 1))).alloc (.cells #[.int .i64 l, .slice p' K.len c'] 24)) :=
          ((Kp.refl _ _).setCell (fun h => absurd rfl h) _).alloc _
        have hj2 := hJ _ _ _ _ hj' (hkp.mono fun i _ hi e => hb'.c1 (e ▸ hi))
        have hg2 : Grow C1 W1 C' ((wr.setCell ⟨bn, 0, none⟩ (.int .i64 ((k0 : Int) + d + 1))).alloc (.cells #[.int .i64 l, .slice p' K.len c'] 24)) :=
          hg.own (hkp.mono fun i _ hi e => by have := hb'.g1; subst e; omega)
        have hb2 := hb'.next (.cells #[.int .i64 l, .slice p' K.len c'] 24) ((k0 : Int) + d + 1)
        have hbw2 : Below wB.heap.size wB ((wr.setCell ⟨bn, 0, none⟩ (.int .i64 ((k0 : Int) + d + 1))).alloc (.cells #[.int .i64 l, .slice p' K.len c'] 24)) := hw1.trans (hg2.below hw1.size hC1)
        obtain ⟨fn, tmps, assign, body, hy, hRd⟩ := HY.out (k0 + d) (l, K) _ C' _ (by have := hf.out 0; simpa using this (l, K) rfl) ⟨_, rfl, hl, hvk, hbw2⟩ hg2 hj2
        rw [Int.natCast_add] at hy
        clear hrow hR hj hbx hgr hkp
        have HRd := Lib.hid hRd
        clear hRd
        gi_wp2
        refine (RoundIn.anyDepth HRd.out).mono ?_
        rintro e W3 ⟨C3, hg3, ⟨rfl, hj3⟩ | ⟨rfl, hx3⟩⟩
        · have hb3 := hb2.keep hg3
          have hg13 := hg2.trans hg3
          have y1 := hb3.vs.cell
          unfold vfun at y1
          have s3 := hg3.kp.size
          have z0 : W3.heap[wr.heap.size]? = some (.cells #[.int .i64 l, .slice p' K.len c'] 24 (0, 0)) :=
            hg3.kp.heap (by have := World.alloc_heap_new (wr.setCell ⟨bn, 0, none⟩ (.int .i64 ((k0 : Int) + d + 1))) (.cells #[.int .i64 l, .slice p' K.len c'] 24); simpa using this)
              (fun e => by have := hg.lt _ e; omega)
          have z1 : W3.cell? ⟨wr.heap.size, 1, none⟩ = some (.slice p' K.len c') := by
            rw [cell_of_row _ _ _ _ _ _ z0]; rfl
          have hf2 : ∀ i x, K.flat[i]? = some x → xs[k0 + d + 1 + i]? = some x := fun i x hi => by
            have := hf.out (i + 1) x (by
              simp only [Hg.flat, List.getElem?_cons_succ]
              rw [List.getElem?_append_left (List.getElem?_eq_some_iff.1 hi).1]; exact hi)
            rwa [show k0 + d + (i + 1) = k0 + d + 1 + i by omega] at this
          have hf3 : ∀ i x, R.flat[i]? = some x → xs[k0 + (d + 1 + K.size) + i]? = some x := fun i x hi => by
            have := hf.out (K.size + i + 1) x (by
              simp only [Hg.flat, List.getElem?_cons_succ]
              rw [List.getElem?_append_right (by rw [Hg.flat_length]; omega), Hg.flat_length, show K.size + i - K.size = i by omega]; exact hi)
            rwa [show k0 + d + (K.size + i + 1) = k0 + (d + 1 + K.size) + i by omega] at this
          have HF3 := Lib.hid hf3
          have HK := Lib.hid <| HI.out K _ (k0 + d + 1) C3 W3 (by omega) hvk hg13 hj3 (by simpa using hb3) hf2 (by omega)
          clear hy HI HY HF hj' hb' hg hj2 hg2 hb2 hbw2 hvk hbw c1 c2 x1 x2 x3 x4 HRd hj3 hf2 hf3 hb3 hg13 hg3 hf z0
          gi_wp2_with fail
          refine (CallsIn.any HK.out).mono ?_
          clear HK
          rintro e W4 ⟨C4, hg4, ⟨rfl, hj4, hb4⟩ | ⟨rfl, hx4⟩⟩
          · have HZ := Lib.hid hb4
            have HG := Lib.hid hg4
            clear hb4 hg4
            gi_wp2
            go_roundw
            case rel =>
              refine ⟨j + 1, d + 1 + K.size, R, C4, by go_num, Lib.hid (by have := hk.out; simp only [Hg.len] at this; omega), Lib.hid (by have := hd.out; simp only [Hg.size] at this; omega), HF3, HG.out, ?_, ?_, fun _ => ⟨b, o, rfl, ?_⟩⟩
              · rw [show k0 + (d + 1 + K.size) = k0 + d + 1 + K.size by omega]; exact hj4
              · rw [show k0 + (d + 1 + K.size) = k0 + d + 1 + K.size by omega]; exact HZ.out
              · rw [show o + (j + 1) * 2 = o + j * 2 + 2 from by omega]; exact hr
            case measure => simp [intOf]; omega
          · gi_wp2
            go_ret
            exact ⟨C4, hg4, .inr ⟨rfl, hx4⟩⟩
        · have hg13 := hg2.trans hg3
          clear hy HI HY HF hj' hb' hg hj2 hg2 hb2 hbw2 hvk hbw c1 c2 x1 x2 x3 x4 HRd hg3 hf
          gi_wp2
          go_ret
          exact ⟨C3, hg13, .inr ⟨rfl, hx3⟩⟩

set_option maxHeartbeats 1000000 in
/-- hedge.nodes(h) hands back an iterator over the nodes of h. -/
theorem nodes_iter (H : Hg) (hv : Value) (hb : Nat) (wB : World) (C0 : Nat → Prop) (w0 : World) (hH : IsH wB hv H) (hw0 : Below wB.heap.size wB w0) (hC0 : ∀ c, C0 c → wB.heap.size ≤ c)
    (hbx : Boxed w0 hb 22 hv) (hbC : ¬ C0 hb) (hsz : H.size ≤ 1000000) :
    IterC Try.prog 69 #[.pointer (some ⟨hb, 0, none⟩)] (NEnc wB) H.flat C0 w0 := by
  intro L J Jx C1 W1 hC1 hlt hkp hJ hJx hY h0
  have hw1 : Below wB.heap.size wB W1 := hw0.trans (hkp.below hw0.size (fun _ _ => trivial))
  have hC1' : ∀ c, C1 c → wB.heap.size ≤ c := fun c hc => (hC1 c hc).elim (hC0 c) (fun h => Nat.le_trans hw0.size h)
  have hbx1 := hkp.boxed hbx trivial
  have x1 := hbx1.cell
  have l1 := hbx1.lt
  have l2 : hb < W1.heap.size + 1 := by omega
  have l3 : hb < W1.heap.size + 1 + 1 := by omega
  have hkpA : Kp (fun _ => True) W1 ((((W1.alloc (.cells #[.func (.yield L) #[] #[]] 34)).alloc (.cells #[.int .i64 0] 3)).alloc (.cells #[vfun (W1.heap.size + 1) W1.heap.size (W1.heap.size + 1 + 1)] 108))) :=
    (((Kp.refl _ W1).alloc _).alloc _).alloc _
  have hgA : Grow C1 W1 C1 _ := (Grow.refl hlt).own (hkpA.mono fun _ _ _ => trivial)
  have hjA := hJ _ _ _ _ h0 (hkpA.mono fun _ _ _ => trivial)
  have hbA : NBx _ C1 W1.heap.size L (W1.heap.size + 1) W1.heap.size (W1.heap.size + 1 + 1) ((0 : Nat) : Int) :=
    ⟨((by have := Boxed.new (W1.alloc (.cells #[.func (.yield L) #[] #[]] 34)) 3 (.int .i64 0); simpa using this : Boxed ((W1.alloc (.cells #[.func (.yield L) #[] #[]] 34)).alloc (.cells #[.int .i64 0] 3)) (W1.heap.size + 1) 3 (.int .i64 0))).alloc _,
     ((Boxed.new W1 34 (.func (.yield L) #[] #[])).alloc _).alloc _,
     by have := Boxed.new ((W1.alloc (.cells #[.func (.yield L) #[] #[]] 34)).alloc (.cells #[.int .i64 0] 3)) 108 (vfun (W1.heap.size + 1) W1.heap.size (W1.heap.size + 1 + 1)); simpa using this,
     fun h => by have := hlt _ h; omega, fun h => by have := hlt _ h; omega, fun h => by have := hlt _ h; omega, by omega, by omega, by omega, by omega, by omega⟩
  have HV := Lib.hid <| visit_any L H.flat wB J Jx C1 W1 hw1 hC1' hJ hJx hY _ _ _ (H.size + 1) H hv 0 C1 _ (Nat.lt_succ_self _) hH hgA hjA hbA (fun i x h => by simpa using h) (by omega)
  obtain ⟨p, c, rfl, hc1, hc2, hrow⟩ := hH
  clear hY hJ hJx hrow hkpA hgA hjA hbA hbx hkp hw0 hw1 hC1 hC1' hbx1 hc1
  refine Calls.of_callsIn (ro := none) (m := 0) ?_
  refine callsIn_of_wp Try.func69 rfl trivial ?_ rfl
  simp only [Try.ntmps69, List.size_toArray, List.length_cons, List.length_nil, Nat.reduceAdd, Nat.reduceSub, Array.replicate_succ, Array.replicate_zero, List.push_toArray, List.append_toArray, List.nil_append, List.cons_append]
  gi_wp2_with fail
  refine (CallsIn.any HV.out).mono ?_
  clear HV
  rintro e W4 ⟨C4, hg4, ⟨rfl, hj4, hb4⟩ | ⟨rfl, hx4⟩⟩
  · have HZ := Lib.hid hb4
    clear hb4
    gi_wp2
    go_end0
    exact ⟨⟨_, rfl⟩, C4, hg4, .inl (by rw [Hg.flat_length]; simpa using hj4)⟩
  · gi_wp2
    go_end0
    exact ⟨⟨_, rfl⟩, C4, hg4, .inr hx4⟩

set_option maxHeartbeats 1000000 in
theorem nodes_any (v : Value) (H : Hg) (w : World) (hv : IsH w v H) :
    Calls Try.prog 41 #[v] w fun e w' => e = .returned (.func (.func 69) #[] #[.pointer (some ⟨w.heap.size, 0, none⟩)]) ∧ w' = w.alloc (.cells #[v] 22) := by
  obtain ⟨p, c, rfl, hc1, hc2, hrow⟩ := hv
  clear hrow
  go_enter Try.func41, Try.ntmps41
  go_wp2
  go_ret
  exact ⟨rfl, rfl⟩

end Go.Proofs.Ythdaeblfehclcab
