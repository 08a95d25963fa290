/- tree.subtrees, an iterator with positions. -/
import Derived.Test.YtedfldbknjcnlaaDoorRows
import Derived.Test.YtedfldbknjcnlaaDoorHgS
import Derived.Test.YtedfldbknjcnlaaDoorRF2
import Derived.Maps.OwnIn
import Derived.WalkSmall
namespace Go.Proofs.YtedfldbknjcnlaaDoor
open Go.RowKit
attribute [local go_sem] Oper.semAt_some fwd fwf

/-- The subtrees below a node, with their positions. -/
def Hg.subs : Hg → List Nat → Nat → List (List Nat × Int × Hg)
  | .nil, _, _ => []
  | .cons l k r, path, i => (path ++ [i], l, k) :: (k.subs (path ++ [i]) 0 ++ r.subs path (i + 1))
theorem Hg.subs_length (h : Hg) : ∀ path i, (h.subs path i).length = h.size := by
  induction h with
  | nil => intros; rfl
  | cons l k r hk hr => intros; simp [Hg.subs, Hg.size, hk, hr]

def ints (l : List Nat) : List Value := l.map (fun i : Nat => Value.int .i64 (i : Int))
theorem ints_append (a b : List Nat) : ints (a ++ b) = ints a ++ ints b := by simp [ints]
theorem ints_length (a : List Nat) : (ints a).length = a.length := by simp [ints]

theorem ownsRow_shape {W : World} {base : Nat} {e : TypeId} {size : Nat} {v : Value} {k : Nat} {xs : List Value} (h : W.ownsRow base e size v k xs) : ∃ A cap, v = .slice A k cap := by
  rcases h.2 with ⟨rfl, rfl⟩ | ⟨g, cap, _, rfl, _⟩
  · exact ⟨_, _, rfl⟩
  · exact ⟨_, _, rfl⟩

theorem Tryd.infoInt : (Tryd.prog.info? 3).map (fun i => (i.zero, i.size, i.bytes)) = some (some (.int .i64 0), 1, 8) := by kernel_rfl

def sfun (by' bp bv : Nat) : Value := .func (.func 109) #[] #[.pointer (some ⟨by', 0, none⟩), .pointer (some ⟨bp, 0, none⟩), .pointer (some ⟨bv, 0, none⟩)]

structure SBx (W : World) (C : Nat → Prop) (n1 L by' bp bv : Nat) (path : List Nat) : Prop where
  yl : Boxed W by' 144 (.func (.yield L) #[] #[])
  vs : Boxed W bv 145 (sfun by' bp bv)
  pos : ∃ v, Boxed W bp 22 v ∧ W.ownsRow n1 3 1 v path.length (ints path) ∧ (∀ g, v.ownBlock = some g → ¬ C g)
  c1 : ¬ C by'
  c2 : ¬ C bv
  c3 : ¬ C bp
  g1 : n1 ≤ by'
  g2 : n1 ≤ bv
  g3 : n1 ≤ bp
  d1 : bp ≠ by'
  d2 : bp ≠ bv

theorem ownsRow_grow {W W' : World} {C C' : Nat → Prop} {base : Nat} {e : TypeId} {size n : Nat} {v : Value} {xs : List Value} (h : W.ownsRow base e size v n xs) (hc : ∀ g, v.ownBlock = some g → ¬ C g) (g : Grow C W C' W') : W'.ownsRow base e size v n xs := by
  refine ⟨h.1, h.2.imp id ?_⟩
  rintro ⟨g', cap, cur, rfl, h1, h2, h3⟩
  exact ⟨g', cap, cur, rfl, h1, g.kp.heap h2 (hc _ rfl), h3⟩

theorem SBx.keep {W W' : World} {C C' : Nat → Prop} {n1 L by' bp bv : Nat} {path : List Nat} (h : SBx W C n1 L by' bp bv path) (g : Grow C W C' W') : SBx W' C' n1 L by' bp bv path := by
  have hn : ∀ b, ¬ C b → b < W.heap.size → ¬ C' b := fun b h1 h2 e => (g.new _ e).elim h1 (fun x => by omega)
  obtain ⟨v, hb, hown, hc⟩ := h.pos
  refine ⟨g.kp.boxed h.yl h.c1, g.kp.boxed h.vs h.c2, ⟨v, g.kp.boxed hb h.c3, ownsRow_grow hown hc g, fun g' e => hn _ (hc g' e) (hown.lt g' e).2⟩, hn _ h.c1 h.yl.lt, hn _ h.c2 h.vs.lt, hn _ h.c3 hb.lt, h.g1, h.g2, h.g3, h.d1, h.d2⟩
theorem SBx.alloc {W : World} {C : Nat → Prop} {n1 L by' bp bv : Nat} {path : List Nat} (h : SBx W C n1 L by' bp bv path) (o : Obj) : SBx (W.alloc o) C n1 L by' bp bv path := by
  obtain ⟨v, hb, hown, hc⟩ := h.pos
  exact ⟨h.yl.alloc o, h.vs.alloc o, ⟨v, hb.alloc o, hown.alloc o, hc⟩, h.c1, h.c2, h.c3, h.g1, h.g2, h.g3, h.d1, h.d2⟩

/-- A slice of numbers that reads as a position. -/
def IsPos (W : World) (v : Value) (path : List Nat) : Prop :=
  ∃ A cap, v = .slice A path.length cap ∧ path.length ≤ cap ∧ cap ≤ maxLen ∧ (path ≠ [] → ∃ g, A = some ⟨g, 0, none⟩ ∧ ∀ i x : Nat, path[i]? = some x → W.cell? ⟨g, i, none⟩ = some (.int .i64 (x : Int)))
theorem IsPos.of_own {W : World} {base : Nat} {v : Value} {path : List Nat} (h : W.ownsRow base 3 1 v path.length (ints path)) : IsPos W v path := by
  rcases h.2 with ⟨rfl, hl⟩ | ⟨g, cap', cur, rfl, _, _, h1, h2, _⟩
  · have : path = [] := List.eq_nil_of_length_eq_zero hl
    subst this
    exact ⟨_, _, rfl, Nat.le_refl _, by decide, fun hne => absurd rfl hne⟩
  · refine ⟨_, _, rfl, h1, h2, fun _ => ⟨g, rfl, fun i x hx => ?_⟩⟩
    have hi := (List.getElem?_eq_some_iff.1 hx).1
    rw [h.cellAt i (by omega)]
    simp [ints, hx]

/-- How an element of subtrees(t) is handed to yield. -/
def TEnc (wB : World) (_ : Nat) (x : List Nat × Int × Hg) (vals : Array Value) (W : World) : Prop :=
  ∃ pv vk, vals = #[pv, .agg #[.int .i64 x.2.1, vk]] ∧ (Lit.int .i64 x.2.1).wf = true ∧ IsH wB vk x.2.2 ∧ Below wB.heap.size wB W ∧ IsPos W pv x.1

/-- The same, where the slice lies in no block of the caller's. -/
def IsPosS (S : Nat → Prop) (W : World) (v : Value) (path : List Nat) : Prop :=
  ∃ A cap, v = .slice A path.length cap ∧ path.length ≤ cap ∧ cap ≤ maxLen ∧ (path ≠ [] → ∃ g, A = some ⟨g, 0, none⟩ ∧ S g ∧ ∀ i x : Nat, path[i]? = some x → W.cell? ⟨g, i, none⟩ = some (.int .i64 (x : Int)))
theorem IsPosS.isPos {S : Nat → Prop} {W : World} {v : Value} {path : List Nat} (h : IsPosS S W v path) : IsPos W v path := by
  obtain ⟨A, cap, e, h1, h2, h3⟩ := h
  refine ⟨A, cap, e, h1, h2, fun hne => ?_⟩
  obtain ⟨g, e, _, hc⟩ := h3 hne
  exact ⟨g, e, hc⟩
theorem IsPosS.mono {S S' : Nat → Prop} {W : World} {v : Value} {path : List Nat} (h : IsPosS S W v path) (hS : ∀ c, c < W.heap.size → S c → S' c) : IsPosS S' W v path := by
  obtain ⟨A, cap, e, h1, h2, h3⟩ := h
  refine ⟨A, cap, e, h1, h2, fun hne => ?_⟩
  obtain ⟨g, e, hg, hc⟩ := h3 hne
  refine ⟨g, e, hS g ?_ hg, hc⟩
  cases path with
  | nil => exact absurd rfl hne
  | cons x p => exact World.block_lt_of_cell? _ _ (hc 0 x rfl)
theorem IsPosS.kp {S : Nat → Prop} {W W' : World} {v : Value} {path : List Nat} (h : IsPosS S W v path) (hk : Kp S W W') : IsPosS S W' v path := by
  obtain ⟨A, cap, e, h1, h2, h3⟩ := h
  refine ⟨A, cap, e, h1, h2, fun hne => ?_⟩
  obtain ⟨g, e, hg, hc⟩ := h3 hne
  exact ⟨g, e, hg, fun i x hx => hk.cell (hc i x hx) hg⟩
theorem IsPosS.of_own {S : Nat → Prop} {W : World} {base : Nat} {v : Value} {path : List Nat} (h : W.ownsRow base 3 1 v path.length (ints path)) (hS : ∀ g, v.ownBlock = some g → S g) : IsPosS S W v path := by
  rcases h.2 with ⟨rfl, hl⟩ | ⟨g, cap', cur, rfl, _, _, h1, h2, _⟩
  · have : path = [] := List.eq_nil_of_length_eq_zero hl
    subst this
    exact ⟨_, _, rfl, Nat.le_refl _, by decide, fun hne => absurd rfl hne⟩
  · refine ⟨_, _, rfl, h1, h2, fun _ => ⟨g, rfl, hS g rfl, fun i x hx => ?_⟩⟩
    have hi := (List.getElem?_eq_some_iff.1 hx).1
    rw [h.cellAt i (by omega)]
    simp [ints, hx]
/-- How an element of subtrees(t) is handed to yield, and that the position lies apart. -/
def TEncD (wB : World) (_ : Nat) (x : List Nat × Int × Hg) (vals : Array Value) (C : Nat → Prop) (W : World) : Prop :=
  ∃ pv vk, vals = #[pv, .agg #[.int .i64 x.2.1, vk]] ∧ (Lit.int .i64 x.2.1).wf = true ∧ IsH wB vk x.2.2 ∧ Below wB.heap.size wB W ∧ IsPosS (fun c => ¬ C c) W pv x.1
theorem TEncD.tenc {wB : World} {k : Nat} {x : List Nat × Int × Hg} {vals : Array Value} {C : Nat → Prop} {W : World} (h : TEncD wB k x vals C W) : TEnc wB k x vals W := by
  obtain ⟨pv, vk, h1, h2, h3, h4, h5⟩ := h
  exact ⟨pv, vk, h1, h2, h3, h4, h5.isPos⟩
theorem TEncD.mono {wB : World} {k : Nat} {x : List Nat × Int × Hg} {vals : Array Value} {C C' : Nat → Prop} {W : World} (hC : ∀ c, C c → C' c) (h : TEncD wB k x vals C' W) : TEncD wB k x vals C W := by
  obtain ⟨pv, vk, h1, h2, h3, h4, h5⟩ := h
  exact ⟨pv, vk, h1, h2, h3, h4, h5.mono (fun c _ hn hc => hn (hC c hc))⟩

theorem one_c1 (W : World) (o : Obj) (x : Value) (t : TypeId) (B : Nat) (hB : B = W.heap.size + 1) : ∀ j u, [x][j]? = some u → ((W.alloc o).alloc (.cells #[x] t)).cell? ((⟨B, 0, none⟩ : Addr).add j) = some u := by
  subst hB
  intro j u hu
  have hr := World.alloc_heap_new (W.alloc o) (.cells #[x] t)
  simp only [World.size_alloc] at hr
  have : ((⟨W.heap.size + 1, 0, none⟩ : Addr).add j) = ⟨W.heap.size + 1, j, none⟩ := by
    unfold Addr.add; split <;> simp_all
  rw [this, cell_of_row _ _ _ _ _ _ hr]
  simpa using hu

set_option maxRecDepth 100000 in
set_option maxHeartbeats 2000000 in
theorem tvisit_any (L : Nat) (xs : List (List Nat × Int × Hg)) (wB : World) (J : Nat → (Nat → Prop) → World → Prop) (Jx : (Nat → Prop) → World → Prop) (C1 : Nat → Prop) (W1 : World) (hw1 : Below wB.heap.size wB W1)
    (hC1 : ∀ c, C1 c → wB.heap.size ≤ c)
    (hJ : ∀ k C W W', J k C W → Kp C W W' → J k C W')
    (hY : ∀ k x vals C W, xs[k]? = some x → TEncD wB k x vals C W → Grow C1 W1 C W → J k C W →
      Yields Tryd.prog L vals W fun e W' => ∃ C', Grow C W C' W' ∧ ((e = .returned (.bool true) ∧ J (k + 1) C' W') ∨ (e = .returned (.bool false) ∧ Jx C' W')))
    (by' bp bv : Nat) (N : Nat) : ∀ (s : Int) (K : Hg) (vk : Value) (path : List Nat) (k : Nat) (C : Nat → Prop) (W : World), K.size < N → (Lit.int .i64 s).wf = true → IsH wB vk K → Grow C1 W1 C W → J k C W → SBx W C W1.heap.size L by' bp bv path →
      xs[k]? = some (path, s, K) → (∀ i x, (K.subs path 0)[i]? = some x → xs[k + 1 + i]? = some x) → path.length + K.size ≤ 1000000 →
      CallsIn (fnc none) 0 Tryd.prog 109 #[.agg #[.int .i64 s, vk], .pointer (some ⟨by', 0, none⟩), .pointer (some ⟨bp, 0, none⟩), .pointer (some ⟨bv, 0, none⟩)] W fun e W' =>
        ∃ C', Grow C1 W1 C' W' ∧ ((e = .returned (.bool true) ∧ J (k + 1 + K.size) C' W' ∧ SBx W' C' W1.heap.size L by' bp bv path) ∨ (e = .returned (.bool false) ∧ Jx C' W')) := by
  induction N with
  | zero => intro s K vk path k C W hN; omega
  | succ N ih =>
    intro s K vk path k0 C W hN hwf hv hgr hj hbx hx0 hfl hk0
    have HVK := Lib.hid hv
    obtain ⟨p, c, rfl, hc1, hc2, hrow⟩ := hv
    unfold maxLen at hc2
    obtain ⟨i0, hi, hz0, hz1, hz2⟩ := info_parts Tryd.infoInt
    have HI := Lib.hid ih
    have HF := Lib.hid hfl
    have HR := Lib.hid hrow
    clear ih hfl hrow
    -- the world in which yield is called
    have hbx2 := hbx.alloc (.cells #[.int .i64 s, .slice p K.len c] 43)
    have hg2 := hgr.alloc_ (.cells #[.int .i64 s, .slice p K.len c] 43)
    have hj2 := hJ _ _ _ _ hj ((Kp.refl C W).alloc (.cells #[.int .i64 s, .slice p K.len c] 43))
    obtain ⟨pv, hpb, hpo, hpc⟩ := hbx2.pos
    obtain ⟨PA, pcap, rfl⟩ := ownsRow_shape hpo
    have hbw2 : Below wB.heap.size wB (W.alloc (.cells #[.int .i64 s, .slice p K.len c] 43)) := hw1.trans (hg2.below hw1.size hC1)
    obtain ⟨fn, tmps, assign, body, hy, hRd⟩ := hY k0 _ _ C _ hx0 ⟨_, _, rfl, hwf, HVK.out, hbw2, IsPosS.of_own hpo hpc⟩ hg2 hj2
    have x1 := hbx.yl.cell
    have l1 := hbx.yl.lt
    have l2 : bp < W.heap.size := by obtain ⟨v, hb, _⟩ := hbx.pos; exact hb.lt
    have l4 := hbx.vs.lt
    have x2 : W.cell? ⟨bp, 0, none⟩ = some (.slice PA path.length pcap) := by
      have := hpb.cell
      rwa [World.cell?_alloc_lt _ _ _ l2] at this
    have HG2 := Lib.hid hg2
    have HB2 := Lib.hid hbx2
    have HRd := Lib.hid hRd
    have hxb := Blk.new W 43 #[.int .i64 s, .slice p K.len c]
    have HXB := Lib.hid hxb
    have HCL : Hid (∀ c', C c' → c' < W.heap.size) := Lib.hid hgr.lt
    have HY := Lib.hid hY
    clear hbx hbx2 hg2 hj2 hj hpb hpo hpc hbw2 hRd hxb hgr hY hwf
    refine callsIn_of_wp Tryd.func109 rfl trivial ?_ rfl
    simp only [Tryd.ntmps109, List.size_toArray, List.length_cons, List.length_nil, Nat.reduceAdd, Nat.reduceSub, Array.replicate_succ, Array.replicate_zero, List.push_toArray, List.append_toArray, List.nil_append, List.cons_append]
    gi_wp2
    refine (RoundIn.anyDepth HRd.out).mono ?_
    clear HRd hy
    rintro e W3 ⟨C3, hg3, ⟨rfl, hj3⟩ | ⟨rfl, hx3⟩⟩
    · have hb3 := HB2.out.keep hg3
      have hg13 := HG2.out.trans hg3
      have hx3 : Blk W3 W.heap.size 43 #[.int .i64 s, .slice p K.len c] := HXB.out.kp hg3.kp (fun e => by have := HCL.out _ e; omega)
      have y1 : W3.cell? ⟨W.heap.size, 1, none⟩ = some (.slice p K.len c) := by rw [hx3.cell]; rfl
      have HB3 := Lib.hid hb3
      have HG3 := Lib.hid hg13
      have HJ3 := Lib.hid hj3
      clear hb3 hg13 hg3 hx3 HB2 HG2 HXB HCL hj3 x1 x2
      gi_wp2
      gi_loopw [16] (fun i wr => ∃ (j d : Nat) (R : Hg) (C' : Nat → Prop), i = .int .i64 j ∧ Hid (j + R.len = K.len) ∧ Hid (d + R.size = K.size) ∧ Hid (∀ i x, (R.subs path j)[i]? = some x → xs[k0 + 1 + d + i]? = some x) ∧ Hid (Grow C1 W1 C' wr) ∧ Hid (J (k0 + 1 + d) C' wr) ∧ Hid (SBx wr C' W1.heap.size L by' bp bv path) ∧ (R ≠ .nil → ∃ b o, p = some ⟨b, o, none⟩ ∧ Row wB R b (o + j * 2)))
        (fun i _ => K.len - (intOf i).toNat)
      case atStart =>
        exact ⟨0, 0, K, C3, rfl, Lib.hid (by omega), Lib.hid (by omega), Lib.hid (by simpa using HF.out), HG3, HJ3, HB3, by simpa using HR.out⟩
      case round =>
        obtain ⟨j, d, R, C', rfl, hk, hd, hf, hg, hj', hb', hR⟩ := hrel
        cases R with
        | nil =>
          have hge : K.len ≤ j := by have := hk.out; simp only [Hg.len] at this; omega
          have hds : Hid (d = K.size) := Lib.hid (by have := hd.out; simpa [Hg.size] using this)
          clear hR HR hk hd hf HJ3 HB3 HG3
          gi_wp2
          go_ret
          refine ⟨C', hg.out, .inl ⟨rfl, ?_, hb'.out⟩⟩
          rw [← hds.out]; exact hj'.out
        | cons l k R =>
          obtain ⟨b, o, rfl, hr⟩ := hR (by simp)
          rw [Row.cons_iff] at hr
          obtain ⟨c1, hl, ⟨kv, c2, hkv⟩, hr⟩ := hr
          have hkv' := hkv
          obtain ⟨p', c', rfl, hc1', hc2', _⟩ := hkv'
          have hlt : j < K.len := by have := hk.out; simp only [Hg.len] at this; omega
          have hlt2 := Hg.len_le_size K
          have hds : d + (k.size + R.size + 1) = K.size := by have := hd.out; simpa [Hg.size] using this
          have hbw : Below wB.heap.size wB wr := hw1.trans (hg.out.below hw1.size hC1)
          have c1 := (hbw.cell (World.block_lt_of_cell? _ _ c1)).trans c1
          have c2 := (hbw.cell (World.block_lt_of_cell? _ _ c2)).trans c2
          have hbl := World.block_lt_of_cell? _ _ c1
          simp only at hbl
          obtain ⟨pv2, hpb, hpo, hpc⟩ := hb'.out.pos
          obtain ⟨PA2, pcap2, rfl⟩ := ownsRow_shape hpo
          have x1 := hpb.cell
          have l3 := hpb.lt
          have l5 : bp < wr.heap.size + 1 := by omega
          have hpoA := hpo.alloc (.cells #[.int .i64 l, .slice p' k.len c'] 43)
          have HPB := Lib.hid hpb
          have HPO := Lib.hid hpo
          have HPA := Lib.hid hpoA
          have HPC := Lib.hid hpc
          have HDS := Lib.hid hds
          have hbase : W1.heap.size ≤ wr.heap.size := hg.out.kp.size
          have hds2 : d + k.size + 1 ≤ K.size := by omega
          clear hR HR hpb hpo hpoA hpc HJ3 HB3 HG3 hds hbw
          gi_wp2_with (gi_at_builtin; refine wpListIn_append_own_at _ rfl _ _ 22 rfl W1.heap.size 3 i0 _ 1 8 Tryd.underlying22 hi hz0 hz1 hz2 rfl (by decide) _ _ _ rfl (HPA.out.alloc _) ⟨wr.heap.size + 1, 0, none⟩ 1 1 [.int .i64 (j : Int)] rfl rfl ?c1 ?c2 ?c3 ?c4 ?c5 ?_)
          case c1 => exact one_c1 _ _ _ _ _ rfl
          case c2 => simp [Value.oneCell']
          case c3 => simp only [maxLen]; omega
          case c4 => omega
          case c5 => simp; omega
          intro v' w1 hown' hgrow _ hat
          obtain ⟨g', cap', rfl⟩ := ownsRow_succ hown'
          have hv1 : Boxed w1 bp 22 (.slice PA2 path.length pcap2) := ((HPB.out.alloc _).alloc _).kept hgrow (HPB.out.not_row (by decide) HPO.out)
          have y1 := hv1.cell
          have y2 := hv1.frozen
          have y3 := hv1.lt
          have hkC : Kp C' wr (w1.setCell ⟨bp, 0, none⟩ (.slice (some ⟨g', 0, none⟩) (path.length + 1) cap')) :=
            ((((Kp.refl _ wr).alloc _).alloc _).grown hgrow (fun q e hS => absurd hS (HPC.out q e))).setCell (p := ⟨bp, 0, none⟩) (fun hS => absurd hS hb'.out.c3) _
          have hkN : Kp (fun c => c < W1.heap.size) wr (w1.setCell ⟨bp, 0, none⟩ (.slice (some ⟨g', 0, none⟩) (path.length + 1) cap')) :=
            ((((Kp.refl _ wr).alloc _).alloc _).grown hgrow (fun q e hS => by have := (HPO.out.lt q e).1; omega)).setCell (p := ⟨bp, 0, none⟩) (fun hS => by have := hb'.out.g3; simp at hS; omega) _
          have hg4 := hg.out.own hkN
          have hj4 := hJ _ _ _ _ hj'.out hkC
          have hsb4 : SBx (w1.setCell ⟨bp, 0, none⟩ (.slice (some ⟨g', 0, none⟩) (path.length + 1) cap')) C' W1.heap.size L by' bp bv (path ++ [j]) := by
            refine ⟨boxed_far (((hb'.out.yl.alloc _).alloc _).kept hgrow (hb'.out.yl.not_row (by decide) HPO.out)) hb'.out.d1.symm _, boxed_far (((hb'.out.vs.alloc _).alloc _).kept hgrow (hb'.out.vs.not_row (by decide) HPO.out)) hb'.out.d2.symm _,
              ⟨_, hv1.set _, ?_, fun q e => ?_⟩, hb'.out.c1, hb'.out.c2, hb'.out.c3, hb'.out.g1, hb'.out.g2, hb'.out.g3, hb'.out.d1, hb'.out.d2⟩
            · rw [ints_append, List.length_append]
              exact hown'.kept (grownBy_setCell' w1 bp _) (.inr (hv1.not_row (by decide) hown').symm)
            · rcases hat with h | h
              · exact HPC.out q (h ▸ e)
              · rw [h] at e
                intro hq
                have := hg.out.lt q hq
                simp at e
                omega
          have hkb : Blk (w1.setCell ⟨bp, 0, none⟩ (.slice (some ⟨g', 0, none⟩) (path.length + 1) cap')) wr.heap.size 43 #[.int .i64 l, .slice p' k.len c'] := by
            refine Blk.far ?_ (by simp; omega) _
            exact (hgrow.block wr.heap.size (by simp; omega) (fun e => by have := (HPO.out.lt _ e.symm).2; omega)).trans ((Below.heap_alloc _ _ _ (by simp)).trans (World.alloc_heap_new wr _))
          have z1 := hsb4.vs.cell
          unfold sfun at z1
          have z2 : (w1.setCell ⟨bp, 0, none⟩ (.slice (some ⟨g', 0, none⟩) (path.length + 1) cap')).cell? ⟨wr.heap.size, 0, none⟩ = some (.int .i64 l) := by rw [hkb.cell]; rfl
          have z3 : (w1.setCell ⟨bp, 0, none⟩ (.slice (some ⟨g', 0, none⟩) (path.length + 1) cap')).cell? ⟨wr.heap.size, 1, none⟩ = some (.slice p' k.len c') := by rw [hkb.cell]; rfl
          have hxk : xs[k0 + 1 + d]? = some (path ++ [j], l, k) := by have := hf.out 0 (path ++ [j], l, k) rfl; simpa using this
          have hf2 : ∀ i x, (k.subs (path ++ [j]) 0)[i]? = some x → xs[k0 + 1 + d + 1 + i]? = some x := fun i x hi => by
            have := hf.out (i + 1) x (by
              simp only [Hg.subs, List.getElem?_cons_succ]
              rw [List.getElem?_append_left (List.getElem?_eq_some_iff.1 hi).1]; exact hi)
            rwa [show k0 + 1 + d + (i + 1) = k0 + 1 + d + 1 + i by omega] at this
          have hf3 : ∀ i x, (R.subs path (j + 1))[i]? = some x → xs[k0 + 1 + (d + 1 + k.size) + i]? = some x := fun i x hi => by
            have := hf.out (k.size + i + 1) x (by
              simp only [Hg.subs, List.getElem?_cons_succ]
              rw [List.getElem?_append_right (by rw [Hg.subs_length]; omega), Hg.subs_length, show k.size + i - k.size = i by omega]; exact hi)
            rwa [show k0 + 1 + d + (k.size + i + 1) = k0 + 1 + (d + 1 + k.size) + i by omega] at this
          have HF3 := Lib.hid hf3
          have HIA := Lib.hid <| HI.out l k _ (path ++ [j]) (k0 + 1 + d) C' _ (by omega) hl hkv hg4 hj4 hsb4 hxk hf2 (by simp; omega)
          clear hown' hgrow hat hv1 hkC hkN hg4 hj4 hsb4 hkb hxk hf2 hf3 HPB HPO HPA HPC hkv hf hx0 HF HVK hg hj' hb' c1 c2 x1
          gi_wp2_with fail
          refine (CallsIn.any HIA.out).mono ?_
          clear HIA
          rintro e W5 ⟨C5, hg5, ⟨rfl, hj5, hb5⟩ | ⟨rfl, hx5⟩⟩
          · obtain ⟨v5, hpb5, hpo5, hpc5⟩ := hb5.pos
            have hpo5 : W5.ownsRow W1.heap.size 3 1 v5 (path.length + 1) (ints path ++ [.int .i64 (j : Int)]) := by
              have := hpo5
              rw [ints_append, List.length_append] at this
              exact this
            obtain ⟨g5, cap5, rfl⟩ := ownsRow_succ hpo5
            have w1' := hpb5.cell
            have w2' := hpb5.frozen
            have w3' := hpb5.lt
            obtain ⟨w4', w5'⟩ := (show path.length + 1 ≤ cap5 ∧ cap5 ≤ 9223372036854775807 from by
              rcases hpo5.2 with ⟨h1, _⟩ | ⟨_, _, _, h1, _, _, h2, h3, _⟩
              · cases h1
              · cases h1; exact ⟨h2, by simpa [maxLen] using h3⟩)
            have hpop : W5.ownsRow W1.heap.size 3 1 (.slice (some ⟨g5, 0, none⟩) path.length cap5) path.length (ints path) := ownsRow_pop (by rw [ints_length, Nat.mul_one]) hpo5
            have hsb6 : SBx (W5.setCell ⟨bp, 0, none⟩ (.slice (some ⟨g5, 0, none⟩) path.length cap5)) C5 W1.heap.size L by' bp bv path :=
              ⟨boxed_far hb5.yl hb5.d1.symm _, boxed_far hb5.vs hb5.d2.symm _, ⟨_, hpb5.set _, hpop.kept (grownBy_setCell' W5 bp _) (.inr (hpb5.not_row (by decide) hpop).symm), fun q e => hpc5 q e⟩, hb5.c1, hb5.c2, hb5.c3, hb5.g1, hb5.g2, hb5.g3, hb5.d1, hb5.d2⟩
            have hj6 := hJ _ _ _ (W5.setCell ⟨bp, 0, none⟩ (.slice (some ⟨g5, 0, none⟩) path.length cap5)) hj5 ((Kp.refl C5 W5).setCell (p := ⟨bp, 0, none⟩) (fun hS => absurd hS hb5.c3) _)
            have hg6 : Grow C1 W1 C5 (W5.setCell ⟨bp, 0, none⟩ (.slice (some ⟨g5, 0, none⟩) path.length cap5)) := hg5.own ((Kp.refl _ W5).setCell (p := ⟨bp, 0, none⟩) (fun hS => by have := hb5.g3; simp at hS; omega) _)
            have HS6 := Lib.hid hsb6
            have HJ6 := Lib.hid hj6
            have HG6 := Lib.hid hg6
            clear hsb6 hj6 hg6 hpop hpb5 hpo5 hpc5 hb5 hj5 hg5
            gi_wp2
            go_roundw
            case rel =>
              refine ⟨j + 1, d + 1 + k.size, R, C5, by go_num, Lib.hid (by have := hk.out; simp only [Hg.len] at this; omega), Lib.hid (by have := HDS.out; omega), HF3, HG6, Lib.hid ?_, HS6, fun _ => ⟨b, o, rfl, ?_⟩⟩
              · rw [show k0 + 1 + (d + 1 + k.size) = k0 + 1 + d + 1 + k.size by omega]; exact HJ6.out
              · rw [show o + (j + 1) * 2 = o + j * 2 + 2 from by omega]; exact hr
            case measure => simp [intOf]; omega
          · gi_wp2
            go_ret
            exact ⟨C5, hg5, .inr ⟨rfl, hx5⟩⟩
    · have hg13 := HG2.out.trans hg3
      clear hg3
      gi_wp2
      go_ret
      exact ⟨C3, hg13, .inr ⟨rfl, hx3⟩⟩

set_option maxRecDepth 100000 in
set_option maxHeartbeats 1000000 in
/-- tree.subtrees(t) hands back an iterator over the subtrees of t. -/
theorem subs_iterD (s : Int) (K : Hg) (vk : Value) (hb : Nat) (wB : World) (C0 : Nat → Prop) (w0 : World) (hwf : (Lit.int .i64 s).wf = true) (hH : IsH wB vk K) (hw0 : Below wB.heap.size wB w0) (hC0 : ∀ c, C0 c → wB.heap.size ≤ c)
    (hbx : Blk w0 hb 43 #[.int .i64 s, vk]) (hsz : K.size ≤ 1000000) :
    IterD Tryd.prog 108 #[.pointer (some ⟨hb, 0, none⟩)] (TEncD wB) (([], s, K) :: K.subs [] 0) C0 w0 := by
  intro L J Jx C1 W1 hC1 hlt hkp hJ hJx hY h0
  have hw1 : Below wB.heap.size wB W1 := hw0.trans (hkp.below hw0.size (fun _ _ => trivial))
  have hC1' : ∀ c, C1 c → wB.heap.size ≤ c := fun c hc => (hC1 c hc).elim (hC0 c) (fun h => Nat.le_trans hw0.size h)
  have hbx1 : Blk W1 hb 43 #[.int .i64 s, vk] := hbx.kp hkp trivial
  have x1 : W1.cell? ⟨hb, 0, none⟩ = some (.int .i64 s) := by rw [hbx1.cell]; rfl
  have x2 : W1.cell? ⟨hb, 1, none⟩ = some vk := by rw [hbx1.cell]; rfl
  have l1 := hbx1.lt
  have l2 : hb < W1.heap.size + 1 := by omega
  have l3 : hb < W1.heap.size + 1 + 1 := by omega
  have hkpA : Kp (fun _ => True) W1 ((((W1.alloc (.cells #[.func (.yield L) #[] #[]] 144)).alloc (.cells #[.slice none 0 0] 22)).alloc (.cells #[sfun W1.heap.size (W1.heap.size + 1) (W1.heap.size + 1 + 1)] 145))) :=
    (((Kp.refl _ W1).alloc _).alloc _).alloc _
  have hgA : Grow C1 W1 C1 _ := (Grow.refl hlt).own (hkpA.mono fun _ _ _ => trivial)
  have hjA := hJ _ _ _ _ h0 (hkpA.mono fun _ _ _ => trivial)
  have hbA : SBx _ C1 W1.heap.size L W1.heap.size (W1.heap.size + 1) (W1.heap.size + 1 + 1) [] :=
    ⟨((Boxed.new W1 144 (.func (.yield L) #[] #[])).alloc _).alloc _,
     by have := Boxed.new ((W1.alloc (.cells #[.func (.yield L) #[] #[]] 144)).alloc (.cells #[.slice none 0 0] 22)) 145 (sfun W1.heap.size (W1.heap.size + 1) (W1.heap.size + 1 + 1)); simpa using this,
     ⟨.slice none 0 0, by have := (Boxed.new (W1.alloc (.cells #[.func (.yield L) #[] #[]] 144)) 22 (.slice none 0 0)).alloc (.cells #[sfun W1.heap.size (W1.heap.size + 1) (W1.heap.size + 1 + 1)] 145); simpa using this, World.ownsRow_nil _ _ _ _, fun g e => by cases e⟩,
     fun h => by have := hlt _ h; omega, fun h => by have := hlt _ h; omega, fun h => by have := hlt _ h; omega, by omega, by omega, by omega, by omega, by omega⟩
  have HV := Lib.hid <| tvisit_any L (([], s, K) :: K.subs [] 0) wB J Jx C1 W1 hw1 hC1' hJ hY _ _ _ (K.size + 1) s K vk [] 0 C1 _ (Nat.lt_succ_self _) hwf hH hgA hjA hbA rfl (fun i x h => by rw [show 0 + 1 + i = i + 1 by omega]; simpa using h) (by simpa using hsz)
  obtain ⟨p, c, rfl, hc1, hc2, hrow⟩ := hH
  clear hY hJ hJx hrow hkpA hgA hjA hbA hbx hkp hw0 hw1 hC1 hC1' hbx1 hc1
  refine Calls.of_callsIn (ro := none) (m := 0) ?_
  refine callsIn_of_wp Tryd.func108 rfl trivial ?_ rfl
  simp only [Tryd.ntmps108, List.size_toArray, List.length_cons, List.length_nil, Nat.reduceAdd, Nat.reduceSub, Array.replicate_succ, Array.replicate_zero, List.push_toArray, List.append_toArray, List.nil_append, List.cons_append]
  gi_wp2_with fail
  refine (CallsIn.any HV.out).mono ?_
  clear HV
  rintro e W4 ⟨C4, hg4, ⟨rfl, hj4, hb4⟩ | ⟨rfl, hx4⟩⟩
  · have HZ := Lib.hid hb4
    clear hb4
    gi_wp2
    go_end0
    exact ⟨⟨_, rfl⟩, C4, hg4, .inl (by rw [Hg.subs_length, show K.size + 1 = 0 + 1 + K.size by omega]; exact hj4)⟩
  · gi_wp2
    go_end0
    exact ⟨⟨_, rfl⟩, C4, hg4, .inr hx4⟩

theorem subs_iter (s : Int) (K : Hg) (vk : Value) (hb : Nat) (wB : World) (C0 : Nat → Prop) (w0 : World) (hwf : (Lit.int .i64 s).wf = true) (hH : IsH wB vk K) (hw0 : Below wB.heap.size wB w0) (hC0 : ∀ c, C0 c → wB.heap.size ≤ c)
    (hbx : Blk w0 hb 43 #[.int .i64 s, vk]) (hsz : K.size ≤ 1000000) :
    IterC Tryd.prog 108 #[.pointer (some ⟨hb, 0, none⟩)] (TEnc wB) (([], s, K) :: K.subs [] 0) C0 w0 :=
  fun L J Jx C1 W1 h1 h2 h3 h4 h5 hY h0 => subs_iterD s K vk hb wB C0 w0 hwf hH hw0 hC0 hbx hsz L J Jx C1 W1 h1 h2 h3 h4 h5 (fun k x vals C W hx he => hY k x vals C W hx he.tenc) h0

set_option maxHeartbeats 1000000 in
theorem subtrees_any (s : Int) (vk : Value) (K : Hg) (w : World) (hv : IsH w vk K) :
    Calls Tryd.prog 90 #[.agg #[.int .i64 s, vk]] w fun e w' => e = .returned (.func (.func 108) #[] #[.pointer (some ⟨w.heap.size, 0, none⟩)]) ∧ w' = w.alloc (.cells #[.int .i64 s, vk] 43) := by
  obtain ⟨p, c, rfl, hc1, hc2, hrow⟩ := hv
  clear hrow
  go_enter Tryd.func90, Tryd.ntmps90
  go_wp2
  go_ret
  exact ⟨rfl, rfl⟩

end Go.Proofs.YtedfldbknjcnlaaDoor
