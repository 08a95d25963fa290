/- hedge.Nodes. -/
import Derived.Test.YthdaeblfehclcabValid
import Derived.Test.YthdaeblfehclcabSubs
namespace Go.Proofs.Ythdaeblfehclcab
open Go.RowKit Go.Shelf

/-- What Nodes says of each node of a list of siblings, in document order: label, parent, index, last. -/
def Hg.inf : Hg → Int → Int → Int → List (Int × Int × Int × Int)
  | .nil, _, _, _ => []
  | .cons l k r, par, idx, num => (l, par, idx, num + k.size) :: (k.inf num 0 (num + 1) ++ r.inf par (idx + 1) (num + k.size + 1))
theorem Hg.inf_length (h : Hg) : ∀ par idx num, (h.inf par idx num).length = h.size := by
  induction h with
  | nil => intros; rfl
  | cons l k r hk hr => intros; simp [Hg.inf, Hg.size, hk, hr]

def c4 (x : Int × Int × Int × Int) : List Value := [.int .i64 x.1, .int .i64 x.2.1, .int .i64 x.2.2.1, .int .i64 x.2.2.2]
def cs4 (l : List (Int × Int × Int × Int)) : List Value := l.flatMap c4
theorem cs4_length (l : List (Int × Int × Int × Int)) : (cs4 l).length = l.length * 4 := by
  induction l with
  | nil => rfl
  | cons x l ih => simp only [cs4, List.flatMap_cons, List.length_append] at ih ⊢; rw [ih]; simp [c4]; omega
theorem cs4_append (a b : List (Int × Int × Int × Int)) : cs4 (a ++ b) = cs4 a ++ cs4 b := by simp [cs4]
theorem cs4_set (a b : List (Int × Int × Int × Int)) (l p i q q' : Int) : (cs4 (a ++ (l, p, i, q) :: b)).set (a.length * 4 + 3) (.int .i64 q') = cs4 (a ++ (l, p, i, q') :: b) := by
  have : cs4 ((l, p, i, q) :: b) = .int .i64 l :: .int .i64 p :: .int .i64 i :: .int .i64 q :: cs4 b := rfl
  rw [cs4_append, cs4_append, this, List.set_append_right _ _ (by rw [cs4_length]; omega), cs4_length, show a.length * 4 + 3 - a.length * 4 = 3 by omega]
  rfl
theorem cs4_at (a b : List (Int × Int × Int × Int)) (x : Int × Int × Int × Int) (j : Nat) (hj : j < 4) : (cs4 (a ++ x :: b))[a.length * 4 + j]? = (c4 x)[j]? := by
  rw [cs4_append, List.getElem?_append_right (by rw [cs4_length]; omega), cs4_length, show a.length * 4 + j - a.length * 4 = j by omega]
  rw [show cs4 (x :: b) = c4 x ++ cs4 b from rfl, List.getElem?_append_left (by simp [c4]; omega)]

theorem Try.infoInfo : (Try.prog.info? 58).map (fun i => (i.zero, i.size, i.bytes)) = some (some (.agg #[.int .i64 0, .int .i64 0, .int .i64 0, .int .i64 0]), 4, 32) := by kernel_rfl

def cfun (bi bc : Nat) : Value := .func (.func 51) #[] #[.pointer (some ⟨bi, 0, none⟩), .pointer (some ⟨bc, 0, none⟩)]

/-- What the closure keeps: the list so far and itself. -/
structure Col (W : World) (base bi bc : Nat) (xs : List (Int × Int × Int × Int)) : Prop where
  own : ∃ v, Boxed W bi 50 v ∧ W.ownsRow base 58 4 v xs.length (cs4 xs)
  self : Boxed W bc 79 (cfun bi bc)
  g1 : base ≤ bi
  g2 : base ≤ bc
  ne : bi ≠ bc

theorem collect_c1 (W : World) (o : Obj) (l par idx z : Int) (t : TypeId) (B : Nat) (hB : B = W.heap.size + 1) : ∀ j u, (c4 (l, par, idx, z))[j]? = some u → ((W.alloc o).alloc (.cells #[.int .i64 l, .int .i64 par, .int .i64 idx, .int .i64 z] t)).cell? ((⟨B, 0, none⟩ : Addr).add j) = some u := by
  subst hB
  intro j u hu
  have hr := World.alloc_heap_new (W.alloc o) (.cells #[.int .i64 l, .int .i64 par, .int .i64 idx, .int .i64 z] t)
  simp only [World.size_alloc] at hr
  have : ((⟨W.heap.size + 1, 0, none⟩ : Addr).add j) = ⟨W.heap.size + 1, j, none⟩ := by
    unfold Addr.add; split <;> simp_all
  rw [this, cell_of_row _ _ _ _ _ _ hr]
  simpa [c4] using hu

set_option maxRecDepth 100000 in
set_option maxHeartbeats 1000000 in
theorem collect_any (base bi bc : Nat) (wB : World) (hwB : wB.heap.size ≤ base) (N : Nat) : ∀ (l : Int) (K : Hg) (vk : Value) (par idx : Int) (xs : List (Int × Int × Int × Int)) (W : World), K.size < N → IsH wB vk K → Below wB.heap.size wB W →
    (-1 ≤ par ∧ par ≤ 1000000) → (0 ≤ idx ∧ idx ≤ 1000000) → xs.length + K.size < 1000000 → Col W base bi bc xs → base ≤ W.heap.size →
    Calls Try.prog 51 #[.agg #[.int .i64 l, vk], .int .i64 par, .int .i64 idx, .pointer (some ⟨bi, 0, none⟩), .pointer (some ⟨bc, 0, none⟩)] W fun e W' =>
      e = .returned (.tuple #[]) ∧ Col W' base bi bc (xs ++ (l, par, idx, (xs.length : Int) + K.size) :: K.inf xs.length 0 (xs.length + 1)) ∧ Below base W W' := by
  induction N with
  | zero => intro l K vk par idx xs W hN; omega
  | succ N ih =>
    intro l K vk par idx xs W hN hv hbw hpar hidx hxs hcol hbase
    obtain ⟨p, c, rfl, hc1, hc2, hrow⟩ := hv
    unfold maxLen at hc2
    obtain ⟨i0, hi, hz0, hz1, hz2⟩ := info_parts Try.infoInfo
    obtain ⟨⟨v, hbv, hown⟩, hself, hg1, hg2, hne⟩ := hcol
    obtain ⟨A, cap, rfl⟩ := ownsRow_shape hown
    have HI := Lib.hid ih
    clear ih
    have x1 := hbv.cell
    have l1 := hbv.lt
    have l2 : bi < W.heap.size + 1 := by omega
    obtain ⟨hp1, hp2⟩ := hpar
    obtain ⟨hi1, hi2⟩ := hidx
    have hownA := hown.alloc (.cells #[.int .i64 l, .slice p K.len c] 24)
    have hbvA := hbv.alloc (.cells #[.int .i64 l, .slice p K.len c] 24)
    have hkB : ∀ j, (Value.slice A xs.length cap).ownBlock = some j → base ≤ j ∧ j < W.heap.size := hown.lt
    have HR := Lib.hid hrow
    have Hbw := Lib.hid hbw
    have HSE := Lib.hid hself
    have HOS := Lib.hid hown
    have HBV := Lib.hid hbvA
    have HOA := Lib.hid hownA
    have HKB := Lib.hid hkB
    have Hbv := Lib.hid hbv
    clear hrow hbw hown hself hbvA hownA hkB hbv
    go_enter Try.func51, Try.ntmps51
    go_wp2_with (at_builtin; refine wpList_append_own _ rfl _ _ 50 rfl base 58 i0 _ 4 32 Try.underlying50 hi hz0 hz1 hz2 rfl (by decide) _ _ _ rfl (HOA.out.alloc _) ⟨W.heap.size + 1, 0, none⟩ 1 1 (c4 (l, par, idx, 0)) rfl rfl ?c1 ?c2 ?c3 ?c4 ?c5 ?_)
    case c1 => exact collect_c1 _ _ _ _ _ _ _ _ rfl
    case c2 => simp [c4, Value.oneCell']
    case c3 => simp only [maxLen]; omega
    case c4 => omega
    case c5 => simp; omega
    intro v' w1 hown' hgrow _
    obtain ⟨g', cap', rfl⟩ := ownsRow_succ hown'
    have hv1 : Boxed w1 bi 50 (.slice A xs.length cap) := (HBV.out.alloc _).kept hgrow (HBV.out.not_row (by decide) HOA.out)
    have y1 := hv1.cell
    have y2 := hv1.frozen
    have y3 := hv1.lt
    have hxb : w1.heap[W.heap.size]? = some (.cells #[.int .i64 l, .slice p K.len c] 24 (0, 0)) :=
      (hgrow.block W.heap.size (by simp; omega) (fun e => by have := HKB.out _ e.symm; omega)).trans ((Below.heap_alloc _ _ _ (by simp)).trans (World.alloc_heap_new W _))
    have y4 : w1.cell? ⟨W.heap.size, 1, none⟩ = some (.slice p K.len c) := by rw [cell_of_row _ _ _ _ _ _ hxb]; rfl
    have y5 : ¬ bi = W.heap.size := by omega
    have y6 : ¬ W.heap.size = bi := by omega
    have hbw1 : Below base W w1 := ((((Below.refl base W).alloc hbase _).alloc (by simp; omega) _).grown hgrow (by simp; omega) (fun j e => (HKB.out _ e).1))
    have hself1 : Boxed w1 bc 79 (cfun bi bc) := ((HSE.out.alloc _).alloc _).kept hgrow (HSE.out.not_row (by decide) HOS.out)
    have hcol1 : Col (w1.setCell ⟨bi, 0, none⟩ (.slice (some ⟨g', 0, none⟩) (xs.length + 1) cap')) base bi bc (xs ++ [(l, par, idx, 0)]) := by
      refine ⟨⟨_, hv1.set _, ?_⟩, hself1.other hne.symm _, hg1, hg2, hne⟩
      have h1 : cs4 (xs ++ [(l, par, idx, 0)]) = cs4 xs ++ c4 (l, par, idx, 0) := by rw [cs4_append]; simp [cs4]
      rw [h1, List.length_append]
      exact hown'.kept (grownBy_setCell' w1 bi _) (.inr (hv1.not_row (by decide) hown').symm)
    have HC1 := Lib.hid hcol1
    have HB1 := Lib.hid hbw1
    clear hown' hgrow hv1 hxb hself1 hcol1 hbw1 HBV HOA HSE HOS Hbv
    go_wp2_with fail
    go_loopw [24] (fun i wr => ∃ (j : Nat) (R : Hg) (D : List (Int × Int × Int × Int)), i = .int .i64 j ∧ Hid (j + R.len = K.len) ∧ Hid (D.length + R.size = K.size) ∧
        Hid (D ++ R.inf xs.length j (xs.length + 1 + D.length) = K.inf xs.length 0 (xs.length + 1)) ∧ Hid (Col wr base bi bc (xs ++ (l, par, idx, 0) :: D)) ∧ Hid (Below base W wr) ∧ (R ≠ .nil → ∃ b o, p = some ⟨b, o, none⟩ ∧ Row wB R b (o + j * 2)))
      (fun i _ => K.len - (intOf i).toNat)
    case atStart =>
      exact ⟨0, K, [], rfl, Lib.hid (by omega), Lib.hid (by simp), Lib.hid (by simp), HC1, Lib.hid (HB1.out.setCell (p := ⟨bi, 0, none⟩) hg1 _), by simpa using HR.out⟩
    case round =>
      obtain ⟨j, R, D, rfl, hk, hd, hinf, HC, HB, hR⟩ := hrel
      cases R with
      | nil =>
        have hge : K.len ≤ j := by have := hk.out; simp only [Hg.len] at this; omega
        have hdl : D.length = K.size := by have := hd.out; simpa [Hg.size] using this
        have hDe : D = K.inf xs.length 0 (xs.length + 1) := by have := hinf.out; simpa [Hg.inf] using this
        obtain ⟨⟨v2, hbv2, hown2⟩, hself2, _, _, _⟩ := HC.out
        have hown3 : wr.ownsRow base 58 4 v2 (xs.length + K.size + 1) (cs4 (xs ++ (l, par, idx, 0) :: D)) := by
          have : (xs ++ (l, par, idx, 0) :: D).length = xs.length + K.size + 1 := by simp; omega
          rwa [this] at hown2
        obtain ⟨g2, cap2, rfl⟩ := ownsRow_succ hown3
        have z1 := hbv2.cell
        have z2 := hbv2.lt
        have z3 : wr.cell? ⟨g2, xs.length * 4 + 3, none⟩ = some (.int .i64 0) := by
          rw [hown3.cellAt _ (by omega), cs4_at _ _ _ 3 (by omega)]; rfl
        have z4 := hown3.frozenAt (xs.length * 4 + 3)
        have hst := hown3.stored (xs.length * 4 + 3) (.int .i64 ((xs.length : Int) + K.size))
        rw [cs4_set] at hst
        have hb2 : base ≤ g2 := (hown3.lt _ rfl).1
        have hngi : bi ≠ g2 := fun e => (hbv2.not_row (by decide) hown3) (by rw [e]; rfl)
        have hngc : bc ≠ g2 := fun e => (hself2.not_row (by decide) hown3) (by rw [e]; rfl)
        have HST := Lib.hid hst
        have HBV := Lib.hid hbv2
        have HSE := Lib.hid hself2
        have HDE := Lib.hid hDe
        have HDL := Lib.hid hdl
        have hnn : ((xs.length : Int) + K.size + 1 - 1) = (xs.length : Int) + K.size := by omega
        have HNN := Lib.hid hnn
        clear hR hk hd hinf HC hown2 hown3 hst hbv2 hself2 HR HC1 HB1 hDe hdl hnn
        go_wp2_with fail
        go_end0
        refine ⟨rfl, ⟨⟨_, (boxed_far HBV.out hngi _), ?_⟩, boxed_far HSE.out hngc _, hg1, hg2, hne⟩, HB.out.setCell (p := ⟨g2, _, none⟩) hb2 _⟩
        have : (xs ++ (l, par, idx, (xs.length : Int) + K.size) :: K.inf xs.length 0 (xs.length + 1)).length = xs.length + K.size + 1 := by
          simp [Hg.inf_length]; omega
        rw [this, ← HDE.out]
        exact HST.out.1
      | cons kl k R =>
        obtain ⟨b, o, rfl, hr⟩ := hR (by simp)
        rw [Row.cons_iff] at hr
        obtain ⟨c1, hl, ⟨kv, c2, hkv⟩, hr⟩ := hr
        have hkv' := hkv
        obtain ⟨p', c', rfl, hc1', hc2', _⟩ := hkv'
        have hlt : j < K.len := by have := hk.out; simp only [Hg.len] at this; omega
        have hds : D.length + (k.size + R.size + 1) = K.size := by have := hd.out; simpa [Hg.size] using this
        have hlt2 := Hg.len_le_size K
        have hbwr : Below wB.heap.size wB wr := Hbw.out.trans (HB.out.mono hwB)
        have c1 := (hbwr.cell (World.block_lt_of_cell? _ _ c1)).trans c1
        have c2 := (hbwr.cell (World.block_lt_of_cell? _ _ c2)).trans c2
        have hbl := World.block_lt_of_cell? _ _ c1
        simp only at hbl
        have hcolA : Col (wr.alloc (.cells #[.int .i64 kl, .slice p' k.len c'] 24)) base bi bc (xs ++ (l, par, idx, 0) :: D) := by
          obtain ⟨⟨v2, hbv2, hown2⟩, hself2, _, _, _⟩ := HC.out
          exact ⟨⟨v2, hbv2.alloc _, hown2.alloc _⟩, hself2.alloc _, hg1, hg2, hne⟩
        have z1 := hcolA.self.cell
        have z2 := HC.out.self.lt
        have z3 := HC.out.self.cell
        unfold cfun at z1 z3
        have hbase2 : base ≤ wr.heap.size := Nat.le_trans hbase HB.out.size
        have hlen : (xs ++ (l, par, idx, 0) :: D).length = xs.length + 1 + D.length := by simp; omega
        have hI := HI.out kl k (.slice p' k.len c') xs.length j (xs ++ (l, par, idx, 0) :: D) _ (by omega) hkv (hbwr.alloc (by have := hbwr.size; omega) _) (by omega) (by omega) (by omega) hcolA (by simp; omega)
        rw [hlen] at hI
        have HIA := Lib.hid hI
        have HDS := Lib.hid hds
        clear hI HI hcolA hkv hR hds hlen HR HC1 HB1 HC z1 hbwr
        go_wp2_with fail
        refine HIA.out.mono ?_
        rintro e w2 ⟨rfl, hcol2, hb2⟩
        have HC2 := Lib.hid hcol2
        have HB2 := Lib.hid hb2
        clear hcol2 hb2 HIA
        go_wp2_with fail
        go_roundw
        case rel =>
          refine ⟨j + 1, R, D ++ (kl, (xs.length : Int), (j : Int), ((xs.length + 1 + D.length : Nat) : Int) + k.size) :: k.inf ((xs.length + 1 + D.length : Nat) : Int) 0 (((xs.length + 1 + D.length : Nat) : Int) + 1), by go_num, Lib.hid (by have := hk.out; simp only [Hg.len] at this; omega), Lib.hid ?_, Lib.hid ?_, Lib.hid ?_, Lib.hid ?_, fun _ => ⟨b, o, rfl, ?_⟩⟩
          · have := HDS.out; simp [Hg.inf_length]; omega
          · rw [← hinf.out]
            simp only [Hg.inf, List.append_assoc, List.cons_append, List.length_append, List.length_cons, Hg.inf_length]
            have e1 : ((xs.length + 1 + D.length : Nat) : Int) = (xs.length : Int) + 1 + D.length := by omega
            have e2 : (xs.length : Int) + 1 + ((D.length + (k.size + 1) : Nat) : Int) = (xs.length : Int) + 1 + D.length + k.size + 1 := by omega
            have e3 : ((j + 1 : Nat) : Int) = (j : Int) + 1 := by omega
            rw [e1, e2, e3]
          · have := HC2.out
            simpa [List.append_assoc] using this
          · exact (HB.out.alloc hbase2 _).trans HB2.out
          · rw [show o + (j + 1) * 2 = o + j * 2 + 2 from by omega]; exact hr
        case measure => simp [intOf]; omega

set_option maxRecDepth 100000 in
set_option maxHeartbeats 1000000 in
theorem nodes_ok (n l : Int) (K : Hg) (vk : Value) (w : World) (hl : (Lit.int .i64 l).wf = true) (hv : IsH w vk K) (hs : K.size < 1000000) :
    Calls Try.prog 28 #[.int .i64 n, .agg #[.int .i64 l, vk]] w fun e w' => Below w.heap.size w w' ∧
      ((vh n (.cons l K .nil) = true ∧ ∃ v, e = .returned (.tuple #[v, .int .i64 0]) ∧ w'.ownsRow w.heap.size 58 4 v (K.size + 1) (cs4 ((l, -1, 0, (K.size : Int)) :: K.inf 0 0 1))) ∨
       (vh n (.cons l K .nil) = false ∧ e = .returned (.tuple #[.slice none 0 0, .int .i64 1]))) := by
  have hb1 : Below w.heap.size w (w.alloc (.cells #[.int .i64 l, vk] 24)) := (Below.refl _ w).alloc (Nat.le_refl _) _
  have HV := Lib.hid (valid_ok n l vk K (w.alloc (.cells #[.int .i64 l, vk] 24)) hl (hv.below hb1) hs)
  have hxb := World.alloc_heap_new w (.cells #[.int .i64 l, vk] 24)
  have HH := Lib.hid hv
  have HX := Lib.hid hxb
  have HB1 := Lib.hid hb1
  obtain ⟨p, c, rfl, hc1, hc2, hrow⟩ := hv
  clear hrow hxb hb1
  go_enter Try.func28, Try.ntmps28
  go_wp2_with fail
  refine HV.out.mono ?_
  rintro e w1 ⟨rfl, hb2⟩
  have hb2' : Below w.heap.size w w1 := HB1.out.trans (hb2.mono (by simp))
  have hx1 : w1.heap[w.heap.size]? = some (.cells #[.int .i64 l, .slice p K.len c] 24 (0, 0)) := (hb2.block w.heap.size (by simp)).trans HX.out
  have x1 : w1.cell? ⟨w.heap.size, 0, none⟩ = some (.int .i64 l) := by rw [cell_of_row _ _ _ _ _ _ hx1]; rfl
  have x2 : w1.cell? ⟨w.heap.size, 1, none⟩ = some (.slice p K.len c) := by rw [cell_of_row _ _ _ _ _ _ hx1]; rfl
  have x3 : w.heap.size < w1.heap.size := by have := hb2.size; simp at this; omega
  have x4 : w.heap.size < w1.heap.size + 1 := by omega
  have HB2 := Lib.hid hb2'
  clear hb2 hb2' hx1
  cases hvv : vh n (.cons l K .nil) with
  | false =>
    go_wp2_with fail
    go_ret2
    exact ⟨HB2.out, .inr ⟨hvv, rfl⟩⟩
  | true =>
    have hcol : Col ((w1.alloc (.cells #[.slice none 0 0] 50)).alloc (.cells #[cfun w1.heap.size (w1.heap.size + 1)] 79)) w1.heap.size w1.heap.size (w1.heap.size + 1) [] :=
      ⟨⟨_, (Boxed.new w1 _ _).alloc _, World.ownsRow_nil _ _ _ _⟩, by have := Boxed.new (w1.alloc (.cells #[.slice none 0 0] 50)) 79 (cfun w1.heap.size (w1.heap.size + 1)); simpa using this, Nat.le_refl _, by omega, by omega⟩
    have hb3 : Below w.heap.size w ((w1.alloc (.cells #[.slice none 0 0] 50)).alloc (.cells #[cfun w1.heap.size (w1.heap.size + 1)] 79)) := (HB2.out.alloc (by omega) _).alloc (by simp; omega) _
    have HC := Lib.hid (collect_any w1.heap.size w1.heap.size (w1.heap.size + 1) w (by omega) (K.size + 1) l K _ (-1) 0 [] _ (by omega) HH.out hb3 (by omega) (by omega) (by simp; omega) hcol (by simp; omega))
    have HB3 := Lib.hid hb3
    clear hcol hb3 HV HX HH HB1
    unfold cfun at HC HB3
    go_wp2_with fail
    refine HC.out.mono ?_
    rintro e w2 ⟨rfl, hcol, hb4⟩
    obtain ⟨⟨v2, hbv2, hown2⟩, _, _, _, _⟩ := hcol
    have hown3 : w2.ownsRow w1.heap.size 58 4 v2 (K.size + 1) (cs4 ((l, -1, 0, (K.size : Int)) :: K.inf 0 0 1)) := by
      have : (([] : List (Int × Int × Int × Int)) ++ (l, -1, 0, ((0 : Nat) : Int) + K.size) :: K.inf ((0 : Nat) : Int) 0 (((0 : Nat) : Int) + 1)).length = K.size + 1 := by simp [Hg.inf_length]
      simp only [List.length_nil] at hown2
      rw [this] at hown2
      simpa using hown2
    obtain ⟨g2, cap2, rfl⟩ := ownsRow_succ hown3
    have z1 := hbv2.cell
    have HO := Lib.hid hown3
    have HB4 := Lib.hid hb4
    clear hown2 hown3 hbv2 hb4 HC
    go_wp2_with fail
    go_ret2
    refine ⟨HB3.out.trans (HB4.out.mono (by omega)), .inl ⟨hvv, _, rfl, ?_⟩⟩
    obtain ⟨h1, h2⟩ := HO.out
    refine ⟨h1, h2.imp id ?_⟩
    rintro ⟨g, cap, cur, q1, q2, q3⟩
    exact ⟨g, cap, cur, q1, by omega, q3⟩

end Go.Proofs.Ythdaeblfehclcab
