/- tree.marks. -/
import Derived.Test.YthhliogcafmnfaaDoorCloneT
namespace Go.Proofs.YthhliogcafmnfaaDoor
open Go.RowKit Go.Shelf

/-- The marks of a list of trees: size and symbol of each node, in document order. -/
def Hg.mk : Hg → List (Int × Int)
  | .nil => []
  | .cons l k r => ((k.size : Int) + 1, l) :: (k.mk ++ r.mk)
theorem Hg.mk_length (h : Hg) : h.mk.length = h.size := by
  induction h with
  | nil => rfl
  | cons l k r hk hr => simp only [Hg.mk, List.length_cons, List.length_append, hk, hr, Hg.size]
def mkT (s : Int) (K : Hg) : List (Int × Int) := ((K.size : Int) + 1, s) :: K.mk
def cs2 (l : List (Int × Int)) : List Value := l.flatMap fun x => [.int .i64 x.1, .int .i64 x.2]
theorem cs2_length (l : List (Int × Int)) : (cs2 l).length = l.length * 2 := by
  induction l with
  | nil => rfl
  | cons x l ih => simp only [cs2, List.flatMap_cons, List.length_append] at ih ⊢; rw [ih]; simp; omega
theorem cs2_append (a b : List (Int × Int)) : cs2 (a ++ b) = cs2 a ++ cs2 b := by simp [cs2]
theorem cs2_set (a b : List (Int × Int)) (p q q' : Int) : (cs2 (a ++ (q, p) :: b)).set (a.length * 2) (.int .i64 q') = cs2 (a ++ (q', p) :: b) := by
  have : cs2 ((q, p) :: b) = .int .i64 q :: .int .i64 p :: cs2 b := rfl
  rw [cs2_append, cs2_append, this, List.set_append_right _ _ (by rw [cs2_length]; omega), cs2_length, show a.length * 2 - a.length * 2 = 0 by omega]
  rfl
theorem cs2_at (a b : List (Int × Int)) (x : Int × Int) : (cs2 (a ++ x :: b))[a.length * 2]? = some (.int .i64 x.1) ∧ (cs2 (a ++ x :: b))[a.length * 2 + 1]? = some (.int .i64 x.2) := by
  constructor
  · rw [cs2_append, List.getElem?_append_right (by rw [cs2_length]; omega), cs2_length, show a.length * 2 - a.length * 2 = 0 by omega]
    rfl
  · rw [cs2_append, List.getElem?_append_right (by rw [cs2_length]; omega), cs2_length, show a.length * 2 + 1 - a.length * 2 = 1 by omega]
    rfl

theorem Tryd.infoMark : (Tryd.prog.info? 79).map (fun i => (i.zero, i.size, i.bytes)) = some (some (.agg #[.int .i64 0, .int .i64 0]), 2, 16) := by kernel_rfl

theorem mark_c1 (W : World) (o : Obj) (x y : Value) (t : TypeId) (B : Nat) (hB : B = W.heap.size + 1) : ∀ j u, [x, y][j]? = some u → ((W.alloc o).alloc (.cells #[x, y] t)).cell? ((⟨B, 0, none⟩ : Addr).add j) = some u :=
  fun j u hu => by
    subst hB
    have hr := World.alloc_heap_new (W.alloc o) (.cells #[x, y] t)
    simp only [World.size_alloc] at hr
    have : ((⟨W.heap.size + 1, 0, none⟩ : Addr).add j) = ⟨W.heap.size + 1, j, none⟩ := by
      unfold Addr.add; split <;> simp_all
    rw [this, cell_of_row _ _ _ _ _ _ hr]
    simpa using hu

set_option maxRecDepth 100000 in
set_option maxHeartbeats 1000000 in
theorem marks_any (base : Nat) (wB : World) (hwB : wB.heap.size ≤ base) (N : Nat) : ∀ (l : Int) (K : Hg) (vk : Value) (xs : List (Int × Int)) (v : Value) (W : World), K.size < N → IsH wB vk K → Below wB.heap.size wB W →
    xs.length + K.size < 1000000 → W.ownsRow base 79 2 v xs.length (cs2 xs) → base ≤ W.heap.size →
    Calls Tryd.prog 62 #[.agg #[.int .i64 l, vk], v] W fun e W' =>
      ∃ v', e = .returned v' ∧ W'.ownsRow base 79 2 v' (xs.length + K.size + 1) (cs2 (xs ++ mkT l K)) ∧ Below base W W' := by
  induction N with
  | zero => intro l K vk xs v W hN; omega
  | succ N ih =>
    intro l K vk xs v W hN hv hbw hxs hown hbase
    obtain ⟨p, c, rfl, hc1, hc2, hrow⟩ := hv
    unfold maxLen at hc2
    obtain ⟨i0, hi, hz0, hz1, hz2⟩ := info_parts Tryd.infoMark
    obtain ⟨A, cap, rfl⟩ := ownsRow_shape hown
    have HI := Lib.hid ih
    clear ih
    have hownA := hown.alloc (.cells #[.int .i64 l, .slice p K.len c] 27)
    have hkB : ∀ j, (Value.slice A xs.length cap).ownBlock = some j → base ≤ j ∧ j < W.heap.size := hown.lt
    have HR := Lib.hid hrow
    have Hbw := Lib.hid hbw
    have HOA := Lib.hid hownA
    have HKB := Lib.hid hkB
    clear hrow hbw hown hownA hkB
    go_enter Tryd.func62, Tryd.ntmps62
    go_wp2_with (at_builtin; refine wpList_append_own _ rfl _ _ 77 rfl base 79 i0 _ 2 16 Tryd.underlying77 hi hz0 hz1 hz2 rfl (by decide) _ _ _ rfl (HOA.out.alloc _) ⟨W.heap.size + 1, 0, none⟩ 1 1 [.int .i64 0, .int .i64 l] rfl rfl ?c1 ?c2 ?c3 ?c4 ?c5 ?_)
    case c1 => exact mark_c1 _ _ _ _ _ _ rfl
    case c2 => simp [Value.oneCell']
    case c3 => simp only [maxLen]; omega
    case c4 => omega
    case c5 => simp; omega
    intro v' w1 hown' hgrow _
    obtain ⟨g', cap', rfl⟩ := ownsRow_succ hown'
    have hxb : w1.heap[W.heap.size]? = some (.cells #[.int .i64 l, .slice p K.len c] 27 (0, 0)) :=
      (hgrow.block W.heap.size (by simp; omega) (fun e => by have := HKB.out _ e.symm; omega)).trans ((Below.heap_alloc _ _ _ (by simp)).trans (World.alloc_heap_new W _))
    have y4 : w1.cell? ⟨W.heap.size, 1, none⟩ = some (.slice p K.len c) := by rw [cell_of_row _ _ _ _ _ _ hxb]; rfl
    have hbw1 : Below base W w1 := ((((Below.refl base W).alloc hbase _).alloc (by simp; omega) _).grown hgrow (by simp; omega) (fun j e => (HKB.out _ e).1))
    have hown1 : w1.ownsRow base 79 2 (.slice (some ⟨g', 0, none⟩) (xs.length + 1) cap') (xs.length + 1) (cs2 (xs ++ [(0, l)])) := by
      have h1 : cs2 (xs ++ [(0, l)]) = cs2 xs ++ [.int .i64 0, .int .i64 l] := by rw [cs2_append]; rfl
      rw [h1]; exact hown'
    have HO1 := Lib.hid hown1
    have HB1 := Lib.hid hbw1
    clear hown' hgrow hxb hown1 hbw1 HOA
    go_wp2_with fail
    go_loopw [1, 19] (fun out i wr => ∃ (j : Nat) (R : Hg) (D : List (Int × Int)), i = .int .i64 j ∧ Hid (j + R.len = K.len) ∧ Hid (D.length + R.size = K.size) ∧
        Hid (D ++ R.mk = K.mk) ∧ (∃ g2 cap2, out = .slice (some ⟨g2, 0, none⟩) (xs.length + 1 + D.length) cap2) ∧ Hid (wr.ownsRow base 79 2 out (xs.length + 1 + D.length) (cs2 (xs ++ (0, l) :: D))) ∧ Hid (Below base W wr) ∧ (R ≠ .nil → ∃ b o, p = some ⟨b, o, none⟩ ∧ Row wB R b (o + j * 2)))
      (fun _ i _ => K.len - (intOf i).toNat)
    case atStart =>
      exact ⟨0, K, [], rfl, Lib.hid (by omega), Lib.hid (by simp), Lib.hid (by simp), ⟨g', cap', rfl⟩, HO1, HB1, by simpa using HR.out⟩
    case round =>
      obtain ⟨j, R, D, rfl, hk, hd, hinf, ⟨g2, cap2, rfl⟩, HO, HB, hR⟩ := hrel
      cases R with
      | nil =>
        have hge : K.len ≤ j := by have := hk.out; simp only [Hg.len] at this; omega
        have hdl : D.length = K.size := by have := hd.out; simpa [Hg.size] using this
        have hDe : D = K.mk := by have := hinf.out; simpa [Hg.mk] using this
        have hown3 := HO.out
        have z3 : wr.cell? ⟨g2, xs.length * 2, none⟩ = some (.int .i64 0) := by
          rw [hown3.cellAt _ (by omega)]; exact (cs2_at _ _ _).1
        have z4 := hown3.frozenAt (xs.length * 2)
        have hst := hown3.stored (xs.length * 2) (.int .i64 ((xs.length : Int) + 1 + D.length - xs.length))
        rw [cs2_set] at hst
        have hb2 : base ≤ g2 := (hown3.lt _ rfl).1
        have HST := Lib.hid hst
        have HDE := Lib.hid hDe
        have HDL := Lib.hid hdl
        have hds : D.length ≤ 1000000 := by omega
        have hnn : ((xs.length : Int) + 1 + D.length - xs.length) = (D.length : Int) + 1 := by omega
        have HNN := Lib.hid hnn
        clear hR hk hd hinf HO hown3 hst HR HO1 HB1 hDe hdl hnn
        go_wp2_with fail
        go_ret
        refine ⟨_, rfl, ?_, HB.out.setCell (p := ⟨g2, _, none⟩) hb2 _⟩
        have h1 := HST.out.1
        rw [HNN.out, HDL.out] at h1
        rw [mkT, ← HDE.out]
        rw [show xs.length + K.size + 1 = xs.length + 1 + K.size by omega, HNN.out, HDL.out]
        exact h1
      | cons kl k R =>
        obtain ⟨b, o, rfl, hr⟩ := hR (by simp)
        rw [Row.cons_iff] at hr
        obtain ⟨c1, hl, ⟨kv, c2, hkv⟩, hr⟩ := hr
        have hkv' := hkv
        obtain ⟨p', c', rfl, hc1', hc2', _⟩ := hkv'
        have hlt : j < K.len := by have := hk.out; simp only [Hg.len] at this; omega
        have hds : D.length + (k.size + R.size + 1) = K.size := by have := hd.out; simpa [Hg.size] using this
        have hlt2 := Hg.len_le_size K
        have hbwr : Below wB.heap.size wB wr := Hbw.out.trans (HB.out.mono hwB)
        have c1 := (hbwr.cell (World.block_lt_of_cell? _ _ c1)).trans c1
        have c2 := (hbwr.cell (World.block_lt_of_cell? _ _ c2)).trans c2
        have hbl := World.block_lt_of_cell? _ _ c1
        simp only at hbl
        have hbase2 : base ≤ wr.heap.size := Nat.le_trans hbase HB.out.size
        have hlen : (xs ++ (0, l) :: D).length = xs.length + 1 + D.length := by simp; omega
        have hI := HI.out kl k (.slice p' k.len c') (xs ++ (0, l) :: D) (.slice (some ⟨g2, 0, none⟩) (xs.length + 1 + D.length) cap2) (wr.alloc (.cells #[.int .i64 kl, .slice p' k.len c'] 27)) (by omega) hkv (hbwr.alloc (by have := hbwr.size; omega) _) (by omega) (by rw [hlen]; exact HO.out.alloc _) (by simp; omega)
        rw [hlen] at hI
        have HIA := Lib.hid hI
        have HDS := Lib.hid hds
        clear hI HI hkv hR hds hlen HR HO1 HB1 hbwr
        go_wp2_with fail
        refine HIA.out.mono ?_
        rintro e w2 ⟨v2, rfl, hown2, hb2⟩
        have hown2 : w2.ownsRow base 79 2 v2 (xs.length + 1 + D.length + k.size + 1) _ := hown2
        obtain ⟨g3, cap3, rfl⟩ := ownsRow_succ hown2
        have HC2 := Lib.hid hown2
        have HB2 := Lib.hid hb2
        clear hown2 hb2 HIA
        go_wp2_with fail
        go_roundw
        case rel =>
          refine ⟨j + 1, R, D ++ mkT kl k, by go_num, Lib.hid (by have := hk.out; simp only [Hg.len] at this; omega), Lib.hid ?_, Lib.hid ?_, ?_, Lib.hid ?_, Lib.hid ?_, fun _ => ⟨b, o, rfl, ?_⟩⟩
          · have := HDS.out; simp [mkT, Hg.mk_length]; omega
          · rw [← hinf.out]
            simp [mkT, Hg.mk]
          · refine ⟨g3, cap3, ?_⟩
            simp only [mkT, List.length_append, List.length_cons, Hg.mk_length]
            rw [show xs.length + 1 + (D.length + (k.size + 1)) = xs.length + 1 + D.length + k.size + 1 by omega]
          · have := HC2.out
            simp only [mkT, List.length_append, List.length_cons, Hg.mk_length]
            rw [show xs.length + 1 + (D.length + (k.size + 1)) = xs.length + 1 + D.length + k.size + 1 by omega]
            simpa [List.append_assoc, mkT] using this
          · exact (HB.out.alloc hbase2 _).trans HB2.out
          · rw [show o + (j + 1) * 2 = o + j * 2 + 2 from by omega]; exact hr
          
        case measure => simp [intOf]; omega

end Go.Proofs.YthhliogcafmnfaaDoor
