/- ref02.nodes, List, Nodes. -/
import Derived.Test.YtkbcehapalcadabCollect
import Derived.Test.YtkbcehapalcadabLabelled
namespace Go.Proofs.Ytkbcehapalcadab
open Go.RowKit Go.Shelf

theorem Try.infoInfo2 : (Try.prog.info? 81).map (fun i => (i.zero, i.size, i.bytes)) = some (some (.agg #[.int .i64 0, .int .i64 0, .int .i64 0, .int .i64 0]), 4, 32) := by kernel_rfl

theorem below_own {base : Nat} {e : TypeId} {size n : Nat} {v : Value} {xs : List Value} {w w1 : World} {tmp : World} (hown : w.ownsRow base e size v n xs) (hb : Below base w tmp) (hbase : base ≤ w.heap.size) (hg : tmp.grownBy w1 v.ownBlock) : Below base w w1 :=
  hb.grown hg (by have := hb.size; omega) (fun j ej => (hown.lt j ej).1)

set_option maxRecDepth 100000 in
set_option maxHeartbeats 1000000 in
theorem rnodes_any (base : Nat) (wB : World) (hwB : wB.heap.size ≤ base) (N : Nat) : ∀ (l : Int) (K : Hg) (vk : Value) (par idx : Int) (xs : List (Int × Int × Int × Int)) (v : Value) (W : World), K.size < N → IsH wB vk K → Below wB.heap.size wB W →
    (-1 ≤ par ∧ par ≤ 1000000) → (0 ≤ idx ∧ idx ≤ 1000000) → xs.length + K.size < 1000000 → W.ownsRow base 81 4 v xs.length (cs4 xs) → base ≤ W.heap.size →
    Calls Try.prog 76 #[.agg #[.int .i64 l, vk], .int .i64 par, .int .i64 idx, v] W fun e W' =>
      ∃ v', e = .returned v' ∧ W'.ownsRow base 81 4 v' (xs.length + K.size + 1) (cs4 (xs ++ (l, par, idx, (xs.length : Int) + K.size) :: K.inf xs.length 0 (xs.length + 1))) ∧ Below base W W' := by
  induction N with
  | zero => intro l K vk par idx xs v W hN; omega
  | succ N ih =>
    intro l K vk par idx xs v W hN hv hbw hpar hidx hxs hown hbase
    obtain ⟨p, c, rfl, hc1, hc2, hrow⟩ := hv
    unfold maxLen at hc2
    obtain ⟨i0, hi, hz0, hz1, hz2⟩ := info_parts Try.infoInfo2
    obtain ⟨A, cap, rfl⟩ := ownsRow_shape hown
    have HI := Lib.hid ih
    clear ih
    obtain ⟨hp1, hp2⟩ := hpar
    obtain ⟨hi1, hi2⟩ := hidx
    have hownA := hown.alloc (.cells #[.int .i64 l, .slice p K.len c] 24)
    have hkB : ∀ j, (Value.slice A xs.length cap).ownBlock = some j → base ≤ j ∧ j < W.heap.size := hown.lt
    have HR := Lib.hid hrow
    have Hbw := Lib.hid hbw
    have HOA := Lib.hid hownA
    have HKB := Lib.hid hkB
    clear hrow hbw hown hownA hkB
    go_enter Try.func76, Try.ntmps76
    go_wp2_with (at_builtin; refine wpList_append_own _ rfl _ _ 53 rfl base 81 i0 _ 4 32 Try.underlying53 hi hz0 hz1 hz2 rfl (by decide) _ _ _ rfl (HOA.out.alloc _) ⟨W.heap.size + 1, 0, none⟩ 1 1 (c4 (l, par, idx, 0)) rfl rfl ?c1 ?c2 ?c3 ?c4 ?c5 ?_)
    case c1 => exact collect_c1 _ _ _ _ _ _ _ _ rfl
    case c2 => simp [c4, Value.oneCell']
    case c3 => simp only [maxLen]; omega
    case c4 => omega
    case c5 => simp; omega
    intro v' w1 hown' hgrow _
    obtain ⟨g', cap', rfl⟩ := ownsRow_succ hown'
    have hxb : w1.heap[W.heap.size]? = some (.cells #[.int .i64 l, .slice p K.len c] 24 (0, 0)) :=
      (hgrow.block W.heap.size (by simp; omega) (fun e => by have := HKB.out _ e.symm; omega)).trans ((Below.heap_alloc _ _ _ (by simp)).trans (World.alloc_heap_new W _))
    have y4 : w1.cell? ⟨W.heap.size, 1, none⟩ = some (.slice p K.len c) := by rw [cell_of_row _ _ _ _ _ _ hxb]; rfl
    have hbw1 : Below base W w1 := ((((Below.refl base W).alloc hbase _).alloc (by simp; omega) _).grown hgrow (by simp; omega) (fun j e => (HKB.out _ e).1))
    have hown1 : w1.ownsRow base 81 4 (.slice (some ⟨g', 0, none⟩) (xs.length + 1) cap') (xs.length + 1) (cs4 (xs ++ [(l, par, idx, 0)])) := by
      have h1 : cs4 (xs ++ [(l, par, idx, 0)]) = cs4 xs ++ c4 (l, par, idx, 0) := by rw [cs4_append]; simp [cs4]
      rw [h1]; exact hown'
    have HO1 := Lib.hid hown1
    have HB1 := Lib.hid hbw1
    clear hown' hgrow hxb hown1 hbw1 HOA
    go_wp2_with fail
    go_loopw [3, 25] (fun out i wr => ∃ (j : Nat) (R : Hg) (D : List (Int × Int × Int × Int)), i = .int .i64 j ∧ Hid (j + R.len = K.len) ∧ Hid (D.length + R.size = K.size) ∧
        Hid (D ++ R.inf xs.length j (xs.length + 1 + D.length) = K.inf xs.length 0 (xs.length + 1)) ∧ (∃ g2 cap2, out = .slice (some ⟨g2, 0, none⟩) (xs.length + 1 + D.length) cap2) ∧ Hid (wr.ownsRow base 81 4 out (xs.length + 1 + D.length) (cs4 (xs ++ (l, par, idx, 0) :: D))) ∧ Hid (Below base W wr) ∧ (R ≠ .nil → ∃ b o, p = some ⟨b, o, none⟩ ∧ Row wB R b (o + j * 2)))
      (fun _ i _ => K.len - (intOf i).toNat)
    case atStart =>
      exact ⟨0, K, [], rfl, Lib.hid (by omega), Lib.hid (by simp), Lib.hid (by simp), ⟨g', cap', rfl⟩, HO1, HB1, by simpa using HR.out⟩
    case round =>
      obtain ⟨j, R, D, rfl, hk, hd, hinf, ⟨g2, cap2, rfl⟩, HO, HB, hR⟩ := hrel
      cases R with
      | nil =>
        have hge : K.len ≤ j := by have := hk.out; simp only [Hg.len] at this; omega
        have hdl : D.length = K.size := by have := hd.out; simpa [Hg.size] using this
        have hDe : D = K.inf xs.length 0 (xs.length + 1) := by have := hinf.out; simpa [Hg.inf] using this
        have hown3 := HO.out
        have z3 : wr.cell? ⟨g2, xs.length * 4 + 3, none⟩ = some (.int .i64 0) := by
          rw [hown3.cellAt _ (by omega), cs4_at _ _ _ 3 (by omega)]; rfl
        have z4 := hown3.frozenAt (xs.length * 4 + 3)
        have hst := hown3.stored (xs.length * 4 + 3) (.int .i64 ((xs.length : Int) + 1 + D.length - 1))
        rw [cs4_set] at hst
        have hb2 : base ≤ g2 := (hown3.lt _ rfl).1
        have HST := Lib.hid hst
        have HDE := Lib.hid hDe
        have HDL := Lib.hid hdl
        have hds : D.length ≤ 1000000 := by omega
        have hnn : ((xs.length : Int) + 1 + D.length - 1) = (xs.length : Int) + D.length := by omega
        have HNN := Lib.hid hnn
        clear hR hk hd hinf HO hown3 hst HR HO1 HB1 hDe hdl hnn
        go_wp2_with fail
        go_ret
        refine ⟨_, rfl, ?_, HB.out.setCell (p := ⟨g2, _, none⟩) hb2 _⟩
        have h1 := HST.out.1
        rw [HNN.out, HDL.out] at h1
        rw [← HDE.out]
        have h2 := HDL.out
        rw [show xs.length + K.size + 1 = xs.length + 1 + K.size by omega, HNN.out, HDL.out]
        exact h1
      | cons kl k R =>
        obtain ⟨b, o, rfl, hr⟩ := hR (by simp)
        rw [Row.cons_iff] at hr
        obtain ⟨c1, hl, ⟨kv, c2, hkv⟩, hr⟩ := hr
        have hkv' := hkv
        obtain ⟨p', c', rfl, hc1', hc2', _⟩ := hkv'
        have hlt : j < K.len := by have := hk.out; simp only [Hg.len] at this; omega
        have hds : D.length + (k.size + R.size + 1) = K.size := by have := hd.out; simpa [Hg.size] using this
        have hlt2 := Hg.len_le_size K
        have hbwr : Below wB.heap.size wB wr := Hbw.out.trans (HB.out.mono hwB)
        have c1 := (hbwr.cell (World.block_lt_of_cell? _ _ c1)).trans c1
        have c2 := (hbwr.cell (World.block_lt_of_cell? _ _ c2)).trans c2
        have hbl := World.block_lt_of_cell? _ _ c1
        simp only at hbl
        have hbase2 : base ≤ wr.heap.size := Nat.le_trans hbase HB.out.size
        have hlen : (xs ++ (l, par, idx, 0) :: D).length = xs.length + 1 + D.length := by simp; omega
        have hI := HI.out kl k (.slice p' k.len c') xs.length j (xs ++ (l, par, idx, 0) :: D) (.slice (some ⟨g2, 0, none⟩) (xs.length + 1 + D.length) cap2) (wr.alloc (.cells #[.int .i64 kl, .slice p' k.len c'] 24)) (by omega) hkv (hbwr.alloc (by have := hbwr.size; omega) _) (by omega) (by omega) (by omega) (by rw [hlen]; exact HO.out.alloc _) (by simp; omega)
        rw [hlen] at hI
        have HIA := Lib.hid hI
        have HDS := Lib.hid hds
        clear hI HI hkv hR hds hlen HR HO1 HB1 hbwr
        go_wp2_with fail
        refine HIA.out.mono ?_
        rintro e w2 ⟨v2, rfl, hown2, hb2⟩
        have hown2 : w2.ownsRow base 81 4 v2 (xs.length + 1 + D.length + k.size + 1) _ := hown2
        obtain ⟨g3, cap3, rfl⟩ := ownsRow_succ hown2
        have HC2 := Lib.hid hown2
        have HB2 := Lib.hid hb2
        clear hown2 hb2 HIA
        go_wp2_with fail
        go_roundw
        case rel =>
          refine ⟨j + 1, R, D ++ (kl, (xs.length : Int), (j : Int), ((xs.length + 1 + D.length : Nat) : Int) + k.size) :: k.inf ((xs.length + 1 + D.length : Nat) : Int) 0 (((xs.length + 1 + D.length : Nat) : Int) + 1), by go_num, Lib.hid (by have := hk.out; simp only [Hg.len] at this; omega), Lib.hid ?_, Lib.hid ?_, ?_, Lib.hid ?_, Lib.hid ?_, fun _ => ⟨b, o, rfl, ?_⟩⟩
          · have := HDS.out; simp [Hg.inf_length]; omega
          · rw [← hinf.out]
            simp only [Hg.inf, List.append_assoc, List.cons_append, List.length_append, List.length_cons, Hg.inf_length]
            have e1 : ((xs.length + 1 + D.length : Nat) : Int) = (xs.length : Int) + 1 + D.length := by omega
            have e2 : (xs.length : Int) + 1 + ((D.length + (k.size + 1) : Nat) : Int) = (xs.length : Int) + 1 + D.length + k.size + 1 := by omega
            have e3 : ((j + 1 : Nat) : Int) = (j : Int) + 1 := by omega
            rw [e1, e2, e3]
          · refine ⟨g3, cap3, ?_⟩
            simp only [List.length_append, List.length_cons, Hg.inf_length]
            rw [show xs.length + 1 + (D.length + (k.size + 1)) = xs.length + 1 + D.length + k.size + 1 by omega]
          · have := HC2.out
            simp only [List.length_append, List.length_cons, Hg.inf_length]
            rw [show xs.length + 1 + (D.length + (k.size + 1)) = xs.length + 1 + D.length + k.size + 1 by omega]
            simpa [List.append_assoc] using this
          · exact (HB.out.alloc hbase2 _).trans HB2.out
          · rw [show o + (j + 1) * 2 = o + j * 2 + 2 from by omega]; exact hr
        case measure => simp [intOf]; omega

set_option maxHeartbeats 1000000 in
theorem rnodesTop_ok (n l : Int) (K : Hg) (vk : Value) (w : World) (hl : (Lit.int .i64 l).wf = true) (hv : IsH w vk K) (hs : K.size < 1000000) :
    Calls Try.prog 29 #[.int .i64 n, .agg #[.int .i64 l, vk]] w fun e w' => Below w.heap.size w w' ∧
      ((vh n (.cons l K .nil) = true ∧ ∃ v, e = .returned (.tuple #[v, .int .i64 0]) ∧ w'.ownsRow w.heap.size 81 4 v (K.size + 1) (cs4 ((l, -1, 0, (K.size : Int)) :: K.inf 0 0 1))) ∨
       (vh n (.cons l K .nil) = false ∧ e = .returned (.tuple #[.slice none 0 0, .int .i64 1]))) := by
  have hb1 : Below w.heap.size w (w.alloc (.cells #[.int .i64 l, vk] 24)) := (Below.refl _ w).alloc (Nat.le_refl _) _
  have HV := Lib.hid (rvalid_ok n l vk K (w.alloc (.cells #[.int .i64 l, vk] 24)) hl (hv.below hb1))
  have HX := Lib.hid (Blk.new w 24 #[.int .i64 l, vk])
  have HB1 := Lib.hid hb1
  have HH := Lib.hid hv
  obtain ⟨p, c, rfl, hc1, hc2, hrow⟩ := hv
  clear hrow hb1
  go_enter Try.func29, Try.ntmps29
  go_wp2_with fail
  refine HV.out.mono ?_
  rintro e w1 ⟨rfl, hb2⟩
  have hb2' : Below w.heap.size w w1 := HB1.out.trans (hb2.mono (by simp))
  have hx1 : Blk w1 w.heap.size 24 #[.int .i64 l, .slice p K.len c] := HX.out.below hb2 (by simp)
  have x1 : w1.cell? ⟨w.heap.size, 0, none⟩ = some (.int .i64 l) := by rw [hx1.cell]; rfl
  have x2 : w1.cell? ⟨w.heap.size, 1, none⟩ = some (.slice p K.len c) := by rw [hx1.cell]; rfl
  have x3 : w.heap.size < w1.heap.size := hx1.lt
  have HB2 := Lib.hid hb2'
  clear hb2 hb2' hx1 HX HB1
  cases hvv : vh n (.cons l K .nil) with
  | false =>
    go_wp2_with fail
    go_ret2
    exact ⟨HB2.out, .inr ⟨hvv, rfl⟩⟩
  | true =>
    have HVV := Lib.hid hvv
    clear hvv
    have hN := rnodes_any w.heap.size w (Nat.le_refl _) (K.size + 1) l K _ (-1) 0 [] (.slice none 0 0) (w1.alloc (.cells #[.int .i64 l, .slice p K.len c] 24)) (by omega) HH.out (HB2.out.alloc (by omega) _) (by omega) (by omega) (by simp; omega) (World.ownsRow_nil _ _ _ _) (by simp; omega)
    have HN := Lib.hid hN
    clear hN HH HV
    have hL : Calls Try.prog 52 #[.agg #[.int .i64 l, .slice p K.len c]] w1 fun e w2 => ∃ v', e = .returned v' ∧ w2.ownsRow w.heap.size 81 4 v' (K.size + 1) (cs4 ((l, -1, 0, (K.size : Int)) :: K.inf 0 0 1)) ∧ Below w.heap.size w w2 := by
      go_enter Try.func52, Try.ntmps52
      go_wp2_with fail
      refine HN.out.mono ?_
      rintro e w2 ⟨v2, rfl, hown2, hb2⟩
      have HO := Lib.hid hown2
      have HB3 := Lib.hid hb2
      clear hown2 hb2
      go_wp2_with fail
      go_ret
      refine ⟨v2, rfl, ?_, (HB2.out.alloc (by omega) _).trans HB3.out⟩
      simpa using HO.out
    have HL := Lib.hid hL
    clear hL HN
    go_wp2_with fail
    refine HL.out.mono ?_
    rintro e w2 ⟨v2, rfl, hown2, hb2⟩
    have HO := Lib.hid hown2
    have HB3 := Lib.hid hb2
    clear hown2 hb2
    go_wp2_with fail
    go_ret2
    exact ⟨HB3.out, .inl ⟨HVV.out, _, rfl, HO.out⟩⟩

end Go.Proofs.Ytkbcehapalcadab
