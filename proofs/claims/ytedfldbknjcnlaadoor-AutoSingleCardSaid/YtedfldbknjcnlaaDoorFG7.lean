/- (*rule.Table).Targets. rule.Groups, auto.acceptedIn. bitset.List: the members of a word. auto.annotate: what the groups mean. -/
import Derived.Test.YtedfldbknjcnlaaDoorNewT
import Derived.Test.YtedfldbknjcnlaaDoorFG6
import Derived.Test.YtedfldbknjcnlaaDoorFG3
import Derived.Test.YtedfldbknjcnlaaDoorFG2
import Derived.Shelf.Spec.TrailingZeros
namespace Go.Proofs.YtedfldbknjcnlaaDoor
section
open Go.RowKit Go.Shelf

/-- A set as a value. -/
def setV (W : Nat → Nat) : Value := .agg #[.int .u64 (W 0 : Nat), .int .u64 (W 1 : Nat), .int .u64 (W 2 : Nat), .int .u64 (W 3 : Nat), .int .u64 (W 4 : Nat)]
theorem Tryd.infoSet : (Tryd.prog.info? 79).map (·.size) = some 5 := by kernel_rfl

set_option maxRecDepth 100000 in
set_option maxHeartbeats 2000000 in
theorem targets_ok {B : Nat} {R : List Ru} {ks : List Lit} {T G M n : Nat} {w : World} {GL : List GB} {rows : List Value} {f : Lit → Option Value} (h : Tab B ks T G M n w GL rows f) (hM : Means R GL) (s a b c : Int)
    (hs : (Lit.int .i64 s).wf = true) (ha : (Lit.int .i64 a).wf = true) (hb : (Lit.int .i64 b).wf = true) (hc : (Lit.int .i64 c).wf = true) :
    Calls Tryd.prog 99 #[.pointer (some ⟨T, 0, none⟩), keyV s a b c] w fun e w' => (∃ W, e = .returned (setV W) ∧ W64 W ∧ ∀ q : Nat, mem W q = true ↔ ∃ r ∈ R, r.key = (s, a, b, c) ∧ r.to = (q : Int)) ∧ Below w.heap.size w w' := by
  have hbw : Below w.heap.size w ((w.alloc (.cells #[.int .i64 s, .int .i64 a, .int .i64 b, .int .i64 c] 97)).alloc (.cells #[.int .u64 0, .int .u64 0, .int .u64 0, .int .u64 0, .int .u64 0] 79)) := ((Below.refl _ w).alloc (Nat.le_refl _) _).alloc (by simp) _
  have HN0 := Lib.hid ((Blk.new w 97 #[.int .i64 s, .int .i64 a, .int .i64 b, .int .i64 c]).alloc (.cells #[.int .u64 0, .int .u64 0, .int .u64 0, .int .u64 0, .int .u64 0] 79))
  have HN1 : Hid (Blk ((w.alloc (.cells #[.int .i64 s, .int .i64 a, .int .i64 b, .int .i64 c] 97)).alloc (.cells #[.int .u64 0, .int .u64 0, .int .u64 0, .int .u64 0, .int .u64 0] 79)) (w.heap.size + 1) 79 #[.int .u64 0, .int .u64 0, .int .u64 0, .int .u64 0, .int .u64 0]) := Lib.hid (by simpa using Blk.new (w.alloc (.cells #[.int .i64 s, .int .i64 a, .int .i64 b, .int .i64 c] 97)) 79 #[.int .u64 0, .int .u64 0, .int .u64 0, .int .u64 0, .int .u64 0])
  have HT1 := Lib.hid (h.below hbw)
  have HB := Lib.hid hbw
  have HKO := Lib.hid (hd_keyOf hs ha hb hc)
  have HWS := Lib.hid (show (GB.mk 0 s a b c (fun _ => 0)).wf from ⟨hs, ha, hb, hc⟩)
  have HM := Lib.hid hM
  unfold keyV at HKO
  have hlook : ∀ m : Nat, (Instr.lookup 103 (.map (some M)) (.agg #[.int .i64 s, .int .i64 a, .int .i64 b, .int .i64 c]) false).run Tryd.prog (((w.alloc (.cells #[.int .i64 s, .int .i64 a, .int .i64 b, .int .i64 c] 97)).alloc (.cells #[.int .u64 0, .int .u64 0, .int .u64 0, .int .u64 0, .int .u64 0] 79)).drewN m) = .ok ((f (klOf s a b c)).getD (.pointer none)) (((w.alloc (.cells #[.int .i64 s, .int .i64 a, .int .i64 b, .int .i64 c] 97)).alloc (.cells #[.int .u64 0, .int .u64 0, .int .u64 0, .int .u64 0, .int .u64 0] 79)).drewN m) := fun m =>
    (HT1.out.mp.heap (w' := ((w.alloc (.cells #[.int .i64 s, .int .i64 a, .int .i64 b, .int .i64 c] 97)).alloc (.cells #[.int .u64 0, .int .u64 0, .int .u64 0, .int .u64 0, .int .u64 0] 79)).drewN m) rfl).look hd_keyed Tryd.underlying103 (zero_PG _) HKO.out
  have t1 : ((w.alloc (.cells #[.int .i64 s, .int .i64 a, .int .i64 b, .int .i64 c] 97)).alloc (.cells #[.int .u64 0, .int .u64 0, .int .u64 0, .int .u64 0, .int .u64 0] 79)).cell? ⟨T, 1, none⟩ = some (.map (some M)) := by rw [HT1.out.t.cell]; rfl
  have k0 : ((w.alloc (.cells #[.int .i64 s, .int .i64 a, .int .i64 b, .int .i64 c] 97)).alloc (.cells #[.int .u64 0, .int .u64 0, .int .u64 0, .int .u64 0, .int .u64 0] 79)).cell? ⟨w.heap.size, 0, none⟩ = some (.int .i64 s) := by rw [HN0.out.cell]; rfl
  have k1 : ((w.alloc (.cells #[.int .i64 s, .int .i64 a, .int .i64 b, .int .i64 c] 97)).alloc (.cells #[.int .u64 0, .int .u64 0, .int .u64 0, .int .u64 0, .int .u64 0] 79)).cell? ⟨w.heap.size, 1, none⟩ = some (.int .i64 a) := by rw [HN0.out.cell]; rfl
  have k2 : ((w.alloc (.cells #[.int .i64 s, .int .i64 a, .int .i64 b, .int .i64 c] 97)).alloc (.cells #[.int .u64 0, .int .u64 0, .int .u64 0, .int .u64 0, .int .u64 0] 79)).cell? ⟨w.heap.size, 2, none⟩ = some (.int .i64 b) := by rw [HN0.out.cell]; rfl
  have k3 : ((w.alloc (.cells #[.int .i64 s, .int .i64 a, .int .i64 b, .int .i64 c] 97)).alloc (.cells #[.int .u64 0, .int .u64 0, .int .u64 0, .int .u64 0, .int .u64 0] 79)).cell? ⟨w.heap.size, 3, none⟩ = some (.int .i64 c) := by rw [HN0.out.cell]; rfl
  have htl := h.t.lt
  have HLK := Lib.hid hlook
  clear hlook hbw hs ha hb hc hM h
  unfold keyV
  cases hf : f (klOf s a b c) with
  | some pv =>
    obtain ⟨y, hy, hyk, hpv⟩ := HT1.out.fn _ _ hf
    have hlook := HLK.out
    rw [hf] at hlook
    simp only [Option.getD_some, hpv, GB.ptr] at hlook
    have hlook0 := hlook 0
    have hyy := HT1.out.gb y hy
    have HYW := Lib.hid hyy.2.1
    have hkey : y.key = (s, a, b, c) := GB.kl_inj (y := GB.mk 0 s a b c (fun _ => 0)) hyy.2.2.2 HWS.out hyk
    have HMEM : Hid (∀ q : Nat, mem y.W q = true ↔ ∃ r ∈ R, r.key = (s, a, b, c) ∧ r.to = (q : Int)) := Lib.hid (fun q => by
      constructor
      · intro hq
        obtain ⟨r, h1, h2, h3⟩ := HM.out.sound y hy q hq
        exact ⟨r, h1, by rw [h2, hkey], h3⟩
      · rintro ⟨r, h1, h2, h3⟩
        obtain ⟨x, hx, hxk, q', hq', hm⟩ := HM.out.full r h1
        have hxy : x = y := by
          have h5 := HM.out.keys
          by_cases he : x = y
          · exact he
          · have hne : x.key ≠ y.key := by
              rcases List.pairwise_iff_getElem.1 h5 with h6
              obtain ⟨i, hi, rfl⟩ := List.getElem_of_mem hx
              obtain ⟨j, hj, rfl⟩ := List.getElem_of_mem hy
              rcases Nat.lt_trichotomy i j with h7 | h7 | h7
              · exact h6 i j hi hj h7
              · subst h7; exact absurd rfl he
              · exact (h6 j i hj hi h7).symm
            exact absurd (by rw [hxk, h2, hkey]) hne
        subst hxy
        have : q' = q := by omega
        subst this
        exact hm)
    have g0 : ∀ j u, (scs y.pre y.W [])[j]? = some u → ((w.alloc (.cells #[.int .i64 s, .int .i64 a, .int .i64 b, .int .i64 c] 97)).alloc (.cells #[.int .u64 0, .int .u64 0, .int .u64 0, .int .u64 0, .int .u64 0] 79)).cell? ⟨y.blk, j, none⟩ = some u := fun j u hu => by rw [hyy.1.cell]; exact hu
    have e0 := g0 4 (.int .u64 (y.W 0 : Nat)) rfl
    have e1 := g0 5 (.int .u64 (y.W 1 : Nat)) rfl
    have e2 := g0 6 (.int .u64 (y.W 2 : Nat)) rfl
    have e3 := g0 7 (.int .u64 (y.W 3 : Nat)) rfl
    have e4 := g0 8 (.int .u64 (y.W 4 : Nat)) rfl
    have eyl := hyy.1.lt
    clear hf hpv hy hyk HLK hyy hkey g0
    go_enter Tryd.func99, Tryd.ntmps99
    go_wp2_with fail
    go_quiet (fail)
    go_wp2_with fail
    refine bodyPost_ret (v := setV y.W) (results_cell_row rfl _ _ (w.heap.size + 1) 79 _ (0, 0) _ rfl ((((((HN1.out.below (below_drewN (Below.refl _ _) _) HN1.out.lt).set_ 0 _).set_ 1 _).set_ 2 _).set_ 3 _).set_ 4 _) Tryd.underlying79 rfl Tryd.infoSet) rfl ⟨⟨_, rfl, HYW.out, HMEM.out⟩, ((((((below_drewN HB.out _).setCell (p := ⟨w.heap.size + 1, 0, none⟩) (by simp) _).setCell (p := ⟨w.heap.size + 1, 1, none⟩) (by simp) _).setCell (p := ⟨w.heap.size + 1, 2, none⟩) (by simp) _).setCell (p := ⟨w.heap.size + 1, 3, none⟩) (by simp) _).setCell (p := ⟨w.heap.size + 1, 4, none⟩) (by simp) _)⟩
  | none =>
    have hlook := HLK.out
    rw [hf] at hlook
    simp only [Option.getD_none] at hlook
    have hlook0 := hlook 0
    have HMEM : Hid (∀ q : Nat, mem (fun _ => 0) q = true ↔ ∃ r ∈ R, r.key = (s, a, b, c) ∧ r.to = (q : Int)) := Lib.hid (fun q => by
      constructor
      · intro hq; simp [mem] at hq
      · rintro ⟨r, h1, h2, h3⟩
        obtain ⟨x, hx, hxk, _⟩ := HM.out.full r h1
        have := HT1.out.fs x hx
        rw [show x.kl = klOf s a b c by
          rw [h2] at hxk
          unfold GB.key at hxk
          simp only [Prod.mk.injEq] at hxk
          obtain ⟨h4, h5, h6, h7⟩ := hxk
          unfold GB.kl
          rw [h4, h5, h6, h7], hf] at this
        cases this)
    clear hf HLK
    go_enter Tryd.func99, Tryd.ntmps99
    go_wp2_with fail
    go_quiet (fail)
    go_wp2_with fail
    refine bodyPost_ret (v := setV (fun _ => 0)) (results_cell_row rfl _ _ (w.heap.size + 1) 79 _ (0, 0) _ rfl ((((((HN1.out.below (below_drewN (Below.refl _ _) _) HN1.out.lt).set_ 0 _).set_ 1 _).set_ 2 _).set_ 3 _).set_ 4 _) Tryd.underlying79 rfl Tryd.infoSet) rfl ⟨⟨_, rfl, fun _ => (by simp : (0 : Nat) < 18446744073709551616), HMEM.out⟩, ((((((below_drewN HB.out _).setCell (p := ⟨w.heap.size + 1, 0, none⟩) (by simp) _).setCell (p := ⟨w.heap.size + 1, 1, none⟩) (by simp) _).setCell (p := ⟨w.heap.size + 1, 2, none⟩) (by simp) _).setCell (p := ⟨w.heap.size + 1, 3, none⟩) (by simp) _).setCell (p := ⟨w.heap.size + 1, 4, none⟩) (by simp) _)⟩
end

section
open Go.RowKit Go.Shelf

set_option maxRecDepth 100000 in
set_option maxHeartbeats 1000000 in
theorem groups_ok {B : Nat} {ks : List Lit} {T G M n : Nat} {w : World} {GL : List GB} {rows : List Value} {f : Lit → Option Value} (h : Tab B ks T G M n w GL rows f) (s : Nat) (v : Value) (hv : rows[s]? = some v) (hn : n ≤ 1000) :
    Calls Tryd.prog 92 #[.pointer (some ⟨T, 0, none⟩), .int .i64 (s : Int)] w fun e w' => e = .returned v ∧ w' = w := by
  have hs : s < n := by rw [← h.len]; exact (List.getElem?_eq_some_iff.1 hv).1
  have x0 : w.cell? ⟨T, 0, none⟩ = some (.slice (some ⟨G, 0, none⟩) n n) := by rw [h.t.cell]; rfl
  have x1 : w.cell? ⟨G, s, none⟩ = some v := by rw [h.g.cell]; simpa using hv
  obtain ⟨a, m, c, rfl⟩ := own_slice (h.row s v hv)
  have ht := h.t.lt
  have hg := h.g.lt
  have hsi : (s : Int) < (n : Int) := by omega
  clear h hv
  go_enter Tryd.func92, Tryd.ntmps92
  go_wp2_with fail
  go_ret
  exact ⟨rfl, rfl⟩

/-- The first final state in the set. -/
def accI (W : Nat → Nat) : List Nat → Int
  | [] => -1
  | q :: l => if mem W q then q else accI W l
theorem accI_ge {W : Nat → Nat} : ∀ {l : List Nat}, decide (0 ≤ accI W l) = l.any (mem W)
  | [] => rfl
  | q :: l => by
    unfold accI
    rw [List.any_cons]
    by_cases h : mem W q = true
    · rw [if_pos h, h, Bool.true_or]; simp
    · rw [if_neg h, accI_ge (l := l)]
      simp [h]

/-- A node's value. -/
def nodeV (s : Int) (W : Nat → Nat) (vk : Value) : Value := .agg #[.int .i64 s, .int .u64 (W 0 : Nat), .int .u64 (W 1 : Nat), .int .u64 (W 2 : Nat), .int .u64 (W 3 : Nat), .int .u64 (W 4 : Nat), vk]

set_option maxRecDepth 100000 in
set_option maxHeartbeats 1000000 in
theorem accepted_ok (A : Au) (v : Value) (s : Int) (W : Nat → Nat) (pk : Option Addr) (nk ck : Nat) (fin : List Nat) (w : World) (hA : IsAu w v A) (hfin : A.fin = fin.map (fun q : Nat => (q : Int))) (hlt : ∀ q ∈ fin, q < 320) (hW : W64 W) :
    Calls Tryd.prog 67 #[v, nodeV s W (.slice pk nk ck)] w fun e w' => e = .returned (.int .i64 (accI W fin)) ∧ Below w.heap.size w w' := by
  obtain ⟨fv, rv, rfl, hf, hr⟩ := hA
  obtain ⟨st, fin', ru⟩ := A
  simp only at *
  subst hfin
  have hbw : Below w.heap.size w ((w.alloc (.cells #[.int .i64 st, fv, rv] 27)).alloc (.cells #[.int .i64 s, .int .u64 (W 0 : Nat), .int .u64 (W 1 : Nat), .int .u64 (W 2 : Nat), .int .u64 (W 3 : Nat), .int .u64 (W 4 : Nat), .slice pk nk ck] 82)) := ((Below.refl _ w).alloc (Nat.le_refl _) _).alloc (by simp) _
  have HN : Hid (Blk ((w.alloc (.cells #[.int .i64 st, fv, rv] 27)).alloc (.cells #[.int .i64 s, .int .u64 (W 0 : Nat), .int .u64 (W 1 : Nat), .int .u64 (W 2 : Nat), .int .u64 (W 3 : Nat), .int .u64 (W 4 : Nat), .slice pk nk ck] 82)) (w.heap.size + 1) 82 (scs [.int .i64 s] W [.slice pk nk ck])) := Lib.hid (by
    have h := Blk.new (w.alloc (.cells #[.int .i64 st, fv, rv] 27)) 82 #[.int .i64 s, .int .u64 (W 0 : Nat), .int .u64 (W 1 : Nat), .int .u64 (W 2 : Nat), .int .u64 (W 3 : Nat), .int .u64 (W 4 : Nat), .slice pk nk ck]
    rw [World.size_alloc] at h
    exact h)
  have HB := Lib.hid hbw
  have hf2 := hf.below hbw
  obtain ⟨p1, c1, rfl, hf1, hf3, hfc⟩ := hf2
  obtain ⟨p2, c2, rfl, _⟩ := hr
  unfold maxLen at hf3
  have HFC := Lib.hid hfc
  have HLT := Lib.hid hlt
  have HW := Lib.hid hW
  rw [List.length_map] at hf1
  simp only [List.length_map] at HN HB HFC
  clear hbw hfc hf hlt hW
  unfold nodeV
  simp only [List.length_map]
  go_enter Tryd.func67, Tryd.ntmps67
  go_wp2_with fail
  go_loopw [10] (fun iv wr => ∃ k : Nat, iv = .int .i64 (k : Nat) ∧ k ≤ fin.length ∧ Hid (accI W fin = accI W (fin.drop k)) ∧ Hid (Below (w.heap.size + 1 + 1) ((w.alloc (.cells #[.int .i64 st, .slice p1 fin.length c1, .slice p2 ru.length c2] 27)).alloc (.cells #[.int .i64 s, .int .u64 (W 0 : Nat), .int .u64 (W 1 : Nat), .int .u64 (W 2 : Nat), .int .u64 (W 3 : Nat), .int .u64 (W 4 : Nat), .slice pk nk ck] 82)) wr)) (fun iv _ => fin.length - (intOf iv).toNat)
  case atStart => exact ⟨0, rfl, by omega, Lib.hid rfl, Lib.hid (Below.refl _ _)⟩
  case round =>
    rename World => wr
    obtain ⟨k, rfl, hk, HE, HX⟩ := hrel
    have hsz := HX.out.size
    rw [World.size_alloc, World.size_alloc] at hsz
    have HBw := Lib.hid (HB.out.trans (HX.out.mono (by omega)))
    by_cases hlt : k < fin.length
    · obtain ⟨q, hq⟩ : ∃ q, fin[k]? = some q := ⟨_, List.getElem?_eq_getElem hlt⟩
      obtain ⟨b, o, rfl, hcl⟩ := HFC.out (fun h => by simp at h; simp [h] at hlt)
      have y0 := cell_later (by simpa using HX.out) (hcl k (q : Int) (by rw [List.getElem?_map, hq]; rfl))
      have hyl := World.block_lt_of_cell? _ _ y0
      simp only at hyl
      have hd : Hid (fin.drop k = q :: fin.drop (k + 1)) := Lib.hid (by
        rw [List.drop_eq_getElem_cons hlt]
        congr 1
        exact (List.getElem?_eq_some_iff.1 hq).2)
      have hlt1 : (k : Int) < (fin.length : Int) := by omega
      have HH := Lib.hid (has_ok wr (w.heap.size + 1) 1 W q (q : Int) rfl (HLT.out q (List.mem_of_getElem? hq)) (scs_setAt (HN.out.below HX.out (by omega))) HW.out)
      clear hq hcl hlt
      cases hm : mem W q with
      | true =>
        have HM := Lib.hid hm
        rw [hm] at HH
        clear hm
        go_wp2_with fail
        refine HH.out.mono ?_
        rintro e w9 ⟨rfl, nn, rfl⟩
        go_wp2_with fail
        go_ret
        exact ⟨by rw [HE.out, hd.out, accI, if_pos HM.out]; rfl, below_drewN HBw.out _⟩
      | false =>
        have HM := Lib.hid hm
        rw [hm] at HH
        clear hm
        go_wp2_with fail
        refine HH.out.mono ?_
        rintro e w9 ⟨rfl, nn, rfl⟩
        go_wp2_with fail
        go_roundw
        case rel => exact ⟨k + 1, by go_num, by omega, Lib.hid (by rw [HE.out, hd.out, accI, if_neg (by rw [HM.out]; decide)]), Lib.hid (below_drewN HX.out _)⟩
        case measure => simp [intOf]; omega
    · have hge : fin.length ≤ k := by omega
      have hd : Hid (fin.drop k = []) := Lib.hid (List.drop_eq_nil_iff.2 hge)
      clear hlt
      go_wp2_with fail
      go_ret
      exact ⟨by rw [HE.out, hd.out]; rfl, HBw.out⟩
end

section
open Go.RowKit Go.Shelf

theorem odd_bit (m d : Nat) : ((2 * m + 1).testBit d && (2 * m).testBit d) = ((2 * m + 1).testBit d && decide (d ≠ 0)) := by
  cases d with
  | zero => simp [Nat.testBit_zero]
  | succ d =>
    rw [Nat.testBit_succ, Nat.testBit_succ, show (2 * m + 1) / 2 = m by omega, show 2 * m / 2 = m by omega]
    simp
theorem pred_bit {x : Nat} (h0 : x ≠ 0) (hx : x < 18446744073709551616) (j : Nat) : (x &&& (x - 1)).testBit j = (x.testBit j && decide (j ≠ Lib.ctz 64 x)) := by
  have hc : Lib.ctz 64 x = Lib.ctzFrom 64 x := by unfold Lib.ctz; rw [if_neg h0]
  obtain ⟨m, hm, hk⟩ := Lib.ctzFrom_spec 64 x (by omega) hx
  rw [hc]
  generalize Lib.ctzFrom 64 x = k at hm hk
  have hp : 0 < 2 ^ k := Nat.two_pow_pos k
  have h1 : x - 1 = 2 ^ k * (2 * m) + (2 ^ k - 1) := by
    rw [hm, Nat.mul_add, Nat.mul_one]; omega
  rw [Nat.testBit_and, h1, Nat.testBit_two_pow_mul_add _ (by omega), hm, Nat.testBit_two_pow_mul]
  by_cases hj : j < k
  · have : ¬ j ≥ k := by omega
    simp [this]
  · rw [if_neg hj, decide_eq_true (show j ≥ k by omega), Bool.true_and, odd_bit]
    congr 1
    exact decide_eq_decide.2 (by omega)
theorem low_bit {x : Nat} (h0 : x ≠ 0) (hx : x < 18446744073709551616) : x.testBit (Lib.ctz 64 x) = true ∧ Lib.ctz 64 x < 64 ∧ ∀ j, j < Lib.ctz 64 x → x.testBit j = false := by
  have hc : Lib.ctz 64 x = Lib.ctzFrom 64 x := by unfold Lib.ctz; rw [if_neg h0]
  obtain ⟨m, hm, hk⟩ := Lib.ctzFrom_spec 64 x (by omega) hx
  rw [hc]
  generalize Lib.ctzFrom 64 x = k at hm hk
  refine ⟨?_, hk, fun j hj => ?_⟩
  · rw [hm, Nat.testBit_two_pow_mul]; simp [Nat.testBit_zero]
  · rw [hm, Nat.testBit_two_pow_mul]
    have : ¬ j ≥ k := by omega
    simp [this]

/-- The members of word i. -/
def bitsI (i x : Nat) : List Int := ((List.range 64).filter (fun j => x.testBit j)).map (fun j => ((64 * i + j : Nat) : Int))
theorem bitsI_mem {i x : Nat} {q : Int} : q ∈ bitsI i x ↔ ∃ j, j < 64 ∧ x.testBit j = true ∧ q = ((64 * i + j : Nat) : Int) := by
  simp only [bitsI, List.mem_map, List.mem_filter, List.mem_range]
  constructor
  · rintro ⟨j, ⟨h1, h2⟩, rfl⟩; exact ⟨j, h1, h2, rfl⟩
  · rintro ⟨j, h1, h2, rfl⟩; exact ⟨j, ⟨h1, h2⟩, rfl⟩
theorem bitsI_sorted (i x : Nat) : (bitsI i x).Pairwise (· < ·) := by
  unfold bitsI
  rw [List.pairwise_map]
  exact (List.pairwise_lt_range.filter _).imp (fun {a b} h => by omega)
theorem bitsI_zero (i : Nat) : bitsI i 0 = [] := by simp [bitsI]
theorem bitsI_step {i x : Nat} (h0 : x ≠ 0) (hx : x < 18446744073709551616) : bitsI i x = ((64 * i + Lib.ctz 64 x : Nat) : Int) :: bitsI i (x &&& (x - 1)) := by
  obtain ⟨h1, h2, h3⟩ := low_bit h0 hx
  refine sorted_eq (bitsI_sorted i x) (List.pairwise_cons.2 ⟨fun q hq => ?_, bitsI_sorted _ _⟩) (fun q => ?_)
  · obtain ⟨j, hj, hb, rfl⟩ := bitsI_mem.1 hq
    rw [pred_bit h0 hx, Bool.and_eq_true, decide_eq_true_eq] at hb
    have : ¬ j < Lib.ctz 64 x := fun h => by rw [h3 j h] at hb; cases hb.1
    have := hb.2
    omega
  · rw [List.mem_cons, bitsI_mem, bitsI_mem]
    constructor
    · rintro ⟨j, hj, hb, rfl⟩
      by_cases e : j = Lib.ctz 64 x
      · subst e; exact .inl rfl
      · exact .inr ⟨j, hj, by rw [pred_bit h0 hx, hb, decide_eq_true e]; rfl, rfl⟩
    · rintro (rfl | ⟨j, hj, hb, rfl⟩)
      · exact ⟨_, h2, h1, rfl⟩
      · rw [pred_bit h0 hx, Bool.and_eq_true] at hb
        exact ⟨j, hj, hb.1, rfl⟩

/-- The members of the first n words. -/
def listI (W : Nat → Nat) : Nat → List Int
  | 0 => []
  | n + 1 => listI W n ++ bitsI n (W n)
theorem listI_mem {W : Nat → Nat} {q : Int} : ∀ {n : Nat}, q ∈ listI W n ↔ ∃ p : Nat, p < 64 * n ∧ mem W p = true ∧ q = (p : Int)
  | 0 => by simp [listI]
  | n + 1 => by
    rw [listI, List.mem_append, listI_mem (n := n), bitsI_mem]
    constructor
    · rintro (⟨p, h1, h2, rfl⟩ | ⟨j, h1, h2, rfl⟩)
      · exact ⟨p, by omega, h2, rfl⟩
      · refine ⟨64 * n + j, by omega, ?_, rfl⟩
        unfold mem
        rw [show (64 * n + j) / 64 = n by omega, show (64 * n + j) % 64 = j by omega]; exact h2
    · rintro ⟨p, h1, h2, rfl⟩
      by_cases h : p < 64 * n
      · exact .inl ⟨p, h, h2, rfl⟩
      · refine .inr ⟨p - 64 * n, by omega, ?_, by omega⟩
        unfold mem at h2
        rwa [show p / 64 = n by omega, show p % 64 = p - 64 * n by omega] at h2
theorem listI_sorted (W : Nat → Nat) : ∀ n, (listI W n).Pairwise (· < ·)
  | 0 => List.Pairwise.nil
  | n + 1 => by
    rw [listI, List.pairwise_append]
    refine ⟨listI_sorted W n, bitsI_sorted _ _, fun a ha b hb => ?_⟩
    obtain ⟨p, h1, _, rfl⟩ := listI_mem.1 ha
    obtain ⟨j, _, _, rfl⟩ := bitsI_mem.1 hb
    omega
end

section
open Go.RowKit Go.Shelf

/-- The sets are the lists. -/
def SetsOf : List (Nat → Nat) → List (List Int) → Prop
  | [], [] => True
  | W :: KS, s :: S => (∀ q : Nat, mem W q = true ↔ (q : Int) ∈ s) ∧ SetsOf KS S
  | _, _ => False
theorem SetsOf.len : ∀ {KS : List (Nat → Nat)} {S : List (List Int)}, SetsOf KS S → KS.length = S.length
  | [], [], _ => rfl
  | _ :: KS, _ :: S, h => by simp [SetsOf.len (KS := KS) (S := S) h.2]
theorem SetsOf.snoc : ∀ {KS : List (Nat → Nat)} {S : List (List Int)} {W : Nat → Nat} {s : List Int}, SetsOf KS S → (∀ q : Nat, mem W q = true ↔ (q : Int) ∈ s) → SetsOf (KS ++ [W]) (S ++ [s])
  | [], [], _, _, _, h => ⟨h, trivial⟩
  | _ :: KS, _ :: S, _, _, h, h2 => ⟨h.1, SetsOf.snoc (KS := KS) (S := S) h.2 h2⟩

theorem adm_fits : ∀ {KS : List (Nat → Nat)} {S : List (List Int)} {F : List Int} (rest : List Nat), SetsOf KS S → S.length ≤ F.length → (∀ f ∈ F, 0 ≤ f) → admB KS (F.map Int.toNat ++ rest) = fitsL S F
  | [], [], _, _, _, _, _ => by simp [admB, fitsL]
  | W :: KS, s :: S, [], _, _, h, _ => by simp at h
  | W :: KS, s :: S, f :: F, rest, h, hl, h0 => by
    have hf := h0 f (List.mem_cons_self ..)
    rw [List.map_cons, List.cons_append, admB, fitsL, adm_fits (KS := KS) (S := S) (F := F) rest h.2 (by simpa using hl) (fun x hx => h0 x (List.mem_cons_of_mem _ hx))]
    congr 1
    have h1 := h.1 f.toNat
    rw [Int.toNat_of_nonneg hf] at h1
    rw [Bool.eq_iff_iff, h1, inB_iff]
theorem pad3 {F : List Int} (h : F.length ≤ 3) : [(F.getD 0 0).toNat, (F.getD 1 0).toNat, (F.getD 2 0).toNat] = F.map Int.toNat ++ List.replicate (3 - F.length) 0 := by
  rcases F with _ | ⟨a, _ | ⟨b, _ | ⟨c, _ | ⟨d, r⟩⟩⟩⟩ <;> first | rfl | (exfalso; simp at h)

theorem rows_mem {R : List Ru} {GL : List GB} {n : Nat} (hM : Means R GL) (hr : ∀ r ∈ R, RuV n r) (s : Nat) {KS : List (Nat → Nat)} {S : List (List Int)} (hS : SetsOf KS S) (hfit : ∀ r ∈ R, r.sym = (s : Int) → S.length ≤ r.fr.length) (q : Nat) :
    (∃ y ∈ rowsOf s GL, admB KS [y.a.toNat, y.b.toNat, y.c.toNat] = true ∧ mem y.W q = true) ↔ (q : Int) ∈ stepL R s S [] := by
  have hadm : ∀ {y : GB} {r : Ru}, r ∈ R → r.sym = (s : Int) → r.key = y.key → admB KS [y.a.toNat, y.b.toNat, y.c.toNat] = fitsL S r.fr := fun {y r} hrm hs hk => by
    unfold Ru.key GB.key at hk
    simp only [Prod.mk.injEq] at hk
    obtain ⟨_, h1, h2, h3⟩ := hk
    rw [← h1, ← h2, ← h3, pad3 (hr r hrm).len]
    exact adm_fits _ hS (hfit r hrm hs) (fun f hf => ((hr r hrm).fr f hf).1)
  rw [stepL_mem]
  constructor
  · rintro ⟨y, hy, ha, hm⟩
    unfold rowsOf at hy
    rw [List.mem_filter, beq_iff_eq] at hy
    obtain ⟨r, h1, h2, h3⟩ := hM.sound y hy.1 q hm
    have hs : r.sym = (s : Int) := by
      have := congrArg Prod.fst h2
      simp only [Ru.key, GB.key] at this
      rw [this, hy.2]
    refine .inr ⟨r, h1, ?_, h3⟩
    unfold stepF
    rw [← hadm h1 hs h2, ha, hs]
    simp
  · rintro (h | ⟨r, h1, h2, h3⟩)
    · cases h
    · unfold stepF at h2
      rw [Bool.and_eq_true, beq_iff_eq] at h2
      obtain ⟨y, hy, hk, p, hp, hm⟩ := hM.full r h1
      have hys : y.s = (s : Int) := by
        have := congrArg Prod.fst hk
        simp only [Ru.key, GB.key] at this
        rw [this, h2.1]
      have : p = q := by omega
      subst this
      refine ⟨y, ?_, by rw [hadm h1 h2.1 hk.symm]; exact h2.2, hm⟩
      unfold rowsOf
      rw [List.mem_filter, beq_iff_eq]
      exact ⟨hy, hys⟩

/-- The union of the groups that are admitted. -/
def uniG (KS : List (Nat → Nat)) : List GB → (Nat → Nat) → (Nat → Nat)
  | [], W => W
  | y :: l, W => uniG KS l (if admB KS [y.a.toNat, y.b.toNat, y.c.toNat] = true then uniW W y.W else W)
theorem uniG_mem (KS : List (Nat → Nat)) (q : Nat) : ∀ (l : List GB) (W : Nat → Nat), mem (uniG KS l W) q = true ↔ mem W q = true ∨ ∃ y ∈ l, admB KS [y.a.toNat, y.b.toNat, y.c.toNat] = true ∧ mem y.W q = true
  | [], W => by simp [uniG]
  | y :: l, W => by
    rw [uniG, uniG_mem KS q l]
    by_cases h : admB KS [y.a.toNat, y.b.toNat, y.c.toNat] = true
    · rw [if_pos h, uniW_mem, Bool.or_eq_true]
      simp only [List.mem_cons, exists_eq_or_imp, h, true_and, or_assoc]
    · rw [if_neg h]
      simp only [List.mem_cons, exists_eq_or_imp, h, false_and, false_or, Bool.false_eq_true]
theorem uniG_lt {KS : List (Nat → Nat)} : ∀ {l : List GB} {W : Nat → Nat}, W64 W → (∀ y ∈ l, W64 y.W) → W64 (uniG KS l W)
  | [], _, h, _ => h
  | y :: l, W, h, hl => by
    rw [uniG]
    refine uniG_lt ?_ (fun x hx => hl x (List.mem_cons_of_mem _ hx))
    split
    · exact uniW_lt h (hl y (List.mem_cons_self ..))
    · exact h

/-- What annotate makes of a tree, and that it is the reference's. -/
theorem ann_mem {R : List Ru} {GL : List GB} {n : Nat} (hM : Means R GL) (hr : ∀ r ∈ R, RuV n r) (s : Nat) {KS : List (Nat → Nat)} {S : List (List Int)} (hS : SetsOf KS S) (hfit : ∀ r ∈ R, r.sym = (s : Int) → S.length ≤ r.fr.length) (q : Nat) :
    mem (uniG KS (rowsOf s GL) (fun _ => 0)) q = true ↔ (q : Int) ∈ stepL R s S [] := by
  rw [uniG_mem, ← rows_mem hM hr s hS hfit q]
  simp [mem]
end

end Go.Proofs.YtedfldbknjcnlaaDoor
