/- (*rule.Table).Targets. -/
import Derived.Test.YtopineheelkcmaaDoorNewT
import Derived.Test.YtopineheelkcmaaDoorAdm
namespace Go.Proofs.YtopineheelkcmaaDoor
open Go.RowKit Go.Shelf

/-- A set as a value. -/
def setV (W : Nat → Nat) : Value := .agg #[.int .u64 (W 0 : Nat), .int .u64 (W 1 : Nat), .int .u64 (W 2 : Nat), .int .u64 (W 3 : Nat), .int .u64 (W 4 : Nat)]
theorem Tryd.infoSet : (Tryd.prog.info? 79).map (·.size) = some 5 := by kernel_rfl

set_option maxRecDepth 100000 in
set_option maxHeartbeats 2000000 in
theorem targets_ok {B : Nat} {R : List Ru} {ks : List Lit} {T G M n : Nat} {w : World} {GL : List GB} {rows : List Value} {f : Lit → Option Value} (h : Tab B ks T G M n w GL rows f) (hM : Means R GL) (s a b c : Int)
    (hs : (Lit.int .i64 s).wf = true) (ha : (Lit.int .i64 a).wf = true) (hb : (Lit.int .i64 b).wf = true) (hc : (Lit.int .i64 c).wf = true) :
    Calls Tryd.prog 99 #[.pointer (some ⟨T, 0, none⟩), keyV s a b c] w fun e w' => (∃ W, e = .returned (setV W) ∧ W64 W ∧ ∀ q : Nat, mem W q = true ↔ ∃ r ∈ R, r.key = (s, a, b, c) ∧ r.to = (q : Int)) ∧ Below w.heap.size w w' := by
  have hbw : Below w.heap.size w ((w.alloc (.cells #[.int .i64 s, .int .i64 a, .int .i64 b, .int .i64 c] 97)).alloc (.cells #[.int .u64 0, .int .u64 0, .int .u64 0, .int .u64 0, .int .u64 0] 79)) := ((Below.refl _ w).alloc (Nat.le_refl _) _).alloc (by simp) _
  have HN0 := Lib.hid ((Blk.new w 97 #[.int .i64 s, .int .i64 a, .int .i64 b, .int .i64 c]).alloc (.cells #[.int .u64 0, .int .u64 0, .int .u64 0, .int .u64 0, .int .u64 0] 79))
  have HN1 : Hid (Blk ((w.alloc (.cells #[.int .i64 s, .int .i64 a, .int .i64 b, .int .i64 c] 97)).alloc (.cells #[.int .u64 0, .int .u64 0, .int .u64 0, .int .u64 0, .int .u64 0] 79)) (w.heap.size + 1) 79 #[.int .u64 0, .int .u64 0, .int .u64 0, .int .u64 0, .int .u64 0]) := Lib.hid (by simpa using Blk.new (w.alloc (.cells #[.int .i64 s, .int .i64 a, .int .i64 b, .int .i64 c] 97)) 79 #[.int .u64 0, .int .u64 0, .int .u64 0, .int .u64 0, .int .u64 0])
  have HT1 := Lib.hid (h.below hbw)
  have HB := Lib.hid hbw
  have HKO := Lib.hid (hd_keyOf hs ha hb hc)
  have HWS := Lib.hid (show (GB.mk 0 s a b c (fun _ => 0)).wf from ⟨hs, ha, hb, hc⟩)
  have HM := Lib.hid hM
  unfold keyV at HKO
  have hlook : ∀ m : Nat, (Instr.lookup 103 (.map (some M)) (.agg #[.int .i64 s, .int .i64 a, .int .i64 b, .int .i64 c]) false).run Tryd.prog (((w.alloc (.cells #[.int .i64 s, .int .i64 a, .int .i64 b, .int .i64 c] 97)).alloc (.cells #[.int .u64 0, .int .u64 0, .int .u64 0, .int .u64 0, .int .u64 0] 79)).drewN m) = .ok ((f (klOf s a b c)).getD (.pointer none)) (((w.alloc (.cells #[.int .i64 s, .int .i64 a, .int .i64 b, .int .i64 c] 97)).alloc (.cells #[.int .u64 0, .int .u64 0, .int .u64 0, .int .u64 0, .int .u64 0] 79)).drewN m) := fun m =>
    (HT1.out.mp.heap (w' := ((w.alloc (.cells #[.int .i64 s, .int .i64 a, .int .i64 b, .int .i64 c] 97)).alloc (.cells #[.int .u64 0, .int .u64 0, .int .u64 0, .int .u64 0, .int .u64 0] 79)).drewN m) rfl).look hd_keyed Tryd.underlying103 (zero_PG _) HKO.out
  have t1 : ((w.alloc (.cells #[.int .i64 s, .int .i64 a, .int .i64 b, .int .i64 c] 97)).alloc (.cells #[.int .u64 0, .int .u64 0, .int .u64 0, .int .u64 0, .int .u64 0] 79)).cell? ⟨T, 1, none⟩ = some (.map (some M)) := by rw [HT1.out.t.cell]; rfl
  have k0 : ((w.alloc (.cells #[.int .i64 s, .int .i64 a, .int .i64 b, .int .i64 c] 97)).alloc (.cells #[.int .u64 0, .int .u64 0, .int .u64 0, .int .u64 0, .int .u64 0] 79)).cell? ⟨w.heap.size, 0, none⟩ = some (.int .i64 s) := by rw [HN0.out.cell]; rfl
  have k1 : ((w.alloc (.cells #[.int .i64 s, .int .i64 a, .int .i64 b, .int .i64 c] 97)).alloc (.cells #[.int .u64 0, .int .u64 0, .int .u64 0, .int .u64 0, .int .u64 0] 79)).cell? ⟨w.heap.size, 1, none⟩ = some (.int .i64 a) := by rw [HN0.out.cell]; rfl
  have k2 : ((w.alloc (.cells #[.int .i64 s, .int .i64 a, .int .i64 b, .int .i64 c] 97)).alloc (.cells #[.int .u64 0, .int .u64 0, .int .u64 0, .int .u64 0, .int .u64 0] 79)).cell? ⟨w.heap.size, 2, none⟩ = some (.int .i64 b) := by rw [HN0.out.cell]; rfl
  have k3 : ((w.alloc (.cells #[.int .i64 s, .int .i64 a, .int .i64 b, .int .i64 c] 97)).alloc (.cells #[.int .u64 0, .int .u64 0, .int .u64 0, .int .u64 0, .int .u64 0] 79)).cell? ⟨w.heap.size, 3, none⟩ = some (.int .i64 c) := by rw [HN0.out.cell]; rfl
  have htl := h.t.lt
  have HLK := Lib.hid hlook
  clear hlook hbw hs ha hb hc hM h
  unfold keyV
  cases hf : f (klOf s a b c) with
  | some pv =>
    obtain ⟨y, hy, hyk, hpv⟩ := HT1.out.fn _ _ hf
    have hlook := HLK.out
    rw [hf] at hlook
    simp only [Option.getD_some, hpv, GB.ptr] at hlook
    have hlook0 := hlook 0
    have hyy := HT1.out.gb y hy
    have HYW := Lib.hid hyy.2.1
    have hkey : y.key = (s, a, b, c) := GB.kl_inj (y := GB.mk 0 s a b c (fun _ => 0)) hyy.2.2.2 HWS.out hyk
    have HMEM : Hid (∀ q : Nat, mem y.W q = true ↔ ∃ r ∈ R, r.key = (s, a, b, c) ∧ r.to = (q : Int)) := Lib.hid (fun q => by
      constructor
      · intro hq
        obtain ⟨r, h1, h2, h3⟩ := HM.out.sound y hy q hq
        exact ⟨r, h1, by rw [h2, hkey], h3⟩
      · rintro ⟨r, h1, h2, h3⟩
        obtain ⟨x, hx, hxk, q', hq', hm⟩ := HM.out.full r h1
        have hxy : x = y := by
          have h5 := HM.out.keys
          by_cases he : x = y
          · exact he
          · have hne : x.key ≠ y.key := by
              rcases List.pairwise_iff_getElem.1 h5 with h6
              obtain ⟨i, hi, rfl⟩ := List.getElem_of_mem hx
              obtain ⟨j, hj, rfl⟩ := List.getElem_of_mem hy
              rcases Nat.lt_trichotomy i j with h7 | h7 | h7
              · exact h6 i j hi hj h7
              · subst h7; exact absurd rfl he
              · exact (h6 j i hj hi h7).symm
            exact absurd (by rw [hxk, h2, hkey]) hne
        subst hxy
        have : q' = q := by omega
        subst this
        exact hm)
    have g0 : ∀ j u, (scs y.pre y.W [])[j]? = some u → ((w.alloc (.cells #[.int .i64 s, .int .i64 a, .int .i64 b, .int .i64 c] 97)).alloc (.cells #[.int .u64 0, .int .u64 0, .int .u64 0, .int .u64 0, .int .u64 0] 79)).cell? ⟨y.blk, j, none⟩ = some u := fun j u hu => by rw [hyy.1.cell]; exact hu
    have e0 := g0 4 (.int .u64 (y.W 0 : Nat)) rfl
    have e1 := g0 5 (.int .u64 (y.W 1 : Nat)) rfl
    have e2 := g0 6 (.int .u64 (y.W 2 : Nat)) rfl
    have e3 := g0 7 (.int .u64 (y.W 3 : Nat)) rfl
    have e4 := g0 8 (.int .u64 (y.W 4 : Nat)) rfl
    have eyl := hyy.1.lt
    clear hf hpv hy hyk HLK hyy hkey g0
    go_enter Tryd.func99, Tryd.ntmps99
    go_wp2_with fail
    go_quiet (fail)
    go_wp2_with fail
    refine bodyPost_ret (v := setV y.W) (results_cell_row rfl _ _ (w.heap.size + 1) 79 _ (0, 0) _ rfl ((((((HN1.out.below (below_drewN (Below.refl _ _) _) HN1.out.lt).set_ 0 _).set_ 1 _).set_ 2 _).set_ 3 _).set_ 4 _) Tryd.underlying79 rfl Tryd.infoSet) rfl ⟨⟨_, rfl, HYW.out, HMEM.out⟩, ((((((below_drewN HB.out _).setCell (p := ⟨w.heap.size + 1, 0, none⟩) (by simp) _).setCell (p := ⟨w.heap.size + 1, 1, none⟩) (by simp) _).setCell (p := ⟨w.heap.size + 1, 2, none⟩) (by simp) _).setCell (p := ⟨w.heap.size + 1, 3, none⟩) (by simp) _).setCell (p := ⟨w.heap.size + 1, 4, none⟩) (by simp) _)⟩
  | none =>
    have hlook := HLK.out
    rw [hf] at hlook
    simp only [Option.getD_none] at hlook
    have hlook0 := hlook 0
    have HMEM : Hid (∀ q : Nat, mem (fun _ => 0) q = true ↔ ∃ r ∈ R, r.key = (s, a, b, c) ∧ r.to = (q : Int)) := Lib.hid (fun q => by
      constructor
      · intro hq; simp [mem] at hq
      · rintro ⟨r, h1, h2, h3⟩
        obtain ⟨x, hx, hxk, _⟩ := HM.out.full r h1
        have := HT1.out.fs x hx
        rw [show x.kl = klOf s a b c by
          rw [h2] at hxk
          unfold GB.key at hxk
          simp only [Prod.mk.injEq] at hxk
          obtain ⟨h4, h5, h6, h7⟩ := hxk
          unfold GB.kl
          rw [h4, h5, h6, h7], hf] at this
        cases this)
    clear hf HLK
    go_enter Tryd.func99, Tryd.ntmps99
    go_wp2_with fail
    go_quiet (fail)
    go_wp2_with fail
    refine bodyPost_ret (v := setV (fun _ => 0)) (results_cell_row rfl _ _ (w.heap.size + 1) 79 _ (0, 0) _ rfl ((((((HN1.out.below (below_drewN (Below.refl _ _) _) HN1.out.lt).set_ 0 _).set_ 1 _).set_ 2 _).set_ 3 _).set_ 4 _) Tryd.underlying79 rfl Tryd.infoSet) rfl ⟨⟨_, rfl, fun _ => (by simp : (0 : Nat) < 18446744073709551616), HMEM.out⟩, ((((((below_drewN HB.out _).setCell (p := ⟨w.heap.size + 1, 0, none⟩) (by simp) _).setCell (p := ⟨w.heap.size + 1, 1, none⟩) (by simp) _).setCell (p := ⟨w.heap.size + 1, 2, none⟩) (by simp) _).setCell (p := ⟨w.heap.size + 1, 3, none⟩) (by simp) _).setCell (p := ⟨w.heap.size + 1, 4, none⟩) (by simp) _)⟩

end Go.Proofs.YtopineheelkcmaaDoor
