/- rule.NewTable. -/
import Derived.Test.YtedfldbknjcnlaaDoorTab
import Derived.Test.YtedfldbknjcnlaaDoorFG3
import Derived.Test.YtedfldbknjcnlaaDoorIns
import Derived.Deep.RegionHeld3
import Derived.Laws.OwnMore
namespace Go.Proofs.YtedfldbknjcnlaaDoor
open Go.RowKit Go.Shelf

def ksOf (R : List Ru) : List Lit := R.map (fun r => klOf r.sym (r.fr.getD 0 0) (r.fr.getD 1 0) (r.fr.getD 2 0))

/-- What a rule of a valid automaton is. -/
structure RuV (n : Nat) (r : Ru) : Prop where
  sym : ∃ s : Nat, r.sym = (s : Int) ∧ s < n
  to : ∃ q : Nat, r.to = (q : Int) ∧ q < 320
  len : r.fr.length ≤ 3
  fr : ∀ x ∈ r.fr, 0 ≤ x ∧ x < 300

theorem own_full {w : World} {base g n : Nat} {e : TypeId} {xs : List Value} (h : w.ownsRow base e 1 (.slice (some ⟨g, 0, none⟩) n n) n xs) : Blk w g e xs.toArray := by
  rcases h.2 with ⟨e2, _⟩ | ⟨g', cap, cur, e2, _, hg, _, _, hs, ht⟩
  · cases e2
  · simp only [Value.slice.injEq, Option.some.injEq, Addr.mk.injEq] at e2
    obtain ⟨⟨rfl, _⟩, _, rfl⟩ := e2
    have : cur = xs.toArray := by
      rw [← ht, Nat.mul_one, List.take_of_length_le (by simp; omega)]
    rw [← this]; exact hg
theorem Tryd.infoPG : (Tryd.prog.info? 106).map (fun i => (i.zero, i.size, i.bytes)) = some (some (.pointer none), 1, 8) := by kernel_rfl
theorem Tryd.infoSG : (Tryd.prog.info? 109).map (fun i => (i.zero, i.size, i.bytes)) = some (some (.slice none 0 0), 1, 24) := by kernel_rfl
theorem wpList_mp_put {P : Program} (w : World) {ops : Array Oper} {rest : List Oper} {o : Oper} {a : Act} {Q : Exit → Act → World → Prop}
    (hg : o.guard = none) (m x v : Operand) (t : TypeId) (hop : o.op = Op.mapUpdate t m x v)
    (k e : TypeId) (K : Maps.Keyed P k) (ht : P.underlying t = some (.map k e)) (ks : List Lit) (b : Nat) (f : Lit → Option Value)
    (hm : a.eval m = .map (some b)) (hown : IsMp P k ks w b f) (hn : ks.length < maxLen) (key val : Value) (kl : Lit) (hx : a.eval x = key) (hv : a.eval v = val) (hkey : keyOf P k key = some kl) (hks : kl ∈ ks)
    (hK : ∀ w', IsMp P k ks w' b (putF f kl val) → w.grownBy w' (some b) → wpList P ops Q rest (a.put o.dst undef) w') :
    wpList P ops Q (o :: rest) a w := by
  refine wpList_plain hg fun K' hK' => ?_
  obtain ⟨w', hrun, r1, r2⟩ := hown.put K ht (val := val) hkey hks hn
  unfold Oper.wp
  simp [execOp, hop, hm, hx, hv, hrun, Result.andThen]
  exact hK' _ _ (hK w' r1 r2)
theorem own_slice {w : World} {B : Nat} {e : TypeId} {size n : Nat} {v : Value} {xs : List Value} (h : w.ownsRow B e size v n xs) : ∃ a m c, v = .slice a m c := by
  rcases h.2 with ⟨e2, _⟩ | ⟨g, cap, cur, e2, _⟩
  · exact ⟨_, _, _, e2⟩
  · exact ⟨_, _, _, e2⟩
theorem zero_PG (w : World) : (zeroValue 106).run Tryd.prog w = .ok (.pointer none) w := by kernel_rfl
theorem wf_small {x : Int} (h0 : 0 ≤ x) (h1 : x < 1000000) : (Lit.int .i64 x).wf = true := by simp [Lit.wf, IntKind.min, IntKind.max, IntKind.bits, IntKind.signed]; omega
theorem tab_start {W : World} {B G n : Nat} (ks : List Lit) (hB : B ≤ G) (hs : B ≤ W.heap.size) (hG : Blk W G 109 (List.replicate n (Value.slice none 0 0)).toArray) :
    Tab B ks (W.heap.size + 1) G W.heap.size n ((W.alloc (.map #[] 0)).alloc (.cells #[.slice (some ⟨G, 0, none⟩) n n, .map (some W.heap.size)] 105)) [] (List.replicate n (Value.slice none 0 0)) (fun _ => none) where
  t := by simpa using Blk.new (W.alloc (.map #[] 0)) 105 #[.slice (some ⟨G, 0, none⟩) n n, .map (some W.heap.size)]
  g := (hG.alloc _).alloc _
  len := List.length_replicate
  row s v hs := by
    rw [List.getElem?_replicate] at hs
    split at hs
    · cases hs; exact World.ownsRow_nil _ _ _ _
    · cases hs
  apart s s' v v' b _ h1 _ hb := by
    rw [List.getElem?_replicate] at h1
    split at h1
    · cases h1; cases hb
    · cases h1
  gb x hx := by cases hx
  blks := List.Pairwise.nil
  mp := (IsMp.made W Tryd.prog 97 ks).kp ((Kp.refl (fun _ => True) _).alloc _) trivial
  fs x hx := by cases hx
  fn kl v h := by cases h
  ge := ⟨by omega, hB, hs⟩

set_option maxRecDepth 100000 in
set_option maxHeartbeats 2000000 in
theorem newTable_ok (al : List Int) (A : Au) (av v : Value) (w : World) (ha : IsInts w av al) (hA : IsAu w v A) (hal : al.length ≤ 1000) (hru : A.ru.length ≤ 20000) (hr : ∀ r ∈ A.ru, RuV al.length r) :
    Calls Tryd.prog 53 #[.agg #[av], v] w fun e w' => (∃ T G M GL rows f, e = .returned (.pointer (some ⟨T, 0, none⟩)) ∧ Tab (w.heap.size + 2) (ksOf A.ru) T G M al.length w' GL rows f ∧ Means A.ru GL ∧ GL.length ≤ A.ru.length) ∧ Below w.heap.size w w' := by
  have HA := Lib.hid hA
  have HAL := Lib.hid ha
  have HRV := Lib.hid hr
  obtain ⟨fv, rv, rfl, hf, hrr⟩ := hA
  obtain ⟨st, fin, ru⟩ := A
  simp only at *
  have hbw : Below w.heap.size w ((w.alloc (.cells #[av] 24)).alloc (.cells #[.int .i64 st, fv, rv] 27)) := ((Below.refl _ w).alloc (Nat.le_refl _) _).alloc (by simp) _
  have HX0 := Lib.hid ((Blk.new w 24 #[av]).alloc (.cells #[.int .i64 st, fv, rv] 27))
  have HX1 : Hid (Blk ((w.alloc (.cells #[av] 24)).alloc (.cells #[.int .i64 st, fv, rv] 27)) (w.heap.size + 1) 27 #[.int .i64 st, fv, rv]) := Lib.hid (by simpa using Blk.new (w.alloc (.cells #[av] 24)) 27 #[.int .i64 st, fv, rv])
  have HB := Lib.hid hbw
  have HRU := Lib.hid hrr
  obtain ⟨p1, c1, rfl, _⟩ := hf
  obtain ⟨p2, c2, rfl, hr3, hr4, hrc⟩ := hrr
  obtain ⟨pa, ca, rfl, ha3, ha4, _⟩ := ha
  unfold maxLen at hr4 ha4
  have HRC := Lib.hid hrc
  obtain ⟨i0, hi, hz0, hz1, hz2⟩ := info_parts Tryd.infoSG
  obtain ⟨i1, hi1, hy0, hy1, hy2⟩ := info_parts Tryd.infoPG
  have HI := Lib.hid hi
  have HI1 := Lib.hid hi1
  clear hrc hbw hr hi hi1
  go_enter Tryd.func53, Tryd.ntmps53
  go_wp2_with (at_make; refine wpList_make_full _ rfl _ _ 102 rfl (w.heap.size + 2) 109 i0 _ 1 Tryd.underlying102 HI.out hz0 hz1 _ _ _ _ al.length rfl rfl ?d1 ?d2 ?d3 ?d4 ?d5 ?_)
  case d1 => rfl
  case d2 => rfl
  case d3 => rw [hz2]; omega
  case d4 => simp only [maxLen]; omega
  case d5 => simp
  intro w2 hown hgrow
  have hG := own_full hown
  rw [toList_madeCells_one] at hG
  have hGl := hG.lt
  try simp only [World.size_alloc] at hGl
  try simp only [World.size_alloc] at hG
  have HB2 : Hid (Below w.heap.size w w2) := Lib.hid (HB.out.grown hgrow (by simp; omega) (fun j e => by simp at e))
  have hx1 : Blk w2 (w.heap.size + 1) 27 #[.int .i64 st, .slice p1 fin.length c1, .slice p2 ru.length c2] := (hgrow.block _ HX1.out.lt (by simp)).trans HX1.out
  have z2 : w2.cell? ⟨w.heap.size + 1, 2, none⟩ = some (.slice p2 ru.length c2) := by rw [hx1.cell]; rfl
  have l1 := hx1.lt
  have z2' : ((w2.alloc (.map #[] 0)).alloc (.cells #[.slice (some ⟨w.heap.size + 1 + 1, 0, none⟩) al.length al.length, .map (some w2.heap.size)] 105)).cell? ⟨w.heap.size + 1, 2, none⟩ = some (.slice p2 ru.length c2) := by rw [((hx1.alloc _).alloc _).cell]; rfl
  have HTAB := Lib.hid (tab_start (B := w.heap.size + 2) (ksOf ru) (by omega) (by omega) hG)
  have HBW : Hid (Below w.heap.size w ((w2.alloc (.map #[] 0)).alloc (.cells #[.slice (some ⟨w.heap.size + 1 + 1, 0, none⟩) al.length al.length, .map (some w2.heap.size)] 105))) := Lib.hid ((HB2.out.alloc HB2.out.size _).alloc (by have := HB2.out.size; simp; omega) _)
  have hmm := @run_makeMap Tryd.prog
  clear hown hgrow hG hx1
  go_wp2_with fail
  clear hmm
  go_loopw [20] (fun iv wr => ∃ (k : Nat) (GL : List GB) (rows : List Value) (f : Lit → Option Value), iv = .int .i64 (k : Nat) ∧ k ≤ ru.length ∧ Hid (Tab (w.heap.size + 2) (ksOf ru) (w2.heap.size + 1) (w.heap.size + 1 + 1) w2.heap.size al.length wr GL rows f) ∧ Hid (Means (ru.take k) GL) ∧ Hid (GL.length ≤ k) ∧ Hid (Below w.heap.size w wr))
    (fun iv _ => ru.length - (intOf iv).toNat)
  case atStart => exact ⟨0, [], _, _, rfl, by omega, HTAB, Lib.hid Means.nil, Lib.hid (Nat.le_refl _), HBW⟩
  case round =>
    rename World => wr
    obtain ⟨k, GL, rows, f, rfl, hk, HT, HM, HGL, HBr⟩ := hrel
    by_cases hlt : k < ru.length
    · obtain ⟨r, hrk⟩ : ∃ r, ru[k]? = some r := ⟨_, List.getElem?_eq_getElem hlt⟩
      obtain ⟨b, o, rfl, hcl⟩ := HRC.out (fun h => by simp [h] at hlt)
      obtain ⟨q0, ⟨u, q1, hu⟩, q2⟩ := (hcl k r hrk).below HBr.out
      have hrm : r ∈ ru := List.mem_of_getElem? hrk
      obtain ⟨⟨s, hs1, hs2⟩, ⟨q, hq1, hq2⟩, hl3, hfr⟩ := HRV.out r hrm
      have HKS : Hid (klOf r.sym (r.fr.getD 0 0) (r.fr.getD 1 0) (r.fr.getD 2 0) ∈ ksOf ru) := Lib.hid (List.mem_map_of_mem (f := fun r : Ru => klOf r.sym (r.fr.getD 0 0) (r.fr.getD 1 0) (r.fr.getD 2 0)) hrm)
      have HTK : Hid (ru.take (k + 1) = ru.take k ++ [r]) := Lib.hid (by rw [List.take_add_one, hrk]; rfl)
      obtain ⟨sym, fr, to⟩ := r
      simp only at q0 q1 q2 hu hs1 hq1 hl3 hfr HKS
      subst hs1 hq1
      have hgd : ∀ i, 0 ≤ fr.getD i 0 ∧ fr.getD i 0 < 300 := fun i => by
        rw [List.getD_eq_getElem?_getD]
        cases h : fr[i]? with
        | none => simp
        | some x => exact hfr x (List.mem_of_getElem? h)
      have HU := Lib.hid hu
      obtain ⟨pu, cu, rfl, hu3, hu4, _⟩ := hu
      unfold maxLen at hu4
      have hbl := World.block_lt_of_cell? _ _ q0
      simp only at hbl
      have hba : Below wr.heap.size wr (wr.alloc (.cells #[.int .i64 (s : Int), .slice pu fr.length cu, .int .i64 (q : Int)] 70)) := (Below.refl _ wr).alloc (Nat.le_refl _) _
      have HH := Lib.hid (headOf_ok (s : Int) fr (.slice pu fr.length cu) _ (HU.out.below hba) hl3)
      have HBA := Lib.hid hba
      have HN0 := Lib.hid (Blk.new wr 70 #[.int .i64 (s : Int), .slice pu fr.length cu, .int .i64 (q : Int)])
      have hlt1 : (k : Int) < (ru.length : Int) := by omega
      unfold hdV keyV at HH
      obtain ⟨g0, hg0⟩ : ∃ g, g = fr.getD 0 0 := ⟨_, rfl⟩
      obtain ⟨g1, hg1⟩ : ∃ g, g = fr.getD 1 0 := ⟨_, rfl⟩
      obtain ⟨g2, hg2⟩ : ∃ g, g = fr.getD 2 0 := ⟨_, rfl⟩
      rw [← hg0, ← hg1, ← hg2] at HH HKS
      have w0 : (Lit.int .i64 (s : Int)).wf = true := wf_small (by omega) (by omega)
      have w1 : (Lit.int .i64 g0).wf = true := wf_small (by rw [hg0]; exact (hgd 0).1) (by have := (hgd 0).2; rw [hg0]; omega)
      have w2' : (Lit.int .i64 g1).wf = true := wf_small (by rw [hg1]; exact (hgd 1).1) (by have := (hgd 1).2; rw [hg1]; omega)
      have w3 : (Lit.int .i64 g2).wf = true := wf_small (by rw [hg2]; exact (hgd 2).1) (by have := (hgd 2).2; rw [hg2]; omega)
      have HKO := Lib.hid (hd_keyOf w0 w1 w2' w3)
      have HWF := Lib.hid (show (Lit.int .i64 (s : Int)).wf = true ∧ (Lit.int .i64 g0).wf = true ∧ (Lit.int .i64 g1).wf = true ∧ (Lit.int .i64 g2).wf = true from ⟨w0, w1, w2', w3⟩)
      have HKEY : Hid ((⟨(s : Int), fr, (q : Int)⟩ : Ru).key = ((s : Int), g0, g1, g2)) := Lib.hid (by unfold Ru.key; simp only; rw [← hg0, ← hg1, ← hg2])
      unfold keyV at HKO
      clear hrk hcl hfr hgd hba hg0 hg1 hg2 w0 w1 w2' w3 hrm
      go_wp2_with fail
      refine HH.out.mono ?_
      rintro e wh ⟨rfl, hbh⟩
      have hb1 : Below wr.heap.size wr wh := HBA.out.trans (hbh.mono (by simp))
      have hN0 := HN0.out.below hbh (by simp)
      have HT1 := Lib.hid (HT.out.below (hb1.alloc hb1.size (.cells #[.int .i64 (s : Int), .int .i64 g0, .int .i64 g1, .int .i64 g2] 97)))
      have HBH : Hid (Below wr.heap.size wr (wh.alloc (.cells #[.int .i64 (s : Int), .int .i64 g0, .int .i64 g1, .int .i64 g2] 97))) := Lib.hid (hb1.alloc hb1.size _)
      have HN1 := Lib.hid (hN0.alloc (.cells #[.int .i64 (s : Int), .int .i64 g0, .int .i64 g1, .int .i64 g2] 97))
      have HN2 := Lib.hid (Blk.new wh 97 #[.int .i64 (s : Int), .int .i64 g0, .int .i64 g1, .int .i64 g2])
      have hX : World := wh.alloc (.cells #[.int .i64 (s : Int), .int .i64 g0, .int .i64 g1, .int .i64 g2] 97)
      clear hX
      have hlook : ∀ n : Nat, (Instr.lookup 103 (.map (some w2.heap.size)) (.agg #[.int .i64 (s : Int), .int .i64 g0, .int .i64 g1, .int .i64 g2]) false).run Tryd.prog ((wh.alloc (.cells #[.int .i64 (s : Int), .int .i64 g0, .int .i64 g1, .int .i64 g2] 97)).drewN n) = .ok ((f (klOf (s : Int) g0 g1 g2)).getD (.pointer none)) ((wh.alloc (.cells #[.int .i64 (s : Int), .int .i64 g0, .int .i64 g1, .int .i64 g2] 97)).drewN n) := fun n =>
        (HT1.out.mp.heap (w' := (wh.alloc (.cells #[.int .i64 (s : Int), .int .i64 g0, .int .i64 g1, .int .i64 g2] 97)).drewN n) rfl).look hd_keyed Tryd.underlying103 (zero_PG _) HKO.out
      have hlook0 := hlook 0
      have t0 : (wh.alloc (.cells #[.int .i64 (s : Int), .int .i64 g0, .int .i64 g1, .int .i64 g2] 97)).cell? ⟨w2.heap.size + 1, 0, none⟩ = some (.slice (some ⟨w.heap.size + 1 + 1, 0, none⟩) al.length al.length) := by rw [HT1.out.t.cell]; rfl
      have t1 : (wh.alloc (.cells #[.int .i64 (s : Int), .int .i64 g0, .int .i64 g1, .int .i64 g2] 97)).cell? ⟨w2.heap.size + 1, 1, none⟩ = some (.map (some w2.heap.size)) := by rw [HT1.out.t.cell]; rfl
      have k0 : (wh.alloc (.cells #[.int .i64 (s : Int), .int .i64 g0, .int .i64 g1, .int .i64 g2] 97)).cell? ⟨wh.heap.size, 0, none⟩ = some (.int .i64 (s : Int)) := by rw [HN2.out.cell]; rfl
      have k1 : (wh.alloc (.cells #[.int .i64 (s : Int), .int .i64 g0, .int .i64 g1, .int .i64 g2] 97)).cell? ⟨wh.heap.size, 1, none⟩ = some (.int .i64 g0) := by rw [HN2.out.cell]; rfl
      have k2 : (wh.alloc (.cells #[.int .i64 (s : Int), .int .i64 g0, .int .i64 g1, .int .i64 g2] 97)).cell? ⟨wh.heap.size, 2, none⟩ = some (.int .i64 g1) := by rw [HN2.out.cell]; rfl
      have k3 : (wh.alloc (.cells #[.int .i64 (s : Int), .int .i64 g0, .int .i64 g1, .int .i64 g2] 97)).cell? ⟨wh.heap.size, 3, none⟩ = some (.int .i64 g2) := by rw [HN2.out.cell]; rfl
      have htl := HT1.out.t.lt
      have HLK := Lib.hid hlook
      clear hlook hlook0
      cases hf : f (klOf (s : Int) g0 g1 g2) with
      | some pv =>
        obtain ⟨y, hy, hyk, hpv⟩ := HT1.out.fn _ _ hf
        have hlook := HLK.out
        rw [hf] at hlook
        simp only [Option.getD_some, hpv, GB.ptr] at hlook
        have hlook0 := hlook 0
        have HY := Lib.hid hy
        have HYK := Lib.hid hyk
        clear hf hpv pv hy hyk HLK
        go_wp2_with fail
        go_quiet (fail)
        go_wp2_with fail
        have HX1 := Lib.hid (Below.refl wr.heap.size wr)
        have hyy := HT1.out.gb y HY.out
        have HADD := Lib.hid (add_ok (((wh.alloc (.cells #[.int .i64 (s : Int), .int .i64 g0, .int .i64 g1, .int .i64 g2] 97)).drewN nq).drew) y.blk 108 y.pre [] y.W q (q : Int) 4 rfl rfl hq2 hyy.1 hyy.2.1)
        have hst : ∀ W : World, W.heap = (wh.alloc (.cells #[.int .i64 (s : Int), .int .i64 g0, .int .i64 g1, .int .i64 g2] 97)).heap → W.cell? ⟨wr.heap.size, 2, none⟩ = some (.int .i64 (q : Int)) := fun W hW => by
          have h : Blk W wr.heap.size 70 #[.int .i64 (s : Int), .slice pu fr.length cu, .int .i64 (q : Int)] := by
            have := HN1.out
            unfold Blk at this ⊢
            rw [hW]; exact this
          rw [h.cell]; rfl
        have HST := Lib.hid hst
        have HSK : Hid (∀ W W' : World, Kp (fun c => c ≠ y.blk) W W' → W.heap = (wh.alloc (.cells #[.int .i64 (s : Int), .int .i64 g0, .int .i64 g1, .int .i64 g2] 97)).heap → W'.cell? ⟨wr.heap.size, 2, none⟩ = some (.int .i64 (q : Int))) := Lib.hid (fun W W' hk hW => by
          have h : Blk W wr.heap.size 70 #[.int .i64 (s : Int), .slice pu fr.length cu, .int .i64 (q : Int)] := by
            have := HN1.out
            unfold Blk at this ⊢
            rw [hW]; exact this
          rw [(h.kp hk (HN1.out.ne_ hyy.1 (by decide))).cell]; rfl)
        have HKY : Hid ((⟨(s : Int), fr, (q : Int)⟩ : Ru).key = y.key) := Lib.hid (by
          obtain ⟨a1, a2, a3, a4⟩ := hyy.2.2.2
          obtain ⟨b1, b2, b3, b4⟩ := HWF.out
          obtain ⟨e1, e2, e3, e4⟩ := kl_inj a1 a2 a3 a4 b1 b2 b3 b4 HYK.out
          rw [HKEY.out, GB.key, e1, e2, e3, e4])
        have HTX : Hid (Tab (w.heap.size + 2) (ksOf ru) (w2.heap.size + 1) (w.heap.size + 1 + 1) w2.heap.size al.length (((wh.alloc (.cells #[.int .i64 (s : Int), .int .i64 g0, .int .i64 g1, .int .i64 g2] 97)).drewN nq).drew) GL rows f) := Lib.hid (HT1.out.below (below_drewN (Below.refl _ _) nq).drew)
        have HBX : Hid (Below w.heap.size w (((wh.alloc (.cells #[.int .i64 (s : Int), .int .i64 g0, .int .i64 g1, .int .i64 g2] 97)).drewN nq).drew)) := Lib.hid (HBr.out.trans ((below_drewN HBH.out nq).drew.mono HBr.out.size))
        have hyw : w.heap.size ≤ y.blk := by have := hyy.2.2.1; omega
        clear hst hyy HX1 t0 t1 k0 k1 k2 k3 hlook hlook0 q0 q1 q2
        go_region_held3 (fun W => W.cell? ⟨wr.heap.size, 2, none⟩ = some (.int .i64 (q : Int)))
          (first | exact HST.out _ rfl | exact HS9.out)
          (first
            | (go_at_call 80; refine HADD.out.mono ?_; rintro e w9 ⟨rfl, hr9, hk9⟩; have HR9 := Lib.hid hr9; have HK9 := Lib.hid hk9; have HS9 := Lib.hid (HSK.out _ w9 hk9 rfl); clear hr9 hk9))
        have HT9 := Lib.hid (HTX.out.add HY.out HR9.out HK9.out)
        have HB9 : Hid (Below w.heap.size w w9) := Lib.hid (HBX.out.trans (HK9.out.below HBX.out.size (fun c hc e => by omega)))
        have HM9 : Hid (Means (ru.take (k + 1)) (GL.map (setW y.blk q))) := Lib.hid (by rw [HTK.out]; exact HM.out.add HTX.out.blks HY.out HKY.out rfl)
        go_wp2_with fail
        refine ⟨⟨k + 1, _, rows, f, by go_num, by omega, HT9, HM9, Lib.hid (by rw [List.length_map]; have := HGL.out; omega), HB9⟩, ?_⟩
        simp [intOf]; omega
      | none =>
        have hlook := HLK.out
        rw [hf] at hlook
        simp only [Option.getD_none] at hlook
        have hlook0 := hlook 0
        have HFN : Hid (∀ x ∈ GL, x.key ≠ ((s : Int), g0, g1, g2)) := Lib.hid (fun x hx e => by
          have h := HT1.out.fs x hx
          simp only [GB.key, Prod.mk.injEq] at e
          obtain ⟨e1, e2, e3, e4⟩ := e
          rw [GB.kl, e1, e2, e3, e4, hf] at h
          cases h)
        clear hf HLK
        go_wp2_with fail
        go_quiet (fail)
        go_wp2_with fail
        have hb1 : Below (wh.alloc (.cells #[.int .i64 (s : Int), .int .i64 g0, .int .i64 g1, .int .i64 g2] 97)).heap.size (wh.alloc (.cells #[.int .i64 (s : Int), .int .i64 g0, .int .i64 g1, .int .i64 g2] 97)) (((wh.alloc (.cells #[.int .i64 (s : Int), .int .i64 g0, .int .i64 g1, .int .i64 g2] 97)).drewN nq).alloc (.cells #[.int .i64 (s : Int), .int .i64 g0, .int .i64 g1, .int .i64 g2, .int .u64 0, .int .u64 0, .int .u64 0, .int .u64 0, .int .u64 0] 108)) := Below.alloc (below_drewN (Below.refl (wh.alloc (.cells #[.int .i64 (s : Int), .int .i64 g0, .int .i64 g1, .int .i64 g2] 97)).heap.size (wh.alloc (.cells #[.int .i64 (s : Int), .int .i64 g0, .int .i64 g1, .int .i64 g2] 97))) nq) (Nat.le_refl _) _
        have HTW := Lib.hid (HT1.out.below hb1)
        have HN1w := Lib.hid (HN1.out.below hb1 HN1.out.lt)
        have HN2w := Lib.hid (HN2.out.below hb1 HN2.out.lt)
        have HGW := Lib.hid (Blk.new ((wh.alloc (.cells #[.int .i64 (s : Int), .int .i64 g0, .int .i64 g1, .int .i64 g2] 97)).drewN nq) 108 #[.int .i64 (s : Int), .int .i64 g0, .int .i64 g1, .int .i64 g2, .int .u64 0, .int .u64 0, .int .u64 0, .int .u64 0, .int .u64 0])
        have HBW1 : Hid (Below w.heap.size w (((wh.alloc (.cells #[.int .i64 (s : Int), .int .i64 g0, .int .i64 g1, .int .i64 g2] 97)).drewN nq).alloc (.cells #[.int .i64 (s : Int), .int .i64 g0, .int .i64 g1, .int .i64 g2, .int .u64 0, .int .u64 0, .int .u64 0, .int .u64 0, .int .u64 0] 108))) := Lib.hid (HBr.out.trans ((HBH.out.trans (hb1.mono HBH.out.size)).mono HBr.out.size))
        have HB01 := Lib.hid hb1
        have hsz : ((wh.alloc (.cells #[.int .i64 (s : Int), .int .i64 g0, .int .i64 g1, .int .i64 g2] 97)).drewN nq).heap.size = wh.heap.size + 1 := World.size_alloc _ _
        rw [hsz] at HGW
        have HT1s : Hid (wh.heap.size + 1 = ((wh.alloc (.cells #[.int .i64 (s : Int), .int .i64 g0, .int .i64 g1, .int .i64 g2] 97))).heap.size) := Lib.hid (World.size_alloc _ _).symm
        clear t0 t1 k0 k1 k2 k3 hlook hlook0 q0 q1 q2 hb1 hsz HT1s
        generalize (((wh.alloc (.cells #[.int .i64 (s : Int), .int .i64 g0, .int .i64 g1, .int .i64 g2] 97)).drewN nq).alloc (.cells #[.int .i64 (s : Int), .int .i64 g0, .int .i64 g1, .int .i64 g2, .int .u64 0, .int .u64 0, .int .u64 0, .int .u64 0, .int .u64 0] 108)) = W1 at *
        have HTD : Hid (Tab (w.heap.size + 2) (ksOf ru) (w2.heap.size + 1) (w.heap.size + 1 + 1) w2.heap.size al.length W1.drew GL rows f) := Lib.hid (HTW.out.below (Below.refl _ _).drew)
        have t1 : W1.cell? ⟨w2.heap.size + 1, 1, none⟩ = some (.map (some w2.heap.size)) := by rw [HTW.out.t.cell]; rfl
        have k0 : W1.cell? ⟨wh.heap.size, 0, none⟩ = some (.int .i64 (s : Int)) := by rw [HN2w.out.cell]; rfl
        have k1 : W1.cell? ⟨wh.heap.size, 1, none⟩ = some (.int .i64 g0) := by rw [HN2w.out.cell]; rfl
        have k2 : W1.cell? ⟨wh.heap.size, 2, none⟩ = some (.int .i64 g1) := by rw [HN2w.out.cell]; rfl
        have k3 : W1.cell? ⟨wh.heap.size, 3, none⟩ = some (.int .i64 g2) := by rw [HN2w.out.cell]; rfl
        have htl := HTW.out.t.lt
        have hnl := HN2w.out.lt
        have HKL : Hid ((ksOf ru).length < maxLen) := Lib.hid (by rw [ksOf, List.length_map]; unfold maxLen; omega)
        go_still_tail 6, (by kernel_rfl)
        change wpList _ _ _ _ _ W1.drew
        refine wpList_mp_put _ rfl _ _ _ 103 rfl 97 106 hd_keyed Tryd.underlying103 (ksOf ru) w2.heap.size f rfl HTD.out.mp HKL.out _ _ _ rfl rfl HKO.out HKS.out ?_
        intro W2 hmp hgr2
        have HKM : Hid (Kp (fun c => c ≠ w2.heap.size) W1 W2) := Lib.hid ((Kp.refl _ W1).drew.grown hgr2 (fun k e hS => absurd (Option.some.inj e).symm hS))
        obtain ⟨va, hva⟩ : ∃ va, rows[s]? = some va := ⟨_, List.getElem?_eq_getElem (by rw [HTW.out.len]; exact hs2)⟩
        have hrow := HTW.out.row s va hva
        have hMG : w.heap.size + 1 + 1 ≠ w2.heap.size := HTW.out.mp.ne_blk HTW.out.g
        have hMT : w2.heap.size + 1 ≠ w2.heap.size := HTW.out.mp.ne_blk HTW.out.t
        have hvM : va.ownBlock ≠ some w2.heap.size := fun e => by
          obtain ⟨cur, hc, _⟩ := own_cells hrow e
          exact HTW.out.mp.ne_blk hc rfl
        have hvo : ∀ {c : Nat} {t : TypeId} {cs : Array Value}, Blk W1 c t cs → t ≠ 106 → va.ownBlock ≠ some c := fun hc ht e => by
          obtain ⟨cur, hcur, _⟩ := own_cells hrow e
          exact hc.ne_ hcur ht rfl
        have HOWN : Hid (W2.ownsRow (w.heap.size + 2) 106 1 va (ptrs (rowsOf s GL)).length (ptrs (rowsOf s GL))) := Lib.hid (ownsRow_kp hrow HKM.out (fun b hb e => hvM (e ▸ hb)))
        have HG2 : Hid (Blk W2 (w.heap.size + 1 + 1) 109 rows.toArray) := Lib.hid (HTW.out.g.kp HKM.out hMG)
        have HT2 : Hid (Blk W2 (w2.heap.size + 1) 105 #[.slice (some ⟨w.heap.size + 1 + 1, 0, none⟩) al.length al.length, .map (some w2.heap.size)]) := Lib.hid (HTW.out.t.kp HKM.out hMT)
        have HR2 : Hid (Blk W2 wr.heap.size 70 #[.int .i64 (s : Int), .slice pu fr.length cu, .int .i64 (q : Int)]) := Lib.hid (HN1w.out.kp HKM.out (HTW.out.mp.ne_blk HN1w.out))
        have HNG2 : Hid (Blk W2 (wh.heap.size + 1) 108 #[.int .i64 (s : Int), .int .i64 g0, .int .i64 g1, .int .i64 g2, .int .u64 0, .int .u64 0, .int .u64 0, .int .u64 0, .int .u64 0]) := Lib.hid (HGW.out.kp HKM.out (HTW.out.mp.ne_blk HGW.out))
        have HMP2 := Lib.hid hmp
        have HVA := Lib.hid hva
        have HVO : Hid (va.ownBlock ≠ some (w2.heap.size + 1) ∧ va.ownBlock ≠ some wr.heap.size ∧ va.ownBlock ≠ some (w.heap.size + 1 + 1) ∧ va.ownBlock ≠ some (wh.heap.size + 1) ∧ va.ownBlock ≠ some w2.heap.size) := Lib.hid ⟨hvo HTW.out.t (by decide), hvo HN1w.out (by decide), hvo HTW.out.g (by decide), hvo HGW.out (by decide), hvM⟩
        have HNE : Hid (w2.heap.size + 1 ≠ w.heap.size + 1 + 1 ∧ wr.heap.size ≠ w.heap.size + 1 + 1 ∧ wh.heap.size + 1 ≠ w.heap.size + 1 + 1 ∧ w2.heap.size ≠ w.heap.size + 1 + 1) := Lib.hid ⟨HTW.out.t.ne_ HTW.out.g (by decide), HN1w.out.ne_ HTW.out.g (by decide), HGW.out.ne_ HTW.out.g (by decide), fun e => hMG e.symm⟩
        have HRL : Hid ((ptrs (rowsOf s GL)).length ≤ 20000) := Lib.hid (by
          have h1 : (ptrs (rowsOf s GL)).length ≤ GL.length := by unfold ptrs rowsOf; rw [List.length_map]; exact List.length_filter_le _ _
          have := HGL.out
          omega)
        have hgt := HG2.out.lt
        have hbase : w.heap.size + 2 ≤ W2.heap.size := by omega
        have hcs : ∀ W : World, Kp (fun c => va.ownBlock ≠ some c) W2 W → (W.cell? ⟨w2.heap.size + 1, 0, none⟩ = some (.slice (some ⟨w.heap.size + 1 + 1, 0, none⟩) al.length al.length) ∧ W.cell? ⟨wr.heap.size, 0, none⟩ = some (.int .i64 (s : Int)) ∧ W.cell? ⟨w.heap.size + 1 + 1, s, none⟩ = some va) ∧ W.frozen? ⟨w.heap.size + 1 + 1, s, none⟩ = false ∧ w.heap.size + 1 + 1 < W.heap.size := fun W hW => by
          have h1 := HT2.out.kp hW HVO.out.1
          have h2 := HR2.out.kp hW HVO.out.2.1
          have h3 := HG2.out.kp hW HVO.out.2.2.1
          exact ⟨⟨by rw [h1.cell]; rfl, by rw [h2.cell]; rfl, by rw [h3.cell]; simpa using HVA.out⟩, h3.frozen _, h3.lt⟩
        have HCS := Lib.hid hcs
        have HC2 : Hid (∀ W : World, Kp (fun c => va.ownBlock ≠ some c ∧ c ≠ w.heap.size + 1 + 1) W2 W → W.cell? ⟨w2.heap.size + 1, 0, none⟩ = some (.slice (some ⟨w.heap.size + 1 + 1, 0, none⟩) al.length al.length) ∧ W.cell? ⟨wr.heap.size, 0, none⟩ = some (.int .i64 (s : Int))) := Lib.hid (fun W hW => by
          have h1 := HT2.out.kp hW ⟨HVO.out.1, HNE.out.1⟩
          have h2 := HR2.out.kp hW ⟨HVO.out.2.1, HNE.out.2.1⟩
          exact ⟨by rw [h1.cell]; rfl, by rw [h2.cell]; rfl⟩)
        have HKF : Hid (∀ W : World, Kp (fun c => va.ownBlock ≠ some c) W2 W → ∀ u, Kp (fun c => va.ownBlock ≠ some c ∧ c ≠ w.heap.size + 1 + 1) W2 (W.setCell ⟨w.heap.size + 1 + 1, s, none⟩ u)) := Lib.hid (fun W hW u => (hW.mono (fun _ _ h => h.1)).setCell (p := ⟨w.heap.size + 1 + 1, s, none⟩) (fun h => absurd rfl h.2) u)
        have c1 := (HCS.out W2.drew (Kp.refl _ _).drew).1.2.2
        have c2 := (HCS.out (W2.alloc (.cells #[.pointer (some ⟨wh.heap.size + 1, 0, none⟩)] 106)).drew ((Kp.refl _ W2).alloc _).drew).1.2.2
        have c0 := (HCS.out W2 (Kp.refl _ _)).1.2.2
        have c2' := (HCS.out (W2.alloc (.cells #[.pointer (some ⟨wh.heap.size + 1, 0, none⟩)] 106)) ((Kp.refl _ W2).alloc _)).1.2.2
        have HKN : Hid (∀ W : World, Kp (fun c => va.ownBlock ≠ some c) W2 W → Kp (fun c => va.ownBlock ≠ some c ∧ c ≠ w.heap.size + 1 + 1) W2 W) := Lib.hid (fun W hW => hW.mono (fun _ _ h => h.1))
        have HKX : Hid (∀ o : Obj, Kp (fun c => va.ownBlock ≠ some c) W2 (W2.alloc o).drew) := Lib.hid (fun o => ((Kp.refl _ W2).alloc o).drew)
        have HKG : Hid (∀ (o : Obj) (W : World), ((W2.alloc o).drew).grownBy W va.ownBlock → Kp (fun c => va.ownBlock ≠ some c) W2 W) := Lib.hid (fun o W hg => ((Kp.refl _ W2).alloc o).drew.grown hg (fun k e hS => absurd e hS))
        have HOX : Hid (∀ o : Obj, ((W2.alloc o).drew).ownsRow (w.heap.size + 2) 106 1 va (ptrs (rowsOf s GL)).length (ptrs (rowsOf s GL))) := Lib.hid (fun o => ownsRow_kp HOWN.out (((Kp.refl (fun _ => True) W2).alloc o).drew) (fun _ _ => trivial))
        have HONE : Hid (∀ u ∈ [Value.pointer (some ⟨wh.heap.size + 1, 0, none⟩)], u.oneCell' = true) := Lib.hid (fun u hu => by
          rw [List.mem_singleton] at hu; subst hu; rfl)
        have HM1 : Hid ((ptrs (rowsOf s GL)).length + 1 ≤ maxLen) := Lib.hid (by have := HRL.out; unfold maxLen; omega)
        have HM2 : Hid (((ptrs (rowsOf s GL)).length + 1) * 8 ≤ 140737488355328) := Lib.hid (by have := HRL.out; omega)
        have HBS : Hid (∀ o : Obj, w.heap.size + 2 ≤ ((W2.alloc o).drew).heap.size) := Lib.hid (fun o => Nat.le_trans hbase (sz_1 W2 o))
        have hs2i : (s : Int) < (al.length : Int) := by omega
        have ht2 := HT2.out.lt
        have hr2 := HR2.out.lt
        clear t1 k0 k1 k2 k3 htl hnl hmp hgr2 hva hrow hMG hMT hvM hvo hcs
        go_wp2_with fail
        refine wp_region_held_drew (S := (fun W => W.cell? ⟨w2.heap.size + 1, 0, none⟩ = some (.slice (some ⟨w.heap.size + 1 + 1, 0, none⟩) al.length al.length) ∧ W.cell? ⟨wr.heap.size, 0, none⟩ = some (.int .i64 (s : Int)))) (by kernel_rfl) (by (try dsimp only); first | exact HC2.out _ (HKN.out _ (Kp.refl _ _).drew) | exact HC2.out _ (HKN.out _ (HKX.out _)) | exact HC2.out _ (HKN.out _ HK3.out) | exact HC2.out _ (HKF.out _ HK3.out _)) (fun hHeld => ?_)
        refine wpAnyH_take (i := 0) (v := ?v0) rfl (by kernel_rfl) (by kernel_rfl) (by kernel_rfl) (fun _ _ _ h => h) (Or.inl ⟨by rfl, ?y0⟩) (by assumption) ?r0
        case y0 => (intro w hSw; (try dsimp only at hSw); go_simp); (try with_reducible rfl)
        (try simp only [Act.put, List.setIfInBounds_toArray, List.set_cons_zero, List.set_cons_succ])
        refine wpAnyH_take (i := 1) (v := ?v1) rfl (by kernel_rfl) (by kernel_rfl) (by kernel_rfl) (fun _ _ _ h => h) (Or.inl ⟨by rfl, ?y1⟩) (by assumption) ?r1
        case y1 => (intro w hSw; (try dsimp only at hSw); go_simp); (try with_reducible rfl)
        (try simp only [Act.put, List.setIfInBounds_toArray, List.set_cons_zero, List.set_cons_succ])
        refine wpAnyH_take (i := 2) (v := ?v2) rfl (by kernel_rfl) (by kernel_rfl) (by kernel_rfl) (fun _ _ _ h => h) (Or.inl ⟨by rfl, ?y2⟩) (by assumption) ?r2
        case y2 => (intro w hSw; (try dsimp only at hSw); go_simp); (try with_reducible rfl)
        (try simp only [Act.put, List.setIfInBounds_toArray, List.set_cons_zero, List.set_cons_succ])
        refine wpAnyH_take (i := 3) (v := ?v3) rfl (by kernel_rfl) (by kernel_rfl) (by kernel_rfl) (fun _ _ _ h => h) (Or.inl ⟨by rfl, ?y3⟩) (by assumption) ?r3
        case y3 => (intro w hSw; (try dsimp only at hSw); go_simp); (try with_reducible rfl)
        (try simp only [Act.put, List.setIfInBounds_toArray, List.set_cons_zero, List.set_cons_succ])
        refine wpAnyH_take (i := 4) (v := ?v4) rfl (by kernel_rfl) (by kernel_rfl) (by kernel_rfl) (fun _ _ _ h => h) (Or.inl ⟨by rfl, ?y4⟩) (by assumption) ?r4
        case y4 => (intro w hSw; (try dsimp only at hSw); go_simp); (try with_reducible rfl)
        (try simp only [Act.put, List.setIfInBounds_toArray, List.set_cons_zero, List.set_cons_succ])
        refine wpAnyH_take (i := 5) (v := ?v5) rfl (by kernel_rfl) (by kernel_rfl) (by kernel_rfl) (fun _ _ _ h => h) (Or.inl ⟨by rfl, ?y5⟩) (by assumption) ?r5
        case y5 => (intro w hSw; (try dsimp only at hSw); go_simp); (try with_reducible rfl)
        (try simp only [Act.put, List.setIfInBounds_toArray, List.set_cons_zero, List.set_cons_succ])
        refine wpAnyH_take (i := 6) (v := ?v6) rfl (by kernel_rfl) (by kernel_rfl) (by kernel_rfl) (fun _ _ _ h => h) (Or.inl ⟨by rfl, ?y6⟩) (by assumption) ?r6
        case y6 => (intro w hSw; (try dsimp only at hSw); go_simp); (try with_reducible rfl)
        (try simp only [Act.put, List.setIfInBounds_toArray, List.set_cons_zero, List.set_cons_succ])
        refine wpAnyH_take (i := 7) (v := ?v7) rfl (by kernel_rfl) (by kernel_rfl) (by kernel_rfl) (fun _ _ _ h => h) (Or.inl ⟨by rfl, ?y7⟩) (by assumption) ?r7
        case y7 => (intro w hSw; (try dsimp only at hSw); go_simp); (try with_reducible rfl)
        (try simp only [Act.put, List.setIfInBounds_toArray, List.set_cons_zero, List.set_cons_succ])
        refine wpAnyH_take (i := 8) (v := ?v8) rfl (by kernel_rfl) (by kernel_rfl) (by kernel_rfl) (fun _ _ _ h => h) (Or.inl ⟨by rfl, ?y8⟩) (by assumption) ?r8
        case y8 => (intro w hSw; (try dsimp only at hSw); go_simp); (try with_reducible rfl)
        (try simp only [Act.put, List.setIfInBounds_toArray, List.set_cons_zero, List.set_cons_succ])
        refine wpAnyH_take (i := 9) (v := ?v9) rfl (by kernel_rfl) (by kernel_rfl) (by kernel_rfl) (fun _ _ _ h => h) (Or.inl ⟨by rfl, ?y9⟩) (by assumption) ?r9
        case y9 => (intro w hSw; (try dsimp only at hSw); go_simp); (try with_reducible rfl)
        (try simp only [Act.put, List.setIfInBounds_toArray, List.set_cons_zero, List.set_cons_succ])
        refine wpAnyH_take (i := 10) (v := ?v10) rfl (by kernel_rfl) (by kernel_rfl) (by kernel_rfl) (fun _ _ _ h => h) (Or.inl ⟨by rfl, ?y10⟩) (by assumption) ?r10
        case y10 => (intro w hSw; (try dsimp only at hSw); go_simp); (try with_reducible rfl)
        (try simp only [Act.put, List.setIfInBounds_toArray, List.set_cons_zero, List.set_cons_succ])
        refine wpAnyH_take (i := 11) (v := ?v11) rfl (by kernel_rfl) (by kernel_rfl) (by kernel_rfl) (fun _ _ _ h => h) (Or.inl ⟨by rfl, ?y11⟩) (by assumption) ?r11
        case y11 => (intro w hSw; (try dsimp only at hSw); go_simp); (try with_reducible rfl)
        (try simp only [Act.put, List.setIfInBounds_toArray, List.set_cons_zero, List.set_cons_succ])
        refine wpAnyH_take (i := 12) (v := ?v12) rfl (by kernel_rfl) (by kernel_rfl) (by kernel_rfl) (fun _ _ _ h => h) (Or.inl ⟨by rfl, ?y12⟩) (by assumption) ?r12
        case y12 => (intro w hSw; (try dsimp only at hSw); go_simp); (try with_reducible rfl)
        (try simp only [Act.put, List.setIfInBounds_toArray, List.set_cons_zero, List.set_cons_succ])
        refine wpAnyH_take (i := 14) (v := ?v14) rfl (by kernel_rfl) (by kernel_rfl) (by kernel_rfl) (fun _ _ _ h => h) (Or.inl ⟨by rfl, ?y14⟩) (by assumption) ?r14
        case y14 => (intro w hSw; (try dsimp only at hSw); go_simp); (try with_reducible rfl)
        (try simp only [Act.put, List.setIfInBounds_toArray, List.set_cons_zero, List.set_cons_succ])
        refine wpAnyH_ready (rs := [13, 15]) (by kernel_rfl) (by simp) ?_
        refine AllReadyH.cons rfl (fun K hK => ?_) (AllReadyH.cons rfl (fun K hK => ?_) AllReadyH.nil)
        · skip
          go_simp
          refine hK.out _ _ (by (try dsimp only); first | exact HC2.out _ (HKN.out _ (Kp.refl _ _).drew) | exact HC2.out _ (HKN.out _ (HKX.out _)) | exact HC2.out _ (HKN.out _ HK3.out) | exact HC2.out _ (HKF.out _ HK3.out _)) (fun hHeld => ?_)
          clear hK K
          (try simp only [Act.put, List.setIfInBounds_toArray, List.set_cons_zero, List.set_cons_succ])
          refine wpAnyH_ready (rs := [15]) (by kernel_rfl) (by simp) ?_
          refine AllReadyH.cons rfl (fun K hK => ?_) AllReadyH.nil
          go_simp
          refine hK.out _ _ (by (try dsimp only); first | exact HC2.out _ (HKN.out _ (Kp.refl _ _).drew) | exact HC2.out _ (HKN.out _ (HKX.out _)) | exact HC2.out _ (HKN.out _ HK3.out) | exact HC2.out _ (HKF.out _ HK3.out _)) (fun hHeld => ?_)
          clear hK K
          (try simp only [Act.put, List.setIfInBounds_toArray, List.set_cons_zero, List.set_cons_succ])
          refine wpAnyH_ready (rs := [16]) (by kernel_rfl) (by simp) ?_
          refine AllReadyH.cons rfl (fun K hK => ?_) AllReadyH.nil
          refine step_append_own _ rfl (.tmp 59) (.tmp 61) 109 rfl (w.heap.size + 2) 106 i1 _ 1 8 Tryd.underlying109 HI1.out hy0 hy1 hy2 rfl (by decide) va (ptrs (rowsOf s GL)).length (ptrs (rowsOf s GL)) rfl (HOX.out _) _ 1 1 [.pointer (some ⟨wh.heap.size + 1, 0, none⟩)] rfl rfl (new_one (bk_11 W2 _ _)) HONE.out HM1.out HM2.out (HBS.out _) ?_
          intro v3 W3 ho3 hg3 hat3
          obtain ⟨a3, m3, k3, rfl⟩ := own_slice ho3
          have HO3 := Lib.hid ho3
          have HK3 := Lib.hid (HKG.out _ W3 hg3)
          have HAT := Lib.hid hat3
          have c3 := (HCS.out W3 HK3.out).1.2.2
          have f3 := (HCS.out W3 HK3.out).2.1
          have l3 := (HCS.out W3 HK3.out).2.2
          clear ho3 hg3 hat3
          refine hK.out _ _ (by (try dsimp only); first | exact HC2.out _ (HKN.out _ (Kp.refl _ _).drew) | exact HC2.out _ (HKN.out _ (HKX.out _)) | exact HC2.out _ (HKN.out _ HK3.out) | exact HC2.out _ (HKF.out _ HK3.out _)) (fun hHeld => ?_)
          clear hK K
          (try simp only [Act.put, List.setIfInBounds_toArray, List.set_cons_zero, List.set_cons_succ])
          refine wpAnyH_take (i := 17) (v := ?v17) rfl (by kernel_rfl) (by kernel_rfl) (by kernel_rfl) (fun _ _ _ h => h) (Or.inl ⟨by rfl, ?y17⟩) (by assumption) ?r17
          case y17 => (intro w hSw; (try dsimp only at hSw); go_simp); (try with_reducible rfl)
          (try simp only [Act.put, List.setIfInBounds_toArray, List.set_cons_zero, List.set_cons_succ])
          refine wpAnyH_ready (rs := [18]) (by kernel_rfl) (by simp) ?_
          refine AllReadyH.cons rfl (fun K hK => ?_) AllReadyH.nil
          go_simp
          refine hK.out _ _ (by (try dsimp only); first | exact HC2.out _ (HKN.out _ (Kp.refl _ _).drew) | exact HC2.out _ (HKN.out _ (HKX.out _)) | exact HC2.out _ (HKN.out _ HK3.out) | exact HC2.out _ (HKF.out _ HK3.out _)) (fun hHeld => ?_)
          clear hK K
          (try simp only [Act.put, List.setIfInBounds_toArray, List.set_cons_zero, List.set_cons_succ])
          refine wpAnyH_done (by kernel_rfl) ?_ _
          have HK5 := Lib.hid (HKF.out W3 HK3.out (.slice a3 m3 k3))
          have hsz0 : (wh.alloc (.cells #[.int .i64 (s : Int), .int .i64 g0, .int .i64 g1, .int .i64 g2] 97)).heap.size = wh.heap.size + 1 := World.size_alloc _ _
          have hsz1 := HB01.out.size
          have hsz2 := HKM.out.size
          have hK05 : Kp (fun c => c ≠ w2.heap.size ∧ c ≠ w.heap.size + 1 + 1 ∧ va.ownBlock ≠ some c) (wh.alloc (.cells #[.int .i64 (s : Int), .int .i64 g0, .int .i64 g1, .int .i64 g2] 97)) (W3.setCell ⟨w.heap.size + 1 + 1, s, none⟩ (.slice a3 m3 k3)) :=
            ((Kp.of_below (S := fun _ => True) HB01.out (fun k hk _ => hk)).mono (fun _ _ _ => trivial)).trans ((HKM.out.mono (fun _ _ h => h.1)).trans (HK5.out.mono (fun _ _ h => ⟨h.2.2, h.2.1⟩)))
          have hG3 := HG2.out.kp HK3.out HVO.out.2.2.1
          have hG5 : Blk (W3.setCell ⟨w.heap.size + 1 + 1, s, none⟩ (.slice a3 m3 k3)) (w.heap.size + 1 + 1) 109 (rows.set s (.slice a3 m3 k3)).toArray := by simpa using hG3.set_ s (.slice a3 m3 k3)
          have hO5 := ownsRow_kp HO3.out ((Kp.refl (fun c => c ≠ w.heap.size + 1 + 1) W3).setCell (p := ⟨w.heap.size + 1 + 1, s, none⟩) (fun h => absurd rfl h) (.slice a3 m3 k3)) (fun b hb => by
            obtain ⟨cur, hc, _⟩ := own_cells HO3.out hb
            exact hc.ne_ hG3 (by decide))
          have hT5 := HT1.out.new (y := ⟨wh.heap.size + 1, s, g0, g1, g2, fun _ => 0⟩) HVA.out rfl HWF.out (fun i => (by simp : (0 : Nat) < 18446744073709551616)) (by omega) (by rw [hsz0]; exact Nat.le_refl _) HFN.out hK05 (HMP2.out.kp HK5.out ⟨HVO.out.2.2.2.2, HNE.out.2.2.2⟩) hG5 hO5 (by
            rcases HAT.out with e | e
            · exact .inl e
            · refine .inr ⟨_, e, ?_⟩
              rw [hsz0]
              have := sz_1 W2 (.cells #[.pointer (some ⟨wh.heap.size + 1, 0, none⟩)] 106)
              omega) (HNG2.out.kp HK5.out ⟨HVO.out.2.2.2.1, HNE.out.2.2.1⟩)
          have HM5 := Lib.hid (HM.out.fresh (y := ⟨wh.heap.size + 1, s, g0, g1, g2, fun _ => 0⟩) HFN.out (fun q => by simp [mem]))
          have HT5 := Lib.hid hT5
          have HR5 := Lib.hid (HR2.out.kp HK5.out ⟨HVO.out.2.1, HNE.out.2.1⟩)
          have HB5 : Hid (Below w.heap.size w (W3.setCell ⟨w.heap.size + 1 + 1, s, none⟩ (.slice a3 m3 k3))) := Lib.hid (by
            have h0 := HBr.out
            have h1 : Below wr.heap.size wr (wh.alloc (.cells #[.int .i64 (s : Int), .int .i64 g0, .int .i64 g1, .int .i64 g2] 97)) := HBH.out
            have hs0 := h0.size
            have hs1 := h1.size
            refine (h0.trans (h1.mono hs0)).trans (hK05.below (by omega) (fun c hc => ⟨fun e => ?_, by omega, fun e => ?_⟩))
            · have := HT1.out.ge.2.2; omega
            · obtain ⟨cur, _, hb⟩ := own_cells (HT1.out.row s va HVA.out) e
              omega)
          clear hK05 hG3 hG5 hO5 hT5 c0 c1 c2 c2' c3 f3 hsz0 hsz1 hsz2
          generalize W3.setCell ⟨w.heap.size + 1 + 1, s, none⟩ (.slice a3 m3 k3) = W5 at *
          have hyy := HT5.out.gb ⟨wh.heap.size + 1, s, g0, g1, g2, fun _ => 0⟩ (by simp)
          have HADD := Lib.hid (add_ok W5.drew (wh.heap.size + 1) 108 [.int .i64 (s : Int), .int .i64 g0, .int .i64 g1, .int .i64 g2] [] (fun _ => 0) q (q : Int) 4 rfl rfl hq2 hyy.1 hyy.2.1)
          have HRC5 : Hid (W5.drew.cell? ⟨wr.heap.size, 2, none⟩ = some (.int .i64 (q : Int))) := Lib.hid (by
            have h : Blk W5.drew wr.heap.size 70 #[.int .i64 (s : Int), .slice pu fr.length cu, .int .i64 (q : Int)] := HR5.out
            rw [h.cell]; rfl)
          have HSK : Hid (∀ W' : World, Kp (fun c => c ≠ wh.heap.size + 1) W5.drew W' → W'.cell? ⟨wr.heap.size, 2, none⟩ = some (.int .i64 (q : Int))) := Lib.hid (fun W' hk => by
            have h : Blk W5.drew wr.heap.size 70 #[.int .i64 (s : Int), .slice pu fr.length cu, .int .i64 (q : Int)] := HR5.out
            rw [(h.kp hk (h.ne_ (w := W5.drew) hyy.1 (by decide))).cell]; rfl)
          clear hyy
          go_wp2_with fail
          go_region_held3 (fun W => W.cell? ⟨wr.heap.size, 2, none⟩ = some (.int .i64 (q : Int)))
            (first | exact HRC5.out | exact HS9.out)
            (first
              | (go_at_call 80; refine HADD.out.mono ?_; rintro e w9 ⟨rfl, hr9, hk9⟩; have HR9 := Lib.hid hr9; have HK9 := Lib.hid hk9; have HS9 := Lib.hid (HSK.out w9 hk9); clear hr9 hk9))
          have hT5d := HT5.out.below (Below.refl _ W5).drew
          have HT9 := Lib.hid (hT5d.add (y := ⟨wh.heap.size + 1, s, g0, g1, g2, fun _ => 0⟩) (by simp) HR9.out HK9.out)
          have HM9 : Hid (Means (ru.take (k + 1)) ((GL ++ [(⟨wh.heap.size + 1, s, g0, g1, g2, fun _ => 0⟩ : GB)]).map (setW (wh.heap.size + 1) q))) := Lib.hid (by rw [HTK.out]; exact HM5.out.add HT5.out.blks (y := ⟨wh.heap.size + 1, s, g0, g1, g2, fun _ => 0⟩) (by simp) (by rw [HKEY.out]; rfl) rfl)
          have HB9 : Hid (Below w.heap.size w w9) := Lib.hid (by
            have h0 := HBr.out.size
            have h1 := HBH.out.size
            have hsz0 : (wh.alloc (.cells #[.int .i64 (s : Int), .int .i64 g0, .int .i64 g1, .int .i64 g2] 97)).heap.size = wh.heap.size + 1 := World.size_alloc _ _
            exact (HB5.out.drew).trans (HK9.out.below (HB5.out.drew).size (fun c hc e => by omega)))
          clear hT5d
          go_wp2_with fail
          refine ⟨⟨k + 1, _, _, _, by go_num, by omega, HT9, HM9, Lib.hid (by rw [List.length_map, List.length_append]; have := HGL.out; simp; omega), HB9⟩, ?_⟩
          simp [intOf]; omega
        · skip
          go_simp
          refine hK.out _ _ (by (try dsimp only); first | exact HC2.out _ (HKN.out _ (Kp.refl _ _).drew) | exact HC2.out _ (HKN.out _ (HKX.out _)) | exact HC2.out _ (HKN.out _ HK3.out) | exact HC2.out _ (HKF.out _ HK3.out _)) (fun hHeld => ?_)
          clear hK K
          (try simp only [Act.put, List.setIfInBounds_toArray, List.set_cons_zero, List.set_cons_succ])
          refine wpAnyH_ready (rs := [13]) (by kernel_rfl) (by simp) ?_
          refine AllReadyH.cons rfl (fun K hK => ?_) AllReadyH.nil
          go_simp
          refine hK.out _ _ (by (try dsimp only); first | exact HC2.out _ (HKN.out _ (Kp.refl _ _).drew) | exact HC2.out _ (HKN.out _ (HKX.out _)) | exact HC2.out _ (HKN.out _ HK3.out) | exact HC2.out _ (HKF.out _ HK3.out _)) (fun hHeld => ?_)
          clear hK K
          (try simp only [Act.put, List.setIfInBounds_toArray, List.set_cons_zero, List.set_cons_succ])
          refine wpAnyH_ready (rs := [16]) (by kernel_rfl) (by simp) ?_
          refine AllReadyH.cons rfl (fun K hK => ?_) AllReadyH.nil
          refine step_append_own _ rfl (.tmp 59) (.tmp 61) 109 rfl (w.heap.size + 2) 106 i1 _ 1 8 Tryd.underlying109 HI1.out hy0 hy1 hy2 rfl (by decide) va (ptrs (rowsOf s GL)).length (ptrs (rowsOf s GL)) rfl (HOX.out _) _ 1 1 [.pointer (some ⟨wh.heap.size + 1, 0, none⟩)] rfl rfl (new_one (bk_11 W2 _ _)) HONE.out HM1.out HM2.out (HBS.out _) ?_
          intro v3 W3 ho3 hg3 hat3
          obtain ⟨a3, m3, k3, rfl⟩ := own_slice ho3
          have HO3 := Lib.hid ho3
          have HK3 := Lib.hid (HKG.out _ W3 hg3)
          have HAT := Lib.hid hat3
          have c3 := (HCS.out W3 HK3.out).1.2.2
          have f3 := (HCS.out W3 HK3.out).2.1
          have l3 := (HCS.out W3 HK3.out).2.2
          clear ho3 hg3 hat3
          refine hK.out _ _ (by (try dsimp only); first | exact HC2.out _ (HKN.out _ (Kp.refl _ _).drew) | exact HC2.out _ (HKN.out _ (HKX.out _)) | exact HC2.out _ (HKN.out _ HK3.out) | exact HC2.out _ (HKF.out _ HK3.out _)) (fun hHeld => ?_)
          clear hK K
          (try simp only [Act.put, List.setIfInBounds_toArray, List.set_cons_zero, List.set_cons_succ])
          refine wpAnyH_take (i := 17) (v := ?v17b) rfl (by kernel_rfl) (by kernel_rfl) (by kernel_rfl) (fun _ _ _ h => h) (Or.inl ⟨by rfl, ?y17b⟩) (by assumption) ?r17b
          case y17b => (intro w hSw; (try dsimp only at hSw); go_simp); (try with_reducible rfl)
          (try simp only [Act.put, List.setIfInBounds_toArray, List.set_cons_zero, List.set_cons_succ])
          refine wpAnyH_ready (rs := [18]) (by kernel_rfl) (by simp) ?_
          refine AllReadyH.cons rfl (fun K hK => ?_) AllReadyH.nil
          go_simp
          refine hK.out _ _ (by (try dsimp only); first | exact HC2.out _ (HKN.out _ (Kp.refl _ _).drew) | exact HC2.out _ (HKN.out _ (HKX.out _)) | exact HC2.out _ (HKN.out _ HK3.out) | exact HC2.out _ (HKF.out _ HK3.out _)) (fun hHeld => ?_)
          clear hK K
          (try simp only [Act.put, List.setIfInBounds_toArray, List.set_cons_zero, List.set_cons_succ])
          refine wpAnyH_done (by kernel_rfl) ?_ _
          have HK5 := Lib.hid (HKF.out W3 HK3.out (.slice a3 m3 k3))
          have hsz0 : (wh.alloc (.cells #[.int .i64 (s : Int), .int .i64 g0, .int .i64 g1, .int .i64 g2] 97)).heap.size = wh.heap.size + 1 := World.size_alloc _ _
          have hsz1 := HB01.out.size
          have hsz2 := HKM.out.size
          have hK05 : Kp (fun c => c ≠ w2.heap.size ∧ c ≠ w.heap.size + 1 + 1 ∧ va.ownBlock ≠ some c) (wh.alloc (.cells #[.int .i64 (s : Int), .int .i64 g0, .int .i64 g1, .int .i64 g2] 97)) (W3.setCell ⟨w.heap.size + 1 + 1, s, none⟩ (.slice a3 m3 k3)) :=
            ((Kp.of_below (S := fun _ => True) HB01.out (fun k hk _ => hk)).mono (fun _ _ _ => trivial)).trans ((HKM.out.mono (fun _ _ h => h.1)).trans (HK5.out.mono (fun _ _ h => ⟨h.2.2, h.2.1⟩)))
          have hG3 := HG2.out.kp HK3.out HVO.out.2.2.1
          have hG5 : Blk (W3.setCell ⟨w.heap.size + 1 + 1, s, none⟩ (.slice a3 m3 k3)) (w.heap.size + 1 + 1) 109 (rows.set s (.slice a3 m3 k3)).toArray := by simpa using hG3.set_ s (.slice a3 m3 k3)
          have hO5 := ownsRow_kp HO3.out ((Kp.refl (fun c => c ≠ w.heap.size + 1 + 1) W3).setCell (p := ⟨w.heap.size + 1 + 1, s, none⟩) (fun h => absurd rfl h) (.slice a3 m3 k3)) (fun b hb => by
            obtain ⟨cur, hc, _⟩ := own_cells HO3.out hb
            exact hc.ne_ hG3 (by decide))
          have hT5 := HT1.out.new (y := ⟨wh.heap.size + 1, s, g0, g1, g2, fun _ => 0⟩) HVA.out rfl HWF.out (fun i => (by simp : (0 : Nat) < 18446744073709551616)) (by omega) (by rw [hsz0]; exact Nat.le_refl _) HFN.out hK05 (HMP2.out.kp HK5.out ⟨HVO.out.2.2.2.2, HNE.out.2.2.2⟩) hG5 hO5 (by
            rcases HAT.out with e | e
            · exact .inl e
            · refine .inr ⟨_, e, ?_⟩
              rw [hsz0]
              have := sz_1 W2 (.cells #[.pointer (some ⟨wh.heap.size + 1, 0, none⟩)] 106)
              omega) (HNG2.out.kp HK5.out ⟨HVO.out.2.2.2.1, HNE.out.2.2.1⟩)
          have HM5 := Lib.hid (HM.out.fresh (y := ⟨wh.heap.size + 1, s, g0, g1, g2, fun _ => 0⟩) HFN.out (fun q => by simp [mem]))
          have HT5 := Lib.hid hT5
          have HR5 := Lib.hid (HR2.out.kp HK5.out ⟨HVO.out.2.1, HNE.out.2.1⟩)
          have HB5 : Hid (Below w.heap.size w (W3.setCell ⟨w.heap.size + 1 + 1, s, none⟩ (.slice a3 m3 k3))) := Lib.hid (by
            have h0 := HBr.out
            have h1 : Below wr.heap.size wr (wh.alloc (.cells #[.int .i64 (s : Int), .int .i64 g0, .int .i64 g1, .int .i64 g2] 97)) := HBH.out
            have hs0 := h0.size
            have hs1 := h1.size
            refine (h0.trans (h1.mono hs0)).trans (hK05.below (by omega) (fun c hc => ⟨fun e => ?_, by omega, fun e => ?_⟩))
            · have := HT1.out.ge.2.2; omega
            · obtain ⟨cur, _, hb⟩ := own_cells (HT1.out.row s va HVA.out) e
              omega)
          clear hK05 hG3 hG5 hO5 hT5 c0 c1 c2 c2' c3 f3 hsz0 hsz1 hsz2
          generalize W3.setCell ⟨w.heap.size + 1 + 1, s, none⟩ (.slice a3 m3 k3) = W5 at *
          have hyy := HT5.out.gb ⟨wh.heap.size + 1, s, g0, g1, g2, fun _ => 0⟩ (by simp)
          have HADD := Lib.hid (add_ok W5.drew (wh.heap.size + 1) 108 [.int .i64 (s : Int), .int .i64 g0, .int .i64 g1, .int .i64 g2] [] (fun _ => 0) q (q : Int) 4 rfl rfl hq2 hyy.1 hyy.2.1)
          have HRC5 : Hid (W5.drew.cell? ⟨wr.heap.size, 2, none⟩ = some (.int .i64 (q : Int))) := Lib.hid (by
            have h : Blk W5.drew wr.heap.size 70 #[.int .i64 (s : Int), .slice pu fr.length cu, .int .i64 (q : Int)] := HR5.out
            rw [h.cell]; rfl)
          have HSK : Hid (∀ W' : World, Kp (fun c => c ≠ wh.heap.size + 1) W5.drew W' → W'.cell? ⟨wr.heap.size, 2, none⟩ = some (.int .i64 (q : Int))) := Lib.hid (fun W' hk => by
            have h : Blk W5.drew wr.heap.size 70 #[.int .i64 (s : Int), .slice pu fr.length cu, .int .i64 (q : Int)] := HR5.out
            rw [(h.kp hk (h.ne_ (w := W5.drew) hyy.1 (by decide))).cell]; rfl)
          clear hyy
          go_wp2_with fail
          go_region_held3 (fun W => W.cell? ⟨wr.heap.size, 2, none⟩ = some (.int .i64 (q : Int)))
            (first | exact HRC5.out | exact HS9.out)
            (first
              | (go_at_call 80; refine HADD.out.mono ?_; rintro e w9 ⟨rfl, hr9, hk9⟩; have HR9 := Lib.hid hr9; have HK9 := Lib.hid hk9; have HS9 := Lib.hid (HSK.out w9 hk9); clear hr9 hk9))
          have hT5d := HT5.out.below (Below.refl _ W5).drew
          have HT9 := Lib.hid (hT5d.add (y := ⟨wh.heap.size + 1, s, g0, g1, g2, fun _ => 0⟩) (by simp) HR9.out HK9.out)
          have HM9 : Hid (Means (ru.take (k + 1)) ((GL ++ [(⟨wh.heap.size + 1, s, g0, g1, g2, fun _ => 0⟩ : GB)]).map (setW (wh.heap.size + 1) q))) := Lib.hid (by rw [HTK.out]; exact HM5.out.add HT5.out.blks (y := ⟨wh.heap.size + 1, s, g0, g1, g2, fun _ => 0⟩) (by simp) (by rw [HKEY.out]; rfl) rfl)
          have HB9 : Hid (Below w.heap.size w w9) := Lib.hid (by
            have h0 := HBr.out.size
            have h1 := HBH.out.size
            have hsz0 : (wh.alloc (.cells #[.int .i64 (s : Int), .int .i64 g0, .int .i64 g1, .int .i64 g2] 97)).heap.size = wh.heap.size + 1 := World.size_alloc _ _
            exact (HB5.out.drew).trans (HK9.out.below (HB5.out.drew).size (fun c hc e => by omega)))
          clear hT5d
          go_wp2_with fail
          refine ⟨⟨k + 1, _, _, _, by go_num, by omega, HT9, HM9, Lib.hid (by rw [List.length_map, List.length_append]; have := HGL.out; simp; omega), HB9⟩, ?_⟩
          simp [intOf]; omega
    · have hge : ru.length ≤ k := by omega
      have HKE : Hid (ru.take k = ru) := Lib.hid (List.take_of_length_le hge)
      clear hlt
      go_wp2_with fail
      go_ret
      exact ⟨⟨_, _, _, GL, rows, f, rfl, HT.out, by have := HM.out; rwa [HKE.out] at this, by have := HGL.out; omega⟩, HBr.out⟩

end Go.Proofs.YtedfldbknjcnlaaDoor
