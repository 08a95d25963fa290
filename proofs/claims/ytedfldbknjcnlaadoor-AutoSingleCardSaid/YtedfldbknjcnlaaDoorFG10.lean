/- auto.follow. (*rule.Table).Heads: how many heads there are. ref03.States, Accepts. What a valid question says. -/
import Derived.Test.YtedfldbknjcnlaaDoorFG6
import Derived.Test.YtedfldbknjcnlaaDoorFG7
import Derived.Test.YtedfldbknjcnlaaDoorAnn
import Derived.Test.YtedfldbknjcnlaaDoorNewT
import Derived.Test.YtedfldbknjcnlaaDoorFG5
import Derived.Test.YtedfldbknjcnlaaDoorFG9
namespace Go.Proofs.YtedfldbknjcnlaaDoor
section
open Go.RowKit Go.Shelf

/-- Rules have as many states as nodes with their symbol have subtrees. -/
def OkX (R : List Ru) : Hg → Prop
  | .nil => True
  | .cons l k r => (∀ x ∈ R, x.sym = l → x.fr.length = k.len) ∧ OkX R k ∧ OkX R r
theorem okX_of {al : List Int} {R : List Ru} (hr : ∀ x ∈ R, (x.fr.length : Int) = al.getD x.sym.toNat 0) : ∀ (K : Hg), K.fitAll al = true → OkX R K
  | .nil, _ => trivial
  | .cons l k r, h => by
    simp only [Hg.fitAll, Bool.and_eq_true] at h
    refine ⟨fun x hx e => ?_, okX_of hr k h.2.1, okX_of hr r h.2.2⟩
    have := hr x hx
    have hf := h.1
    unfold fit at hf
    simp only [Bool.and_eq_true, decide_eq_true_eq, beq_iff_eq] at hf
    rw [e] at this
    omega
theorem list3 {a b : List Int} (h : a.length = b.length) (h3 : b.length ≤ 3) (h0 : a.getD 0 0 = b.getD 0 0) (h1 : a.getD 1 0 = b.getD 1 0) (h2 : a.getD 2 0 = b.getD 2 0) : a = b := by
  match a, b, h, h3 with
  | [], [], _, _ => rfl
  | [x], [y], _, _ => simp at h0; rw [h0]
  | [x, x'], [y, y'], _, _ => simp at h0 h1; rw [h0, h1]
  | [x, x', x''], [y, y', y''], _, _ => simp at h0 h1 h2; rw [h0, h1, h2]
  | _ :: _ :: _ :: _ :: _, _ :: _ :: _ :: _ :: _, _, h3 => simp at h3
/-- What the table answers is whether there is such a rule. -/
theorem ruHas_key {R : List Ru} {l : Int} {fr : List Int} {q : Nat} (hx : ∀ x ∈ R, x.sym = l → x.fr.length = fr.length) (h3 : fr.length ≤ 3) : (∃ r ∈ R, r.key = (l, fr.getD 0 0, fr.getD 1 0, fr.getD 2 0) ∧ r.to = (q : Int)) ↔ ruHas R l (q : Int) fr = true := by
  unfold ruHas
  rw [List.any_eq_true]
  constructor
  · rintro ⟨r, h1, h2, h4⟩
    unfold Ru.key at h2
    simp only [Prod.mk.injEq] at h2
    refine ⟨r, h1, ?_⟩
    simp only [ruIs, Bool.and_eq_true, beq_iff_eq]
    exact ⟨h2.1, h4, list3 (hx r h1 h2.1) h3 h2.2.1 h2.2.2.1 h2.2.2.2⟩
  · rintro ⟨r, h1, h2⟩
    simp only [ruIs, Bool.and_eq_true, beq_iff_eq] at h2
    refine ⟨r, h1, ?_, h2.2.1⟩
    unfold Ru.key
    rw [h2.1, h2.2.2]
def fcs (fs : List Int) (m : Nat) : List Value := fs.map (Value.int .i64) ++ List.replicate m (.int .i64 0)
theorem fcs_set (fs : List Int) (m : Nat) (t : Int) : (fcs fs (m + 1)).set fs.length (.int .i64 t) = fcs (fs ++ [t]) m := by
  unfold fcs
  rw [List.set_append_right _ _ (by simp), List.length_map, Nat.sub_self, List.replicate_succ, List.set_cons_zero]
  simp
theorem wkH_sub (R : List Ru) : ∀ (h : Hg) (run fs rest : List Int), wkH R h run = some (fs, rest) → (∀ x ∈ fs, x ∈ run) ∧ (∀ x ∈ rest, x ∈ run)
  | .nil, run, fs, rest, e => by
    simp only [wkH, Option.some.injEq, Prod.mk.injEq] at e
    obtain ⟨rfl, rfl⟩ := e
    exact ⟨fun x hx => (by cases hx), fun x hx => hx⟩
  | .cons l k r, [], fs, rest, e => by simp [wkH] at e
  | .cons l k r, to :: run, fs, rest, e => by
    simp only [wkH] at e
    cases h1 : wkH R k run with
    | none => rw [h1] at e; cases e
    | some x =>
      obtain ⟨fr, rs⟩ := x
      rw [h1] at e
      simp only at e
      split at e
      · cases h2 : wkH R r rs with
        | none => rw [h2] at e; cases e
        | some y =>
          obtain ⟨f2, r2⟩ := y
          rw [h2] at e
          simp only [Option.some.injEq, Prod.mk.injEq] at e
          obtain ⟨rfl, rfl⟩ := e
          have a := wkH_sub R k run fr rs h1
          have b := wkH_sub R r rs f2 r2 h2
          refine ⟨fun x hx => ?_, fun x hx => List.mem_cons_of_mem _ (a.2 x (b.2 x hx))⟩
          rcases List.mem_cons.1 hx with rfl | hx
          · exact List.mem_cons_self ..
          · exact List.mem_cons_of_mem _ (a.2 x (b.1 x hx))
      · cases e
theorem wkT_sub (R : List Ru) {l : Int} {K : Hg} {run rest : List Int} (e : wkT R l K run = some rest) : ∀ x ∈ rest, x ∈ run := by
  cases run with
  | nil => simp [wkT] at e
  | cons to run =>
    simp only [wkT] at e
    cases h1 : wkH R K run with
    | none => rw [h1] at e; cases e
    | some x =>
      obtain ⟨fr, rs⟩ := x
      rw [h1] at e
      simp only at e
      split at e
      · simp only [Option.some.injEq] at e
        subst e
        exact fun x hx => List.mem_cons_of_mem _ ((wkH_sub R K run fr rs h1).2 x hx)
      · cases e

set_option maxRecDepth 100000 in
set_option maxHeartbeats 8000000 in
theorem follow_ok (A : Au) {B : Nat} {T G M n : Nat} {GL : List GB} {rows : List Value} {f : Lit → Option Value} (hM : Means A.ru GL) (hn : n ≤ 1000) : ∀ (N : Nat) (s : Nat) (K : Hg) (vk rv : Value) (run : List Int) (wB w : World), Below wB.heap.size wB w → K.size < N → K.size ≤ 2000 → K.size + 1 ≤ run.length → Tab B (ksOf A.ru) T G M n w GL rows f → IsH w vk K → s < n → K.len ≤ 3 → OkS n K →
    (∀ x ∈ A.ru, x.sym = (s : Int) → x.fr.length = K.len) → OkX A.ru K → (∀ x ∈ run, 0 ≤ x ∧ x < 300) → IsInts wB rv run →
    Calls Tryd.prog 71 #[.pointer (some ⟨T, 0, none⟩), .agg #[.int .i64 (s : Int), vk], rv] w fun e w' => (∃ u, e = .returned (.tuple #[u, .bool (wkT A.ru (s : Int) K run).isSome]) ∧ ∀ rest, wkT A.ru (s : Int) K run = some rest → IsInts wB u rest) ∧ Below w.heap.size w w' := by
  intro N
  induction N with
  | zero => intro s K vk rv run wB w _ h; omega
  | succ N ih =>
    intro s K vk rv run wB w hbB hN h2000 hrl hT hK hs hk3 hos hfit hok hrg hR0
    cases run with
    | nil => simp at hrl
    | cons to run =>
    obtain ⟨i0, hi, hz0, hz1, hz2⟩ := info_parts Tryd.infoInt
    have HI := Lib.hid hi
    have HIH := Lib.hid ih
    have HBB := Lib.hid hbB
    have HRL := Lib.hid hrl
    have HT := Lib.hid hT
    have HM := Lib.hid hM
    have HFIT := Lib.hid hfit
    have HOK0 := Lib.hid hok
    have HOS0 := Lib.hid hos
    have HTO := Lib.hid (hrg to (List.mem_cons_self ..))
    have HRG0 : Hid (∀ x ∈ run, 0 ≤ x ∧ x < 300) := Lib.hid (fun x hx => hrg x (List.mem_cons_of_mem _ hx))
    have HX0 := Lib.hid (Blk.new w 43 #[.int .i64 (s : Int), vk])
    have HB := Lib.hid ((Below.refl _ w).alloc (Nat.le_refl _) (.cells #[.int .i64 (s : Int), vk] 43))
    obtain ⟨p, c, rfl, hc1, hc2, hrow⟩ := hK
    obtain ⟨pr, cr, rfl, hq1, hq2, hq3⟩ := id hR0
    obtain ⟨br, or, rfl, hcell⟩ := hq3 (by simp)
    have d0 : (w.alloc (.cells #[.int .i64 (s : Int), .slice p K.len c] 43)).cell? ⟨br, or, none⟩ = some (.int .i64 to) := cell_later (hbB.trans (HB.out.mono hbB.size)) (by simpa using hcell 0 to rfl)
    have dl := World.block_lt_of_cell? _ _ d0
    simp only at dl
    have hT1 := isInts_tail hR0
    simp only [List.length_cons] at hq1
    unfold maxLen at hc2 hq2
    have HROW := Lib.hid hrow
    have hcr1 : 1 ≤ cr := by omega
    obtain ⟨oq, cq, hoq, HTL⟩ : ∃ oq cq, ((cr = 1 ∧ oq = or ∧ cq = 0) ∨ (¬ cr = 1 ∧ oq = or + 1 ∧ cq = cr - 1)) ∧ Hid (IsInts wB (.slice (some ⟨br, oq, none⟩) run.length cq) run) := by
      by_cases h : cr = 1
      · subst h
        exact ⟨or, 0, .inl ⟨rfl, rfl, rfl⟩, Lib.hid (by simpa using hT1)⟩
      · exact ⟨or + 1, cr - 1, .inr ⟨h, rfl, rfl⟩, Lib.hid (by simpa [h] using hT1)⟩
    have hkl := K.len_le_size
    clear ih hrow hq3 hcell hR0 hT1 hi hbB hT hM hfit hok hos hrg
    simp only [List.length_cons] at *
    go_enter Tryd.func71, Tryd.ntmps71
    have HQ1 := Lib.hid hq1
    rcases hoq with ⟨rfl, rfl, rfl⟩ | ⟨hcr, rfl, rfl⟩
    all_goals
      go_wp2_with (at_make; refine wpList_make_full _ rfl _ _ 22 rfl (w.heap.size + 1) 3 i0 _ 1 Tryd.underlying22 HI.out hz0 hz1 _ _ _ _ K.len rfl rfl rfl rfl (by rw [hz2]; omega) (by simp only [maxLen]; omega) (by simp) ?_)
      intro w2 hown hgrow
      have hG := own_full hown
      rw [toList_madeCells_one] at hG
      try simp only [World.size_alloc] at hG
      have HB2 : Hid (Below w.heap.size w w2) := Lib.hid (HB.out.grown hgrow (by simp) (fun j e => by simp at e))
      have HX2 : Hid (Blk w2 w.heap.size 43 #[.int .i64 (s : Int), .slice p K.len c]) := Lib.hid ((hgrow.block _ HX0.out.lt (by simp)).trans HX0.out)
      have HG2 : Hid (Blk w2 (w.heap.size + 1) 3 (fcs [] K.len).toArray) := Lib.hid (by simpa [fcs] using hG)
      have x21 : w2.cell? ⟨w.heap.size, 1, none⟩ = some (.slice p K.len c) := by rw [HX2.out.cell]; rfl
      have x2l := HX2.out.lt
      clear hq1 hrl hown hgrow hG d0 dl
      go_wp2_with fail
      go_loopw [2, 27] (fun rv iv wr => ∃ (k : Nat) (R : Hg) (fs runR : List Int), iv = .int .i64 (k : Nat) ∧ Hid (k + R.len = K.len) ∧ Hid (addF fs (wkH A.ru R runR) = wkH A.ru K run) ∧ Hid (fs.length = k) ∧ Hid (R.size ≤ K.size) ∧ Hid (R.size ≤ runR.length) ∧ Hid (IsInts wB rv runR) ∧ Hid (OkX A.ru R) ∧ Hid (OkS n R) ∧ Hid (∀ x ∈ runR, 0 ≤ x ∧ x < 300) ∧ Hid (∀ x ∈ fs, 0 ≤ x ∧ x < 300) ∧
          Hid (R ≠ .nil → ∃ b o, p = some ⟨b, o, none⟩ ∧ Row w R b (o + k * 2)) ∧ Hid (Blk wr (w.heap.size + 1) 3 (fcs fs R.len).toArray) ∧ Hid (Below w.heap.size w wr) ∧ Hid (Blk wr w.heap.size 43 #[.int .i64 (s : Int), .slice p K.len c]))
        (fun _ iv _ => K.len - (intOf iv).toNat)
      case atStart => exact ⟨0, K, [], run, rfl, Lib.hid (by simp), Lib.hid (addF_nil _), Lib.hid rfl, Lib.hid (Nat.le_refl _), Lib.hid (by have := HRL.out; omega), (by first | exact HTL | exact Lib.hid (by have h0 : run.length = 0 := (by have := HQ1.out; omega); have h1 := HTL.out; rwa [h0] at h1)), HOK0, HOS0, HRG0, Lib.hid (fun x hx => by cases hx), Lib.hid (by simpa using HROW.out), HG2, HB2, HX2⟩
      case round =>
        rename World => wr
        obtain ⟨k, R, fs, runR, rfl, hk, HE, HFL, HSZ, HRR, HRV, HOKR, HOSR, HRG, HFG, hR, HGr, HBr, HXr⟩ := hrel
        have hs0 := HXr.out.lt
        have hg1 := HGr.out.lt
        have y0 : wr.cell? ⟨w.heap.size, 0, none⟩ = some (.int .i64 (s : Int)) := by rw [HXr.out.cell]; rfl
        cases R with
        | nil =>
          have hge : K.len ≤ k := by have := hk.out; simp only [Hg.len] at this; omega
          have hfl : fs.length = K.len := by have h1 := hk.out; have h2 := HFL.out; simp only [Hg.len] at h1; omega
          have HWK : Hid (wkH A.ru K run = some (fs, runR)) := Lib.hid (by have := HE.out; simp only [wkH, addF, List.append_nil] at this; exact this.symm)
          have HWT : Hid (wkT A.ru (s : Int) K (to :: run) = if ruHas A.ru (s : Int) to fs = true then some runR else none) := Lib.hid (by simp only [wkT, HWK.out])
          have HIF : Hid (IsInts wr (.slice (some ⟨w.heap.size + 1, 0, none⟩) K.len K.len) fs) := Lib.hid ⟨_, K.len, by rw [hfl], by omega, by simp only [maxLen]; omega, fun _ => ⟨_, _, rfl, fun i x hx => by
            have hb := HGr.out
            simp only [fcs, Hg.len, List.replicate_zero, List.append_nil] at hb
            rw [hb.cell]; simp [hx]⟩⟩
          have hrv := HRV.out
          obtain ⟨pv, cv, rfl, _⟩ := hrv
          have hkd : decide (k < K.len) = false := decide_eq_false (by omega)
          have hkd2 : decide ((k : Int) < (K.len : Int)) = false := decide_eq_false (by omega)
          have HHD := Lib.hid (headOf_ok (s : Int) fs _ wr HIF.out (by omega))
          clear hR HROW HE hk HWK
          go_wp2_with fail
          refine HHD.out.mono ?_
          rintro e w3 ⟨rfl, hb3⟩
          have HB3 := Lib.hid (HBr.out.trans (hb3.mono HBr.out.size))
          have hgd : ∀ i, 0 ≤ fs.getD i 0 ∧ fs.getD i 0 < 300 := fun i => by
            rw [List.getD_eq_getElem?_getD]
            cases h : fs[i]? with
            | none => simp
            | some x => exact HFG.out x (List.mem_of_getElem? h)
          have HTG := Lib.hid (targets_ok (HT.out.below HB3.out) HM.out (s : Int) (fs.getD 0 0) (fs.getD 1 0) (fs.getD 2 0) (wf_small (by omega) (by omega)) (wf_small (hgd 0).1 (by have := (hgd 0).2; omega)) (wf_small (hgd 1).1 (by have := (hgd 1).2; omega)) (wf_small (hgd 2).1 (by have := (hgd 2).2; omega)))
          have HKX : Hid (∀ q : Nat, (∃ r ∈ A.ru, r.key = ((s : Int), fs.getD 0 0, fs.getD 1 0, fs.getD 2 0) ∧ r.to = (q : Int)) ↔ ruHas A.ru (s : Int) (q : Int) fs = true) := Lib.hid (fun q => ruHas_key (fun x hx e => by rw [HFIT.out x hx e, hfl]) (by omega))
          unfold hdV
          clear hb3 hgd HHD
          go_wp2_with fail
          refine HTG.out.mono ?_
          rintro e w4 ⟨⟨W, rfl, hw, hmem⟩, hb4⟩
          unfold setV
          have HB4 := Lib.hid (HB3.out.trans (hb4.mono HB3.out.size))
          obtain ⟨tq, htq⟩ : ∃ tq : Nat, to = (tq : Int) := ⟨to.toNat, by have := HTO.out; omega⟩
          have hq320 : tq < 320 := by have := HTO.out; omega
          have HN4 := Lib.hid (Blk.new w4 79 #[.int .u64 (W 0 : Nat), .int .u64 (W 1 : Nat), .int .u64 (W 2 : Nat), .int .u64 (W 3 : Nat), .int .u64 (W 4 : Nat)])
          have hsat : SetAt (w4.alloc (.cells #[.int .u64 (W 0 : Nat), .int .u64 (W 1 : Nat), .int .u64 (W 2 : Nat), .int .u64 (W 3 : Nat), .int .u64 (W 4 : Nat)] 79)) w4.heap.size 0 W := fun q hq => by
            rw [HN4.out.cell]
            match q, hq with
            | 0, _ => rfl
            | 1, _ => rfl
            | 2, _ => rfl
            | 3, _ => rfl
            | 4, _ => rfl
          have HHAS := Lib.hid (has_ok _ w4.heap.size 0 W tq to htq hq320 hsat hw)
          have HME := Lib.hid ((hmem tq).trans (HKX.out tq))
          have HBA := Lib.hid (HB4.out.alloc HB4.out.size (.cells #[.int .u64 (W 0 : Nat), .int .u64 (W 1 : Nat), .int .u64 (W 2 : Nat), .int .u64 (W 3 : Nat), .int .u64 (W 4 : Nat)] 79))
          have HTQ := Lib.hid htq
          clear hb4 hmem hw htq hsat HTG
          go_wp2_with fail
          refine HHAS.out.mono ?_
          rintro e w5 ⟨rfl, m5, rfl⟩
          have HRES : Hid (mem W tq = (wkT A.ru (s : Int) K (to :: run)).isSome) := Lib.hid (by
            rw [HWT.out, HTQ.out]
            cases hm : mem W tq with
            | true => rw [if_pos (HME.out.1 hm)]; rfl
            | false => rw [if_neg (fun h => by rw [HME.out.2 h] at hm; cases hm)]; rfl)
          go_wp2_with fail
          go_ret2
          refine ⟨⟨_, by rw [← HRES.out]; rfl, fun rest hr => ?_⟩, below_drewN HBA.out _⟩
          rw [HWT.out] at hr
          split at hr
          · simp only [Option.some.injEq] at hr
            rw [← hr]; exact HRV.out
          · cases hr
        | cons l2 K2 R2 =>
          obtain ⟨b, o, hp, hrw⟩ := hR.out (by simp)
          obtain ⟨r1, _, ⟨pk, ck, r2, hk1, hk2, hk3⟩, r4⟩ := hrw
          have hlt : k < K.len := by have := hk.out; simp only [Hg.len] at this; omega
          have q0 : wr.cell? ⟨b, o + k * 2, none⟩ = some (.int .i64 l2) := cell_later HBr.out r1
          have q1 : wr.cell? ⟨b, o + k * 2 + 1, none⟩ = some (.slice pk K2.len ck) := cell_later HBr.out r2
          have HK2 : Hid (IsH w (.slice pk K2.len ck) K2) := Lib.hid ⟨pk, ck, rfl, hk1, hk2, hk3⟩
          have HR2 : Hid (Row w R2 b (o + (k + 1) * 2)) := Lib.hid (by rw [show o + (k + 1) * 2 = o + k * 2 + 2 by omega]; exact r4)
          have HSK : Hid (K2.size < N ∧ K2.size ≤ 2000 ∧ R2.size ≤ K.size ∧ K2.size + 1 + R2.size ≤ runR.length) := Lib.hid (by have h1 := HSZ.out; have h2 := HRR.out; simp only [Hg.size] at h1 h2; omega)
          have hkb : k < 9223372036854775807 := by omega
          unfold maxLen at hk2
          clear r1 r2 r4 hk3 hR HSZ HROW HRR
          subst hp
          cases runR with
          | nil => exact absurd HSK.out.2.2.2 (by simp)
          | cons t0 run2 =>
          have hrv := HRV.out
          obtain ⟨pv, cv, rfl, hv1, hv2, hv3⟩ := hrv
          obtain ⟨bv, ov, rfl, hvc⟩ := hv3 (by simp)
          have v0 : wr.cell? ⟨bv, ov, none⟩ = some (.int .i64 t0) := cell_later (HBB.out.trans (HBr.out.mono HBB.out.size)) (by simpa using hvc 0 t0 rfl)
          have vl := World.block_lt_of_cell? _ _ v0
          simp only at vl
          have hvn : (0 : Int) < ((t0 :: run2).length : Int) := by simp <;> omega
          have hdl := HFL.out
          have hki : (k : Int) < (K.len : Int) := by omega
          obtain ⟨⟨s2, hl2, hs2⟩, hk23, hos2, hosr⟩ := HOSR.out
          subst hl2
          have HOS2 := Lib.hid hos2
          have HOSR2 := Lib.hid hosr
          have HFX := Lib.hid HOKR.out.1
          have HOX2 := Lib.hid HOKR.out.2.1
          have HOXR := Lib.hid HOKR.out.2.2
          have HFG2 : Hid (∀ x ∈ fs ++ [t0], 0 ≤ x ∧ x < 300) := Lib.hid (fun x hx => by
            rcases List.mem_append.1 hx with h | h
            · exact HFG.out x h
            · simp at h; subst h; exact HRG.out _ (List.mem_cons_self ..))
          have z0 : wr.cell? ⟨w.heap.size + 1, k, none⟩ = some (.int .i64 0) := by
            rw [HGr.out.cell]
            simp only [fcs, Hg.len, List.getElem?_toArray]
            rw [List.getElem?_append_right (by simp; omega)]
            simp [hdl]
          have z1 := HGr.out.frozen k
          have HGA := Lib.hid ((HGr.out.set_ k (.int .i64 t0)).alloc (.cells #[.int .i64 (s2 : Int), .slice pk K2.len ck] 43))
          have HG4 : Hid (Blk ((wr.setCell ⟨w.heap.size + 1, k, none⟩ (.int .i64 t0)).alloc (.cells #[.int .i64 (s2 : Int), .slice pk K2.len ck] 43)) (w.heap.size + 1) 3 (fcs (fs ++ [t0]) R2.len).toArray) := Lib.hid (by
            have h1 := HGA.out
            rw [List.setIfInBounds_toArray, ← hdl, Hg.len, fcs_set] at h1
            rw [← hdl]; exact h1)
          have HNK4 : Hid (Blk ((wr.setCell ⟨w.heap.size + 1, k, none⟩ (.int .i64 t0)).alloc (.cells #[.int .i64 (s2 : Int), .slice pk K2.len ck] 43)) wr.heap.size 43 #[.int .i64 (s2 : Int), .slice pk K2.len ck]) := Lib.hid (by simpa using Blk.new (wr.setCell ⟨w.heap.size + 1, k, none⟩ (.int .i64 t0)) 43 #[.int .i64 (s2 : Int), .slice pk K2.len ck])
          have HX4 := Lib.hid ((HXr.out.far (p := ⟨w.heap.size + 1, k, none⟩) (by simp only; omega) (.int .i64 t0)).alloc (.cells #[.int .i64 (s2 : Int), .slice pk K2.len ck] 43))
          have HB4 := Lib.hid ((HBr.out.setCell (p := ⟨w.heap.size + 1, k, none⟩) (by simp only; omega) (.int .i64 t0)).alloc (by have := HBr.out.size; simp <;> omega) (.cells #[.int .i64 (s2 : Int), .slice pk K2.len ck] 43))
          have b0 : ((wr.setCell ⟨w.heap.size + 1, k, none⟩ (.int .i64 t0)).alloc (.cells #[.int .i64 (s2 : Int), .slice pk K2.len ck] 43)).cell? ⟨wr.heap.size, 0, none⟩ = some (.int .i64 (s2 : Int)) := by rw [HNK4.out.cell]; rfl
          have b1 : ((wr.setCell ⟨w.heap.size + 1, k, none⟩ (.int .i64 t0)).alloc (.cells #[.int .i64 (s2 : Int), .slice pk K2.len ck] 43)).cell? ⟨wr.heap.size, 1, none⟩ = some (.slice pk K2.len ck) := by rw [HNK4.out.cell]; rfl
          have bl := HNK4.out.lt
          have hsk := HSK.out
          have HC := Lib.hid (HIH.out s2 K2 _ _ (t0 :: run2) wB _ (HBB.out.trans (HB4.out.mono HBB.out.size)) hsk.1 hsk.2.1 (by omega) (HT.out.below HB4.out) (HK2.out.below HB4.out) hs2 hk23 HOS2.out HFX.out HOX2.out HRG.out HRV.out)
          clear HGA HOSR HOKR hsk hos2 hosr hv3 hvc HGr HXr
          go_wp2_with fail
          refine HC.out.mono ?_
          rintro e w5 ⟨⟨u, rfl, hu⟩, hb5⟩
          have HB5 := Lib.hid (HB4.out.trans (hb5.mono HB4.out.size))
          cases hwt : wkT A.ru (s2 : Int) K2 (t0 :: run2) with
          | none =>
            have HWT : Hid (wkT A.ru (s : Int) K (to :: run) = none) := Lib.hid (by simp only [wkT]; rw [← HE.out, addF_none _ hwt])
            clear hu hwt HE HC b0 b1
            go_wp2_with fail
            go_ret2
            exact ⟨⟨_, by rw [HWT.out]; rfl, fun rest hr => by rw [HWT.out] at hr; cases hr⟩, HB5.out⟩
          | some rest =>
            have HU : Hid (IsInts wB u rest) := Lib.hid (hu rest hwt)
            have HE2 : Hid (addF (fs ++ [t0]) (wkH A.ru R2 rest) = wkH A.ru K run) := Lib.hid (by rw [← HE.out, addF_some _ hwt])
            have HRL2 : Hid (R2.size ≤ rest.length) := Lib.hid (by have h1 := wkT_len _ hwt; have h2 := HSK.out.2.2.2; omega)
            have HRG2 : Hid (∀ x ∈ rest, 0 ≤ x ∧ x < 300) := Lib.hid (fun x hx => HRG.out x (wkT_sub _ hwt x hx))
            have HX5 := Lib.hid (HX4.out.below hb5 HX4.out.lt)
            have HG5 := Lib.hid (HG4.out.below hb5 HG4.out.lt)
            clear hu hwt HE HC HX4 HG4 hb5 b0 b1
            go_wp2_with fail
            refine ⟨⟨k + 1, R2, fs ++ [t0], rest, by go_num, Lib.hid (by have := hk.out; simp only [Hg.len] at this; omega), HE2, Lib.hid (by simp [hdl]), Lib.hid HSK.out.2.2.1, HRL2, HU, HOXR, HOSR2, HRG2, HFG2, Lib.hid (fun _ => ⟨b, o, rfl, HR2.out⟩), HG5, HB5, HX5⟩, ?_⟩
            simp [intOf]; omega
end

section
open Go.RowKit Go.Shelf Go.Maps Go.WideElems

theorem IsMp.sized {P : Program} {k : TypeId} {ks : List Lit} {w : World} {b : Nat} {f : Lit → Option Value} (h : IsMp P k ks w b f) (K : Keyed P k) {L : List Lit} (hL : L.Pairwise (fun a b => a ≠ b)) (hf : ∀ x, x ∈ L ↔ (f x).isSome = true) :
    ∃ D, w.ownsMap P k heldV b ks.length D ∧ Maps.size D = L.length := by
  obtain ⟨D, h1, h2, h3⟩ := h
  refine ⟨D, h1, ?_⟩
  have hhas : ∀ x, Maps.has D x = true ↔ x ∈ L := fun x => by
    rw [hf]
    cases hx : f x with
    | none => simp [h2 x hx]
    | some v => simp [(h3 x v hx).1]
  obtain ⟨es, clock, hb, F, hs, rfl⟩ := h1
  have e1 : Maps.size (DataW.map ((es.toList.map (rg P k heldV)).foldr DataW.insert [])) = (es.toList.map (rg P k heldV)).length := by simp [Maps.size, length_sorted]
  rw [e1, ← List.length_map (f := (·.1))]
  have hany : ∀ (l : List (Lit × DataW Value)) (x : Lit), (l.foldr DataW.insert []).any (fun q => q.1.sameKey x) = l.any (fun q => q.1.sameKey x) := by
    intro l x
    induction l with
    | nil => rfl
    | cons a l ih => simp only [List.foldr_cons, any_insert, List.any_cons, ih]
  have hap := fit_apart K F
  refine Nat.le_antisymm (nodup_le _ _ (by rw [List.pairwise_map]; exact hap) (fun x hx => ?_)) (nodup_le _ _ hL (fun x hx => ?_))
  · obtain ⟨p, hp, rfl⟩ := List.mem_map.1 hx
    refine (hhas _).1 ?_
    obtain ⟨v, hv⟩ := fit_keys F p hp
    rw [has_eq, hany, List.any_eq_true]
    exact ⟨p, hp, WideAt.sameKey_self (K.key hv)⟩
  · have hx2 := (hhas x).2 hx
    rw [has_eq, hany, List.any_eq_true] at hx2
    obtain ⟨p, hp, e⟩ := hx2
    exact List.mem_map.2 ⟨p, hp, WideAt.sameKey_eq e⟩

theorem tab_sized {B : Nat} {ks : List Lit} {T G M n : Nat} {w : World} {GL : List GB} {R : List Ru} {rows : List Value} {f : Lit → Option Value} (h : Tab B ks T G M n w GL rows f) (hM : Means R GL) : ∃ D, w.ownsMap Tryd.prog 97 heldV M ks.length D ∧ Maps.size D = GL.length := by
  have hL : (GL.map GB.kl).Pairwise (fun a b => a ≠ b) := by
    rw [List.pairwise_map]
    refine List.Pairwise.imp_of_mem ?_ hM.keys
    intro x y hx hy hne e
    exact hne (GB.kl_inj (h.gb x hx).2.2.2 (h.gb y hy).2.2.2 e)
  obtain ⟨D, h1, h2⟩ := h.mp.sized hd_keyed hL (fun x => by
    constructor
    · intro hx
      obtain ⟨y, hy, rfl⟩ := List.mem_map.1 hx
      rw [h.fs y hy]; rfl
    · intro hx
      obtain ⟨v, hv⟩ := Option.isSome_iff_exists.1 hx
      obtain ⟨y, hy, e, _⟩ := h.fn x v hv
      exact List.mem_map.2 ⟨y, hy, e⟩)
  exact ⟨D, h1, by rw [h2, List.length_map]⟩

set_option maxRecDepth 100000 in
theorem heads_ok {B : Nat} {ks : List Lit} {T G M n : Nat} {w : World} {GL : List GB} {R : List Ru} {rows : List Value} {f : Lit → Option Value} (h : Tab B ks T G M n w GL rows f) (hM : Means R GL) :
    Calls Tryd.prog 54 #[.pointer (some ⟨T, 0, none⟩)] w fun e w' => e = .returned (.int .i64 (GL.length : Nat)) ∧ w = w' := by
  obtain ⟨D, h1, h2⟩ := tab_sized h hM
  have t1 : w.cell? ⟨T, 1, none⟩ = some (.map (some M)) := by rw [h.t.cell]; rfl
  have tl := h.t.lt
  have HD := Lib.hid h1
  have HS := Lib.hid h2
  clear h h1 h2
  go_enter Tryd.func54, Tryd.ntmps54
  go_wp2_with (at_len; refine wpList_len_own _ rfl _ 103 rfl 97 106 Tryd.underlying103 heldV M _ D rfl HD.out ?_)
  rw [HS.out]
  go_wp2_with fail
  go_ret
  exact ⟨rfl, rfl⟩

/-- As many heads as rules: no two rules have one head. -/
theorem heads_one {B T G M n : Nat} {w : World} {R : List Ru} {GL : List GB} {rows : List Value} {f : Lit → Option Value} (h : Tab B (ksOf R) T G M n w GL rows f) (hM : Means R GL) (hr : ∀ r ∈ R, RuV n r) (hn : n ≤ 1000) (hx : ∀ r ∈ R, ∀ s ∈ R, r.sym = s.sym → r.fr.length = s.fr.length) : (GL.length = R.length) ↔ oneB R = true := by
  have hkey : ∀ r ∈ R, ∀ s ∈ R, r.key = s.key ↔ sameH r s = true := fun r hr1 s hs1 => by
    simp only [sameH, eqL, Bool.and_eq_true, beq_iff_eq]
    constructor
    · intro e
      simp only [Ru.key, Prod.mk.injEq] at e
      exact ⟨e.1, list3 (hx r hr1 s hs1 e.1) (hr s hs1).len e.2.1 e.2.2.1 e.2.2.2⟩
    · rintro ⟨e1, e2⟩
      simp only [Ru.key, e1, e2]
  have hGL : ∀ x ∈ GL.map GB.key, x ∈ R.map Ru.key := fun x hx2 => by
    obtain ⟨y, hy, rfl⟩ := List.mem_map.1 hx2
    obtain ⟨D, _, _, h3⟩ := h.mp
    have hk := (h3 _ _ (h.fs y hy)).2.1
    unfold ksOf at hk
    obtain ⟨r, hrm, he⟩ := List.mem_map.1 hk
    refine List.mem_map.2 ⟨r, hrm, ?_⟩
    obtain ⟨⟨s, hs1, hs2⟩, _, _, hfr⟩ := hr r hrm
    have hgd : ∀ i, 0 ≤ r.fr.getD i 0 ∧ r.fr.getD i 0 < 300 := fun i => by
      rw [List.getD_eq_getElem?_getD]
      cases h : r.fr[i]? with
      | none => simp
      | some x => exact hfr x (List.mem_of_getElem? h)
    obtain ⟨a1, a2, a3, a4⟩ := (h.gb y hy).2.2.2
    have hw : ∀ i, (Lit.int .i64 (r.fr.getD i 0)).wf = true := fun i => wf_small (hgd i).1 (by have := (hgd i).2; omega)
    obtain ⟨e1, e2, e3, e4⟩ := kl_inj (wf_small (by rw [hs1]; omega) (by rw [hs1]; omega)) (hw 0) (hw 1) (hw 2) a1 a2 a3 a4 he
    simp only [Ru.key, GB.key, e1, e2, e3, e4]
  have hRG : ∀ x ∈ R.map Ru.key, x ∈ GL.map GB.key := fun x hx2 => by
    obtain ⟨r, hrm, rfl⟩ := List.mem_map.1 hx2
    obtain ⟨y, hy, e, _⟩ := hM.full r hrm
    exact List.mem_map.2 ⟨y, hy, e⟩
  have hGN : (GL.map GB.key).Pairwise (fun a b => a ≠ b) := by rw [List.pairwise_map]; exact hM.keys
  have hle := nodup_le _ _ hGN hGL
  simp only [List.length_map] at hle
  rw [oneB, oneB'_iff]
  constructor
  · intro he i r hri s hs
    rw [List.nil_append] at hs
    cases hsame : sameH r s with
    | false => rfl
    | true =>
      exfalso
      have hrm := List.mem_of_getElem? hri
      have hsm := List.mem_of_mem_take hs
      have hks := (hkey r hrm s hsm).2 hsame
      have hi : i < R.length := (List.getElem?_eq_some_iff.1 hri).1
      have hsplit : R = R.take i ++ R.drop i := (List.take_append_drop i R).symm
      have hdrop : R.drop i = r :: R.drop (i + 1) := by
        rw [List.drop_eq_getElem_cons hi]
        congr 1
        exact (List.getElem?_eq_some_iff.1 hri).2
      have h2 := nodup_le (GL.map GB.key) ((R.take i ++ R.drop (i + 1)).map Ru.key) hGN (fun x hx2 => by
        obtain ⟨t, ht, rfl⟩ := List.mem_map.1 (hGL x hx2)
        rw [hsplit, hdrop] at ht
        simp only [List.mem_append, List.mem_cons] at ht
        rcases ht with ht | rfl | ht
        · exact List.mem_map_of_mem (List.mem_append_left _ ht)
        · rw [hks]; exact List.mem_map_of_mem (List.mem_append_left _ hs)
        · exact List.mem_map_of_mem (List.mem_append_right _ ht))
      simp only [List.length_map, List.length_append, List.length_take, List.length_drop] at h2
      omega
  · intro hone
    refine Nat.le_antisymm hle ?_
    have hRN : (R.map Ru.key).Pairwise (fun a b => a ≠ b) := by
      rw [List.pairwise_map, List.pairwise_iff_getElem]
      intro i j hi hj hij e
      have h1 := hone j R[j] (List.getElem?_eq_getElem hj) R[i] (by
        rw [List.nil_append]
        exact List.mem_iff_getElem?.2 ⟨i, by rw [List.getElem?_take_of_lt hij]; exact List.getElem?_eq_getElem hi⟩)
      rw [(hkey R[j] (List.getElem_mem hj) R[i] (List.getElem_mem hi)).1 e.symm] at h1
      cases h1
    have := nodup_le _ _ hRN hRG
    simpa using this
end

section
open Go.RowKit Go.Shelf

set_option maxRecDepth 100000 in
set_option maxHeartbeats 1000000 in
theorem raccepts_ok (al : List Int) (A : Au) (hlen : A.ru.length ≤ 1000) (l : Int) (K : Hg) (av v vk : Value) (w : World) (h2000 : K.size ≤ 2000) (ha : IsInts w av al) (hA : IsAu w v A) (hK : IsH w vk K) :
    Calls Tryd.prog 28 #[.agg #[av], v, .agg #[.int .i64 l, vk]] w fun e w' => e = .returned (.tuple #[.bool (askB al A l K && hasB A l K), .int .i64 (askE al A l K)]) ∧ Below w.heap.size w w' := by
  have HA := Lib.hid hA
  have HAL := Lib.hid ha
  have HK := Lib.hid hK
  obtain ⟨fv, rv, rfl, hf, hr⟩ := hA
  have H3 := Lib.hid (three_boxes w #[av] #[.int .i64 A.st, fv, rv] #[.int .i64 l, vk] 24 27 43)
  obtain ⟨p1, c1, rfl, _⟩ := hf
  obtain ⟨p2, c2, rfl, _⟩ := hr
  obtain ⟨p, c, rfl, _⟩ := hK
  obtain ⟨pa, ca, rfl, _⟩ := ha
  have h0 := H3.out _ (Below.refl _ _)
  have HASK := Lib.hid (asked_ok al A l K _ _ _ _ (HAL.out.below h0.2.2.2) (HA.out.below h0.2.2.2) (HK.out.below h0.2.2.2))
  clear h0
  cases hq : askB al A l K with
  | true =>
    have HQ := Lib.hid hq
    have he : askE al A l K = 0 := by unfold askE; rw [hq]; rfl
    rw [he] at HASK
    clear he hq
    go_enter Tryd.func28, Tryd.ntmps28
    go_wp2_with fail
    refine HASK.out.mono ?_
    rintro e w1 ⟨rfl, hb1⟩
    have h1 := H3.out w1 hb1
    have HB1 := Lib.hid h1.2.2.2
    have x0 : w1.cell? ⟨w.heap.size + 1, 0, none⟩ = some (.int .i64 A.st) := by rw [h1.2.1.cell]; rfl
    have x1 : w1.cell? ⟨w.heap.size + 1, 1, none⟩ = some (.slice p1 A.fin.length c1) := by rw [h1.2.1.cell]; rfl
    have x2 : w1.cell? ⟨w.heap.size + 1, 2, none⟩ = some (.slice p2 A.ru.length c2) := by rw [h1.2.1.cell]; rfl
    have y0 : w1.cell? ⟨w.heap.size + 1 + 1, 0, none⟩ = some (.int .i64 l) := by rw [h1.2.2.1.cell]; rfl
    have y1 : w1.cell? ⟨w.heap.size + 1 + 1, 1, none⟩ = some (.slice p K.len c) := by rw [h1.2.2.1.cell]; rfl
    have s1 := h1.2.2.1.lt
    have HT := Lib.hid (has_tree_ok A hlen l K _ _ w1 h2000 (HA.out.below HB1.out) (HK.out.below HB1.out) (ask_ok HQ.out).1 (ask_ok HQ.out).2)
    clear h1 hb1
    go_wp2_with fail
    refine HT.out.mono ?_
    rintro e w2 ⟨rfl, hb2⟩
    have HB2 := Lib.hid (HB1.out.trans (hb2.mono HB1.out.size))
    clear hb2
    go_wp2_with fail
    go_ret2
    exact ⟨by rw [show askE al A l K = 0 by unfold askE; rw [HQ.out]; rfl]; rfl, HB2.out⟩
  | false =>
    have HQ := Lib.hid hq
    have he : askE al A l K = 1 := by unfold askE; rw [hq]; rfl
    rw [he] at HASK
    clear he hq
    go_enter Tryd.func28, Tryd.ntmps28
    go_wp2_with fail
    refine HASK.out.mono ?_
    rintro e w1 ⟨rfl, hb1⟩
    have HB1 := Lib.hid (H3.out w1 hb1).2.2.2
    clear hb1
    go_wp2_with fail
    go_ret2
    exact ⟨by rw [show askE al A l K = 1 by unfold askE; rw [HQ.out]; rfl]; rfl, HB1.out⟩

set_option maxRecDepth 100000 in
set_option maxHeartbeats 1000000 in
theorem rstates_ok (al : List Int) (A : Au) (hlen : A.ru.length ≤ 1000) (l : Int) (K : Hg) (av v vk : Value) (w : World) (h2000 : K.size ≤ 2000) (ha : IsInts w av al) (hA : IsAu w v A) (hK : IsH w vk K) :
    Calls Tryd.prog 26 #[.agg #[av], v, .agg #[.int .i64 l, vk]] w fun e w' => (∃ u, e = .returned (.tuple #[u, .int .i64 (askE al A l K)]) ∧ IsInts w' u (if askB al A l K then stsL A l K else [])) ∧ Below w.heap.size w w' := by
  have HA := Lib.hid hA
  have HAL := Lib.hid ha
  have HK := Lib.hid hK
  obtain ⟨fv, rv, rfl, hf, hr⟩ := hA
  have H3 := Lib.hid (three_boxes w #[av] #[.int .i64 A.st, fv, rv] #[.int .i64 l, vk] 24 27 43)
  obtain ⟨p1, c1, rfl, _⟩ := hf
  obtain ⟨p2, c2, rfl, _⟩ := hr
  obtain ⟨p, c, rfl, _⟩ := hK
  obtain ⟨pa, ca, rfl, _⟩ := ha
  have h0 := H3.out _ (Below.refl _ _)
  have HASK := Lib.hid (asked_ok al A l K _ _ _ _ (HAL.out.below h0.2.2.2) (HA.out.below h0.2.2.2) (HK.out.below h0.2.2.2))
  clear h0
  cases hq : askB al A l K with
  | true =>
    have HQ := Lib.hid hq
    have he : askE al A l K = 0 := by unfold askE; rw [hq]; rfl
    rw [he] at HASK
    clear he hq
    go_enter Tryd.func26, Tryd.ntmps26
    go_wp2_with fail
    refine HASK.out.mono ?_
    rintro e w1 ⟨rfl, hb1⟩
    have h1 := H3.out w1 hb1
    have HB1 := Lib.hid h1.2.2.2
    have x0 : w1.cell? ⟨w.heap.size + 1, 0, none⟩ = some (.int .i64 A.st) := by rw [h1.2.1.cell]; rfl
    have x1 : w1.cell? ⟨w.heap.size + 1, 1, none⟩ = some (.slice p1 A.fin.length c1) := by rw [h1.2.1.cell]; rfl
    have x2 : w1.cell? ⟨w.heap.size + 1, 2, none⟩ = some (.slice p2 A.ru.length c2) := by rw [h1.2.1.cell]; rfl
    have y0 : w1.cell? ⟨w.heap.size + 1 + 1, 0, none⟩ = some (.int .i64 l) := by rw [h1.2.2.1.cell]; rfl
    have y1 : w1.cell? ⟨w.heap.size + 1 + 1, 1, none⟩ = some (.slice p K.len c) := by rw [h1.2.2.1.cell]; rfl
    have s1 := h1.2.2.1.lt
    have HT := Lib.hid (of_ok A hlen (K.size + 1) l K _ _ w1 (Nat.lt_succ_self _) h2000 (HA.out.below HB1.out) (HK.out.below HB1.out) (ask_ok HQ.out).1 (ask_ok HQ.out).2)
    clear h1 hb1
    go_wp2_with fail
    refine HT.out.mono ?_
    rintro e w2 ⟨⟨u, rfl, hu, -⟩, hb2⟩
    have HB2 := Lib.hid (HB1.out.trans (hb2.mono HB1.out.size))
    have HU : Hid (IsInts w2 u (stsL A l K)) := Lib.hid hu.isInts
    clear hb2 hu
    go_wp2_with fail
    go_ret2
    exact ⟨⟨u, by rw [show askE al A l K = 0 by unfold askE; rw [HQ.out]; rfl]; rfl, HU.out⟩, HB2.out⟩
  | false =>
    have HQ := Lib.hid hq
    have he : askE al A l K = 1 := by unfold askE; rw [hq]; rfl
    rw [he] at HASK
    clear he hq
    go_enter Tryd.func26, Tryd.ntmps26
    go_wp2_with fail
    refine HASK.out.mono ?_
    rintro e w1 ⟨rfl, hb1⟩
    have HB1 := Lib.hid (H3.out w1 hb1).2.2.2
    clear hb1
    go_wp2_with fail
    go_ret2
    exact ⟨⟨_, by rw [show askE al A l K = 1 by unfold askE; rw [HQ.out]; rfl]; rfl, ⟨none, 0, rfl, Nat.le_refl _, by decide, fun h => absurd rfl h⟩⟩, HB1.out⟩
end

section
open Go.RowKit Go.Shelf

theorem okS_of {al : List Int} (hr : ∀ x ∈ al, x ≤ 3) : ∀ (K : Hg), K.fitAll al = true → OkS al.length K
  | .nil, _ => trivial
  | .cons l k r, h => by
    simp only [Hg.fitAll, Bool.and_eq_true] at h
    have hf := h.1
    unfold fit at hf
    simp only [Bool.and_eq_true, decide_eq_true_eq, beq_iff_eq] at hf
    refine ⟨⟨l.toNat, by omega, by omega⟩, ?_, okS_of hr k h.2.1, okS_of hr r h.2.2⟩
    have h1 : al.getD l.toNat 0 ≤ 3 := by
      rw [List.getD_eq_getElem?_getD]
      cases h : al[l.toNat]? with
      | none => simp
      | some x => exact hr x (List.mem_of_getElem? h)
    omega
theorem fin_nat {st : Int} (hst : st ≤ 300) : ∀ {l : List Int} {last : Int}, -1 ≤ last → finB st last l = true → ∃ F : List Nat, l = F.map (fun q : Nat => (q : Int)) ∧ ∀ q ∈ F, q < 320
  | [], _, _, _ => ⟨[], rfl, fun _ h => by cases h⟩
  | x :: l, last, h0, h => by
    simp only [finB, Bool.and_eq_true, decide_eq_true_eq] at h
    obtain ⟨F, h1, h2⟩ := fin_nat hst (l := l) (last := x) (by omega) h.2.2
    refine ⟨x.toNat :: F, ?_, fun q hq => ?_⟩
    · rw [List.map_cons, h1, Int.toNat_of_nonneg (by omega)]
    · rcases List.mem_cons.1 hq with rfl | hq
      · omega
      · exact h2 q hq

/-- A valid automaton and tree, as the program's contracts want them. -/
structure Good (al : List Int) (A : Au) (s : Nat) (K : Hg) : Prop where
  alen : al.length ≤ 1000
  rlen : A.ru.length ≤ 20000
  rus : ∀ r ∈ A.ru, RuV al.length r
  fin : ∃ F : List Nat, A.fin = F.map (fun q : Nat => (q : Int)) ∧ ∀ q ∈ F, q < 320
  slt : s < al.length
  k3 : K.len ≤ 3
  oks : OkS al.length K
  fits : ∀ x ∈ A.ru, x.sym = (s : Int) → K.len ≤ x.fr.length
  okh : OkH A.ru K
  size : K.size ≤ 300
theorem good_of {al : List Int} {A : Au} {l : Int} {K : Hg} (h : askB al A l K = true) : ∃ s : Nat, l = (s : Int) ∧ Good al A s K := by
  have hfit := ask_ok h
  unfold askB validA tvalid at h
  simp only [Bool.and_eq_true, decide_eq_true_eq] at h
  obtain ⟨⟨h1, h2, h3, h4, h5, h6⟩, _, h7, h8, h9⟩ := h
  unfold validAl at h1
  simp only [Bool.and_eq_true, decide_eq_true_eq] at h1
  have hrk : ∀ x ∈ al, x ≤ 3 := fun x hx => by
    have := List.all_eq_true.1 h1.2 x hx
    unfold rok at this
    simp only [Bool.and_eq_true, decide_eq_true_eq] at this
    exact this.2
  have hcons := okS_of hrk (.cons l K .nil) (by simp only [Hg.fitAll, Bool.and_eq_true]; exact ⟨h8, h9, trivial⟩)
  obtain ⟨⟨s, rfl, hs⟩, hk3, hos, _⟩ := hcons
  refine ⟨s, rfl, by omega, by omega, fun r hr => ?_, fin_nat h3 (by omega) h5, hs, hk3, hos, hfit.1, hfit.2, by omega⟩
  have hb := List.all_eq_true.1 h6 r hr
  have hf := ruB_fit hb
  unfold ruB at hb
  simp only [Bool.and_eq_true, decide_eq_true_eq, beq_iff_eq] at hb
  obtain ⟨b1, b2, b3, b4, b5⟩ := hb
  have hst : ∀ x, stIn A.st x = true → 0 ≤ x ∧ x < 300 := fun x hx => by
    unfold stIn at hx
    simp only [Bool.and_eq_true, decide_eq_true_eq] at hx
    omega
  refine ⟨⟨r.sym.toNat, by omega, by omega⟩, ⟨r.to.toNat, by have := hst _ b4; omega, by have := hst _ b4; omega⟩, ?_, fun x hx => hst x (List.all_eq_true.1 b5 x hx)⟩
  have : al.getD r.sym.toNat 0 ≤ 3 := by
    rw [List.getD_eq_getElem?_getD]
    cases h : al[r.sym.toNat]? with
    | none => simp
    | some x => exact hrk x (List.mem_of_getElem? h)
  omega

/-- The list of the set is the list of the states. -/
theorem list_eq {R : List Ru} {l : Int} {S : List (List Int)} {W : Nat → Nat} (h : ∀ q : Nat, mem W q = true ↔ (q : Int) ∈ stepL R l S []) (hr : ∀ r ∈ R, ∃ q : Nat, r.to = (q : Int) ∧ q < 320) : listI W 5 = stepL R l S [] := by
  refine sorted_eq (listI_sorted W 5) (stepL_sorted l S R [] List.Pairwise.nil) (fun q => ?_)
  rw [listI_mem]
  constructor
  · rintro ⟨p, _, h2, rfl⟩; exact (h p).1 h2
  · intro hq
    have hq2 := hq
    rw [stepL_mem] at hq2
    rcases hq2 with h0 | ⟨r, h1, _, rfl⟩
    · cases h0
    · obtain ⟨p, hp, hlt⟩ := hr r h1
      rw [hp] at hq ⊢
      exact ⟨p, by omega, (h p).2 hq, rfl⟩
/-- Acceptance. -/
theorem acc_eq {R : List Ru} {l : Int} {S : List (List Int)} {W : Nat → Nat} {F : List Nat} (h : ∀ q : Nat, mem W q = true ↔ (q : Int) ∈ stepL R l S []) (hr : ∀ r ∈ R, ∃ q : Nat, r.to = (q : Int) ∧ q < 320) : decide (0 ≤ accI W F) = meetB (stepL R l S []) (F.map (fun q : Nat => (q : Int))) := by
  rw [accI_ge, Bool.eq_iff_iff, List.any_eq_true, meetB_iff]
  constructor
  · rintro ⟨q, hq, hm⟩
    exact ⟨(q : Int), (h q).1 hm, List.mem_map_of_mem hq⟩
  · rintro ⟨x, hx, hm⟩
    obtain ⟨q, hq, rfl⟩ := List.mem_map.1 hm
    exact ⟨q, hq, (h q).2 hx⟩
end

end Go.Proofs.YtedfldbknjcnlaaDoor
