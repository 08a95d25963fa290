/- tree.read. tree.Parse. -/
import Derived.Test.YtkgoealanboolaaDoorTM5
import Derived.Test.YtkgoealanboolaaDoorDL
import Derived.Test.YtkgoealanboolaaDoorCloneT
import Derived.Test.YtkgoealanboolaaDoorTSize
import Derived.Recover
import Derived.Defers
import Derived.Laws.ResultCell
namespace Go.Proofs.YtkgoealanboolaaDoor
open Go.RowKit Go.Shelf

def zer : Nat → List Value
  | 0 => []
  | m + 1 => .int .i64 0 :: .slice none 0 0 :: zer m
theorem zer_length (m : Nat) : (zer m).length = m * 2 := by
  induction m with
  | zero => rfl
  | succ m ih => simp only [zer, List.length_cons, ih]; omega
theorem zer_at (m : Nat) : ∀ j, j < m * 2 → (zer m)[j]? = some (if j % 2 = 0 then .int .i64 0 else .slice none 0 0) := by
  induction m with
  | zero => intro j h; omega
  | succ m ih =>
    intro j h
    match j with
    | 0 => rfl
    | 1 => rfl
    | j + 2 =>
      simp only [zer, List.getElem?_cons_succ]
      rw [ih j (by omega), show (j + 2) % 2 = j % 2 by omega]
theorem made_zer (m : Nat) : (madeCells #[.int .i64 0, .slice none 0 0] (m * 2)).toList = zer m := by
  apply List.ext_getElem?
  intro j
  by_cases hj : j < m * 2
  · rw [zer_at m j hj]
    rcases Nat.mod_two_eq_zero_or_one j with h | h
    · simp [madeCells, hj, h]
    · simp [madeCells, hj, h]
  · have : (zer m)[j]? = none := by rw [List.getElem?_eq_none]; rw [zer_length]; omega
    rw [this]
    simp [madeCells, hj]
theorem rk_set (D : DL) (m : Nat) (l : Int) (K : Hg) (v : Value) : ((dcells D ++ zer (m + 1)).set (D.length * 2) (.int .i64 l)).set (D.length * 2 + 1) v = dcells (D ++ [(l, K, v)]) ++ zer m := by
  rw [List.set_append_right _ _ (by rw [dcells_length]; omega), dcells_length, Nat.sub_self]
  rw [List.set_append_right _ _ (by rw [dcells_length]; omega), dcells_length, show D.length * 2 + 1 - D.length * 2 = 1 by omega]
  rw [dcells_snoc]
  simp [zer]
theorem rk_at (D : DL) (m : Nat) : (dcells D ++ zer (m + 1))[D.length * 2]? = some (.int .i64 0) ∧ (dcells D ++ zer (m + 1))[D.length * 2 + 1]? = some (.slice none 0 0) := by
  constructor
  · rw [List.getElem?_append_right (by rw [dcells_length]; omega), dcells_length, Nat.sub_self]; rfl
  · rw [List.getElem?_append_right (by rw [dcells_length]; omega), dcells_length, show D.length * 2 + 1 - D.length * 2 = 1 by omega]; rfl

def more (D : DL) (o : Option (Hg × Nat)) : Option (Hg × Nat) := o.map fun x => (dapp D x.1, x.2)
theorem more_nil (o : Option (Hg × Nat)) : more [] o = o := by cases o <;> rfl
theorem more_snoc (D : DL) (l : Int) (K : Hg) (kv : Value) (o : Option (Hg × Nat)) : more (D ++ [(l, K, kv)]) o = more D (o.map fun y => (.cons l K y.1, y.2)) := by
  cases o with
  | none => rfl
  | some x => simp [more, dapp_snoc]
theorem nx_one {s : ByteArray} {j : Nat} {c : Int} (h : byt s j = c) (hc : ¬ c = 0) (ha : alnum c = false) : nx s j = j + 1 := by
  have hl := byt_lt h hc
  rw [nx, if_neg (by omega), wEnd_stop (by rw [h]; exact ha)]
  omega
theorem wf_small {m : Int} (h0 : 0 ≤ m) (h1 : m ≤ 1000000) : (Lit.int .i64 m).wf = true := by
  have e1 : IntKind.i64.min = -9223372036854775808 := by decide
  have e2 : IntKind.i64.max = 9223372036854775807 := by decide
  simp only [Lit.wf, Bool.and_eq_true, decide_eq_true_eq, e1, e2]
  omega
/-- How a parser gives up. -/
abbrev gaveUp : Ending := .panicked [{ v := .iface 109 (.agg #[.int .i64 4]), recovered := false }]
/-- The mark before the subtree number k. -/
def mkB (k : Nat) : ByteArray := if k = 0 then ⟨#[40]⟩ else ⟨#[44]⟩
theorem mkB_seq {s : ByteArray} {j : Nat} (hj : j ≤ s.size) (k : Nat) : seq (tok s j) (mkB k) = decide (byt s j = (if decide (k = 0) = true then 40 else 44)) := by
  unfold mkB
  by_cases h : k = 0
  · simp only [h, if_true, decide_true]
    exact tok_one hj 40 (by decide) (by decide)
  · simp only [h, if_false, decide_false, Bool.false_eq_true]
    exact tok_one hj 44 (by decide) (by decide)
theorem IsInts.kp {S : Nat → Prop} {w w' : World} {v : Value} {l : List Int} (h : IsInts w v l) (hk : Kp S w w') (hS : l ≠ [] → ∀ b o n c, v = .slice (some ⟨b, o, none⟩) n c → S b) : IsInts w' v l := by
  obtain ⟨p, c, e, h1, h2, h3⟩ := h
  refine ⟨p, c, e, h1, h2, fun hne => ?_⟩
  obtain ⟨b, o, e', hc⟩ := h3 hne
  subst e'
  exact ⟨b, o, rfl, fun i x hx => hk.cell (hc i x hx) (hS hne b o _ _ e)⟩

set_option maxRecDepth 100000 in
set_option maxHeartbeats 4000000 in
theorem tread_any (s : ByteArray) (names : List ByteArray) (al : List Int) (b : Nat) (vn av : Value) (hs : s.size ≤ 1000000) (hnl : names.length = al.length) (hne : ∀ x ∈ names, 0 < x.size) (hva : validAl al = true) (hnb : names ≠ [] → ∀ b' o n c, vn = .slice (some ⟨b', o, none⟩) n c → b' ≠ b) (hab : al ≠ [] → ∀ b' o n c, av = .slice (some ⟨b', o, none⟩) n c → b' ≠ b) (N : Nat) :
    ∀ (f i : Nat) (w : World), f < N → s.size + 1 ≤ f + i → i ≤ s.size → Blk w b 137 #[.string s, .int .i64 i] → IsStrs w vn names → IsInts w av al →
    Calls Tryd.prog 71 #[.pointer (some ⟨b, 0, none⟩), .agg #[av], vn] w fun e w' => Kp (fun c => c ≠ b) w w' ∧
      ((∃ t e' r, rt s names al f i = some (t, e') ∧ e = .returned r ∧ IsTS (fun c => w.heap.size ≤ c) w' r t ∧ Blk w' b 137 #[.string s, .int .i64 (e' : Nat)]) ∨ (rt s names al f i = none ∧ e = gaveUp)) := by
  induction N with
  | zero => intro f i w hN; omega
  | succ N ih =>
    intro f i w hN hf hi hb hn ha
    obtain ⟨g, rfl⟩ : ∃ g, f = g + 1 := ⟨f - 1, by omega⟩
    have HNL := Lib.hid hnl
    clear hnl
    have hblt := hb.lt
    have hk0 : Kp (fun c => c ≠ b) w ((w.alloc (.cells #[av] 24)).alloc (.cells #[.int .i64 0, .slice none 0 0] 27)) := ((Kp.refl _ w).alloc _).alloc _
    have HPi := Lib.hid (pick_ok b s i names vn _ ((hb.alloc (.cells #[av] 24)).alloc (.cells #[.int .i64 0, .slice none 0 0] 27)) hi hs (hn.kp hk0 hnb) hnb)
    have HEx := Lib.hid (fun t i w hb hi => expect_ok b s t i w hb hi hs)
    have HNm := Lib.hid (fun W (hk : Kp (fun c => c ≠ b) w W) => hn.kp hk hnb)
    have HAm := Lib.hid (fun W (hk : Kp (fun c => c ≠ b) w W) => ha.kp hk hab)
    have HA0 := Lib.hid ((Blk.new w 24 #[av]).alloc (.cells #[.int .i64 0, .slice none 0 0] 27))
    have HT0 := Lib.hid (show Blk ((w.alloc (.cells #[av] 24)).alloc (.cells #[.int .i64 0, .slice none 0 0] 27)) (w.heap.size + 1) 27 #[.int .i64 0, .slice none 0 0] by have := Blk.new (w.alloc (.cells #[av] 24)) 27 #[.int .i64 0, .slice none 0 0]; rwa [World.size_alloc] at this)
    have HK0 := Lib.hid hk0
    obtain ⟨i0, hinf, hz0, hz1, hz2⟩ := info_parts Tryd.infoTree
    have HINF := Lib.hid hinf
    have HI := Lib.hid ih
    have hsk := skB_le (s := s) hi
    have hn2 := (nx_le (s := s) (j := skB s i) hsk.2).2
    obtain ⟨pn, cn, rfl, _, _, _, _⟩ := hn
    obtain ⟨pa, ca, rfl, ha1, ha2, hac⟩ := ha
    clear ih hb hnb hk0 hinf
    by_cases hm : idxS names (tok s (skB s i)) < 0
    · have HR2 : Hid (rt s names al (g + 1) i = none) := Lib.hid (rt_bad hm)
      clear hac hab
      go_enter Tryd.func71, Tryd.ntmps71
      go_wp2_with fail
      refine HPi.out.mono ?_
      rintro e w1 ⟨hb1, hkp1, ⟨h0, rfl⟩ | ⟨h0, rfl⟩⟩
      · omega
      · have HK1 := Lib.hid (HK0.out.trans hkp1)
        clear hb1 hkp1
        go_wp2_with fail
        exact ⟨rfl, HK1.out, .inr ⟨HR2.out, rfl⟩⟩
    · have hm0 : 0 ≤ idxS names (tok s (skB s i)) := by omega
      obtain ⟨hml, hmI⟩ := sym_range HNL.out hm0
      have hrr := rank_range hva hml
      have HLF := Lib.hid (fun h => rt_leaf (s := s) (names := names) (al := al) (f := g) hm0 h)
      have HND := Lib.hid (fun h => rt_node (s := s) (names := names) (al := al) (f := g) hm0 h)
      have hlt : i < nx s (skB s i) := by
        rcases Nat.lt_or_ge (skB s i) s.size with h | h
        · have := nx_gt h; omega
        · obtain ⟨x, hx, hq⟩ := idx_mem hm0
          have h1 := seq_size hq
          have h2 := hne x hx
          have h3 := tok_size hsk.2
          omega
      obtain ⟨m, hmm⟩ : ∃ m : Nat, idxS names (tok s (skB s i)) = m := ⟨_, hmI.symm⟩
      rw [hmm] at hm hm0 hml hmI hrr HPi HLF HND
      simp only [Int.toNat_natCast] at hml hrr HLF HND
      obtain ⟨ba, oa, rfl, hcl⟩ := hac (fun h => by rw [h] at hml; simp at hml)
      have hca := hcl m (al.getD m 0) (by rw [List.getD_eq_getElem?_getD, List.getElem?_eq_getElem hml]; rfl)
      have hba := hab (fun h => by rw [h] at hml; simp at hml) ba oa al.length ca rfl
      obtain ⟨n, hn⟩ : ∃ n : Nat, al.getD m 0 = n := ⟨(al.getD m 0).toNat, by omega⟩
      rw [hn] at hca hrr HLF HND
      simp only [Int.toNat_natCast] at HND
      have hmwf : Hid ((Lit.int .i64 (m : Int)).wf = true) := Lib.hid (wf_small (by omega) (by
        have := hva
        simp only [validAl, Bool.and_eq_true, decide_eq_true_eq] at this
        omega))
      have hal12 : al.length ≤ 12 := by
        have := hva
        simp only [validAl, Bool.and_eq_true, decide_eq_true_eq] at this
        omega
      have HCA := Lib.hid hca
      clear hac hcl hm hmm hca hab
      by_cases hn0 : n = 0
      · subst hn0
        have HR2 := Lib.hid (HLF.out rfl)
        clear HLF HND
        go_enter Tryd.func71, Tryd.ntmps71
        go_wp2_with fail
        refine HPi.out.mono ?_
        rintro e w1 ⟨hb1, hkp1, ⟨h0, rfl⟩ | ⟨h0, rfl⟩⟩
        rotate_left
        · omega
        have HK1 := Lib.hid (HK0.out.trans hkp1)
        have HB1 := Lib.hid hb1
        have hA1 := HA0.out.kp hkp1 (by omega)
        have hT1 := HT0.out.kp hkp1 (by omega)
        have HT1 := Lib.hid hT1
        have x0 : w1.cell? ⟨w.heap.size, 0, none⟩ = some (.slice (some ⟨ba, oa, none⟩) al.length ca) := by rw [hA1.cell]; rfl
        have x1 : w1.cell? ⟨ba, oa + m, none⟩ = some (.int .i64 0) := HK1.out.cell HCA.out hba
        have x2 := hA1.lt
        have x3 := World.block_lt_of_cell? _ _ x1
        simp only at x3
        have y1 : w1.cell? ⟨w.heap.size + 1, 0, none⟩ = some (.int .i64 0) := by rw [hT1.cell]; rfl
        have y2 : w1.cell? ⟨w.heap.size + 1, 1, none⟩ = some (.slice none 0 0) := by rw [hT1.cell]; rfl
        have y3 := hT1.frozen 0
        have y4 := hT1.frozen 1
        have y5 := hT1.lt
        have q1 : (m : Int) < (al.length : Int) := by omega
        have q2 : (0 : Int) ≤ (m : Int) := by omega
        clear hb1 hkp1 hA1 hT1 HPi h0
        go_wp2_with fail
        refine bodyPost_ret (v := .agg #[.int .i64 (m : Int), .slice none 0 0]) (results_cell_row rfl _ _ (w.heap.size + 1) 27 _ (0, 0) _ rfl ((HT1.out.set_ 0 _).set_ 1 _) Tryd.underlying27 rfl Tryd.infoTreeS) rfl ?_
        refine ⟨(HK1.out.setCell (p := ⟨w.heap.size + 1, 0, none⟩) (fun _ => by simp) _).setCell (p := ⟨w.heap.size + 1, 1, none⟩) (fun _ => by simp) _, .inl ⟨_, _, _, HR2.out, rfl, ⟨_, rfl, hmwf.out, ?_⟩, (HB1.out.far (by simp; omega) _).far (by simp; omega) _⟩⟩
        exact ⟨none, 0, rfl, by simp [Hg.len], by simp [maxLen], fun h => absurd rfl h⟩
      · have hnI : ((n : Int) == 0) = false := by simpa using hn0
        have hnI2 : decide ((n : Int) = 0) = false := decide_eq_false (by omega)
        have hn3 : n ≤ 3 := by omega
        have HR2 := Lib.hid (HND.out (by omega))
        clear HLF HND
        go_enter Tryd.func71, Tryd.ntmps71
        go_wp2_with fail
        refine HPi.out.mono ?_
        rintro e w1 ⟨hb1, hkp1, ⟨h0, rfl⟩ | ⟨h0, rfl⟩⟩
        rotate_left
        · omega
        have HK1 := Lib.hid (HK0.out.trans hkp1)
        have HB1 := Lib.hid hb1
        have hA1 := HA0.out.kp hkp1 (by omega)
        have hT1 := HT0.out.kp hkp1 (by omega)
        have HA1 := Lib.hid hA1
        have HT1 := Lib.hid hT1
        have x0 : w1.cell? ⟨w.heap.size, 0, none⟩ = some (.slice (some ⟨ba, oa, none⟩) al.length ca) := by rw [hA1.cell]; rfl
        have x1 : w1.cell? ⟨ba, oa + m, none⟩ = some (.int .i64 (n : Int)) := HK1.out.cell HCA.out hba
        have x2 := hA1.lt
        have x3 := World.block_lt_of_cell? _ _ x1
        simp only at x3
        have q1 : (m : Int) < (al.length : Int) := by omega
        have q2 : (0 : Int) ≤ (m : Int) := by omega
        have hzw : w.heap.size + 1 < w1.heap.size := hT1.lt
        clear hb1 hkp1 hA1 hT1 HPi h0
        go_wp2_with (at_make; refine wpList_make_full _ rfl _ _ 25 rfl w1.heap.size 27 i0 _ 2 Tryd.underlying25 HINF.out hz0 hz1 _ _ _ _ n rfl rfl ?d1 ?d2 ?d3 ?d4 ?d5 ?_)
        case d1 => rfl
        case d2 => rfl
        case d3 => rw [hz2]; omega
        case d4 => simp only [maxLen]; omega
        case d5 => exact Nat.le_refl _
        intro w2 hown hgrow
        have hown2 : w2.ownsRow w1.heap.size 27 2 (.slice (some ⟨w1.heap.size, 0, none⟩) n n) n (dcells [] ++ zer n) := by
          have : (madeCells #[Value.int IntKind.i64 0, .slice none 0 0] (n * 2)).toList = dcells [] ++ zer n := made_zer _
          rw [← this]
          simpa using hown
        have hk2 : Kp (fun _ => True) w1 w2 := (Kp.refl _ _).grown hgrow (fun k e => by cases e)
        have HB2 := Lib.hid (HB1.out.kp hk2 trivial)
        have HA2 := Lib.hid (HA1.out.kp hk2 trivial)
        have HT2 := Lib.hid (HT1.out.kp hk2 trivial)
        have HK2 := Lib.hid (HK1.out.trans (hk2.mono (fun _ _ _ => trivial)))
        have HO2 := Lib.hid hown2
        clear hown hgrow hown2 hk2 x0 x1 x2 x3 q1 q2 HA1 HT1 HB1 HK1
        go_wp2_with fail
        go_loopw [10, 28] (fun mk ix wr => ∃ (D : DL) (i' : Nat), mk = .string (mkB D.length) ∧ ix = .int .i64 D.length ∧ D.length ≤ n ∧ i < i' ∧ i' ≤ s.size ∧ Hid (Blk wr b 137 #[.string s, .int .i64 i']) ∧
            Hid (rt s names al (g + 1) i = (more D (rk s (rt s names al g) (n - D.length) (decide (D.length = 0)) i')).map fun y => (((m : Int), y.1), y.2)) ∧
            Hid (wr.ownsRow w1.heap.size 27 2 (.slice (some ⟨w1.heap.size, 0, none⟩) n n) n (dcells D ++ zer (n - D.length))) ∧ Hid (DIn (fun c => w1.heap.size < c) wr D) ∧ Hid (Kp (fun c => c ≠ b) w wr) ∧
            Hid (Blk wr w.heap.size 24 #[.slice (some ⟨ba, oa, none⟩) al.length ca]) ∧ Hid (Blk wr (w.heap.size + 1) 27 #[.int .i64 0, .slice none 0 0]))
          (fun _ ix _ => n - (intOf ix).toNat)
        case atStart =>
          exact ⟨[], nx s (skB s i), rfl, rfl, Nat.zero_le _, hlt, hn2, HB2, Lib.hid (by rw [HR2.out, more_nil]; rfl), HO2, Lib.hid (fun x hx => by cases hx), HK2, HA2, HT2⟩
        case round =>
          obtain ⟨D, i', rfl, rfl, hDn, hii, hi', HX, HRD, HO, HDI, HK, HA, HT⟩ := hrel
          have hs2 := skB_le (s := s) hi'
          have hz7 : w1.heap.size < wr.heap.size := (HO.out.lt _ rfl).2
          by_cases hD : D.length < n
          · obtain ⟨r, hr⟩ : ∃ r, n - D.length = r + 1 := ⟨n - D.length - 1, by omega⟩
            rw [hr] at HRD HO
            have hDI : (D.length : Int) < (n : Int) := by omega
            go_wp2_with fail
            refine (HEx.out (mkB D.length) i' _ HX.out hi').mono ?_
            rintro e w3 ⟨hb3, hkp3, ⟨hq, rfl⟩ | ⟨hq, rfl⟩⟩
            rotate_left
            · have HR3 : Hid (rt s names al (g + 1) i = none) := Lib.hid (by
                rw [mkB_seq hs2.2] at hq
                rw [HRD.out, rk_bad (by simpa using hq)]; rfl)
              have HK3 := Lib.hid (HK.out.trans hkp3)
              clear hb3 hkp3 hq
              go_wp2_with fail
              exact ⟨rfl, HK3.out, .inr ⟨HR3.out, rfl⟩⟩
            rw [mkB_seq hs2.2, decide_eq_true_eq] at hq
            have hjl := mark_lt hq
            have hnx : nx s (skB s i') = skB s i' + 1 := by
              by_cases h : D.length = 0
              · simp only [h, decide_true, if_true] at hq; exact nx_one hq (by decide) (by decide)
              · simp only [h, decide_false, Bool.false_eq_true, if_false] at hq; exact nx_one hq (by decide) (by decide)
            rw [hnx] at hb3
            have HRK := Lib.hid (rk_good (g := rt s names al g) (n := r) hq)
            have HB3 := Lib.hid hb3
            have HK3 := Lib.hid (HK.out.trans hkp3)
            have HKp := Lib.hid hkp3
            have hz3 := hkp3.size
            have hA3 := HA.out.kp hkp3 (by omega)
            have x0 : w3.cell? ⟨w.heap.size, 0, none⟩ = some (.slice (some ⟨ba, oa, none⟩) al.length ca) := by rw [hA3.cell]; rfl
            have x2 := hA3.lt
            have HA3 := Lib.hid hA3
            have hi2 : skB s i' + 1 ≤ s.size := by omega
            have HC := Lib.hid (HI.out g (skB s i' + 1) w3 (by omega) (by omega) hi2 (by simpa using hb3) (HNm.out w3 HK3.out) (HAm.out w3 HK3.out))
            clear hb3 hkp3 hA3 hnx
            go_wp2_with fail
            refine HC.out.mono ?_
            rintro e w4 ⟨hkp4, ⟨t, e', r4, ht, rfl, ⟨v4, rfl, hw4, hq4⟩, hb4⟩ | ⟨ht, rfl⟩⟩
            rotate_left
            · have HR4 : Hid (rt s names al (g + 1) i = none) := Lib.hid (by rw [HRD.out, HRK.out, ht]; rfl)
              have HK4 := Lib.hid (HK3.out.trans hkp4)
              clear hkp4 ht
              go_wp2_with fail
              exact ⟨rfl, HK4.out, .inr ⟨HR4.out, rfl⟩⟩
            have hend := rt_end HNL.out hne hva g _ t e' hi2 ht
            have HR4 : Hid (rt s names al (g + 1) i = (more D ((rk s (rt s names al g) r false e').map fun y => (.cons t.1 t.2 y.1, y.2))).map fun y => (((m : Int), y.1), y.2)) := Lib.hid (by rw [HRD.out, HRK.out, ht]; rfl)
            have HQ4 := Lib.hid hq4
            have HW4 := Lib.hid hw4
            obtain ⟨p4, c4, rfl, _, _, _⟩ := hq4
            have hz4 := hkp4.size
            have ho3 := ownsRow_heap HO.out (fun j hj => (HKp.out.trans hkp4).block j (HO.out.lt j hj).2 (by have := (HO.out.lt j hj).1; omega))
            have d0 : w4.cell? ⟨w1.heap.size, D.length * 2, none⟩ = some (.int .i64 0) := by rw [ho3.cellAt _ (by omega)]; exact (rk_at D r).1
            have d1 : w4.cell? ⟨w1.heap.size, D.length * 2 + 1, none⟩ = some (.slice none 0 0) := by rw [ho3.cellAt _ (by omega)]; exact (rk_at D r).2
            have d2 := ho3.frozenAt (D.length * 2)
            have d3 := ho3.frozenAt (D.length * 2 + 1)
            have d4 : w1.heap.size < w4.heap.size := by omega
            have d5 : (0 : Int) ≤ (D.length : Int) := by omega
            have hst := (((ho3.stored (D.length * 2) (.int .i64 t.1)).1).stored (D.length * 2 + 1) (.slice p4 t.2.len c4)).1
            rw [rk_set D r t.1 t.2] at hst
            have hkS : Kp (fun c => c ≠ w1.heap.size) w4 ((w4.setCell ⟨w1.heap.size, D.length * 2, none⟩ (.int .i64 t.1)).setCell ⟨w1.heap.size, D.length * 2 + 1, none⟩ (.slice p4 t.2.len c4)) := ((Kp.refl _ _).setCell (p := ⟨w1.heap.size, D.length * 2, none⟩) (fun h => absurd rfl h) _).setCell (p := ⟨w1.heap.size, D.length * 2 + 1, none⟩) (fun h => absurd rfl h) _
            have HST := Lib.hid hst
            have HKS := Lib.hid hkS
            have HB5 := Lib.hid (hb4.kp hkS (by omega))
            have HA5 := Lib.hid ((HA3.out.kp hkp4 (by omega)).kp hkS (by omega))
            have HT5 := Lib.hid ((HT.out.kp (HKp.out.trans hkp4) (by omega)).kp hkS (by omega))
            have HK5 := Lib.hid ((HK3.out.trans hkp4).setCell (p := ⟨w1.heap.size, D.length * 2, none⟩) (fun _ => by simp; omega) (.int .i64 t.1) |>.setCell (p := ⟨w1.heap.size, D.length * 2 + 1, none⟩) (fun _ => by simp; omega) (.slice p4 t.2.len c4))
            have HD5 := Lib.hid (((HDI.out.kp ((HKp.out.trans hkp4).mono (fun c _ h => by omega))).snoc (x := (t.1, t.2, .slice p4 t.2.len c4)) ⟨hw4, HQ4.out.mono (fun c _ h => by omega)⟩).kp (hkS.mono (fun c _ h => by omega)))
            clear hst hkS hkp4 hb4 ho3 ht hw4 HC x0 x2 hq
            go_wp2_with fail
            go_roundw
            case rel =>
              refine ⟨D ++ [(t.1, t.2, .slice p4 t.2.len c4)], e', by simp [mkB], by simp, by simp; omega, by omega, hend.2.1, HB5, Lib.hid ?_, Lib.hid ?_, HD5, HK5, HA5, HT5⟩
              · rw [more_snoc, show n - (D ++ [(t.1, t.2, Value.slice p4 t.2.len c4)]).length = r by simp; omega, show decide ((D ++ [(t.1, t.2, Value.slice p4 t.2.len c4)]).length = 0) = false by simp]
                exact HR4.out
              · rw [show n - (D ++ [(t.1, t.2, Value.slice p4 t.2.len c4)]).length = r by simp; omega]
                exact HST.out
            case measure => simp [intOf]; omega
          · have hDe : D.length = n := by omega
            have hDI : ¬ (D.length : Int) < (n : Int) := by omega
            have HRZ : Hid (rt s names al (g + 1) i = (more D (if byt s (skB s i') = 41 then some (.nil, skB s i' + 1) else none)).map fun y => (((m : Int), y.1), y.2)) := Lib.hid (by
              rw [HRD.out, hDe, Nat.sub_self, rk_zero])
            have HOZ : Hid (wr.ownsRow w1.heap.size 27 2 (.slice (some ⟨w1.heap.size, 0, none⟩) n n) n (dcells D)) := Lib.hid (by
              have := HO.out
              rw [hDe, Nat.sub_self] at this
              simpa [zer] using this)
            have HDE := Lib.hid hDe
            clear hDe hD HRD
            go_wp2_with fail
            refine (HEx.out ⟨#[41]⟩ i' _ HX.out hi').mono ?_
            rw [tok_one hs2.2 41 (by decide) (by decide)]
            rintro e w3 ⟨hb3, hkp3, ⟨hq, rfl⟩ | ⟨hq, rfl⟩⟩
            rotate_left
            · have HR3 : Hid (rt s names al (g + 1) i = none) := Lib.hid (by
                rw [HRZ.out, if_neg (by simpa using hq)]; rfl)
              have HK3 := Lib.hid (HK.out.trans hkp3)
              clear hb3 hkp3 hq
              go_wp2_with fail
              exact ⟨rfl, HK3.out, .inr ⟨HR3.out, rfl⟩⟩
            have hq : byt s (skB s i') = 41 := by simpa using hq
            rw [nx_one hq (by decide) (by decide)] at hb3
            have HR3 : Hid (rt s names al (g + 1) i = some (((m : Int), dapp D .nil), skB s i' + 1)) := Lib.hid (by rw [HRZ.out, if_pos hq]; rfl)
            have HB3 := Lib.hid hb3
            have HK3 := Lib.hid (HK.out.trans hkp3)
            have HKp := Lib.hid hkp3
            have hT3 := HT.out.kp hkp3 (by omega)
            have HT3 := Lib.hid hT3
            have y1 : w3.cell? ⟨w.heap.size + 1, 0, none⟩ = some (.int .i64 0) := by rw [hT3.cell]; rfl
            have y2 : w3.cell? ⟨w.heap.size + 1, 1, none⟩ = some (.slice none 0 0) := by rw [hT3.cell]; rfl
            have y3 := hT3.frozen 0
            have y4 := hT3.frozen 1
            have y5 := hT3.lt
            clear hb3 hkp3 hT3 hq
            go_wp2_with fail
            refine bodyPost_ret (v := .agg #[.int .i64 (m : Int), .slice (some ⟨w1.heap.size, 0, none⟩) n n]) (results_cell_row rfl _ _ (w.heap.size + 1) 27 _ (0, 0) _ rfl ((HT3.out.set_ 0 _).set_ 1 _) Tryd.underlying27 rfl Tryd.infoTreeS) rfl ?_
            have hkF : ∀ u v, Kp (fun c => w.heap.size + 1 < c) w3 ((w3.setCell ⟨w.heap.size + 1, 0, none⟩ u).setCell ⟨w.heap.size + 1, 1, none⟩ v) := fun u v => ((Kp.refl _ _).setCell (p := ⟨w.heap.size + 1, 0, none⟩) (fun h => by simp at h) u).setCell (p := ⟨w.heap.size + 1, 1, none⟩) (fun h => by simp at h) v
            refine ⟨(HK3.out.setCell (p := ⟨w.heap.size + 1, 0, none⟩) (fun _ => by simp) _).setCell (p := ⟨w.heap.size + 1, 1, none⟩) (fun _ => by simp) _, .inl ⟨_, _, _, HR3.out, rfl, ⟨_, rfl, hmwf.out, ?_⟩, (HB3.out.far (by simp; omega) _).far (by simp; omega) _⟩⟩
            have ho := ownsRow_heap HOZ.out (fun j hj => HKp.out.block j (HOZ.out.lt j hj).2 (by have := (HOZ.out.lt j hj).1; omega))
            rw [← HDE.out] at ho ⊢
            have hfin := (HDI.out.kp (HKp.out.mono (fun c _ h => by omega))).isHS (S' := fun c => w1.heap.size ≤ c) ho (fun c _ h => by omega) (fun c h => h)
            exact (hfin.kp ((hkF _ _).mono (fun c _ h => by omega))).mono (fun c _ h => by omega)

end Go.Proofs.YtkgoealanboolaaDoor

namespace Go.Proofs.YtkgoealanboolaaDoor
open Go.RowKit Go.Shelf

set_option maxHeartbeats 1000000 in
theorem newReader_ok (s : ByteArray) (w : World) : Calls Tryd.prog 70 #[.string s] w fun e w' => e = .returned (.pointer (some ⟨w.heap.size, 0, none⟩)) ∧ w' = w.alloc (.cells #[.string s, .int .i64 0] 137) := by
  go_enter Tryd.func70, Tryd.ntmps70
  go_wp2_with fail
  go_ret
  exact ⟨rfl, rfl⟩

theorem assertF (v : Value) (w : World) : (Instr.typeAssert (.iface 109 v) 20 109 true).run Tryd.prog w = .ok (.tuple #[v, .bool true]) w := by kernel_rfl
set_option maxRecDepth 100000 in
set_option maxHeartbeats 1000000 in
theorem cause_ok (x : Int) (w : World) : Calls Tryd.prog 69 #[.iface 109 (.agg #[.int .i64 x])] w fun e w' => e = .returned (.int .i64 x) ∧ Below w.heap.size w w' := by
  have hta := assertF
  go_enter Tryd.func69, Tryd.ntmps69
  go_wp2_with fail
  go_ret
  exact ⟨rfl, (Below.refl _ w).alloc (Nat.le_refl _) _⟩

set_option maxRecDepth 100000 in
set_option maxHeartbeats 1000000 in
theorem catch_panicking (bh be : Nat) (x y : Int) (h0 h1 : Value) (older : List PanicEntry) (w : World) (hh : Blk w bh 27 #[h0, h1]) (he : Blk w be 39 #[.int .i64 y]) (hne : ¬ bh = be) :
    CallsD Tryd.prog 68 #[.pointer (some ⟨bh, 0, none⟩), .pointer (some ⟨be, 0, none⟩)] (.panicking ({ v := .iface 109 (.agg #[.int .i64 x]), recovered := false } :: older)) w fun e u' w' =>
      e = .returned (.tuple #[]) ∧ u' = .panicking ({ v := .iface 109 (.agg #[.int .i64 x]), recovered := true } :: older) ∧ Blk w' bh 27 #[.int .i64 0, .slice none 0 0] ∧ Blk w' be 39 #[.int .i64 x] ∧ Kp (fun c => c ≠ bh ∧ c ≠ be) w w' := by
  refine callsD_of_wpS Tryd.func68 rfl fun c₀ cs hu => ?_
  apply wpS_seq
  apply wpS_region
  simp [wpOpsS, go_sem, recoverD, hu, Tryd.ntmps68, Exit.thenS]
  have HC := Lib.hid (cause_ok x w)
  refine wpS_of_wp ?_
  simp only [Array.replicate_succ, Array.replicate_zero, List.push_toArray, List.append_toArray, List.nil_append, List.cons_append, List.setIfInBounds_toArray, List.set_cons_succ, List.set_cons_zero]
  go_wp2_with fail
  refine HC.out.mono ?_
  rintro e w1 ⟨rfl, hb1⟩
  have g1 := hh.below hb1 hh.lt
  have g2 := he.below hb1 he.lt
  have x0 : w1.cell? ⟨bh, 0, none⟩ = some h0 := by rw [g1.cell]; rfl
  have x0' : w1.cell? ⟨bh, 1, none⟩ = some h1 := by rw [g1.cell]; rfl
  have x1 : w1.cell? ⟨be, 0, none⟩ = some (.int .i64 y) := by rw [g2.cell]; rfl
  have x2 := g1.frozen 0
  have x2' := g1.frozen 1
  have x3 := g2.frozen 0
  have x4 := g1.lt
  have x5 := g2.lt
  have HB1 := Lib.hid hb1
  have H1 := Lib.hid g1
  have H2 := Lib.hid g2
  clear hb1 g1 g2
  have hne2 : ¬ be = bh := fun e => hne e.symm
  go_wp2_with fail
  have F1 := Lib.hid (((H1.out.set_ 0 (.int .i64 0)).set_ 1 (.slice none 0 0)).far (p := ⟨be, 0, none⟩) hne (.int .i64 x))
  have F2 := Lib.hid (((H2.out.far (p := ⟨bh, 0, none⟩) hne2 (.int .i64 0)).far (p := ⟨bh, 1, none⟩) hne2 (.slice none 0 0)).set_ 0 (.int .i64 x))
  have F3 : Hid (Kp (fun c => ¬ c = bh ∧ ¬ c = be) w (((w1.setCell ⟨bh, 0, none⟩ (.int .i64 0)).setCell ⟨bh, 1, none⟩ (.slice none 0 0)).setCell ⟨be, 0, none⟩ (.int .i64 x))) := Lib.hid ((((Kp.of_below HB1.out (fun c hc _ => hc)).setCell (p := ⟨bh, 0, none⟩) (fun h => absurd rfl h.1) _).setCell (p := ⟨bh, 1, none⟩) (fun h => absurd rfl h.1) _).setCell (p := ⟨be, 0, none⟩) (fun h => absurd rfl h.2) _)
  simp [bodyPostS, results, Tryd.results68]
  exact ⟨F1.out, F2.out, F3.out⟩

set_option maxRecDepth 100000 in
set_option maxHeartbeats 1000000 in
theorem catch_idle (bh be : Nat) (w : World) :
    CallsD Tryd.prog 68 #[.pointer (some ⟨bh, 0, none⟩), .pointer (some ⟨be, 0, none⟩)] .returning w fun e u' w' => e = .returned (.tuple #[]) ∧ u' = .returning ∧ w' = w := by
  refine callsD_of_wpS Tryd.func68 rfl fun c₀ cs hu => ?_
  apply wpS_seq
  apply wpS_region
  simp [wpOpsS, go_sem, recoverD, hu, Tryd.ntmps68, Exit.thenS]
  refine wpS_of_wp ?_
  simp only [Array.replicate_succ, Array.replicate_zero, List.push_toArray, List.append_toArray, List.nil_append, List.cons_append, List.setIfInBounds_toArray, List.set_cons_succ, List.set_cons_zero]
  go_wp2_with fail
  cases c₀
  simp_all [bodyPostS, results, Tryd.results68]

theorem results_row_cell {fn : Func} {p q : Tmp} {ty ty2 : TypeId} {P : Program} (h : fn.results = #[.cell p ty, .cell q ty2]) (tmps : Array Value) (w : World) (g : Nat) (t : TypeId) (cs : Array Value) (a2 : Addr) (v : Value) {fs : Array Field}
    (hp : tmps.getD p undef = .pointer (some ⟨g, 0, none⟩)) (hq : tmps.getD q undef = .pointer (some a2)) (hg : w.heap[g]? = some (.cells cs t (0, 0)))
    (hu : P.underlying ty = some (.struct fs)) (hi : (P.info? ty).map (·.size) = some cs.size) (he : (loadVar ty2 a2).run P w = .ok v w) :
    (results fn tmps).run P w = .ok (.tuple #[.agg cs, v]) w := by
  have h1 := run_loadVar_row (P := P) w g t ty cs (0, 0) (.struct fs) hg hu rfl hi
  have hp' : tmps[p]?.getD undef = .pointer (some ⟨g, 0, none⟩) := by simpa using hp
  have hq' : tmps[q]?.getD undef = .pointer (some a2) := by simpa using hq
  simp only [results, h]
  simp [Sem.run_bind, Result.andThen, hp', hq', asAddr, h1, he]
theorem sets_fin {W : World} {g g2 : Nat} {a b u v : Value} {y y' : Int} (h1 : Blk W g 27 #[a, b]) (h2 : Blk W g2 39 #[.int .i64 y]) (hne : ¬ g = g2) :
    Blk (((W.setCell ⟨g, 0, none⟩ u).setCell ⟨g, 1, none⟩ v).setCell ⟨g2, 0, none⟩ (.int .i64 y')) g 27 #[u, v] ∧ Blk (((W.setCell ⟨g, 0, none⟩ u).setCell ⟨g, 1, none⟩ v).setCell ⟨g2, 0, none⟩ (.int .i64 y')) g2 39 #[.int .i64 y'] :=
  ⟨by simpa using ((h1.set_ 0 u).set_ 1 v).far (p := ⟨g2, 0, none⟩) hne (.int .i64 y'), by simpa using ((h2.far (p := ⟨g, 0, none⟩) (fun e => hne e.symm) u).far (p := ⟨g, 1, none⟩) (fun e => hne e.symm) v).set_ 0 (.int .i64 y')⟩
theorem load_errno {w : World} {g : Nat} {y : Int} (h : Blk w g 39 #[.int .i64 y]) : (loadVar 39 ⟨g, 0, none⟩).run Tryd.prog w = .ok (.int .i64 y) w := by
  have h0 : w.cell? ⟨g, 0, none⟩ = some (.int .i64 y) := by rw [h.cell]; rfl
  simp [go_sem, h0]
theorem parse_results {tmps : Array Value} {w : World} {g g2 : Nat} {a b : Value} {y : Int} (hp : tmps.getD 6 undef = .pointer (some ⟨g, 0, none⟩)) (hq : tmps.getD 7 undef = .pointer (some ⟨g2, 0, none⟩)) (hg : Blk w g 27 #[a, b]) (he : Blk w g2 39 #[.int .i64 y]) :
    (results Tryd.f36 tmps).run Tryd.prog w = .ok (.tuple #[.agg #[a, b], .int .i64 y]) w :=
  results_row_cell rfl tmps w g 27 _ _ _ hp hq hg Tryd.underlying27 Tryd.infoTreeS (load_errno he)
theorem leaves_ret {P : Program} {fn : Func} {tmps : Array Value} {R : Ending → World → Prop} {w : World} {v : Value} (h : (results fn tmps).run P w = .ok v w) (hR : R (.returned v) w) : Leaves P fn tmps R [] .returning w := ⟨v, h, hR⟩

theorem isT_nil (w : World) : IsT w (.agg #[.int .i64 0, .slice none 0 0]) (0, .nil) := ⟨_, rfl, by decide, none, 0, rfl, by simp [Hg.len], by simp [maxLen], fun h => absurd rfl h⟩
theorem paT_bad {al : List Int} {names : List ByteArray} {s : ByteArray} {x : Int} (h : paE al names s = x) (hx : ¬ x = 0) : paT al names s = (0, .nil) := by
  rw [paT, if_neg (by rw [h]; exact hx)]

set_option maxRecDepth 100000 in
set_option maxHeartbeats 1000000 in
theorem tparse_ok (al : List Int) (av : Value) (names : List ByteArray) (vn : Value) (s : ByteArray) (w : World) (ha : IsInts w av al) (hn : IsStrs w vn names) (hs : s.size ≤ 1000000) :
    Calls Tryd.prog 36 #[.agg #[av], vn, .string s] w fun e w' => ∃ r, e = .returned (.tuple #[r, .int .i64 (paE al names s)]) ∧ IsT w' r (paT al names s) ∧ Below w.heap.size w w' := by
  have HNS := Lib.hid hn
  have HAS := Lib.hid ha
  have HNM := fun W (hb : Below w.heap.size w W) => names_ok names (al.length : Int) vn W (hn.below hb)
  have HVA := fun W (hb : Below w.heap.size w W) => validAlphabet_ok al av W (ha.below hb)
  obtain ⟨pn, cn, rfl, _, _, hnc, _⟩ := hn
  obtain ⟨pa, ca, rfl, _, _, hac⟩ := ha
  have hnb0 : names ≠ [] → ∀ b' o n c, Value.slice pn names.length cn = .slice (some ⟨b', o, none⟩) n c → b' < w.heap.size := by
    intro hne b' o' n' c' e
    obtain ⟨b, o2, hp, hcl⟩ := hnc hne
    obtain ⟨x, hx⟩ : ∃ x, names[0]? = some x := by cases names with
      | nil => exact absurd rfl hne
      | cons x l => exact ⟨x, rfl⟩
    have := World.block_lt_of_cell? _ _ (hcl 0 x hx)
    simp only [Value.slice.injEq, hp, Option.some.injEq, Addr.mk.injEq] at e
    simp only at this
    omega
  have hab0 : al ≠ [] → ∀ b' o n c, Value.slice pa al.length ca = .slice (some ⟨b', o, none⟩) n c → b' < w.heap.size := by
    intro hne b' o' n' c' e
    obtain ⟨b, o2, hp, hcl⟩ := hac hne
    obtain ⟨x, hx⟩ : ∃ x, al[0]? = some x := by cases al with
      | nil => exact absurd rfl hne
      | cons x l => exact ⟨x, rfl⟩
    have := World.block_lt_of_cell? _ _ (hcl 0 x hx)
    simp only [Value.slice.injEq, hp, Option.some.injEq, Addr.mk.injEq] at e
    simp only at this
    omega
  have HNB0 := Lib.hid hnb0
  have HAB0 := Lib.hid hab0
  clear hnc hac hnb0 hab0
  have hmf : ∀ (fn : Fn) (first cap : Array Value) (w : World), (Instr.makeFunc fn first cap).run Tryd.prog w = .ok (.func fn first cap) w := fun _ _ _ _ => rfl
  have hb0 : Below w.heap.size w (((w.alloc (.cells #[.slice pa al.length ca] 24)).alloc (.cells #[.int .i64 0, .slice none 0 0] 27)).alloc (.cells #[.int .i64 0] 39)) := (((Below.refl _ w).alloc (Nat.le_refl _) _).alloc (by simp) _).alloc (by simp; omega) _
  have HBA := Lib.hid (blk_0 w 24 #[.slice pa al.length ca] (.cells #[.int .i64 0, .slice none 0 0] 27) (.cells #[.int .i64 0] 39))
  have HBT := Lib.hid (blk_1 w 27 (.cells #[.slice pa al.length ca] 24) #[.int .i64 0, .slice none 0 0] (.cells #[.int .i64 0] 39))
  have HBE := Lib.hid (blk3_2 w (.cells #[.slice pa al.length ca] 24) (.cells #[.int .i64 0, .slice none 0 0] 27) 39 #[.int .i64 0])
  have HB0 := Lib.hid hb0
  have HST := Lib.hid (show ∀ W, Below (((w.alloc (.cells #[.slice pa al.length ca] 24)).alloc (.cells #[.int .i64 0, .slice none 0 0] 27)).alloc (.cells #[.int .i64 0] 39)).heap.size (((w.alloc (.cells #[.slice pa al.length ca] 24)).alloc (.cells #[.int .i64 0, .slice none 0 0] 27)).alloc (.cells #[.int .i64 0] 39)) W →
      (Blk W w.heap.size 24 #[.slice pa al.length ca] ∧ Blk W (w.heap.size + 1) 27 #[.int .i64 0, .slice none 0 0] ∧ Blk W (w.heap.size + 1 + 1) 39 #[.int .i64 0]) ∧ Below w.heap.size w W ∧
      (W.cell? ⟨w.heap.size, 0, none⟩ = some (.slice pa al.length ca) ∧ W.cell? ⟨w.heap.size + 1, 0, none⟩ = some (.int .i64 0) ∧ W.cell? ⟨w.heap.size + 1, 1, none⟩ = some (.slice none 0 0) ∧ W.cell? ⟨w.heap.size + 1 + 1, 0, none⟩ = some (.int .i64 0)) ∧
      (W.frozen? ⟨w.heap.size + 1, 0, none⟩ = false ∧ W.frozen? ⟨w.heap.size + 1, 1, none⟩ = false ∧ W.frozen? ⟨w.heap.size + 1 + 1, 0, none⟩ = false) ∧ (w.heap.size < W.heap.size ∧ w.heap.size + 1 < W.heap.size ∧ w.heap.size + 1 + 1 < W.heap.size) from fun W hW => by
    have h0 := HBA.out.below hW (by simp; omega)
    have h1 := HBT.out.below hW (by simp)
    have h2 := HBE.out.below hW (by simp)
    exact ⟨⟨h0, h1, h2⟩, HB0.out.trans (hW.mono (by simp; omega)), ⟨by rw [h0.cell]; rfl, by rw [h1.cell]; rfl, by rw [h1.cell]; rfl, by rw [h2.cell]; rfl⟩, ⟨h1.frozen 0, h1.frozen 1, h2.frozen 0⟩, h0.lt, h1.lt, h2.lt⟩)
  have HVA0 := HVA _ hb0
  clear hb0 HVA
  by_cases hv : validAl al = true
  rotate_left
  · have HE : Hid (paE al names s = 1) := Lib.hid (by rw [paE, if_neg hv])
    have hv2 : validAl al = false := by simpa using hv
    rw [hv2] at HVA0
    have HVA0 := Lib.hid HVA0
    clear hv hv2 HNM
    go_enter_defers Tryd.func36, Tryd.ntmps36
    go_wp2_with fail
    refine HVA0.out.mono ?_
    rintro e w1 ⟨rfl, hb1⟩
    obtain ⟨⟨_, k1, k2⟩, kb, ⟨z0, z1, z2, z3⟩, ⟨f1, f2, f3⟩, l0, l1, l2⟩ := HST.out w1 hb1
    have K1 := Lib.hid k1
    have K2 := Lib.hid k2
    have KB := Lib.hid kb
    clear hb1 k1 k2 kb
    go_wp2_with fail
    obtain ⟨G1, G2⟩ := sets_fin (u := .int .i64 0) (v := .slice none 0 0) (y' := 1) K1.out K2.out (by omega)
    simp only [bodyPostD]
    refine leaves_ret (parse_results (by rfl) (by rfl) G1 G2) ?_
    · exact ⟨_, by rw [HE.out], by rw [paT_bad HE.out (by decide)]; exact isT_nil _, ((KB.out.setCell (p := ⟨w.heap.size + 1, 0, none⟩) (by simp) _).setCell (p := ⟨w.heap.size + 1, 1, none⟩) (by simp) _).setCell (p := ⟨w.heap.size + 1 + 1, 0, none⟩) (by simp; omega) _⟩
  · rw [hv] at HVA0
    have HVA0 := Lib.hid HVA0
    have HVV := Lib.hid hv
    clear hv
    by_cases hb : namesB names (al.length : Int) = true
    rotate_left
    · have HE : Hid (paE al names s = 4) := Lib.hid (by rw [paE, if_pos HVV.out, if_neg hb])
      have hb2 : namesB names (al.length : Int) = false := by simpa using hb
      rw [hb2] at HNM
      have HNM := Lib.hid HNM
      clear hb hb2
      go_enter_defers Tryd.func36, Tryd.ntmps36
      go_wp2_with fail
      refine HVA0.out.mono ?_
      rintro e w1 ⟨rfl, hb1⟩
      obtain ⟨⟨_, k1, k2⟩, kb, ⟨z0, z1, z2, z3⟩, ⟨f1, f2, f3⟩, l0, l1, l2⟩ := HST.out w1 hb1
      have K1 := Lib.hid k1
      have K2 := Lib.hid k2
      have KB := Lib.hid kb
      clear hb1 k1 k2 kb
      go_wp2_with fail
      refine (HNM.out _ KB.out).mono ?_
      rintro e w2 ⟨rfl, rfl⟩
      go_wp2_with fail
      obtain ⟨G1, G2⟩ := sets_fin (u := .int .i64 0) (v := .slice none 0 0) (y' := 4) K1.out K2.out (by omega)
      simp only [bodyPostD]
      refine leaves_ret (parse_results (by rfl) (by rfl) G1 G2) ?_
      · exact ⟨_, by rw [HE.out], by rw [paT_bad HE.out (by decide)]; exact isT_nil _, ((KB.out.setCell (p := ⟨w.heap.size + 1, 0, none⟩) (by simp) _).setCell (p := ⟨w.heap.size + 1, 1, none⟩) (by simp) _).setCell (p := ⟨w.heap.size + 1 + 1, 0, none⟩) (by simp; omega) _⟩
    · have HNB := Lib.hid hb
      rw [hb] at HNM
      have HNM := Lib.hid HNM
      clear hb
      by_cases h16 : s.size ≤ 16384
      rotate_left
      · have HE : Hid (paE al names s = 3) := Lib.hid (by rw [paE, if_pos HVV.out, if_pos HNB.out, if_neg h16])
        have h16' : 16384 < s.size := by omega
        clear h16
        go_enter_defers Tryd.func36, Tryd.ntmps36
        go_wp2_with fail
        refine HVA0.out.mono ?_
        rintro e w1 ⟨rfl, hb1⟩
        obtain ⟨⟨_, k1, k2⟩, kb, ⟨z0, z1, z2, z3⟩, ⟨f1, f2, f3⟩, l0, l1, l2⟩ := HST.out w1 hb1
        have K1 := Lib.hid k1
        have K2 := Lib.hid k2
        have KB := Lib.hid kb
        clear hb1 k1 k2 kb
        go_wp2_with fail
        refine (HNM.out _ KB.out).mono ?_
        rintro e w2 ⟨rfl, rfl⟩
        go_wp2_with fail
        obtain ⟨G1, G2⟩ := sets_fin (u := .int .i64 0) (v := .slice none 0 0) (y' := 3) K1.out K2.out (by omega)
        simp only [bodyPostD]
        refine leaves_ret (parse_results (by rfl) (by rfl) G1 G2) ?_
        · exact ⟨_, by rw [HE.out], by rw [paT_bad HE.out (by decide)]; exact isT_nil _, ((KB.out.setCell (p := ⟨w.heap.size + 1, 0, none⟩) (by simp) _).setCell (p := ⟨w.heap.size + 1, 1, none⟩) (by simp) _).setCell (p := ⟨w.heap.size + 1 + 1, 0, none⟩) (by simp; omega) _⟩
      · have HE0 : Hid (paE al names s = tpE (tps names al s)) := Lib.hid (by rw [paE, if_pos HVV.out, if_pos HNB.out, if_pos h16])
        have HNR := Lib.hid (fun w => newReader_ok s w)
        have hsm := namesB_small HNB.out
        have HNL : Hid (names.length = al.length) := Lib.hid (by omega)
        have HNE : Hid (∀ x ∈ names, 0 < x.size) := Lib.hid (fun x hx => by have := hsm.2 x hx; rw [nameB_eq] at this; simp at this; omega)
        clear hsm
        go_enter_defers Tryd.func36, Tryd.ntmps36
        go_wp2_with fail
        refine HVA0.out.mono ?_
        rintro e w1 ⟨rfl, hb1⟩
        obtain ⟨_, kb, ⟨z0, z1, z2, z3⟩, ⟨f1, f2, f3⟩, l0, l1, l2⟩ := HST.out w1 hb1
        have H1 := Lib.hid hb1
        have KB := Lib.hid kb
        clear hb1 kb
        go_wp2_with fail
        refine (HNM.out _ KB.out).mono ?_
        rintro e w2 ⟨rfl, rfl⟩
        go_wp2_with fail
        have hbr := H1.out.alloc H1.out.size (.cells #[.string s, .int .i64 0] 137)
        have hbw := KB.out.alloc KB.out.size (.cells #[.string s, .int .i64 0] 137)
        have HRd := Lib.hid (tread_any s names al w1.heap.size (.slice pn names.length cn) (.slice pa al.length ca) hs HNL.out HNE.out HVV.out (fun h b o n c e => by have := HNB0.out h b o n c e; omega) (fun h b o n c e => by have := HAB0.out h b o n c e; omega) (s.size + 2) (s.size + 1) 0 (w1.alloc (.cells #[.string s, .int .i64 0] 137)) (by omega) (by omega) (by omega) (Blk.new w1 _ _) (HNS.out.below hbw) (HAS.out.below hbw))
        obtain ⟨⟨_, k1, k2⟩, _, ⟨y0, _⟩, _, m0, _⟩ := HST.out _ hbr
        have K1 := Lib.hid k1
        have K2 := Lib.hid k2
        have HB2 := Lib.hid hbw
        clear hbr hbw k1 k2
        cases hrd : rt s names al (s.size + 1) 0 with
        | none =>
          have HE : Hid (paE al names s = 4) := Lib.hid (by rw [HE0.out, tps_none hrd]; rfl)
          have HRD := Lib.hid hrd
          clear hrd
          refine (HNR.out _).mono ?_
          rintro e w3 ⟨rfl, rfl⟩
          go_wp2_with fail
          refine HRd.out.mono ?_
          rintro e w3 ⟨hkp3, ⟨t, e', r, h3, _⟩ | ⟨_, rfl⟩⟩
          · rw [HRD.out] at h3; simp at h3
          have hh3 := K1.out.kp hkp3 (by omega)
          have he3 := K2.out.kp hkp3 (by omega)
          have HB3 := Lib.hid (HB2.out.trans (hkp3.below (B := w.heap.size) (by simp; omega) (fun k hk => by omega)))
          clear hkp3
          have hsz3 := HB3.out.size
          go_wp2_with fail
          refine leaves_cons (f := 68) (args := #[.pointer (some ⟨w.heap.size + 1, 0, none⟩), .pointer (some ⟨w.heap.size + 1 + 1, 0, none⟩)]) (by simp) (by simp [go_sem]) ?_
          refine (catch_panicking (w.heap.size + 1) (w.heap.size + 1 + 1) 4 0 _ _ [] _ hh3 he3 (by omega)).mono ?_
          rintro e u' w9 ⟨rfl, rfl, hbh, hbe, hkp9⟩
          refine leaves_ret (parse_results (by rfl) (by rfl) hbh hbe) ?_
          · exact ⟨_, by rw [HE.out], by rw [paT_bad HE.out (by decide)]; exact isT_nil _, HB3.out.trans (hkp9.below hsz3 (fun k hk => by omega))⟩
        | some x =>
          obtain ⟨t, e1⟩ := x
          have HP := Lib.hid (tps_some hrd)
          obtain ⟨hre1, hre2, _, _⟩ := rt_end HNL.out HNE.out HVV.out _ _ t e1 (by omega) hrd
          have hsk := skB_le (s := s) hre2
          have HRD := Lib.hid hrd
          clear hrd
          have HEx := Lib.hid (fun W hb => expect_ok w1.heap.size s ⟨#[]⟩ e1 W hb hre2 hs)
          refine (HNR.out _).mono ?_
          rintro e w3 ⟨rfl, rfl⟩
          go_wp2_with fail
          refine HRd.out.mono ?_
          rintro e w3 ⟨hkp3, ⟨t', e', r, h3, rfl, ⟨v3, rfl, hw3, hv3⟩, hb3⟩ | ⟨h3, _⟩⟩
          rotate_left
          · rw [HRD.out] at h3; simp at h3
          rw [HRD.out] at h3
          simp only [Option.some.injEq, Prod.mk.injEq] at h3
          obtain ⟨rfl, rfl⟩ := h3
          have hh3 := K1.out.kp hkp3 (by omega)
          have he3 := K2.out.kp hkp3 (by omega)
          have hB3 := HB2.out.trans (hkp3.below (B := w.heap.size) (by simp; omega) (fun k hk => by omega))
          have z0 : w3.cell? ⟨w.heap.size + 1, 0, none⟩ = some (.int .i64 0) := by rw [hh3.cell]; rfl
          have z1 : w3.cell? ⟨w.heap.size + 1, 1, none⟩ = some (.slice none 0 0) := by rw [hh3.cell]; rfl
          have z2 := hh3.frozen 0
          have z2' := hh3.frozen 1
          have z3 := hh3.lt
          have hltr := hb3.lt
          have HV3 := Lib.hid hv3
          have HW3 := Lib.hid hw3
          obtain ⟨rp, rc, rfl, _, _, _⟩ := hv3
          have HEX := Lib.hid (HEx.out ((w3.setCell ⟨w.heap.size + 1, 0, none⟩ (.int .i64 t.1)).setCell ⟨w.heap.size + 1, 1, none⟩ (.slice rp t.2.len rc)) ((hb3.far (p := ⟨w.heap.size + 1, 0, none⟩) (by simp; omega) _).far (p := ⟨w.heap.size + 1, 1, none⟩) (by simp; omega) _))
          have HBh3 : Hid (Blk ((w3.setCell ⟨w.heap.size + 1, 0, none⟩ (.int .i64 t.1)).setCell ⟨w.heap.size + 1, 1, none⟩ (.slice rp t.2.len rc)) (w.heap.size + 1) 27 #[.int .i64 t.1, .slice rp t.2.len rc]) := Lib.hid (by simpa using (hh3.set_ 0 (.int .i64 t.1)).set_ 1 (.slice rp t.2.len rc))
          have HBe3 := Lib.hid ((he3.far (p := ⟨w.heap.size + 1, 0, none⟩) (by simp) (.int .i64 t.1)).far (p := ⟨w.heap.size + 1, 1, none⟩) (by simp) (.slice rp t.2.len rc))
          have HB3 := Lib.hid ((hB3.setCell (p := ⟨w.heap.size + 1, 0, none⟩) (by simp) (.int .i64 t.1)).setCell (p := ⟨w.heap.size + 1, 1, none⟩) (by simp) (.slice rp t.2.len rc))
          have hS : ∀ c, (w1.alloc (.cells #[.string s, .int .i64 0] 137)).heap.size ≤ c → w1.heap.size < c := fun c h => by simp at h; omega
          have HVV3 := Lib.hid ((HV3.out.mono (S' := fun c => w1.heap.size < c) (fun c _ h => hS c h)).kp (((Kp.refl _ w3).setCell (p := ⟨w.heap.size + 1, 0, none⟩) (fun h => by simp at h; omega) (.int .i64 t.1)).setCell (p := ⟨w.heap.size + 1, 1, none⟩) (fun h => by simp at h; omega) (.slice rp t.2.len rc)))
          have hH : t.2.size ≤ 1000000 := by omega
          have hszz : w1.heap.size < ((w3.setCell ⟨w.heap.size + 1, 0, none⟩ (.int .i64 t.1)).setCell ⟨w.heap.size + 1, 1, none⟩ (.slice rp t.2.len rc)).heap.size := by simpa using hltr
          clear hkp3 hb3 hh3 he3 hB3 HEx HV3 hw3 hS
          have hte := tok_empty hsk.2
          by_cases hes : skB s e1 = s.size
          rotate_left
          · have HE : Hid (paE al names s = 4) := Lib.hid (by rw [HE0.out, HP.out, if_neg hes]; rfl)
            have HF : Hid (seq (tok s (skB s e1)) ⟨#[]⟩ = false) := Lib.hid (by rw [hte]; exact decide_eq_false hes)
            clear hte hes
            go_wp2_with fail
            refine HEX.out.mono ?_
            rintro e w4 ⟨_, hkp4, ⟨h4, _⟩ | ⟨_, rfl⟩⟩
            · rw [HF.out] at h4; simp at h4
            have hh4 := HBh3.out.kp hkp4 (by omega)
            have he4 := HBe3.out.kp hkp4 (by omega)
            have HB4 := Lib.hid (HB3.out.trans (hkp4.below (B := w.heap.size) (by omega) (fun k hk => by omega)))
            clear hkp4
            have hsz4 := HB4.out.size
            go_wp2_with fail
            refine leaves_cons (f := 68) (args := #[.pointer (some ⟨w.heap.size + 1, 0, none⟩), .pointer (some ⟨w.heap.size + 1 + 1, 0, none⟩)]) (by simp) (by simp [go_sem]) ?_
            refine (catch_panicking (w.heap.size + 1) (w.heap.size + 1 + 1) 4 0 _ _ [] _ hh4 he4 (by omega)).mono ?_
            rintro e u' w9 ⟨rfl, rfl, hbh, hbe, hkp9⟩
            refine leaves_ret (parse_results (by rfl) (by rfl) hbh hbe) ?_
            · exact ⟨_, by rw [HE.out], by rw [paT_bad HE.out (by decide)]; exact isT_nil _, HB4.out.trans (hkp9.below hsz4 (fun k hk => by omega))⟩
          · have HF : Hid (seq (tok s (skB s e1)) ⟨#[]⟩ = true) := Lib.hid (by rw [hte]; exact decide_eq_true hes)
            have HP2 : Hid (tps names al s = some t) := Lib.hid (by rw [HP.out, if_pos hes])
            clear hte hes HP
            by_cases h300 : t.2.size + 1 ≤ 300
            rotate_left
            · have HE : Hid (paE al names s = 3) := Lib.hid (by rw [HE0.out, HP2.out, tpE, if_neg h300])
              have h300' : (300 : Int) < (t.2.size : Int) + 1 := by omega
              have h300d : decide ((300 : Int) < (t.2.size : Int) + 1) = true := decide_eq_true h300'
              clear h300
              go_wp2_with fail
              refine HEX.out.mono ?_
              rintro e w4 ⟨_, hkp4, ⟨_, rfl⟩ | ⟨h4, _⟩⟩
              rotate_left
              · rw [HF.out] at h4; simp at h4
              have hh4 := HBh3.out.kp hkp4 (by omega)
              have he4 := HBe3.out.kp hkp4 (by omega)
              have hx0 : w4.cell? ⟨w.heap.size + 1, 0, none⟩ = some (.int .i64 t.1) := by rw [hh4.cell]; rfl
              have hx1 : w4.cell? ⟨w.heap.size + 1, 1, none⟩ = some (.slice rp t.2.len rc) := by rw [hh4.cell]; rfl
              have hx2 := hh4.lt
              have HS := Lib.hid (tsize_ok t.1 (.slice rp t.2.len rc) t.2 w4 HW3.out (HVV3.out.kp (hkp4.mono (fun c hc h => by omega))).isH hH)
              have HH4 := Lib.hid hh4
              have HE4 := Lib.hid he4
              have HB4 := Lib.hid (HB3.out.trans (hkp4.below (B := w.heap.size) (by omega) (fun k hk => by omega)))
              clear hkp4 hh4 he4
              go_wp2_with fail
              refine HS.out.mono ?_
              rintro e w5 ⟨rfl, hb5⟩
              have hh5 := HH4.out.below hb5 HH4.out.lt
              have he5 := HE4.out.below hb5 HE4.out.lt
              have HB5 := Lib.hid (HB4.out.trans (hb5.mono HB4.out.size))
              have hsz5 := HB5.out.size
              clear hb5 hx0 hx1 hx2
              go_wp2_with fail
              refine leaves_cons (f := 68) (args := #[.pointer (some ⟨w.heap.size + 1, 0, none⟩), .pointer (some ⟨w.heap.size + 1 + 1, 0, none⟩)]) (by simp) (by simp [go_sem]) ?_
              refine (catch_panicking (w.heap.size + 1) (w.heap.size + 1 + 1) 3 0 _ _ [] _ hh5 he5 (by omega)).mono ?_
              rintro e u' w9 ⟨rfl, rfl, hbh, hbe, hkp9⟩
              refine leaves_ret (parse_results (by rfl) (by rfl) hbh hbe) ?_
              · exact ⟨_, by rw [HE.out], by rw [paT_bad HE.out (by decide)]; exact isT_nil _, HB5.out.trans (hkp9.below hsz5 (fun k hk => by omega))⟩
            · have HE : Hid (paE al names s = 0) := Lib.hid (by rw [HE0.out, HP2.out, tpE, if_pos h300])
              have HHH : Hid (paT al names s = t) := Lib.hid (by rw [paT, if_pos HE.out, HP2.out]; rfl)
              have h300' : ¬ (300 : Int) < (t.2.size : Int) + 1 := by omega
              have h300d : decide ((300 : Int) < (t.2.size : Int) + 1) = false := decide_eq_false h300'
              clear h300
              go_wp2_with fail
              refine HEX.out.mono ?_
              rintro e w4 ⟨_, hkp4, ⟨_, rfl⟩ | ⟨h4, _⟩⟩
              rotate_left
              · rw [HF.out] at h4; simp at h4
              have hh4 := HBh3.out.kp hkp4 (by omega)
              have he4 := HBe3.out.kp hkp4 (by omega)
              have hx0 : w4.cell? ⟨w.heap.size + 1, 0, none⟩ = some (.int .i64 t.1) := by rw [hh4.cell]; rfl
              have hx1 : w4.cell? ⟨w.heap.size + 1, 1, none⟩ = some (.slice rp t.2.len rc) := by rw [hh4.cell]; rfl
              have hx2 := hh4.lt
              have hv4 := HVV3.out.kp (hkp4.mono (fun c hc h => by omega))
              have HS := Lib.hid (tsize_ok t.1 (.slice rp t.2.len rc) t.2 w4 HW3.out hv4.isH hH)
              have HV4 := Lib.hid hv4
              have HH4 := Lib.hid hh4
              have HE4 := Lib.hid he4
              have HB4 := Lib.hid (HB3.out.trans (hkp4.below (B := w.heap.size) (by omega) (fun k hk => by omega)))
              clear hkp4 hh4 he4 hv4
              go_wp2_with fail
              refine HS.out.mono ?_
              rintro e w5 ⟨rfl, hb5⟩
              have hh5 := HH4.out.below hb5 HH4.out.lt
              have he5 := HE4.out.below hb5 HE4.out.lt
              have HH5 := Lib.hid hh5
              have HE5 := Lib.hid he5
              have HV5 := Lib.hid (HV4.out.kp (Kp.of_below hb5 (fun k hk _ => hk)))
              have HB5 := Lib.hid (HB4.out.trans (hb5.mono HB4.out.size))
              have hsz5 := HB5.out.size
              have y0 : w5.cell? ⟨w.heap.size + 1, 0, none⟩ = some (.int .i64 t.1) := by rw [hh5.cell]; rfl
              have y1 : w5.cell? ⟨w.heap.size + 1, 1, none⟩ = some (.slice rp t.2.len rc) := by rw [hh5.cell]; rfl
              have y2 : w5.cell? ⟨w.heap.size + 1 + 1, 0, none⟩ = some (.int .i64 0) := by rw [he5.cell]; rfl
              have y3 := hh5.frozen 0
              have y3' := hh5.frozen 1
              have y4 := he5.frozen 0
              have y5 := hh5.lt
              have y6 := he5.lt
              clear hb5 hx0 hx1 hx2 hh5 he5
              go_wp2_with fail
              refine leaves_cons (f := 68) (args := #[.pointer (some ⟨w.heap.size + 1, 0, none⟩), .pointer (some ⟨w.heap.size + 1 + 1, 0, none⟩)]) (by simp) (by simp [go_sem]) ?_
              refine (catch_idle (w.heap.size + 1) (w.heap.size + 1 + 1) _).mono ?_
              rintro e u' w9 ⟨rfl, rfl, rfl⟩
              obtain ⟨G1, G2⟩ := sets_fin (u := .int .i64 t.1) (v := .slice rp t.2.len rc) (y' := 0) HH5.out HE5.out (by omega)
              refine leaves_ret (parse_results (by rfl) (by rfl) G1 G2) ?_
              refine ⟨_, by rw [HE.out], ?_, ?_⟩
              · rw [HHH.out]
                exact ⟨_, rfl, HW3.out, (HV5.out.kp ((((Kp.refl _ w5).setCell (p := ⟨w.heap.size + 1, 0, none⟩) (fun h => by simp at h; omega) _).setCell (p := ⟨w.heap.size + 1, 1, none⟩) (fun h => by simp at h; omega) _).setCell (p := ⟨w.heap.size + 1 + 1, 0, none⟩) (fun h => by simp at h; omega) _)).isH⟩
              · exact ((HB5.out.setCell (p := ⟨w.heap.size + 1, 0, none⟩) (by simp) _).setCell (p := ⟨w.heap.size + 1, 1, none⟩) (by simp) _).setCell (p := ⟨w.heap.size + 1 + 1, 0, none⟩) (by simp; omega) _

end Go.Proofs.YtkgoealanboolaaDoor

