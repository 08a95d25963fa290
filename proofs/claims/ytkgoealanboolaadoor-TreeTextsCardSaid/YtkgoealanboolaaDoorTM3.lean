/- The printed form of a tree, as data; ref01.Write. ref01.Print. -/
import Derived.Test.YtkgoealanboolaaDoorTM1
import Derived.Test.YtkgoealanboolaaDoorTValid
import Derived.Laws.Concat
import Derived.Test.YtkgoealanboolaaDoorRTValid
namespace Go.Proofs.YtkgoealanboolaaDoor
open Go.RowKit Go.Shelf

/-- The printed form of a tree's kids, each with the mark that stands before it; b: the first is still to come. -/
def Hg.tk (f : Int → List UInt8) : Hg → Bool → List UInt8
  | .nil, _ => []
  | .cons l k r, b => (if b = true then [40] else [44, 32]) ++ (f l ++ (if k.len = 0 then [] else k.tk f true ++ [41])) ++ r.tk f false
/-- The printed form of a tree. -/
def txT (f : Int → List UInt8) (s : Int) (K : Hg) : List UInt8 := f s ++ (if K.len = 0 then [] else K.tk f true ++ [41])
theorem Hg.tk_cons (f : Int → List UInt8) (l : Int) (k r : Hg) (b : Bool) : (Hg.cons l k r).tk f b = (if b = true then [40] else [44, 32]) ++ txT f l k ++ r.tk f false := rfl
theorem Hg.tk_length {f : Int → List UInt8} (hf : ∀ l, (f l).length ≤ 12) : ∀ (h : Hg) (b : Bool), (h.tk f b).length ≤ 15 * h.size := by
  intro h
  induction h with
  | nil => intro b; simp [Hg.tk, Hg.size]
  | cons l k r hk hr =>
    intro b
    have h1 := hf l
    have h2 := hk true
    have h3 := hr false
    have h4 : (if b = true then [(40 : UInt8)] else [44, 32]).length ≤ 2 := by split <;> simp
    have h5 : (if k.len = 0 then [] else k.tk f true ++ [(41 : UInt8)]).length ≤ 1 + (k.tk f true).length := by split <;> simp <;> omega
    simp only [Hg.tk, Hg.size, List.length_append]
    omega
theorem txT_length {f : Int → List UInt8} (hf : ∀ l, (f l).length ≤ 12) (s : Int) (K : Hg) : (txT f s K).length ≤ 15 * K.size + 13 := by
  have h1 := hf s
  have h2 := Hg.tk_length hf K true
  have h5 : (if K.len = 0 then [] else K.tk f true ++ [(41 : UInt8)]).length ≤ 1 + (K.tk f true).length := by split <;> simp <;> omega
  simp only [txT, List.length_append]
  omega
def nmOf (names : List ByteArray) (l : Int) : List UInt8 := (names[l.toNat]?.getD (ByteArray.mk #[])).data.toList
theorem below_ala {w : World} (o : Obj) : Below w.heap.size w (w.alloc o) := (Below.refl _ w).alloc (Nat.le_refl _) _
theorem nmOf_length {names : List ByteArray} (h : ∀ x ∈ names, x.size ≤ 12) (l : Int) : (nmOf names l).length ≤ 12 := by
  unfold nmOf
  cases hx : names[l.toNat]? with
  | none => simp
  | some x => have := h x (List.mem_of_getElem? hx); simpa using this

set_option maxRecDepth 100000 in
set_option maxHeartbeats 2000000 in
theorem rtwrite_any (names : List ByteArray) (vn : Value) (al : List Int) (hnl : names.length = al.length) (w0 : World) (hn0 : IsStrs w0 vn names) (h12 : ∀ x ∈ names, x.size ≤ 12) (N : Nat) : ∀ (s : Int) (K : Hg) (v : Value) (w : World), K.size < N → K.size ≤ 1000 → Below w0.heap.size w0 w → IsH w v K → fit al s K.len = true → K.fitAll al = true →
    Calls Tryd.prog 67 #[vn, .agg #[.int .i64 s, v]] w fun e w' => ∃ t : ByteArray, e = .returned (.string t) ∧ t.data.toList = txT (nmOf names) s K ∧ Below w.heap.size w w' := by
  obtain ⟨pn, cn, rfl, hn1, hn2, hn3, _⟩ := hn0
  unfold maxLen at hn2
  have HN := Lib.hid hn3
  have HF := Lib.hid (nmOf_length h12)
  have H12 := Lib.hid h12
  have HNL := Lib.hid hnl
  clear hn3 h12 hnl
  induction N with
  | zero => intro s K v w hN; omega
  | succ N ih =>
    intro s K v w hN hmax hb0 hv hfit hall
    obtain ⟨p, c, rfl, hc1, hc2, hrow⟩ := hv
    unfold maxLen at hc2
    have hlen := Hg.len_le_size K
    have hs01 : 0 ≤ s ∧ s < names.length := by have := HNL.out; simp only [fit, Bool.and_eq_true, decide_eq_true_eq] at hfit; omega
    obtain ⟨hs0, hs1⟩ := hs01
    obtain ⟨m, rfl⟩ := Int.eq_ofNat_of_zero_le hs0
    have hm : m < names.length := by omega
    obtain ⟨x, hx⟩ : ∃ x, names[m]? = some x := ⟨_, List.getElem?_eq_getElem hm⟩
    obtain ⟨bn, on, rfl, hcn⟩ := HN.out (fun h => by simp [h] at hm)
    have hx12 : x.size ≤ 12 := H12.out x (List.mem_of_getElem? hx)
    have hnm : Hid (nmOf names (m : Int) = x.data.toList) := Lib.hid (by simp [nmOf, hx])
    have cx := cell_later hb0 (hcn m x hx)
    have hbln := World.block_lt_of_cell? _ _ cx
    simp only at hbln
    have HI := Lib.hid ih
    have HR := Lib.hid hrow
    have HB0 := Lib.hid hb0
    have HAL := Lib.hid hall
    have HBX := Lib.hid (Blk.new w 27 #[.int .i64 (m : Int), .slice p K.len c])
    have HBA := Lib.hid (below_ala (w := w) (.cells #[.int .i64 (m : Int), .slice p K.len c] 27))
    clear ih hrow hb0 hall hx hcn hfit
    go_enter Tryd.func67, Tryd.ntmps67
    go_wp2_with fail
    go_loopw [5, 16] (fun out i wr => ∃ (acc : ByteArray) (k : Nat) (R : Hg), out = .string acc ∧ i = .int .i64 k ∧ Hid (k + R.len = K.len) ∧ Hid (R.size ≤ K.size) ∧ Hid (R.fitAll al = true) ∧ Hid (acc.data.toList ++ R.tk (nmOf names) (decide (k = 0)) = nmOf names (m : Int) ++ K.tk (nmOf names) true) ∧ Hid (Below w.heap.size w wr) ∧ Hid (Blk wr w.heap.size 27 #[.int .i64 (m : Int), .slice p K.len c]) ∧ Hid (R ≠ .nil → ∃ b o, p = some ⟨b, o, none⟩ ∧ Row w R b (o + k * 2)))
      (fun _ i _ => K.len - (intOf i).toNat)
    case atStart =>
      exact ⟨x, 0, K, rfl, rfl, Lib.hid (by simp), Lib.hid (Nat.le_refl _), HAL, Lib.hid (by rw [hnm.out]; rfl), HBA, HBX, Lib.hid (by simpa using HR.out)⟩
    case round =>
      obtain ⟨acc, k, R, rfl, rfl, hk, hsz, hlb, hacc, HB, HX, hR⟩ := hrel
      have hal : acc.size ≤ 15100 := by
        have h1 := congrArg List.length hacc.out
        have h2 := Hg.tk_length HF.out K true
        have h4 := HF.out (m : Int)
        rw [List.length_append, List.length_append] at h1
        have h3 : acc.data.toList.length = acc.size := by simp
        omega
      have x0 : wr.cell? ⟨w.heap.size, 0, none⟩ = some (.int .i64 (m : Int)) := by rw [HX.out.cell]; rfl
      have x1 : wr.cell? ⟨w.heap.size, 1, none⟩ = some (.slice p K.len c) := by rw [HX.out.cell]; rfl
      have x2 := HX.out.lt
      cases R with
      | nil =>
        have hkK : k = K.len := by have := hk.out; simp only [Hg.len] at this; omega
        subst hkK
        have HA : Hid (acc.data.toList = nmOf names (m : Int) ++ K.tk (nmOf names) true) := Lib.hid (by have := hacc.out; simpa [Hg.tk] using this)
        clear hk hsz hlb hacc hR HR
        by_cases hK : K.len = 0
        · have hK2 : ¬ (0 : Int) < (K.len : Int) := by omega
          have hK3 : decide ((0 : Int) < (K.len : Int)) = false := decide_eq_false hK2
          have HTX : Hid (txT (nmOf names) (m : Int) K = acc.data.toList) := Lib.hid (by
            have : K = .nil := by cases K with
              | nil => rfl
              | cons a b c => simp [Hg.len] at hK
            rw [HA.out, txT, if_pos hK, this]; simp [Hg.tk])
          go_wp2_with fail
          go_ret
          exact ⟨acc, rfl, HTX.out.symm, HB.out⟩
        · have hK2 : (0 : Int) < (K.len : Int) := by omega
          have hK3 : decide ((0 : Int) < (K.len : Int)) = true := decide_eq_true hK2
          have HTX : Hid (txT (nmOf names) (m : Int) K = acc.data.toList ++ [41]) := Lib.hid (by rw [HA.out, txT, if_neg hK]; simp)
          clear hK
          go_wp2_with fail
          go_ret
          exact ⟨_, rfl, by rw [HTX.out]; simp, HB.out⟩
      | cons l k' R =>
        obtain ⟨b, o, rfl, hr⟩ := hR.out (by simp)
        rw [Row.cons_iff] at hr
        obtain ⟨c1, hl, ⟨vk, c2, hvk⟩, hr⟩ := hr
        have HVK := Lib.hid hvk
        obtain ⟨p', c', rfl, _, _, _⟩ := hvk
        have hlt : k < K.len := by have := hk.out; simp only [Hg.len] at this; omega
        have hszs : k'.size < N ∧ k'.size ≤ 1000 ∧ R.size ≤ K.size := by have := hsz.out; simp only [Hg.size] at this; omega
        have hlbs : fit al l k'.len = true ∧ k'.fitAll al = true ∧ R.fitAll al = true := by
          have := hlb.out
          simpa only [Hg.fitAll, Bool.and_eq_true] using this
        have hbw0 : Below w0.heap.size w0 wr := HB0.out.trans (HB.out.mono HB0.out.size)
        have c1 := cell_later HB.out c1
        have c2 := cell_later HB.out c2
        have hbl := World.block_lt_of_cell? _ _ c1
        simp only at hbl
        have hsz2 := HB.out.size
        have hbwk := HB.out.alloc hsz2 (.cells #[.int .i64 l, .slice p' k'.len c'] 27)
        have HC := Lib.hid (HI.out l k' (.slice p' k'.len c') (wr.alloc (.cells #[.int .i64 l, .slice p' k'.len c'] 27)) hszs.1 hszs.2.1 (hbw0.alloc hbw0.size _) (HVK.out.below hbwk) hlbs.1 hlbs.2.1)
        have HBK := Lib.hid hbwk
        have HXA := Lib.hid (HX.out.alloc (.cells #[.int .i64 l, .slice p' k'.len c'] 27))
        have HRR := Lib.hid hr
        have HLR := Lib.hid hlbs.2.2
        have HSR := Lib.hid hszs.2.2
        have hkl : Hid ((txT (nmOf names) l k').length ≤ 15100) := Lib.hid (by have := txT_length HF.out l k'; have := hszs.2.1; omega)
        have hz : w.heap.size < (wr.alloc (.cells #[.int .i64 l, .slice p' k'.len c'] 27)).heap.size := by simp; omega
        clear hR hr hszs hlbs HR hbwk hbw0
        by_cases hk0 : k = 0
        · subst hk0
          have hK1 : Hid (acc.data.toList ++ [40] ++ txT (nmOf names) l k' ++ R.tk (nmOf names) false = nmOf names (m : Int) ++ K.tk (nmOf names) true) := Lib.hid (by
            have := hacc.out
            rw [Hg.tk_cons] at this
            simpa using this)
          simp only [Nat.zero_mul, Nat.add_zero] at c1 c2
          go_wp2_with fail
          refine HC.out.mono ?_
          rintro e w1 ⟨s1, rfl, hs1, hb1⟩
          have hs1l : s1.size ≤ 15100 := by
            have h1 := congrArg List.length hs1
            have h2 := hkl.out
            have h3 : s1.data.toList.length = s1.size := by simp
            omega
          have HS1 := Lib.hid hs1
          have HB1 := Lib.hid (HBK.out.trans (hb1.mono HBK.out.size))
          have HX1 := Lib.hid (HXA.out.below hb1 hz)
          clear hs1 hb1
          go_wp2_with fail
          go_roundw
          case rel =>
            refine ⟨_, 0 + 1, R, rfl, by go_num, Lib.hid (by have := hk.out; simp only [Hg.len] at this; omega), HSR, HLR, Lib.hid ?_, HB1, HX1, Lib.hid (fun _ => ⟨b, o, rfl, ?_⟩)⟩
            · rw [show decide (0 + 1 = 0) = false by simp, ← hK1.out, ← HS1.out]
              simp
            · have := HRR.out; rwa [show o + 0 * 2 + 2 = o + (0 + 1) * 2 from by omega] at this
          case measure => simp [intOf]; omega
        · have hkd : decide ((k : Int) = 0) = false := decide_eq_false (by omega)
          have hkd2 : ((k : Int) == 0) = false := by simpa using hk0
          have hK1 : Hid (acc.data.toList ++ [44, 32] ++ txT (nmOf names) l k' ++ R.tk (nmOf names) false = nmOf names (m : Int) ++ K.tk (nmOf names) true) := Lib.hid (by
            have := hacc.out
            rw [Hg.tk_cons] at this
            simpa [hk0] using this)
          go_wp2_with fail
          refine HC.out.mono ?_
          rintro e w1 ⟨s1, rfl, hs1, hb1⟩
          have hs1l : s1.size ≤ 15100 := by
            have h1 := congrArg List.length hs1
            have h2 := hkl.out
            have h3 : s1.data.toList.length = s1.size := by simp
            omega
          have HS1 := Lib.hid hs1
          have HB1 := Lib.hid (HBK.out.trans (hb1.mono HBK.out.size))
          have HX1 := Lib.hid (HXA.out.below hb1 hz)
          clear hs1 hb1
          go_wp2_with fail
          go_roundw
          case rel =>
            refine ⟨_, k + 1, R, rfl, by go_num, Lib.hid (by have := hk.out; simp only [Hg.len] at this; omega), HSR, HLR, Lib.hid ?_, HB1, HX1, Lib.hid (fun _ => ⟨b, o, rfl, ?_⟩)⟩
            · rw [show decide (k + 1 = 0) = false by simp, ← hK1.out, ← HS1.out]
              simp
            · rw [show o + (k + 1) * 2 = o + k * 2 + 2 from by omega]; exact HRR.out
          case measure => simp [intOf]; omega

end Go.Proofs.YtkgoealanboolaaDoor

namespace Go.Proofs.YtkgoealanboolaaDoor
open Go.RowKit Go.Shelf

theorem nmAll_mem {l : List ByteArray} : ∀ n, nmAll l n = true → ∀ k, k < n → nm l k = true := by
  intro n
  induction n with
  | zero => intro _ k h; omega
  | succ n ih =>
    intro h k hk
    rw [nmAll, Bool.and_eq_true] at h
    by_cases e : k = n
    · subst e; exact h.2
    · exact ih h.1 k (by omega)
theorem namesB_small {l : List ByteArray} {n : Int} (h : namesB l n = true) : (l.length : Int) = n ∧ ∀ x ∈ l, nameB x = true := by
  simp only [namesB, Bool.and_eq_true, decide_eq_true_eq] at h
  refine ⟨h.1, fun x hx => ?_⟩
  obtain ⟨k, hk, rfl⟩ := List.getElem_of_mem hx
  have := nmAll_mem _ h.2 k hk
  rw [nm, List.getElem?_eq_getElem hk] at this
  simp at this
  exact this.1
theorem nameB_12 {s : ByteArray} (h : nameB s = true) : s.size ≤ 12 := by
  simp [nameB] at h
  exact h.1.1.2

def ptE (al : List Int) (names : List ByteArray) (s : Int) (K : Hg) : Int := if tvalid al s K = true then (if namesB names (al.length : Int) = true then 0 else 4) else 1
def ptT (al : List Int) (names : List ByteArray) (s : Int) (K : Hg) : List UInt8 := if ptE al names s K = 0 then txT (nmOf names) s K else []
theorem tvalid_parts {al : List Int} {s : Int} {K : Hg} (h : tvalid al s K = true) : validAl al = true ∧ K.size + 1 ≤ 300 ∧ fit al s K.len = true ∧ K.fitAll al = true := by
  simpa only [tvalid, Bool.and_eq_true, decide_eq_true_eq] using h
theorem blk2_1 (w : World) (o0 : Obj) (t : TypeId) (a : Array Value) : Blk ((w.alloc o0).alloc (.cells a t)) (w.heap.size + 1) t a := by
  have := Blk.new (w.alloc o0) t a
  rwa [World.size_alloc] at this

set_option maxRecDepth 100000 in
set_option maxHeartbeats 1000000 in
theorem rtprint_ok (al : List Int) (av : Value) (names : List ByteArray) (vn : Value) (s : Int) (K : Hg) (v : Value) (w : World) (ha : IsInts w av al) (hn : IsStrs w vn names) (hv : IsH w v K) :
    Calls Tryd.prog 35 #[.agg #[av], vn, .agg #[.int .i64 s, v]] w fun e w' => ∃ t : ByteArray, e = .returned (.tuple #[.string t, .int .i64 (ptE al names s K)]) ∧ t.data.toList = ptT al names s K ∧ Below w.heap.size w w' := by
  have hbw : Below w.heap.size w ((w.alloc (.cells #[av] 24)).alloc (.cells #[.int .i64 s, v] 27)) := ((Below.refl _ w).alloc (Nat.le_refl _) _).alloc (by simp) _
  have HV := rtvalid_ok al av s v K _ (ha.below hbw) (hv.below hbw)
  have HB0 := Lib.hid (((Blk.new w 24 #[av]).alloc (.cells #[.int .i64 s, v] 27)))
  have HB1 := Lib.hid (blk2_1 w (.cells #[av] 24) 27 #[.int .i64 s, v])
  have HBW := Lib.hid hbw
  have HH := Lib.hid hv
  have HNS := Lib.hid hn
  have HNM := fun W (hb : Below w.heap.size w W) => rnames_ok names (al.length : Int) vn W (hn.below hb)
  obtain ⟨pa, ca, rfl, _, _, _⟩ := ha
  obtain ⟨p, c, rfl, _, _, _⟩ := hv
  obtain ⟨pn, cn, rfl, _, _, _, _⟩ := hn
  have HGO := Lib.hid (show ∀ w1, Below ((w.alloc (.cells #[.slice pa al.length ca] 24)).alloc (.cells #[.int .i64 s, .slice p K.len c] 27)).heap.size ((w.alloc (.cells #[.slice pa al.length ca] 24)).alloc (.cells #[.int .i64 s, .slice p K.len c] 27)) w1 →
      Below w.heap.size w w1 ∧ w1.cell? ⟨w.heap.size, 0, none⟩ = some (.slice pa al.length ca) ∧ w1.cell? ⟨w.heap.size + 1, 0, none⟩ = some (.int .i64 s) ∧ w1.cell? ⟨w.heap.size + 1, 1, none⟩ = some (.slice p K.len c) ∧ w.heap.size < w1.heap.size ∧ w.heap.size + 1 < w1.heap.size from fun w1 h => by
    have h0 := HB0.out.below h (by simp; omega)
    have h1 := HB1.out.below h (by simp)
    exact ⟨HBW.out.trans (h.mono (by simp; omega)), by rw [h0.cell]; rfl, by rw [h1.cell]; rfl, by rw [h1.cell]; rfl, h0.lt, h1.lt⟩)
  clear hbw
  rcases Bool.eq_false_or_eq_true (tvalid al s K) with hh | hh
  rotate_left
  · have HE : Hid (ptE al names s K = 1) := Lib.hid (by rw [ptE, if_neg (by simp [hh])])
    rw [hh] at HV
    have HV := Lib.hid HV
    clear hh HNM
    go_enter Tryd.func35, Tryd.ntmps35
    go_wp2_with fail
    refine HV.out.mono ?_
    rintro e w1 ⟨rfl, hb1⟩
    have HB := Lib.hid (HGO.out w1 hb1).1
    clear hb1
    go_wp2_with fail
    go_ret2
    exact ⟨⟨#[]⟩, by rw [HE.out]; rfl, by rw [ptT, if_neg (by rw [HE.out]; decide)], HB.out⟩
  · rw [hh] at HV
    have HV := Lib.hid HV
    have HHH := Lib.hid hh
    clear hh
    rcases Bool.eq_false_or_eq_true (namesB names (al.length : Int)) with hb | hb
    rotate_left
    · have HE : Hid (ptE al names s K = 4) := Lib.hid (by rw [ptE, if_pos HHH.out, if_neg (by simp [hb])])
      rw [hb] at HNM
      have HNM := Lib.hid HNM
      clear hb
      go_enter Tryd.func35, Tryd.ntmps35
      go_wp2_with fail
      refine HV.out.mono ?_
      rintro e w1 ⟨rfl, hb1⟩
      obtain ⟨q, z0, z1, z2, z3, z4⟩ := HGO.out w1 hb1
      have HB := Lib.hid q
      clear hb1 q
      go_wp2_with fail
      refine (HNM.out w1 HB.out).mono ?_
      rintro e w2 ⟨rfl, rfl⟩
      go_wp2_with fail
      go_ret2
      exact ⟨⟨#[]⟩, by rw [HE.out]; rfl, by rw [ptT, if_neg (by rw [HE.out]; decide)], HB.out⟩
    · have HE : Hid (ptE al names s K = 0) := Lib.hid (by rw [ptE, if_pos HHH.out, if_pos hb])
      have hsm := namesB_small hb
      obtain ⟨_, hK300, hfit, hall⟩ := tvalid_parts HHH.out
      have HW := Lib.hid (fun W (hbW : Below w.heap.size w W) => rtwrite_any names _ al (by omega) w HNS.out (fun x hx => nameB_12 (hsm.2 x hx)) (K.size + 1) s K (.slice p K.len c) W (by omega) (by omega) hbW (HH.out.below hbW) hfit hall)
      rw [hb] at HNM
      have HNM := Lib.hid HNM
      clear hb hsm hfit hall
      go_enter Tryd.func35, Tryd.ntmps35
      go_wp2_with fail
      refine HV.out.mono ?_
      rintro e w1 ⟨rfl, hb1⟩
      obtain ⟨q, z0, z1, z2, z3, z4⟩ := HGO.out w1 hb1
      have HB := Lib.hid q
      clear hb1 q
      go_wp2_with fail
      refine (HNM.out w1 HB.out).mono ?_
      rintro e w2 ⟨rfl, rfl⟩
      go_wp2_with fail
      refine (HW.out _ HB.out).mono ?_
      rintro e w3 ⟨t, rfl, ht, hb3⟩
      have HT := Lib.hid ht
      have HB3 := Lib.hid (HB.out.trans (hb3.mono HB.out.size))
      clear ht hb3
      go_wp2_with fail
      go_ret2
      exact ⟨t, by rw [HE.out]; rfl, by rw [ptT, if_pos HE.out]; exact HT.out, HB3.out⟩

end Go.Proofs.YtkgoealanboolaaDoor

