/- strings.Builder: copyCheck, WriteString (this dump's copyCheck ends in a refused branch: walked here). tree.write. strings.Builder's String, off the library; tree.Print. -/
import Derived.Test.YtkgoealanboolaaDoorDL
import Derived.Lib.Builder
import Derived.Lib.AppendStr
import Derived.Lib.Strings
import Derived.Lib.UnsafeStr
import Derived.Laws.Externs
import Derived.Laws.IdiomCopy
import Derived.Lib.OthersKept
import Derived.Test.YtkgoealanboolaaDoorTM3
import Derived.Shelf.Strings.Builder1
namespace Go.Proofs.YtkgoealanboolaaDoor
open Go.RowKit Go.Shelf

theorem Tryd.sizeBuilder : (Tryd.prog.info? 99).map (·.size) = some 2 := by kernel_rfl
theorem Tryd.liesBuilder : liesAt Tryd.prog Tryd.prog.depth 99 (2 / Tryd.prog.cellsOf 99) 0 99 1 = true := by kernel_rfl
theorem Tryd.infoByte : (Tryd.prog.info? 5).map (fun i => (i.zero, i.size, i.bytes)) = some (some (.int .u8 0), 1, 1) := by kernel_rfl

set_option maxHeartbeats 1000000 in
set_option maxRecDepth 100000 in
theorem copyCheck_used (b : Nat) (w : World) (h0 : w.cell? ⟨b, 0, none⟩ = some (.pointer (some ⟨b, 0, none⟩))) :
    Calls Tryd.prog 99 #[.pointer (some ⟨b, 0, none⟩)] w fun e w' => e = .returned (.tuple #[]) ∧ w' = w := by
  obtain ⟨j, hj, _⟩ := Option.map_eq_some_iff.1 Tryd.sizeBuilder
  go_enter Tryd.func99, Tryd.ntmps99
  go_wp2
  rw [Lib.run_neq_ptr_same w _ Tryd.underlying96 hj]
  go_wp2
  go_end0
  exact ⟨rfl, rfl⟩

set_option maxHeartbeats 1000000 in
set_option maxRecDepth 100000 in
theorem copyCheck_fresh (b : Nat) (w : World) (h0 : w.cell? ⟨b, 0, none⟩ = some (.pointer none)) (hsh : w.shape? b = some (99, 2)) (hfz : w.frozen? ⟨b, 0, none⟩ = false) :
    Calls Tryd.prog 99 #[.pointer (some ⟨b, 0, none⟩)] w fun e w' => e = .returned (.tuple #[]) ∧ w' = w.setCell ⟨b, 0, none⟩ (.pointer (some ⟨b, 0, none⟩)) := by
  obtain ⟨j, hj, hjs⟩ := Option.map_eq_some_iff.1 Tryd.sizeBuilder
  go_enter Tryd.func99, Tryd.ntmps99
  go_wp2
  rw [Lib.run_to_unsafe w ⟨b, 0, none⟩ Tryd.underlying96 Tryd.underlying143 hj (by rw [hjs]; decide) hsh (Nat.zero_lt_succ 1)]
  simp only [Result.andThen]
  rw [Oper.upon_value]
  go_wp2
  rw [run_callFunc_extern Tryd.func101 (by kernel_rfl) (by kernel_rfl) (by kernel_rfl) (e := Extern.AbiNoEscape.same) (by kernel_rfl)]
  rw [Lib.run_noEscape]
  simp only [Result.andThen]
  rw [Oper.upon_value]
  go_wp2
  rw [Lib.run_from_unsafe w ⟨b, 0, none⟩ Tryd.underlying143 Tryd.underlying96 hj hsh Tryd.liesBuilder]
  simp only [Result.andThen]
  rw [Oper.upon_value]
  go_wp2
  go_end0
  exact ⟨rfl, rfl⟩

theorem ownsRow_kind {w : World} {B : Nat} {e : TypeId} {size : Nat} {v : Value} {n : Nat} {xs : List Value} (h : w.ownsRow B e size v n xs) : ∀ g, v.ownBlock = some g → ∃ c fz, w.heap[g]? = some (.cells c e fz) := by
  intro g hg
  rcases h.2 with ⟨rfl, _⟩ | ⟨g', cap, cur, rfl, _, hgg, _⟩
  · simp [Value.ownBlock] at hg
  · simp [Value.ownBlock] at hg
    subst hg
    exact ⟨cur, _, hgg⟩

theorem copyCheck_ok (B b : Nat) (bs : List Value) (w : World) (h : Lib.IsBuilder 99 5 B b bs w) :
    Calls Tryd.prog 99 #[.pointer (some ⟨b, 0, none⟩)] w fun e w' => e = .returned (.tuple #[]) ∧ (Lib.BuilderAt 99 5 B b (.pointer (some ⟨b, 0, none⟩)) bs w' ∧ Below B w w' ∧ Lib.OthersKept 5 (some b) w w') := by
  rcases h with h | h
  · refine (copyCheck_fresh b w h.cell0 h.shape h.frozen0).mono ?_
    rintro e w' ⟨rfl, rfl⟩
    exact ⟨rfl, h.used _, (Below.refl B w).setCell (p := ⟨b, 0, none⟩) h.1 _, (Lib.OthersKept.refl _ _ _).setCell ⟨b, 0, none⟩ rfl _⟩
  · refine (copyCheck_used b w h.cell0).mono ?_
    rintro e w' ⟨rfl, rfl⟩
    exact ⟨rfl, h, Below.refl B _, Lib.OthersKept.refl _ _ _⟩

set_option maxHeartbeats 1000000 in
set_option maxRecDepth 100000 in
theorem writeString_ok (B b : Nat) (bs : List Value) (s : ByteArray) (w : World) (h : Lib.IsBuilder 99 5 B b bs w) (hlen : bs.length + s.size ≤ 140737488355328) (hBw : B ≤ w.heap.size) :
    Calls Tryd.prog 90 #[.pointer (some ⟨b, 0, none⟩), .string s] w fun e w' => e = .returned (.tuple #[.int .i64 s.size, .nilIface]) ∧ (Lib.BuilderAt 99 5 B b (.pointer (some ⟨b, 0, none⟩)) (bs ++ Lib.strCells s) w' ∧ Below B w w' ∧ Lib.OthersKept 5 (some b) w w') := by
  obtain ⟨i0, hi, hz0, hz1, hz2⟩ := info_parts Tryd.infoByte
  go_enter Tryd.func90, Tryd.ntmps90
  go_wp2_with fail
  refine (copyCheck_ok B b bs _ h).mono ?_
  rintro e w1 ⟨rfl, h1, hb1, ho1⟩
  obtain ⟨hB, v, hbk, hown, hne⟩ := h1
  have c0 : w1.cell? ⟨b, 0, none⟩ = some (.pointer (some ⟨b, 0, none⟩)) := by rw [Lib.cell_of_heap hbk]; rfl
  have c1 : w1.cell? ⟨b, 1, none⟩ = some v := by rw [Lib.cell_of_heap hbk]; rfl
  go_wp2_with (at_builtin; refine Lib.wpList_append_own_string _ rfl _ _ 97 9 rfl B 5 i0 Tryd.underlying97 Tryd.underlying9 hi hz0 hz1 hz2 _ _ _ rfl hown s rfl ?c3 ?c4 ?c5 ?_)
  case c3 => unfold maxLen; omega
  case c4 => omega
  case c5 => have := hb1.size; omega
  intro v' w2 hown' hgrow _
  have hlt : b < w1.heap.size := by
    rcases Nat.lt_or_ge b w1.heap.size with h' | h'
    · exact h'
    · simp [Array.getElem?_eq_none h'] at hbk
  have hb2 : w2.heap[b]? = some (.cells #[.pointer (some ⟨b, 0, none⟩), v] 99 (0, 0)) := by
    rw [hgrow.block b hlt (fun e => hne e.symm)]
    exact hbk
  have d0 : w2.cell? ⟨b, 0, none⟩ = some (.pointer (some ⟨b, 0, none⟩)) := by rw [Lib.cell_of_heap hb2]; rfl
  have d1 : w2.cell? ⟨b, 1, none⟩ = some v := by rw [Lib.cell_of_heap hb2]; rfl
  have f1 : w2.frozen? ⟨b, 1, none⟩ = false := Lib.frozen_of_heap hb2 1
  obtain ⟨ao, n', cap, rfl⟩ : ∃ ao n' cap, v' = .slice ao n' cap := by
    rcases hown'.2 with ⟨hv, _⟩ | ⟨g, cap, cur, hv, _⟩
    · exact ⟨_, _, _, hv⟩
    · exact ⟨_, _, _, hv⟩
  go_wp2
  go_ret2
  refine ⟨rfl, ?_, ?_, ?_⟩
  · exact Lib.BuilderAt.put (T := 99) (e := 5) hB hb2 (bs' := bs ++ Lib.strCells s) (by simpa [Lib.strCells_length] using hown') (by decide)
  · exact (hb1.grown hgrow (by have := hb1.size; omega) (fun k hk => (hown.lt k hk).1)).setCell (p := ⟨b, 1, none⟩) hB _
  · exact (ho1.grown hgrow (ownsRow_kind hown)).setCell ⟨b, 1, none⟩ rfl _

/-- A builder that holds the bytes l. -/
def Holds (B b : Nat) (l : List UInt8) (w : World) : Prop := Lib.IsBuilder 99 5 B b (Lib.byteCells l) w
theorem Holds.alloc {B b : Nat} {l : List UInt8} {w : World} (h : Holds B b l w) (o : Obj) : Holds B b l (w.alloc o) := by
  have key : ∀ p, Lib.BuilderAt 99 5 B b p (Lib.byteCells l) w → Lib.BuilderAt 99 5 B b p (Lib.byteCells l) (w.alloc o) := by
    rintro p ⟨h1, v, h2, h3, h4⟩
    exact ⟨h1, v, (Below.heap_alloc w o b (Array.getElem?_eq_some_iff.1 h2).1).trans h2, h3.alloc o, h4⟩
  exact h.imp (key _) (key _)
theorem bput_ok (B b : Nat) (l : List UInt8) (s : ByteArray) (w : World) (h : Holds B b l w) (hlen : l.length ≤ 1000000) (hs : s.size ≤ 1000000) (hBw : B ≤ w.heap.size) :
    Calls Tryd.prog 90 #[.pointer (some ⟨b, 0, none⟩), .string s] w fun e w' => e = .returned (.tuple #[.int .i64 s.size, .nilIface]) ∧ Holds B b (l ++ s.data.toList) w' ∧ Below B w w' ∧ Lib.OthersKept 5 (some b) w w' :=
  (writeString_ok B b (Lib.byteCells l) s w h (by rw [Lib.byteCells_length]; omega) hBw).mono fun e w' ⟨h1, h2, h3, h4⟩ => ⟨h1, by
    refine .inr ?_
    have : Lib.byteCells (l ++ s.data.toList) = Lib.byteCells l ++ Lib.strCells s := by simp [Lib.byteCells, Lib.strCells]
    rw [this]; exact h2, h3, h4⟩

end Go.Proofs.YtkgoealanboolaaDoor

namespace Go.Proofs.YtkgoealanboolaaDoor
open Go.RowKit Go.Shelf

theorem Blk.others {w w' : World} {g b : Nat} {cs : Array Value} {e t : TypeId} (h : Blk w g t cs) (ho : Lib.OthersKept e (some b) w w') (hg : ¬ g = b) (ht : t ≠ e) : Blk w' g t cs :=
  ho g _ h (by simpa using hg) (fun c fz he => by injection he with _ h2 _; exact ht h2)

set_option maxRecDepth 100000 in
set_option maxHeartbeats 2000000 in
theorem twrite_any (names : List ByteArray) (vn : Value) (al : List Int) (hnl : names.length = al.length) (w0 : World) (hn0 : IsStrs w0 vn names) (h12 : ∀ x ∈ names, x.size ≤ 12) (B b : Nat) (hB : w0.heap.size ≤ B) (N : Nat) : ∀ (s : Int) (K : Hg) (v : Value) (acc : List UInt8) (w : World), K.size < N → K.size ≤ 1000 → acc.length + 15 * K.size + 20 ≤ 100000 → Below B w0 w → B ≤ w.heap.size → IsH w0 v K → fit al s K.len = true → K.fitAll al = true → Holds B b acc w →
    Calls Tryd.prog 64 #[.pointer (some ⟨b, 0, none⟩), vn, .agg #[.int .i64 s, v]] w fun e w' => e = .returned (.tuple #[]) ∧ Holds B b (acc ++ txT (nmOf names) s K) w' ∧ Below B w w' ∧ Lib.OthersKept 5 (some b) w w' := by
  obtain ⟨pn, cn, rfl, hn1, hn2, hn3, _⟩ := hn0
  unfold maxLen at hn2
  have HN := Lib.hid hn3
  have HF := Lib.hid (nmOf_length h12)
  have H12 := Lib.hid h12
  have HNL := Lib.hid hnl
  clear hn3 h12 hnl
  induction N with
  | zero => intro s K v acc w hN; omega
  | succ N ih =>
    intro s K v acc w hN hmax hal hb0 hBw hv hfit hall hh
    obtain ⟨p, c, rfl, hc1, hc2, hrow⟩ := hv
    unfold maxLen at hc2
    have hlen := Hg.len_le_size K
    have hs01 : 0 ≤ s ∧ s < names.length := by have := HNL.out; simp only [fit, Bool.and_eq_true, decide_eq_true_eq] at hfit; omega
    obtain ⟨hs0, hs1⟩ := hs01
    obtain ⟨m, rfl⟩ := Int.eq_ofNat_of_zero_le hs0
    have hm : m < names.length := by omega
    obtain ⟨x, hx⟩ : ∃ x, names[m]? = some x := ⟨_, List.getElem?_eq_getElem hm⟩
    obtain ⟨bn, on, rfl, hcn⟩ := HN.out (fun h => by simp [h] at hm)
    have hx12 : x.size ≤ 12 := H12.out x (List.mem_of_getElem? hx)
    have hnm : Hid (nmOf names (m : Int) = x.data.toList) := Lib.hid (by simp [nmOf, hx])
    have cx := cell_later (hb0.mono hB) (hcn m x hx)
    have hbln := World.block_lt_of_cell? _ _ cx
    simp only at hbln
    have hbb : b < w.heap.size := hh.elim (fun h => h.lt) (fun h => h.lt)
    have hxl : x.data.toList.length ≤ 12 := by simpa using hx12
    have HI := Lib.hid ih
    have HR := Lib.hid hrow
    have HB0 := Lib.hid hb0
    have HAL := Lib.hid hall
    have HO0 := Lib.hid (hh.alloc (.cells #[.int .i64 (m : Int), .slice p K.len c] 27))
    have HBX := Lib.hid (Blk.new w 27 #[.int .i64 (m : Int), .slice p K.len c])
    have HBA := Lib.hid ((Below.refl B w).alloc hBw (.cells #[.int .i64 (m : Int), .slice p K.len c] 27))
    have HKA := Lib.hid ((Lib.OthersKept.refl 5 (some b) w).alloc (.cells #[.int .i64 (m : Int), .slice p K.len c] 27))
    have HPut := Lib.hid (fun l s W h1 h2 h3 h4 => bput_ok B b l s W h1 h2 h3 h4)
    have hne0 : ¬ w.heap.size = b := by omega
    have hP1 := Lib.hid (HPut.out acc x _ HO0.out (by omega) (by omega) (by simp; omega))
    clear ih hrow hb0 hall hx hcn hfit hh
    go_enter Tryd.func64, Tryd.ntmps64
    go_wp2_with fail
    refine hP1.out.mono ?_
    rintro e w1 ⟨rfl, h1, h2, h3⟩
    have HO1 := Lib.hid h1
    have HB1 := Lib.hid (HBA.out.trans h2)
    have HK1 := Lib.hid (HKA.out.trans h3)
    have hX1 := HBX.out.others h3 hne0 (by decide)
    have x0 : w1.cell? ⟨w.heap.size, 0, none⟩ = some (.int .i64 (m : Int)) := by rw [hX1.cell]; rfl
    have x1 : w1.cell? ⟨w.heap.size, 1, none⟩ = some (.slice p K.len c) := by rw [hX1.cell]; rfl
    have x2 := hX1.lt
    clear h1 h2 h3 hP1 hX1
    by_cases hK : K.len = 0
    · have hK2 : decide ((K.len : Int) = 0) = true := decide_eq_true (by omega)
      have hK3 : ((K.len : Int) == 0) = true := by simpa using hK
      have HTX : Hid (txT (nmOf names) (m : Int) K = x.data.toList) := Lib.hid (by rw [txT, if_pos hK, hnm.out]; simp)
      go_wp2_with fail
      refine bodyPost_ret (results_none rfl _ _ _) rfl ?_
      exact ⟨rfl, by rw [HTX.out]; exact HO1.out, HB1.out, HK1.out⟩
    · have hK2 : decide ((K.len : Int) = 0) = false := decide_eq_false (by omega)
      have hK3 : ((K.len : Int) == 0) = false := by simpa using hK
      have HTX : Hid (txT (nmOf names) (m : Int) K = x.data.toList ++ (K.tk (nmOf names) true ++ [41])) := Lib.hid (by rw [txT, if_neg hK, hnm.out])
      clear hK
      go_wp2_with fail
      go_loopw [6, 23] (fun mk i wr => ∃ (a : List UInt8) (ms : ByteArray) (k : Nat) (R : Hg), mk = .string ms ∧ i = .int .i64 k ∧ Hid (ms.data.toList = if k = 0 then [40] else [44, 32]) ∧ Hid (k + R.len = K.len) ∧ Hid (R.size ≤ K.size) ∧ Hid (R.fitAll al = true) ∧ Hid (a ++ R.tk (nmOf names) (decide (k = 0)) = acc ++ x.data.toList ++ K.tk (nmOf names) true) ∧ Hid (a.length + 15 * R.size ≤ acc.length + 12 + 15 * K.size) ∧ Hid (Holds B b a wr) ∧ Hid (Below B w wr) ∧ Hid (Lib.OthersKept 5 (some b) w wr) ∧ Hid (R ≠ .nil → ∃ b o, p = some ⟨b, o, none⟩ ∧ Row w0 R b (o + k * 2)))
        (fun _ i _ => K.len - (intOf i).toNat)
      case atStart =>
        exact ⟨acc ++ x.data.toList, ⟨#[40]⟩, 0, K, rfl, rfl, Lib.hid rfl, Lib.hid (by simp), Lib.hid (Nat.le_refl _), HAL, Lib.hid (by simp), Lib.hid (by simp only [List.length_append]; omega), HO1, HB1, HK1, Lib.hid (by simpa using HR.out)⟩
      case round =>
        obtain ⟨a, ms, k, R, rfl, rfl, hms, hk, hsz, hlb, hacc, hal2, HO, HBw, HKw, hR⟩ := hrel
        have hszr := HBw.out.size
        cases R with
        | nil =>
          have hge : K.len ≤ k := by have := hk.out; simp only [Hg.len] at this; omega
          have HA : Hid (a = acc ++ x.data.toList ++ K.tk (nmOf names) true) := Lib.hid (by have := hacc.out; simpa [Hg.tk] using this)
          have hP2 := Lib.hid (HPut.out a ⟨#[41]⟩ wr HO.out (by have := hal2.out; omega) (by decide) (by omega))
          clear hk hsz hlb hacc hR HR hms
          go_wp2_with fail
          refine hP2.out.mono ?_
          rintro e w5 ⟨rfl, h1, h2, h3⟩
          have HO5 := Lib.hid h1
          have HB5 := Lib.hid (HBw.out.trans h2)
          have HK5 := Lib.hid (HKw.out.trans h3)
          clear h1 h2 h3 hP2
          go_wp2_with fail
          go_end0
          refine ⟨rfl, ?_, HB5.out, HK5.out⟩
          have := HO5.out
          rw [HA.out] at this
          rw [HTX.out]
          simpa using this
        | cons l k' R =>
          obtain ⟨b1, o, rfl, hr⟩ := hR.out (by simp)
          rw [Row.cons_iff] at hr
          obtain ⟨c1, hl, ⟨vk, c2, hvk⟩, hr⟩ := hr
          have HVK := Lib.hid hvk
          obtain ⟨p', c', rfl, _, _, _⟩ := hvk
          have hlt : k < K.len := by have := hk.out; simp only [Hg.len] at this; omega
          have hszs : k'.size < N ∧ k'.size ≤ 1000 ∧ R.size ≤ K.size := by have := hsz.out; simp only [Hg.size] at this; omega
          have hlbs : fit al l k'.len = true ∧ k'.fitAll al = true ∧ R.fitAll al = true := by
            have := hlb.out
            simpa only [Hg.fitAll, Bool.and_eq_true] using this
          have hbr : Below w0.heap.size w0 wr := (HB0.out.mono hB).trans (HBw.out.mono hB)
          have c1 := cell_later hbr c1
          have c2 := cell_later hbr c2
          have hbl := World.block_lt_of_cell? _ _ c1
          simp only at hbl
          have hbb' : b < wr.heap.size := by omega
          have hal3 : a.length + 15 * (k'.size + R.size + 1) ≤ acc.length + 12 + 15 * K.size := by have := hal2.out; simp only [Hg.size] at this; omega
          have hml : ms.data.toList.length ≤ 2 := by rw [hms.out]; split <;> simp
          have hms2 : ms.size ≤ 2 := by simpa using hml
          have HOx := Lib.hid (HO.out.alloc (.cells #[.int .i64 l, .slice p' k'.len c'] 27))
          have HBx := Lib.hid (HBw.out.alloc (by omega) (.cells #[.int .i64 l, .slice p' k'.len c'] 27))
          have HKx := Lib.hid (HKw.out.alloc (.cells #[.int .i64 l, .slice p' k'.len c'] 27))
          have HXx := Lib.hid (Blk.new wr 27 #[.int .i64 l, .slice p' k'.len c'])
          have hP2 := Lib.hid (HPut.out a ms _ HOx.out (by omega) (by omega) (by have := HBx.out.size; omega))
          have HRR := Lib.hid hr
          have HLR := Lib.hid hlbs.2.2
          have HSR := Lib.hid hszs.2.2
          have hne : ¬ wr.heap.size = b := by omega
          have htl : Hid ((txT (nmOf names) l k').length ≤ 15 * k'.size + 13) := Lib.hid (txT_length HF.out l k')
          have hfk := Lib.hid hlbs.1
          have hak := Lib.hid hlbs.2.1
          have hkN := hszs.1
          have hk1000 := hszs.2.1
          clear hR hr hszs hlbs HR hbr HO HBw HKw
          go_wp2_with fail
          refine hP2.out.mono ?_
          rintro e w2 ⟨rfl, h1, h2, h3⟩
          have HO2 := Lib.hid h1
          have HB2 := Lib.hid (HBx.out.trans h2)
          have HK2 := Lib.hid (HKx.out.trans h3)
          have hX2 := HXx.out.others h3 hne (by decide)
          have x20 : w2.cell? ⟨wr.heap.size, 0, none⟩ = some (.int .i64 l) := by rw [hX2.cell]; rfl
          have x21 : w2.cell? ⟨wr.heap.size, 1, none⟩ = some (.slice p' k'.len c') := by rw [hX2.cell]; rfl
          have x22 := hX2.lt
          have hC := Lib.hid (HI.out l k' (.slice p' k'.len c') (a ++ ms.data.toList) w2 hkN hk1000 (by rw [List.length_append]; omega) (HB0.out.trans HB2.out) (by have := HB2.out.size; omega) HVK.out hfk.out hak.out HO2.out)
          clear h1 h2 h3 hP2 hX2
          go_wp2_with fail
          refine hC.out.mono ?_
          rintro e w3 ⟨rfl, h1, h2, h3⟩
          have HO3 := Lib.hid h1
          have HB3 := Lib.hid (HB2.out.trans h2)
          have HK3 := Lib.hid (HK2.out.trans h3)
          clear h1 h2 h3 hC
          go_wp2_with fail
          go_roundw
          case rel =>
            refine ⟨_, ⟨#[44, 32]⟩, k + 1, R, rfl, by go_num, Lib.hid (by simp), Lib.hid (by have := hk.out; simp only [Hg.len] at this; omega), HSR, HLR, Lib.hid ?_, Lib.hid (by have := htl.out; simp only [List.length_append]; omega), HO3, HB3, HK3, Lib.hid (fun _ => ⟨b1, o, rfl, ?_⟩)⟩
            · rw [show decide (k + 1 = 0) = false by simp, ← hacc.out, Hg.tk_cons, hms.out]
              by_cases hk0 : k = 0
              · simp [hk0]
              · simp [hk0]
            · rw [show o + (k + 1) * 2 = o + k * 2 + 2 from by omega]; exact HRR.out
          case measure => simp [intOf]; omega

end Go.Proofs.YtkgoealanboolaaDoor

namespace Go.Proofs.YtkgoealanboolaaDoor
open Go.RowKit Go.Shelf

def ren169 : Go.Shelf.Ren := ⟨fun | 169 => 65 | n => n, fun | 70 => 96 | 9 => 9 | 0 => 0 | 72 => 99 | 37 => 97 | 127 => 133 | 3 => 3 | 5 => 5 | n => n, fun | n => n⟩
theorem lays169 : Go.Proofs.Lays.n169 Tryd.prog ren169 := {
  mixed := by kernel_rfl
  f169 := Tryd.func65.trans (congrArg some (by kernel_rfl))
  t0 := Tryd.underlying0
  a0 := Tryd.isAgg0
  z0 := Tryd.sizeOf0
  v0 := Tryd.zeroValue0
  t3 := Tryd.underlying3
  a3 := Tryd.isAgg3
  z3 := Tryd.sizeOf3
  v3 := Tryd.zeroValue3
  t9 := Tryd.underlying9
  a9 := Tryd.isAgg9
  z9 := Tryd.sizeOf9
  v9 := Tryd.zeroValue9
  t37 := Tryd.underlying97
  a37 := Tryd.isAgg97
  z37 := Tryd.sizeOf97
  v37 := Tryd.zeroValue97
  t70 := Tryd.underlying96
  a70 := Tryd.isAgg96
  z70 := Tryd.sizeOf96
  v70 := Tryd.zeroValue96
  t72 := Tryd.underlying99
  a72 := Tryd.isAgg99
  z72 := Tryd.sizeOf99
  v72 := Tryd.zeroValue99
  t127 := Tryd.underlying133
  a127 := Tryd.isAgg133
  z127 := Tryd.sizeOf133
  v127 := Tryd.zeroValue133 }
theorem extra169 : Builder.Extra Tryd.prog ren169 := {
  sizeBuilder := by kernel_rfl
  liesBuilder := by kernel_rfl
  t5 := Tryd.underlying5
  a5 := Tryd.isAgg5
  z5 := Tryd.sizeOf5
  v5 := Tryd.zeroValue5
  infoByte := by kernel_rfl
  cellsByte := by kernel_rfl
  sizeByte := by kernel_rfl
  neB5 := by decide }
theorem builderString_ok (B b : Nat) (l : List UInt8) (w : World) (h : Holds B b l w) (hBw : B ≤ w.heap.size) :
    Calls Tryd.prog 65 #[.pointer (some ⟨b, 0, none⟩)] w fun e w' => e = .returned (.string ⟨l.toArray⟩) ∧ Below B w w' := Any.Builder_String_any lays169 extra169 B b l w h hBw

set_option maxRecDepth 100000 in
set_option maxHeartbeats 1000000 in
theorem tprint_ok (al : List Int) (av : Value) (names : List ByteArray) (vn : Value) (s : Int) (K : Hg) (v : Value) (w : World) (ha : IsInts w av al) (hn : IsStrs w vn names) (hwf : (Lit.int .i64 s).wf = true) (hv : IsH w v K) (hs : K.size ≤ 1000000) :
    Calls Tryd.prog 34 #[.agg #[av], vn, .agg #[.int .i64 s, v]] w fun e w' => ∃ t : ByteArray, e = .returned (.tuple #[.string t, .int .i64 (ptE al names s K)]) ∧ t.data.toList = ptT al names s K ∧ Below w.heap.size w w' := by
  have hbw : Below w.heap.size w ((w.alloc (.cells #[av] 24)).alloc (.cells #[.int .i64 s, v] 27)) := ((Below.refl _ w).alloc (Nat.le_refl _) _).alloc (by simp) _
  have HV := tvalid_ok al av s v K _ (ha.below hbw) hwf (hv.below hbw) hs
  have HB0 := Lib.hid (((Blk.new w 24 #[av]).alloc (.cells #[.int .i64 s, v] 27)))
  have HB1 := Lib.hid (blk2_1 w (.cells #[av] 24) 27 #[.int .i64 s, v])
  have HBW := Lib.hid hbw
  have HH := Lib.hid hv
  have HNS := Lib.hid hn
  have HNM := fun W (hb : Below w.heap.size w W) => names_ok names (al.length : Int) vn W (hn.below hb)
  obtain ⟨pa, ca, rfl, _, _, _⟩ := ha
  obtain ⟨p, c, rfl, _, _, _⟩ := hv
  obtain ⟨pn, cn, rfl, _, _, _, _⟩ := hn
  have HGO := Lib.hid (show ∀ w1, Below ((w.alloc (.cells #[.slice pa al.length ca] 24)).alloc (.cells #[.int .i64 s, .slice p K.len c] 27)).heap.size ((w.alloc (.cells #[.slice pa al.length ca] 24)).alloc (.cells #[.int .i64 s, .slice p K.len c] 27)) w1 →
      Below w.heap.size w w1 ∧ w1.cell? ⟨w.heap.size, 0, none⟩ = some (.slice pa al.length ca) ∧ w1.cell? ⟨w.heap.size + 1, 0, none⟩ = some (.int .i64 s) ∧ w1.cell? ⟨w.heap.size + 1, 1, none⟩ = some (.slice p K.len c) ∧ w.heap.size < w1.heap.size ∧ w.heap.size + 1 < w1.heap.size from fun w1 h => by
    have h0 := HB0.out.below h (by simp; omega)
    have h1 := HB1.out.below h (by simp)
    exact ⟨HBW.out.trans (h.mono (by simp; omega)), by rw [h0.cell]; rfl, by rw [h1.cell]; rfl, by rw [h1.cell]; rfl, h0.lt, h1.lt⟩)
  clear hbw hwf
  rcases Bool.eq_false_or_eq_true (tvalid al s K) with hh | hh
  rotate_left
  · have HE : Hid (ptE al names s K = 1) := Lib.hid (by rw [ptE, if_neg (by simp [hh])])
    rw [hh] at HV
    have HV := Lib.hid HV
    clear hh HNM
    go_enter Tryd.func34, Tryd.ntmps34
    go_wp2_with fail
    refine HV.out.mono ?_
    rintro e w1 ⟨rfl, hb1⟩
    have HB := Lib.hid (HGO.out w1 hb1).1
    clear hb1
    go_wp2_with fail
    go_ret2
    exact ⟨⟨#[]⟩, by rw [HE.out]; rfl, by rw [ptT, if_neg (by rw [HE.out]; decide)], HB.out⟩
  · rw [hh] at HV
    have HV := Lib.hid HV
    have HHH := Lib.hid hh
    clear hh
    rcases Bool.eq_false_or_eq_true (namesB names (al.length : Int)) with hb | hb
    rotate_left
    · have HE : Hid (ptE al names s K = 4) := Lib.hid (by rw [ptE, if_pos HHH.out, if_neg (by simp [hb])])
      rw [hb] at HNM
      have HNM := Lib.hid HNM
      clear hb
      go_enter Tryd.func34, Tryd.ntmps34
      go_wp2_with fail
      refine HV.out.mono ?_
      rintro e w1 ⟨rfl, hb1⟩
      obtain ⟨q, z0, z1, z2, z3, z4⟩ := HGO.out w1 hb1
      have HB := Lib.hid q
      clear hb1 q
      go_wp2_with fail
      refine (HNM.out w1 HB.out).mono ?_
      rintro e w2 ⟨rfl, rfl⟩
      go_wp2_with fail
      go_ret2
      exact ⟨⟨#[]⟩, by rw [HE.out]; rfl, by rw [ptT, if_neg (by rw [HE.out]; decide)], HB.out⟩
    · have HE : Hid (ptE al names s K = 0) := Lib.hid (by rw [ptE, if_pos HHH.out, if_pos hb])
      have hsm := namesB_small hb
      obtain ⟨_, hK300, hfit, hall⟩ := tvalid_parts HHH.out
      have HW : Hid (∀ W, Below w.heap.size w W → Calls Tryd.prog 64 #[.pointer (some ⟨W.heap.size, 0, none⟩), .slice pn names.length cn, .agg #[.int .i64 s, .slice p K.len c]] (W.alloc (.cells #[.pointer none, .slice none 0 0] 99)) fun e w' => e = .returned (.tuple #[]) ∧ Holds W.heap.size W.heap.size (txT (nmOf names) s K) w' ∧ Below W.heap.size (W.alloc (.cells #[.pointer none, .slice none 0 0] 99)) w' ∧ Lib.OthersKept 5 (some W.heap.size) (W.alloc (.cells #[.pointer none, .slice none 0 0] 99)) w') :=
        Lib.hid (fun W hbW => by
          have := twrite_any names (.slice pn names.length cn) al (by omega) W (HNS.out.below hbW) (fun x hx => nameB_12 (hsm.2 x hx)) W.heap.size W.heap.size (Nat.le_refl _) (K.size + 1) s K (.slice p K.len c) [] (W.alloc (.cells #[.pointer none, .slice none 0 0] 99)) (by omega) (by omega) (by simp; omega) ((Below.refl _ _).alloc (Nat.le_refl _) _) (by simp) (HH.out.below hbW) hfit hall (Lib.fresh_isBuilder _ _ W)
          simpa using this)
      rw [hb] at HNM
      have HNM := Lib.hid HNM
      clear hb hsm hfit hall
      go_enter Tryd.func34, Tryd.ntmps34
      go_wp2_with fail
      refine HV.out.mono ?_
      rintro e w1 ⟨rfl, hb1⟩
      obtain ⟨q, z0, z1, z2, z3, z4⟩ := HGO.out w1 hb1
      have HB := Lib.hid q
      clear hb1 q
      go_wp2_with fail
      refine (HNM.out w1 HB.out).mono ?_
      rintro e w2 ⟨rfl, rfl⟩
      go_wp2_with fail
      refine (HW.out _ HB.out).mono ?_
      rintro e w3 ⟨rfl, hh3, hb3, hk3⟩
      have HS := Lib.hid (builderString_ok _ _ _ w3 hh3 (by have := hb3.size; simp at this; omega))
      have hsz1 := HB.out.size
      have HB3 : Hid (Below w.heap.size w w3) := Lib.hid ((HB.out.alloc hsz1 _).trans (hb3.mono hsz1))
      clear hh3 hb3 hk3
      go_wp2_with fail
      refine HS.out.mono ?_
      rintro e w4 ⟨rfl, hb4⟩
      have HB4 := Lib.hid (HB3.out.trans (hb4.mono hsz1))
      clear hb4
      go_wp2_with fail
      go_ret2
      exact ⟨_, by rw [HE.out]; rfl, by rw [ptT, if_pos HE.out], HB4.out⟩

end Go.Proofs.YtkgoealanboolaaDoor

