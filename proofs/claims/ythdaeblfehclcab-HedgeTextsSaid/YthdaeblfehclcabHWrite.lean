/- hedge.write. -/
import Derived.Test.YthdaeblfehclcabWrite
import Derived.Test.YthdaeblfehclcabBuild
namespace Go.Proofs.Ythdaeblfehclcab
open Go.RowKit Go.Shelf

theorem Blk.others {w w' : World} {g b : Nat} {cs : Array Value} {e t : TypeId} (h : Blk w g t cs) (ho : Lib.OthersKept e (some b) w w') (hg : ¬ g = b) (ht : t ≠ e) : Blk w' g t cs :=
  ho g _ h (by simpa using hg) (fun c fz he => by injection he with _ h2 _; exact ht h2)

set_option maxRecDepth 100000 in
set_option maxHeartbeats 2000000 in
theorem hwrite_any (names : List ByteArray) (vn : Value) (w0 : World) (hn0 : IsStrs w0 vn names) (h12 : ∀ x ∈ names, x.size ≤ 12) (B b : Nat) (hB : w0.heap.size ≤ B) (N : Nat) : ∀ (H : Hg) (v : Value) (acc : List UInt8) (w : World), H.size < N → H.size ≤ 1000 → acc.length + 15 * H.size ≤ 100000 → Below B w0 w → B ≤ w.heap.size → IsH w0 v H → H.flat.all (lok names.length) = true → Holds B b acc w →
    Calls Try.prog 54 #[.pointer (some ⟨b, 0, none⟩), vn, v] w fun e w' => e = .returned (.tuple #[]) ∧ Holds B b (acc ++ H.tx (nmOf names) false) w' ∧ Below B w w' ∧ Lib.OthersKept 5 (some b) w w' := by
  obtain ⟨pn, cn, rfl, hn1, hn2, hn3, _⟩ := hn0
  unfold maxLen at hn2
  have HN := Lib.hid hn3
  have HF := Lib.hid (nmOf_length h12)
  have H12 := Lib.hid h12
  clear hn3 h12
  induction N with
  | zero => intro H v acc w hN; omega
  | succ N ih =>
    intro H v acc w hN hmax hal hb0 hBw hv hlab hh
    obtain ⟨p, c, rfl, hc1, hc2, hrow⟩ := hv
    unfold maxLen at hc2
    have hlen := Hg.len_le_size H
    have HI := Lib.hid ih
    have HR := Lib.hid hrow
    have HB0 := Lib.hid hb0
    have HLB := Lib.hid hlab
    have HHo := Lib.hid hh
    clear ih hrow hb0 hlab hh
    go_enter Try.func54, Try.ntmps54
    go_wp2_with fail
    go_loopw [10] (fun i wr => ∃ (a : List UInt8) (k : Nat) (R : Hg), i = .int .i64 k ∧ Hid (k + R.len = H.len) ∧ Hid (R.size ≤ H.size) ∧ Hid (R.flat.all (lok names.length) = true) ∧ Hid (a ++ R.tx (nmOf names) (decide (0 < k)) = acc ++ H.tx (nmOf names) false) ∧ Hid (a.length + 15 * R.size ≤ acc.length + 15 * H.size) ∧ Hid (Holds B b a wr) ∧ Hid (Below B w wr) ∧ Hid (Lib.OthersKept 5 (some b) w wr) ∧ Hid (R ≠ .nil → ∃ b o, p = some ⟨b, o, none⟩ ∧ Row w0 R b (o + k * 2)))
      (fun i _ => H.len - (intOf i).toNat)
    case atStart =>
      exact ⟨acc, 0, H, rfl, Lib.hid (by simp), Lib.hid (Nat.le_refl _), HLB, Lib.hid (by simp), Lib.hid (Nat.le_refl _), HHo, Lib.hid (Below.refl _ _), Lib.hid (Lib.OthersKept.refl _ _ _), Lib.hid (by simpa using HR.out)⟩
    case round =>
      obtain ⟨a, k, R, rfl, hk, hsz, hlb, hacc, hal2, HO, HBw, HK, hR⟩ := hrel
      cases R with
      | nil =>
        have hge : H.len ≤ k := by have := hk.out; simp only [Hg.len] at this; omega
        have HA : Hid (a = acc ++ H.tx (nmOf names) false) := Lib.hid (by have := hacc.out; simpa [Hg.tx] using this)
        clear hk hsz hlb hacc hR HR
        go_wp2_with fail
        go_end0
        exact ⟨rfl, by rw [← HA.out]; exact HO.out, HBw.out, HK.out⟩
      | cons l K R =>
        obtain ⟨b1, o, rfl, hr⟩ := hR.out (by simp)
        rw [Row.cons_iff] at hr
        obtain ⟨c1, hl, ⟨vk, c2, hvk⟩, hr⟩ := hr
        have HVK := Lib.hid hvk
        obtain ⟨p', c', rfl, _, _, _⟩ := hvk
        have hlt : k < H.len := by have := hk.out; simp only [Hg.len] at this; omega
        have hszs : K.size < N ∧ K.size ≤ 1000 ∧ R.size ≤ H.size := by have := hsz.out; simp only [Hg.size] at this; omega
        have hlbs : lok names.length (l, K) = true ∧ K.flat.all (lok names.length) = true ∧ R.flat.all (lok names.length) = true := by
          have := hlb.out
          rw [flat_all_cons] at this
          simpa only [Bool.and_eq_true] using this
        have hl01 : 0 ≤ l ∧ l < names.length := by have := hlbs.1; simpa [lok] using this
        obtain ⟨hl0, hl1⟩ := hl01
        obtain ⟨m, rfl⟩ := Int.eq_ofNat_of_zero_le hl0
        have hm : m < names.length := by omega
        obtain ⟨x, hx⟩ : ∃ x, names[m]? = some x := ⟨_, List.getElem?_eq_getElem hm⟩
        obtain ⟨bn, on, rfl, hcn⟩ := HN.out (fun h => by simp [h] at hm)
        have hx12 : x.size ≤ 12 := H12.out x (List.mem_of_getElem? hx)
        have hbr : Below w0.heap.size w0 wr := (HB0.out.mono hB).trans (HBw.out.mono hB)
        have cxw := hcn m x hx
        have hold : ∀ W, Below B w0 W → W.cell? ⟨bn, on + m, none⟩ = some (.string x) := fun W hW => cell_later (hW.mono hB) cxw
        have c1 := cell_later hbr c1
        have c2 := cell_later hbr c2
        have hbl := World.block_lt_of_cell? _ _ c1
        simp only at hbl
        have hszr := HBw.out.size
        have hbb : b < wr.heap.size := HO.out.elim (fun h => h.lt) (fun h => h.lt)
        have hal3 : a.length + 15 * (K.size + R.size + 1) ≤ 100000 := by have := hal2.out; simp only [Hg.size] at this; omega
        have hxl : x.data.toList.length ≤ 12 := by simpa using hx12
        have HOx := Lib.hid (HO.out.alloc (.cells #[.int .i64 (m : Int), .slice p' K.len c'] 24))
        have HBx := Lib.hid (HBw.out.alloc (by omega) (.cells #[.int .i64 (m : Int), .slice p' K.len c'] 24))
        have HKx := Lib.hid (HK.out.alloc (.cells #[.int .i64 (m : Int), .slice p' K.len c'] 24))
        have HXx := Lib.hid (Blk.new wr 24 #[.int .i64 (m : Int), .slice p' K.len c'])
        have HOld := Lib.hid hold
        have HRR := Lib.hid hr
        have HLR := Lib.hid hlbs.2.2
        have HLK := Lib.hid hlbs.2.1
        have HSR := Lib.hid hszs.2.2
        have hKs := hszs.2.1
        have hKN := hszs.1
        have hne : ¬ wr.heap.size = b := by omega
        have hnm : Hid (nmOf names (m : Int) = x.data.toList) := Lib.hid (by simp [nmOf, hx])
        have HPut := Lib.hid (fun l s W h1 h2 h3 h4 => put_ok B b l s W h1 h2 h3 h4)
        have hktx : Hid ((K.tx (nmOf names) false).length ≤ 15 * K.size) := Lib.hid (Hg.tx_length HF.out K false)
        have hbnw : bn < wr.heap.size := World.block_lt_of_cell? _ _ (cell_later hbr cxw)
        clear hR hr hcn hx hszs hlbs HR hold cxw hbr HO HBw HK
        by_cases hk0 : 0 < k
        · have hkd : decide (0 < k) = true := decide_eq_true hk0
          go_wp2_with fail
          refine (HPut.out a ⟨#[32]⟩ _ HOx.out (by omega) (by decide) (by have := HBx.out.size; omega)).mono ?_
          rintro e w1 ⟨rfl, h1, h2, h3⟩
          have HO1 := Lib.hid h1
          have HB1 := Lib.hid (HBx.out.trans h2)
          have HK1 := Lib.hid (HKx.out.trans h3)
          have HX1 := Lib.hid (HXx.out.others h3 hne (by decide))
          clear h1 h2 h3
          have x10 : w1.cell? ⟨wr.heap.size, 0, none⟩ = some (.int .i64 (m : Int)) := by rw [HX1.out.cell]; rfl
          have x11 : w1.cell? ⟨wr.heap.size, 1, none⟩ = some (.slice p' K.len c') := by rw [HX1.out.cell]; rfl
          have x12 := HX1.out.lt
          have x13 := HOld.out w1 (HB0.out.trans HB1.out)
          have x14 : bn < w1.heap.size := World.block_lt_of_cell? _ _ x13
          go_wp2_with fail
          refine (HPut.out (a ++ [32]) x _ HO1.out (by simp; omega) (by omega) (by have := HB1.out.size; omega)).mono ?_
          rintro e w2 ⟨rfl, h1, h2, h3⟩
          have HO2 := Lib.hid h1
          have HB2 := Lib.hid (HB1.out.trans h2)
          have HK2 := Lib.hid (HK1.out.trans h3)
          have HX2 := Lib.hid (HX1.out.others h3 hne (by decide))
          clear h1 h2 h3
          have x20 : w2.cell? ⟨wr.heap.size, 0, none⟩ = some (.int .i64 (m : Int)) := by rw [HX2.out.cell]; rfl
          have x21 : w2.cell? ⟨wr.heap.size, 1, none⟩ = some (.slice p' K.len c') := by rw [HX2.out.cell]; rfl
          have x22 := HX2.out.lt
          have x23 := HOld.out w2 (HB0.out.trans HB2.out)
          have x24 : bn < w2.heap.size := World.block_lt_of_cell? _ _ x23
          by_cases hK : K.len = 0
          · have hK2 : ¬ 0 < K.len := by omega
            go_wp2_with fail
            go_roundw
            case rel =>
              refine ⟨((a ++ [32]) ++ x.data.toList), k + 1, R, by go_num, Lib.hid (by have := hk.out; simp only [Hg.len] at this; omega), HSR, HLR, Lib.hid ?_, Lib.hid (by have := hal2.out; simp only [Hg.size, List.length_append, List.length_cons, List.length_nil] at this ⊢; omega), HO2, HB2, HK2, Lib.hid (fun _ => ⟨b1, o, rfl, ?_⟩)⟩
              · rw [show decide (0 < k + 1) = true by simp, ← hacc.out]
                rw [hkd]; simp only [Hg.tx, hK, if_true, if_false, Bool.false_eq_true, hnm.out, List.append_nil, List.nil_append]; simp
              · rw [show o + (k + 1) * 2 = o + k * 2 + 2 from by omega]; exact HRR.out
            case measure => simp [intOf]; omega
          · have hK0 : 0 < K.len := by omega
            go_wp2_with fail
            refine (HPut.out ((a ++ [32]) ++ x.data.toList) ⟨#[40]⟩ _ HO2.out (by simp only [List.length_append, List.length_cons, List.length_nil]; omega) (by decide) (by have := HB2.out.size; omega)).mono ?_
            rintro e w3 ⟨rfl, h1, h2, h3⟩
            have HO3 := Lib.hid h1
            have HB3 := Lib.hid (HB2.out.trans h2)
            have HK3 := Lib.hid (HK2.out.trans h3)
            have HX3 := Lib.hid (HX2.out.others h3 hne (by decide))
            clear h1 h2 h3
            have x30 : w3.cell? ⟨wr.heap.size, 0, none⟩ = some (.int .i64 (m : Int)) := by rw [HX3.out.cell]; rfl
            have x31 : w3.cell? ⟨wr.heap.size, 1, none⟩ = some (.slice p' K.len c') := by rw [HX3.out.cell]; rfl
            have x32 := HX3.out.lt
            have x33 := HOld.out w3 (HB0.out.trans HB3.out)
            have x34 : bn < w3.heap.size := World.block_lt_of_cell? _ _ x33
            go_wp2_with fail
            refine (HI.out K (.slice p' K.len c') (((a ++ [32]) ++ x.data.toList) ++ [40]) w3 hKN hKs (by simp only [List.length_append, List.length_cons, List.length_nil]; omega) (HB0.out.trans HB3.out) (by have := HB3.out.size; omega) HVK.out HLK.out HO3.out).mono ?_
            rintro e w4 ⟨rfl, h1, h2, h3⟩
            have HO4 := Lib.hid h1
            have HB4 := Lib.hid (HB3.out.trans h2)
            have HK4 := Lib.hid (HK3.out.trans h3)
            have HX4 := Lib.hid (HX3.out.others h3 hne (by decide))
            clear h1 h2 h3
            go_wp2_with fail
            refine (HPut.out ((((a ++ [32]) ++ x.data.toList) ++ [40]) ++ K.tx (nmOf names) false) ⟨#[41]⟩ _ HO4.out (by have := hktx.out; simp only [List.length_append, List.length_cons, List.length_nil]; omega) (by decide) (by have := HB4.out.size; omega)).mono ?_
            rintro e w5 ⟨rfl, h1, h2, h3⟩
            have HO5 := Lib.hid h1
            have HB5 := Lib.hid (HB4.out.trans h2)
            have HK5 := Lib.hid (HK4.out.trans h3)
            have HX5 := Lib.hid (HX4.out.others h3 hne (by decide))
            clear h1 h2 h3
            have x50 : w5.cell? ⟨wr.heap.size, 0, none⟩ = some (.int .i64 (m : Int)) := by rw [HX5.out.cell]; rfl
            have x51 : w5.cell? ⟨wr.heap.size, 1, none⟩ = some (.slice p' K.len c') := by rw [HX5.out.cell]; rfl
            have x52 := HX5.out.lt
            have x53 := HOld.out w5 (HB0.out.trans HB5.out)
            have x54 : bn < w5.heap.size := World.block_lt_of_cell? _ _ x53
            go_wp2_with fail
            go_roundw
            case rel =>
              refine ⟨(((((a ++ [32]) ++ x.data.toList) ++ [40]) ++ K.tx (nmOf names) false) ++ [41]), k + 1, R, by go_num, Lib.hid (by have := hk.out; simp only [Hg.len] at this; omega), HSR, HLR, Lib.hid ?_, Lib.hid (by have := hal2.out; have := hktx.out; simp only [Hg.size, List.length_append, List.length_cons, List.length_nil] at *; omega), HO5, HB5, HK5, Lib.hid (fun _ => ⟨b1, o, rfl, ?_⟩)⟩
              · rw [show decide (0 < k + 1) = true by simp, ← hacc.out]
                rw [hkd]; simp only [Hg.tx, hK, if_true, if_false, Bool.false_eq_true, hnm.out, List.nil_append]; simp
              · rw [show o + (k + 1) * 2 = o + k * 2 + 2 from by omega]; exact HRR.out
            case measure => simp [intOf]; omega
        · have hk00 : k = 0 := by omega
          have hkd : decide (0 < k) = false := decide_eq_false hk0
          clear hk0
          subst hk00
          simp only [Nat.zero_mul, Nat.add_zero] at c1 c2
          have x03 := HOld.out (wr.alloc (.cells #[.int .i64 (m : Int), .slice p' K.len c'] 24)) (HB0.out.trans HBx.out)
          have x04 : wr.cell? ⟨bn, on + m, none⟩ = some (.string x) := by
            have hlt2 : bn < wr.heap.size := by have := World.block_lt_of_cell? _ _ x03; simp only [World.size_alloc] at this; have := HBx.out.size; exact hbnw
            rw [World.cell?_alloc_lt _ _ _ hlt2] at x03; exact x03
          clear x03
          go_wp2_with fail
          refine (HPut.out a x _ HOx.out (by omega) (by omega) (by have := HBx.out.size; omega)).mono ?_
          rintro e w2 ⟨rfl, h1, h2, h3⟩
          have HO2 := Lib.hid h1
          have HB2 := Lib.hid (HBx.out.trans h2)
          have HK2 := Lib.hid (HKx.out.trans h3)
          have HX2 := Lib.hid (HXx.out.others h3 hne (by decide))
          clear h1 h2 h3
          have x20 : w2.cell? ⟨wr.heap.size, 0, none⟩ = some (.int .i64 (m : Int)) := by rw [HX2.out.cell]; rfl
          have x21 : w2.cell? ⟨wr.heap.size, 1, none⟩ = some (.slice p' K.len c') := by rw [HX2.out.cell]; rfl
          have x22 := HX2.out.lt
          have x23 := HOld.out w2 (HB0.out.trans HB2.out)
          have x24 : bn < w2.heap.size := World.block_lt_of_cell? _ _ x23
          by_cases hK : K.len = 0
          · have hK2 : ¬ 0 < K.len := by omega
            go_wp2_with fail
            go_roundw
            case rel =>
              refine ⟨(a ++ x.data.toList), 0 + 1, R, by go_num, Lib.hid (by have := hk.out; simp only [Hg.len] at this; omega), HSR, HLR, Lib.hid ?_, Lib.hid (by have := hal2.out; simp only [Hg.size, List.length_append, List.length_cons, List.length_nil] at this ⊢; omega), HO2, HB2, HK2, Lib.hid (fun _ => ⟨b1, o, rfl, ?_⟩)⟩
              · rw [show decide (0 < 0 + 1) = true by simp, ← hacc.out]
                rw [hkd]; simp only [Hg.tx, hK, if_true, if_false, Bool.false_eq_true, hnm.out, List.append_nil, List.nil_append]; simp
              · rw [show o + (0 + 1) * 2 = o + 0 * 2 + 2 from by omega]; exact HRR.out
            case measure => simp [intOf]; omega
          · have hK0 : 0 < K.len := by omega
            go_wp2_with fail
            refine (HPut.out (a ++ x.data.toList) ⟨#[40]⟩ _ HO2.out (by simp only [List.length_append, List.length_cons, List.length_nil]; omega) (by decide) (by have := HB2.out.size; omega)).mono ?_
            rintro e w3 ⟨rfl, h1, h2, h3⟩
            have HO3 := Lib.hid h1
            have HB3 := Lib.hid (HB2.out.trans h2)
            have HK3 := Lib.hid (HK2.out.trans h3)
            have HX3 := Lib.hid (HX2.out.others h3 hne (by decide))
            clear h1 h2 h3
            have x30 : w3.cell? ⟨wr.heap.size, 0, none⟩ = some (.int .i64 (m : Int)) := by rw [HX3.out.cell]; rfl
            have x31 : w3.cell? ⟨wr.heap.size, 1, none⟩ = some (.slice p' K.len c') := by rw [HX3.out.cell]; rfl
            have x32 := HX3.out.lt
            have x33 := HOld.out w3 (HB0.out.trans HB3.out)
            have x34 : bn < w3.heap.size := World.block_lt_of_cell? _ _ x33
            go_wp2_with fail
            refine (HI.out K (.slice p' K.len c') ((a ++ x.data.toList) ++ [40]) w3 hKN hKs (by simp only [List.length_append, List.length_cons, List.length_nil]; omega) (HB0.out.trans HB3.out) (by have := HB3.out.size; omega) HVK.out HLK.out HO3.out).mono ?_
            rintro e w4 ⟨rfl, h1, h2, h3⟩
            have HO4 := Lib.hid h1
            have HB4 := Lib.hid (HB3.out.trans h2)
            have HK4 := Lib.hid (HK3.out.trans h3)
            have HX4 := Lib.hid (HX3.out.others h3 hne (by decide))
            clear h1 h2 h3
            go_wp2_with fail
            refine (HPut.out (((a ++ x.data.toList) ++ [40]) ++ K.tx (nmOf names) false) ⟨#[41]⟩ _ HO4.out (by have := hktx.out; simp only [List.length_append, List.length_cons, List.length_nil]; omega) (by decide) (by have := HB4.out.size; omega)).mono ?_
            rintro e w5 ⟨rfl, h1, h2, h3⟩
            have HO5 := Lib.hid h1
            have HB5 := Lib.hid (HB4.out.trans h2)
            have HK5 := Lib.hid (HK4.out.trans h3)
            have HX5 := Lib.hid (HX4.out.others h3 hne (by decide))
            clear h1 h2 h3
            have x50 : w5.cell? ⟨wr.heap.size, 0, none⟩ = some (.int .i64 (m : Int)) := by rw [HX5.out.cell]; rfl
            have x51 : w5.cell? ⟨wr.heap.size, 1, none⟩ = some (.slice p' K.len c') := by rw [HX5.out.cell]; rfl
            have x52 := HX5.out.lt
            have x53 := HOld.out w5 (HB0.out.trans HB5.out)
            have x54 : bn < w5.heap.size := World.block_lt_of_cell? _ _ x53
            go_wp2_with fail
            go_roundw
            case rel =>
              refine ⟨((((a ++ x.data.toList) ++ [40]) ++ K.tx (nmOf names) false) ++ [41]), 0 + 1, R, by go_num, Lib.hid (by have := hk.out; simp only [Hg.len] at this; omega), HSR, HLR, Lib.hid ?_, Lib.hid (by have := hal2.out; have := hktx.out; simp only [Hg.size, List.length_append, List.length_cons, List.length_nil] at *; omega), HO5, HB5, HK5, Lib.hid (fun _ => ⟨b1, o, rfl, ?_⟩)⟩
              · rw [show decide (0 < 0 + 1) = true by simp, ← hacc.out]
                rw [hkd]; simp only [Hg.tx, hK, if_true, if_false, Bool.false_eq_true, hnm.out, List.nil_append]; simp
              · rw [show o + (0 + 1) * 2 = o + 0 * 2 + 2 from by omega]; exact HRR.out
            case measure => simp [intOf]; omega

end Go.Proofs.Ythdaeblfehclcab
