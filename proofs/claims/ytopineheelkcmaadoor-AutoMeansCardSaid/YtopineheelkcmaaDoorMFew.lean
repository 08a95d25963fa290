/- The law's few for a list of trees. -/
import Derived.Test.YtopineheelkcmaaDoorFew
import Derived.Test.YtopineheelkcmaaDoorCount01
namespace Go.Proofs.YtopineheelkcmaaDoor
open Go.RowKit Go.Shelf

def fewH : Hg → Bool
  | .nil => true
  | .cons _ k r => decide ((k.size : Int) + 1 ≤ 400) && fewH r
theorem fewH_cons (l : Int) (K R : Hg) : fewH (.cons l K R) = (decide ((K.size : Int) + 1 ≤ 400) && fewH R) := rfl

set_option maxRecDepth 100000 in
set_option maxHeartbeats 2000000 in
theorem mfew_ok (al : List Int) (A : Au) (H : Hg) (av v vH : Value) (w : World) (ha : IsInts w av al) (hA : IsAu w v A) (hH : IsH w vH H) :
    Calls Tryd.prog 9 #[.agg #[av], v, vH] w fun e w' => e = .returned (.bool (fewH H && fewA al A)) ∧ Below w.heap.size w w' := by
  have HAL := Lib.hid ha
  have HA := Lib.hid hA
  obtain ⟨fv, rv, rfl, hf, hr⟩ := hA
  have hbw : Below w.heap.size w ((w.alloc (.cells #[av] 24)).alloc (.cells #[.int .i64 A.st, fv, rv] 27)) := ((Below.refl _ w).alloc (Nat.le_refl _) _).alloc (by simp) _
  have HX0 := Lib.hid ((Blk.new w 24 #[av]).alloc (.cells #[.int .i64 A.st, fv, rv] 27))
  have HX1 : Hid (Blk ((w.alloc (.cells #[av] 24)).alloc (.cells #[.int .i64 A.st, fv, rv] 27)) (w.heap.size + 1) 27 #[.int .i64 A.st, fv, rv]) := Lib.hid (by simpa using Blk.new (w.alloc (.cells #[av] 24)) 27 #[.int .i64 A.st, fv, rv])
  have HB := Lib.hid hbw
  obtain ⟨p1, c1, rfl, _⟩ := hf
  obtain ⟨p2, c2, rfl, _⟩ := hr
  obtain ⟨p, c, rfl, hc1, hc2, hrow⟩ := hH
  obtain ⟨pa, ca, rfl, _⟩ := ha
  unfold maxLen at hc2
  have HR := Lib.hid hrow
  clear hbw hrow
  go_enter Tryd.func9, Tryd.ntmps9
  go_wp2_with fail
  go_loopw [11] (fun iv wr => ∃ (k : Nat) (R : Hg), iv = .int .i64 (k : Nat) ∧ Hid (k + R.len = H.len) ∧ Hid (fewH H = fewH R) ∧ Hid (Below (w.heap.size + 1 + 1) ((w.alloc (.cells #[.slice pa al.length ca] 24)).alloc (.cells #[.int .i64 A.st, .slice p1 A.fin.length c1, .slice p2 A.ru.length c2] 27)) wr) ∧ Hid (R ≠ .nil → ∃ b o, p = some ⟨b, o, none⟩ ∧ Row w R b (o + k * 2))) (fun iv _ => H.len - (intOf iv).toNat)
  case atStart => exact ⟨0, H, rfl, Lib.hid (by simp), Lib.hid rfl, Lib.hid (Below.refl _ _), Lib.hid (by simpa using HR.out)⟩
  case round =>
    rename World => wr
    obtain ⟨k, R, rfl, hk, hf, HBr, hR⟩ := hrel
    have hsz := HBr.out.size
    rw [World.size_alloc, World.size_alloc] at hsz
    have HBw := Lib.hid (HB.out.trans (HBr.out.mono (by omega)))
    cases R with
    | nil =>
      have hge : H.len ≤ k := by have := hk.out; simp only [Hg.len] at this; omega
      have hres : Hid ((fewH H && fewA al A) = fewA al A) := Lib.hid (by rw [hf.out]; rfl)
      clear hk hR HR hf
      have hx := HX0.out.below HBr.out (by omega)
      have hx1 := HX1.out.below HBr.out (by omega)
      have y0 : wr.cell? ⟨w.heap.size, 0, none⟩ = some (.slice pa al.length ca) := by rw [hx.cell]; rfl
      have z0 : wr.cell? ⟨w.heap.size + 1, 0, none⟩ = some (.int .i64 A.st) := by rw [hx1.cell]; rfl
      have z1 : wr.cell? ⟨w.heap.size + 1, 1, none⟩ = some (.slice p1 A.fin.length c1) := by rw [hx1.cell]; rfl
      have z2 : wr.cell? ⟨w.heap.size + 1, 2, none⟩ = some (.slice p2 A.ru.length c2) := by rw [hx1.cell]; rfl
      have hl := hx.lt
      have hl1 := hx1.lt
      have HBa : Hid (Below w.heap.size w (wr.alloc (.cells #[.int .i64 A.st, .slice p1 A.fin.length c1, .slice p2 A.ru.length c2] 27))) := Lib.hid (HBw.out.alloc HBw.out.size _)
      have HF := Lib.hid (fewA_ok al A _ _ _ wr.heap.size _ (HAL.out.below HBa.out) (HA.out.below HBa.out) (Blk.new wr _ _))
      clear hx hx1
      go_wp2_with fail
      refine HF.out.mono ?_
      rintro e w1 ⟨rfl, hb1⟩
      have HB1 := Lib.hid (HBa.out.trans (hb1.mono HBa.out.size))
      clear hb1
      go_wp2_with fail
      go_ret
      exact ⟨by rw [hres.out] <;> rfl, HB1.out⟩
    | cons l K R =>
      obtain ⟨b, o, rfl, hr⟩ := hR.out (by simp)
      rw [Row.cons_iff] at hr
      obtain ⟨c1, hl, ⟨vk, c2, hvk⟩, hr⟩ := hr
      have hlt : k < H.len := by have := hk.out; simp only [Hg.len] at this; omega
      have c1 := cell_later HBw.out c1
      have c2 := cell_later HBw.out c2
      have hbl := World.block_lt_of_cell? _ _ c1
      simp only at hbl
      have hba : Below w.heap.size w (wr.alloc (.cells #[.int .i64 l, vk] 43)) := HBw.out.alloc HBw.out.size _
      have HFW := Lib.hid (few01_ok l K vk 400 _ (hvk.below hba) (by omega) (by omega))
      obtain ⟨pk, ck, rfl, _, _, _⟩ := hvk
      have HBA := Lib.hid ((Below.refl _ wr).alloc (Nat.le_refl _) (.cells #[.int .i64 l, .slice pk K.len ck] 43))
      have HRR := Lib.hid hr
      clear hR HR hr hba
      by_cases h2 : (K.size : Int) + 1 ≤ 400
      · have hd : decide ((K.size : Int) + 1 ≤ 400) = true := decide_eq_true h2
        have hf2 : Hid (fewH H = fewH R) := Lib.hid (by rw [hf.out, fewH_cons, hd, Bool.true_and])
        rw [hd] at HFW
        clear h2 hf hd
        go_wp2_with fail
        refine HFW.out.mono ?_
        rintro e w1 ⟨rfl, hb1⟩
        have HB1 := Lib.hid (HBr.out.trans ((HBA.out.trans (hb1.mono (by simp))).mono (by omega)))
        clear hb1
        go_wp2_with fail
        go_roundw
        case rel =>
          refine ⟨k + 1, R, by go_num, Lib.hid (by have := hk.out; simp only [Hg.len] at this; omega), hf2, HB1, Lib.hid (fun _ => ⟨b, o, rfl, ?_⟩)⟩
          rw [show o + (k + 1) * 2 = o + k * 2 + 2 from by omega]; exact HRR.out
        case measure => simp [intOf]; omega
      · have hd : decide ((K.size : Int) + 1 ≤ 400) = false := decide_eq_false h2
        have hf2 : Hid ((fewH H && fewA al A) = false) := Lib.hid (by rw [hf.out, fewH_cons, hd, Bool.false_and, Bool.false_and])
        rw [hd] at HFW
        clear h2 hf hd
        go_wp2_with fail
        refine HFW.out.mono ?_
        rintro e w1 ⟨rfl, hb1⟩
        have HB1 := Lib.hid (HBw.out.trans ((HBA.out.trans (hb1.mono (by simp))).mono (by omega)))
        clear hb1
        go_wp2_with fail
        go_ret
        exact ⟨by rw [hf2.out] <;> rfl, HB1.out⟩

end Go.Proofs.YtopineheelkcmaaDoor
