/- The law's few for one tree. -/
import Derived.Test.YtedfldbknjcnlaaDoorFG25
import Derived.Test.YtedfldbknjcnlaaDoorFG8
namespace Go.Proofs.YtedfldbknjcnlaaDoor
open Go.RowKit Go.Shelf

def fewB (al : List Int) (A : Au) (K : Hg) : Bool := decide (K.size + 1 ≤ 400) && fewA al A

set_option maxRecDepth 100000 in
set_option maxHeartbeats 2000000 in
theorem lfew_ok (al : List Int) (A : Au) (l : Int) (K : Hg) (av v vk : Value) (g : Nat) (w : World) (ha : IsInts w av al) (hA : IsAu w v A) (hK : IsH w vk K) (hg : Blk w g 43 #[.int .i64 l, vk]) :
    Calls Tryd.prog 9 #[.agg #[av], v, .slice (some ⟨g, 0, none⟩) 1 1] w fun e w' => e = .returned (.bool (fewB al A K)) ∧ Below w.heap.size w w' := by
  have HAL := Lib.hid ha
  have HA := Lib.hid hA
  have HK := Lib.hid hK
  obtain ⟨fv, rv, rfl, hf, hr⟩ := hA
  have hbw : Below w.heap.size w ((w.alloc (.cells #[av] 24)).alloc (.cells #[.int .i64 A.st, fv, rv] 27)) := ((Below.refl _ w).alloc (Nat.le_refl _) _).alloc (by simp) _
  have HX0 := Lib.hid ((Blk.new w 24 #[av]).alloc (.cells #[.int .i64 A.st, fv, rv] 27))
  have HX1 : Hid (Blk ((w.alloc (.cells #[av] 24)).alloc (.cells #[.int .i64 A.st, fv, rv] 27)) (w.heap.size + 1) 27 #[.int .i64 A.st, fv, rv]) := Lib.hid (by simpa using Blk.new (w.alloc (.cells #[av] 24)) 27 #[.int .i64 A.st, fv, rv])
  have HB := Lib.hid hbw
  have HG := Lib.hid (hg.below hbw hg.lt)
  have hgl := hg.lt
  obtain ⟨p1, c1, rfl, _⟩ := hf
  obtain ⟨p2, c2, rfl, _⟩ := hr
  obtain ⟨p, c, rfl, _⟩ := hK
  obtain ⟨pa, ca, rfl, _⟩ := ha
  clear hbw hg
  go_enter Tryd.func9, Tryd.ntmps9
  go_wp2_with fail
  go_loopw [11] (fun iv wr => ∃ k : Nat, iv = .int .i64 (k : Nat) ∧ k ≤ 1 ∧ Hid (k = 1 → K.size + 1 ≤ 400) ∧ Hid (Below (w.heap.size + 1 + 1) ((w.alloc (.cells #[.slice pa al.length ca] 24)).alloc (.cells #[.int .i64 A.st, .slice p1 A.fin.length c1, .slice p2 A.ru.length c2] 27)) wr)) (fun iv _ => 1 - (intOf iv).toNat)
  case atStart => exact ⟨0, rfl, by omega, Lib.hid (fun h => by omega), Lib.hid (Below.refl _ _)⟩
  case round =>
    rename World => wr
    obtain ⟨k, rfl, hk, HKK, HBr⟩ := hrel
    have hsz := HBr.out.size
    rw [World.size_alloc, World.size_alloc] at hsz
    have HBw := Lib.hid (HB.out.trans (HBr.out.mono (by omega)))
    by_cases hk0 : k = 0
    · subst hk0
      have hgr := HG.out.below HBr.out (by omega)
      have x0 : wr.cell? ⟨g, 0, none⟩ = some (.int .i64 l) := by rw [hgr.cell]; rfl
      have x1 : wr.cell? ⟨g, 1, none⟩ = some (.slice p K.len c) := by rw [hgr.cell]; rfl
      have hgl2 := hgr.lt
      have HF := Lib.hid (few01_ok l K (.slice p K.len c) 400 (wr.alloc (.cells #[.int .i64 l, .slice p K.len c] 43)) ((HK.out.below HBw.out).below ((Below.refl _ wr).alloc (Nat.le_refl _) _)) (by omega) (by omega))
      have HBa := Lib.hid ((Below.refl _ wr).alloc (Nat.le_refl _) (.cells #[.int .i64 l, .slice p K.len c] 43))
      clear hgr HKK
      by_cases h1 : K.size + 1 ≤ 400
      · rw [decide_eq_true (show (K.size : Int) + 1 ≤ 400 by omega)] at HF
        go_wp2_with fail
        refine HF.out.mono ?_
        rintro e w1 ⟨rfl, hb1⟩
        have HB1 := Lib.hid (HBr.out.trans ((HBa.out.trans (hb1.mono (by simp))).mono (by omega)))
        clear hb1
        go_wp2_with fail
        go_roundw
        case rel => exact ⟨1, rfl, by omega, Lib.hid (fun _ => h1), HB1⟩
        case measure => simp [intOf]
      · rw [decide_eq_false (show ¬ (K.size : Int) + 1 ≤ 400 by omega)] at HF
        go_wp2_with fail
        refine HF.out.mono ?_
        rintro e w1 ⟨rfl, hb1⟩
        have HB1 := Lib.hid (HBw.out.trans ((HBa.out.trans (hb1.mono (by simp))).mono (by omega)))
        clear hb1
        go_wp2_with fail
        go_ret
        exact ⟨ret_bool (by unfold fewB; rw [decide_eq_false h1]; rfl), HB1.out⟩
    · have hk1 : k = 1 := by omega
      have HKK1 := Lib.hid (HKK.out hk1)
      subst hk1
      have hx := HX0.out.below HBr.out (by omega)
      have hx1 := HX1.out.below HBr.out (by omega)
      have y0 : wr.cell? ⟨w.heap.size, 0, none⟩ = some (.slice pa al.length ca) := by rw [hx.cell]; rfl
      have z0 : wr.cell? ⟨w.heap.size + 1, 0, none⟩ = some (.int .i64 A.st) := by rw [hx1.cell]; rfl
      have z1 : wr.cell? ⟨w.heap.size + 1, 1, none⟩ = some (.slice p1 A.fin.length c1) := by rw [hx1.cell]; rfl
      have z2 : wr.cell? ⟨w.heap.size + 1, 2, none⟩ = some (.slice p2 A.ru.length c2) := by rw [hx1.cell]; rfl
      have hl := hx.lt
      have hl1 := hx1.lt
      have HBa : Hid (Below w.heap.size w (wr.alloc (.cells #[.int .i64 A.st, .slice p1 A.fin.length c1, .slice p2 A.ru.length c2] 27))) := Lib.hid (HBw.out.alloc HBw.out.size _)
      have HF := Lib.hid (fewA_ok al A _ _ _ wr.heap.size _ (HAL.out.below HBa.out) (HA.out.below HBa.out) (Blk.new wr _ _))
      clear hx hx1
      go_wp2_with fail
      refine HF.out.mono ?_
      rintro e w1 ⟨rfl, hb1⟩
      have HB1 := Lib.hid (HBa.out.trans (hb1.mono HBa.out.size))
      clear hb1
      go_wp2_with fail
      go_ret
      exact ⟨ret_bool (by unfold fewB; rw [decide_eq_true HKK1.out]; rfl), HB1.out⟩

end Go.Proofs.YtedfldbknjcnlaaDoor
