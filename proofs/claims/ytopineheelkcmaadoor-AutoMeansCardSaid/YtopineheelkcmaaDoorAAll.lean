/- The law AutoAccepts: its walk. -/
import Derived.Test.YtopineheelkcmaaDoorALaw
import Derived.Test.YtopineheelkcmaaDoorASt
import Derived.Test.YtopineheelkcmaaDoorLFew
import Derived.Test.YtopineheelkcmaaDoorList01
namespace Go.Proofs.YtopineheelkcmaaDoor
open Go.RowKit Go.Shelf

theorem few_parts {al : List Int} {A : Au} {K : Hg} (h : fewB al A K = true) : K.size + 1 ≤ 400 ∧ A.ru.length ≤ 60 := by
  unfold fewB fewA at h
  simp only [Bool.and_eq_true, decide_eq_true_eq] at h
  omega

/-- Four boxes. -/
theorem four_boxes (w : World) (a b c d : Array Value) (ta tb tc td : TypeId) : ∀ W, Below ((((w.alloc (.cells a ta)).alloc (.cells b tb)).alloc (.cells c tc)).alloc (.cells d td)).heap.size ((((w.alloc (.cells a ta)).alloc (.cells b tb)).alloc (.cells c tc)).alloc (.cells d td)) W →
    Blk W w.heap.size ta a ∧ Blk W (w.heap.size + 1) tb b ∧ Blk W (w.heap.size + 1 + 1) tc c ∧ Blk W (w.heap.size + 1 + 1 + 1) td d ∧ Below w.heap.size w W := fun W hW => by
  obtain ⟨h1, h2, h3, h0⟩ := blk4 w ta tb tc td a b c d
  exact ⟨h0.below hW (by simp <;> omega), h1.below hW (by simp <;> omega), h2.below hW (by simp <;> omega), h3.below hW (by simp), (((((Below.refl _ w).alloc (Nat.le_refl _) _).alloc (by simp) _).alloc (by simp; omega) _).alloc (by simp; omega) _).trans (hW.mono (by simp <;> omega))⟩

set_option maxRecDepth 100000 in
set_option maxHeartbeats 2000000 in
theorem accepts_walk (al : List Int) (A : Au) (l : Int) (K : Hg) (av v vk : Value) (w : World) (hal : AlIs w) (hT : TabAt 1 Lib.deBruijn64tab w) (hwf : (Lit.int .i64 l).wf = true) (ha : IsInts w av al) (hA : IsAu w v A) (hK : IsH w vk K) :
    Calls Tryd.prog 4 #[.agg #[av], v, .agg #[.int .i64 l, vk]] w fun e w' => e = .returned (.bool true) ∧ Below w.heap.size w w' := by
  have HAL := Lib.hid hal
  have HT := Lib.hid hT
  have HA := Lib.hid hA
  have HI := Lib.hid ha
  have HK := Lib.hid hK
  have HWF := Lib.hid hwf
  have HAW := Lib.hid (fun w h => awake_ok w h)
  obtain ⟨fv, rv, rfl, hf, hr⟩ := hA
  have H4 := Lib.hid (four_boxes w #[av] #[.int .i64 A.st, fv, rv] #[.int .i64 l, vk] #[.int .i64 l, vk] 24 27 43 43)
  have h0 := H4.out _ (Below.refl _ _)
  have HF := Lib.hid (lfew_ok al A l K _ _ _ _ _ (HI.out.below h0.2.2.2.2) (HA.out.below h0.2.2.2.2) (HK.out.below h0.2.2.2.2) h0.2.2.2.1)
  clear h0
  obtain ⟨p1, c1, rfl, _⟩ := hf
  obtain ⟨p2, c2, rfl, _⟩ := hr
  obtain ⟨p, c, rfl, _⟩ := hK
  obtain ⟨pa, ca, rfl, _⟩ := ha
  clear hal hT hwf
  go_enter Tryd.func4, Tryd.ntmps4
  go_wp2_with fail
  refine HF.out.mono ?_
  rintro e w1 ⟨rfl, hb1⟩
  have h1 := H4.out w1 hb1
  have HB1 := Lib.hid h1.2.2.2.2
  cases hfew : fewB al A K with
  | false =>
    clear h1 hb1 hfew
    go_wp2_with fail
    refine (HAW.out _ (HAL.out.below HB1.out)).mono ?_
    rintro e w2 ⟨rfl, hb2⟩
    have HB2 := Lib.hid (HB1.out.trans (hb2.mono HB1.out.size))
    clear hb2
    go_wp2_with fail
    go_ret
    exact ⟨ret_bool rfl, HB2.out⟩
  | true =>
    have hp := few_parts hfew
    have HP := Lib.hid hp
    have HC1 := Lib.hid hb1
    clear h1 hb1 hfew hp HB1
    have g1 := H4.out w1 HC1.out
    have x10 : w1.cell? ⟨w.heap.size, 0, none⟩ = some (.slice pa al.length ca) := by rw [g1.1.cell]; rfl
    have x11 : w1.cell? ⟨w.heap.size + 1, 0, none⟩ = some (.int .i64 A.st) := by rw [g1.2.1.cell]; rfl
    have x12 : w1.cell? ⟨w.heap.size + 1, 1, none⟩ = some (.slice p1 A.fin.length c1) := by rw [g1.2.1.cell]; rfl
    have x13 : w1.cell? ⟨w.heap.size + 1, 2, none⟩ = some (.slice p2 A.ru.length c2) := by rw [g1.2.1.cell]; rfl
    have x14 : w1.cell? ⟨w.heap.size + 1 + 1, 0, none⟩ = some (.int .i64 l) := by rw [g1.2.2.1.cell]; rfl
    have x15 : w1.cell? ⟨w.heap.size + 1 + 1, 1, none⟩ = some (.slice p K.len c) := by rw [g1.2.2.1.cell]; rfl
    have y1 := g1.2.2.1.lt
    have HB1 := Lib.hid g1.2.2.2.2
    clear g1
    go_wp2_with fail
    refine (states_ok al A l K _ _ _ _ (by have := HP.out.1; omega) HWF.out (HI.out.below HB1.out) (HA.out.below HB1.out) (HK.out.below HB1.out) (fun j hj => cell_later HB1.out (HT.out j hj))).mono ?_
    rintro e w2 ⟨⟨u2, rfl, hu2⟩, hb2⟩
    have HU2 := Lib.hid hu2
    have HC2 := Lib.hid (HC1.out.trans (hb2.mono HC1.out.size))
    clear hb2 hu2
    clear x10 x11 x12 x13 x14 x15 y1
    have g2 := H4.out w2 HC2.out
    have x20 : w2.cell? ⟨w.heap.size, 0, none⟩ = some (.slice pa al.length ca) := by rw [g2.1.cell]; rfl
    have x21 : w2.cell? ⟨w.heap.size + 1, 0, none⟩ = some (.int .i64 A.st) := by rw [g2.2.1.cell]; rfl
    have x22 : w2.cell? ⟨w.heap.size + 1, 1, none⟩ = some (.slice p1 A.fin.length c1) := by rw [g2.2.1.cell]; rfl
    have x23 : w2.cell? ⟨w.heap.size + 1, 2, none⟩ = some (.slice p2 A.ru.length c2) := by rw [g2.2.1.cell]; rfl
    have x24 : w2.cell? ⟨w.heap.size + 1 + 1, 0, none⟩ = some (.int .i64 l) := by rw [g2.2.2.1.cell]; rfl
    have x25 : w2.cell? ⟨w.heap.size + 1 + 1, 1, none⟩ = some (.slice p K.len c) := by rw [g2.2.2.1.cell]; rfl
    have y2 := g2.2.2.1.lt
    have HB2 := Lib.hid g2.2.2.2.2
    clear g2
    go_wp2_with fail
    refine (rstates_ok al A (by have := HP.out.2; omega) l K _ _ _ _ (by have := HP.out.1; omega) (HI.out.below HB2.out) (HA.out.below HB2.out) (HK.out.below HB2.out)).mono ?_
    rintro e w3 ⟨⟨u3, rfl, hu3⟩, hb3⟩
    have HU3 := Lib.hid hu3
    have HU2b := Lib.hid (HU2.out.below hb3)
    have HC3 := Lib.hid (HC2.out.trans (hb3.mono HC2.out.size))
    clear hb3 hu3 HU2
    clear x20 x21 x22 x23 x24 x25 y2
    have g3 := H4.out w3 HC3.out
    have x30 : w3.cell? ⟨w.heap.size, 0, none⟩ = some (.slice pa al.length ca) := by rw [g3.1.cell]; rfl
    have x31 : w3.cell? ⟨w.heap.size + 1, 0, none⟩ = some (.int .i64 A.st) := by rw [g3.2.1.cell]; rfl
    have x32 : w3.cell? ⟨w.heap.size + 1, 1, none⟩ = some (.slice p1 A.fin.length c1) := by rw [g3.2.1.cell]; rfl
    have x33 : w3.cell? ⟨w.heap.size + 1, 2, none⟩ = some (.slice p2 A.ru.length c2) := by rw [g3.2.1.cell]; rfl
    have x34 : w3.cell? ⟨w.heap.size + 1 + 1, 0, none⟩ = some (.int .i64 l) := by rw [g3.2.2.1.cell]; rfl
    have x35 : w3.cell? ⟨w.heap.size + 1 + 1, 1, none⟩ = some (.slice p K.len c) := by rw [g3.2.2.1.cell]; rfl
    have y3 := g3.2.2.1.lt
    have HB3 := Lib.hid g3.2.2.2.2
    clear g3
    go_wp2_with fail
    refine (accepts_ok al A l K _ _ _ _ (by have := HP.out.1; omega) HWF.out (HI.out.below HB3.out) (HA.out.below HB3.out) (HK.out.below HB3.out)).mono ?_
    rintro e w4 ⟨rfl, hb4⟩
    have HU2c := Lib.hid (HU2b.out.below hb4)
    have HU3c := Lib.hid (HU3.out.below hb4)
    have HC4 := Lib.hid (HC3.out.trans (hb4.mono HC3.out.size))
    clear hb4 HU2b HU3
    clear x30 x31 x32 x33 x34 x35 y3
    have g4 := H4.out w4 HC4.out
    have x40 : w4.cell? ⟨w.heap.size, 0, none⟩ = some (.slice pa al.length ca) := by rw [g4.1.cell]; rfl
    have x41 : w4.cell? ⟨w.heap.size + 1, 0, none⟩ = some (.int .i64 A.st) := by rw [g4.2.1.cell]; rfl
    have x42 : w4.cell? ⟨w.heap.size + 1, 1, none⟩ = some (.slice p1 A.fin.length c1) := by rw [g4.2.1.cell]; rfl
    have x43 : w4.cell? ⟨w.heap.size + 1, 2, none⟩ = some (.slice p2 A.ru.length c2) := by rw [g4.2.1.cell]; rfl
    have x44 : w4.cell? ⟨w.heap.size + 1 + 1, 0, none⟩ = some (.int .i64 l) := by rw [g4.2.2.1.cell]; rfl
    have x45 : w4.cell? ⟨w.heap.size + 1 + 1, 1, none⟩ = some (.slice p K.len c) := by rw [g4.2.2.1.cell]; rfl
    have y4 := g4.2.2.1.lt
    have HB4 := Lib.hid g4.2.2.2.2
    clear g4
    generalize hbb : (askB al A l K && hasB A l K) = bb
    have HBB := Lib.hid hbb
    clear hbb
    go_wp2_with fail
    refine (raccepts_ok al A (by have := HP.out.2; omega) l K _ _ _ _ (by have := HP.out.1; omega) (HI.out.below HB4.out) (HA.out.below HB4.out) (HK.out.below HB4.out)).mono ?_
    rintro e w5 ⟨rfl, hb5⟩
    have HU2d := Lib.hid (HU2c.out.below hb5)
    have HU3d := Lib.hid (HU3c.out.below hb5)
    have HC5 := Lib.hid (HC4.out.trans (hb5.mono HC4.out.size))
    have HB5 := Lib.hid (HB4.out.trans (hb5.mono HB4.out.size))
    clear hb5 HU2c HU3c
    clear x40 x41 x42 x43 x44 x45 y4
    rw [HBB.out]
    go_wp2_with fail
    refine (list01_ok (stsA al A l K) u2 u3 w5 HU2d.out (by unfold stsA; exact HU3d.out)).mono ?_
    rintro e w6 ⟨rfl, hb6⟩
    have HB6 := Lib.hid (HB5.out.trans (hb6.mono HB5.out.size))
    clear hb6
    go_wp2_with fail
    refine (HAW.out _ (HAL.out.below HB6.out)).mono ?_
    rintro e w7 ⟨rfl, hb7⟩
    have HB7 := Lib.hid (HB6.out.trans (hb7.mono HB6.out.size))
    clear hb7
    go_wp2_with fail
    go_ret
    exact ⟨ret_bool rfl, HB7.out⟩

end Go.Proofs.YtopineheelkcmaaDoor
