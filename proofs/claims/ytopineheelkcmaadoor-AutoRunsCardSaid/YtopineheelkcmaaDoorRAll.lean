/- The law AutoRuns: its walk. -/
import Derived.Test.YtopineheelkcmaaDoorFewP
import Derived.Test.YtopineheelkcmaaDoorRG3
import Derived.Test.YtopineheelkcmaaDoorACk
import Derived.Test.YtopineheelkcmaaDoorRun
namespace Go.Proofs.YtopineheelkcmaaDoor
open Go.RowKit Go.Shelf

set_option maxRecDepth 100000 in
set_option maxHeartbeats 8000000 in
theorem runs_walk (al : List Int) (A : Au) (l : Int) (K : Hg) (run : List Int) (av v vk rv : Value) (w : World) (hal : AlIs w) (hwf : (Lit.int .i64 l).wf = true) (ha : IsInts w av al) (hA : IsAu w v A) (hK : IsH w vk K) (hR : IsInts w rv run) :
    Calls Tryd.prog 5 #[.agg #[av], v, .agg #[.int .i64 l, vk], rv] w fun e w' => e = .returned (.bool true) ∧ Below w.heap.size w w' := by
  have HAL := Lib.hid hal
  have HA := Lib.hid hA
  have HI := Lib.hid ha
  have HK := Lib.hid hK
  have HR := Lib.hid hR
  have HWF := Lib.hid hwf
  have HAW := Lib.hid (fun w h => awake_ok w h)
  obtain ⟨fv, uv, rfl, hf, hr⟩ := hA
  have H4 := Lib.hid (four_boxes w #[av] #[.int .i64 A.st, fv, uv] #[.int .i64 l, vk] #[.int .i64 l, vk] 24 27 43 43)
  have h0 := H4.out _ (Below.refl _ _)
  have HF := Lib.hid (lfew_ok al A l K _ _ _ _ _ (HI.out.below h0.2.2.2.2) (HA.out.below h0.2.2.2.2) (HK.out.below h0.2.2.2.2) h0.2.2.2.1)
  clear h0
  obtain ⟨p1, c1, rfl, _⟩ := hf
  obtain ⟨p2, c2, rfl, _⟩ := hr
  obtain ⟨p, c, rfl, _⟩ := hK
  obtain ⟨pa, ca, rfl, _⟩ := ha
  obtain ⟨pr, cr, rfl, _, hrm, _⟩ := hR
  unfold maxLen at hrm
  clear hal hwf
  go_enter Tryd.func5, Tryd.ntmps5
  go_wp2_with fail
  refine HF.out.mono ?_
  rintro e w1 ⟨rfl, hb1⟩
  have HC1 := Lib.hid hb1
  clear hb1
  have g1 := H4.out w1 HC1.out
  have x10 : w1.cell? ⟨w.heap.size, 0, none⟩ = some (.slice pa al.length ca) := by rw [g1.1.cell]; rfl
  have x11 : w1.cell? ⟨w.heap.size + 1, 0, none⟩ = some (.int .i64 A.st) := by rw [g1.2.1.cell]; rfl
  have x12 : w1.cell? ⟨w.heap.size + 1, 1, none⟩ = some (.slice p1 A.fin.length c1) := by rw [g1.2.1.cell]; rfl
  have x13 : w1.cell? ⟨w.heap.size + 1, 2, none⟩ = some (.slice p2 A.ru.length c2) := by rw [g1.2.1.cell]; rfl
  have x14 : w1.cell? ⟨w.heap.size + 1 + 1, 0, none⟩ = some (.int .i64 l) := by rw [g1.2.2.1.cell]; rfl
  have x15 : w1.cell? ⟨w.heap.size + 1 + 1, 1, none⟩ = some (.slice p K.len c) := by rw [g1.2.2.1.cell]; rfl
  have y1 := g1.2.2.1.lt
  have y1a := g1.1.lt
  have y1b := g1.2.1.lt
  have HB1 := Lib.hid g1.2.2.2.2
  clear g1
  cases hfew : fewB al A K with
  | false =>
    clear hfew
    go_wp2_with fail
    refine (HAW.out _ (HAL.out.below HB1.out)).mono ?_
    rintro e wz ⟨rfl, hb⟩
    have HBZ := Lib.hid (HB1.out.trans (hb.mono HB1.out.size))
    clear hb
    go_wp2_with fail
    go_ret
    exact ⟨ret_bool rfl, HBZ.out⟩
  | true =>
    have HP := Lib.hid (few_parts hfew)
    clear hfew
    by_cases hlen : 400 < run.length
    · have hl1 : (400 : Int) < (run.length : Int) := by omega
      have hl2 : decide ((400 : Int) < (run.length : Int)) = true := decide_eq_true hl1
      clear hlen
      go_wp2_with fail
      refine (HAW.out _ (HAL.out.below HB1.out)).mono ?_
      rintro e wz ⟨rfl, hb⟩
      have HBZ := Lib.hid (HB1.out.trans (hb.mono HB1.out.size))
      clear hb
      go_wp2_with fail
      go_ret
      exact ⟨ret_bool rfl, HBZ.out⟩
    · have hl1 : ¬ (400 : Int) < (run.length : Int) := by omega
      have hl2 : decide ((400 : Int) < (run.length : Int)) = false := decide_eq_false hl1
      clear hlen hl1
      have HCK := Lib.hid (check_ok al A l K run _ _ _ _ w1 (by have := HP.out.1; omega) HWF.out (HI.out.below HB1.out) (HA.out.below HB1.out) (HK.out.below HB1.out) (HR.out.below HB1.out))
      cases hq : askB al A l K with
      | false =>
        have HQ := Lib.hid hq
        have HE : Hid (askE al A l K = 1) := Lib.hid (by unfold askE; rw [hq]; rfl)
        have HRE : Hid (runE al A l K = 1) := Lib.hid (by unfold runE; rw [hq]; rfl)
        rw [hq, HE.out, Bool.false_and] at HCK
        clear hq
        go_wp2_with fail
        refine HCK.out.mono ?_
        rintro e w2 ⟨rfl, hb2⟩
        have HC2 := Lib.hid (HC1.out.trans (hb2.mono HC1.out.size))
        clear hb2
        clear x10 x11 x12 x13 x14 x15 y1 y1a y1b
        have g2 := H4.out w2 HC2.out
        have x20 : w2.cell? ⟨w.heap.size, 0, none⟩ = some (.slice pa al.length ca) := by rw [g2.1.cell]; rfl
        have x21 : w2.cell? ⟨w.heap.size + 1, 0, none⟩ = some (.int .i64 A.st) := by rw [g2.2.1.cell]; rfl
        have x22 : w2.cell? ⟨w.heap.size + 1, 1, none⟩ = some (.slice p1 A.fin.length c1) := by rw [g2.2.1.cell]; rfl
        have x23 : w2.cell? ⟨w.heap.size + 1, 2, none⟩ = some (.slice p2 A.ru.length c2) := by rw [g2.2.1.cell]; rfl
        have x24 : w2.cell? ⟨w.heap.size + 1 + 1, 0, none⟩ = some (.int .i64 l) := by rw [g2.2.2.1.cell]; rfl
        have x25 : w2.cell? ⟨w.heap.size + 1 + 1, 1, none⟩ = some (.slice p K.len c) := by rw [g2.2.2.1.cell]; rfl
        have y2 := g2.2.2.1.lt
        have y2a := g2.1.lt
        have y2b := g2.2.1.lt
        have HB2 := Lib.hid g2.2.2.2.2
        clear g2
        have HCR := Lib.hid (rcheck_ok al A (by have := HP.out.2; omega) l K run _ _ _ _ w2 (by have := HP.out.1; omega) (HI.out.below HB2.out) (HA.out.below HB2.out) (HK.out.below HB2.out) (HR.out.below HB2.out))
        rw [HQ.out, HE.out, Bool.false_and] at HCR
        go_wp2_with fail
        refine HCR.out.mono ?_
        rintro e w3 ⟨rfl, hb3⟩
        have HC3 := Lib.hid (HC2.out.trans (hb3.mono HC2.out.size))
        clear hb3
        clear x20 x21 x22 x23 x24 x25 y2 y2a y2b
        have g3 := H4.out w3 HC3.out
        have x30 : w3.cell? ⟨w.heap.size, 0, none⟩ = some (.slice pa al.length ca) := by rw [g3.1.cell]; rfl
        have x31 : w3.cell? ⟨w.heap.size + 1, 0, none⟩ = some (.int .i64 A.st) := by rw [g3.2.1.cell]; rfl
        have x32 : w3.cell? ⟨w.heap.size + 1, 1, none⟩ = some (.slice p1 A.fin.length c1) := by rw [g3.2.1.cell]; rfl
        have x33 : w3.cell? ⟨w.heap.size + 1, 2, none⟩ = some (.slice p2 A.ru.length c2) := by rw [g3.2.1.cell]; rfl
        have x34 : w3.cell? ⟨w.heap.size + 1 + 1, 0, none⟩ = some (.int .i64 l) := by rw [g3.2.2.1.cell]; rfl
        have x35 : w3.cell? ⟨w.heap.size + 1 + 1, 1, none⟩ = some (.slice p K.len c) := by rw [g3.2.2.1.cell]; rfl
        have y3 := g3.2.2.1.lt
        have y3a := g3.1.lt
        have y3b := g3.2.1.lt
        have HB3 := Lib.hid g3.2.2.2.2
        clear g3
        have HRU := Lib.hid (run_ok al A l K _ _ _ w3 (by have := HP.out.1; omega) HWF.out (HI.out.below HB3.out) (HA.out.below HB3.out) (HK.out.below HB3.out))
        rw [HRE.out] at HRU
        go_wp2_with fail
        refine HRU.out.mono ?_
        rintro e w4 ⟨⟨u4, run4, rfl, _, _⟩, hb4⟩
        have HB4 := Lib.hid (HB3.out.trans (hb4.mono HB3.out.size))
        clear hb4
        clear x30 x31 x32 x33 x34 x35 y3 y3a y3b
        go_wp2_with fail
        refine (HAW.out _ (HAL.out.below HB4.out)).mono ?_
        rintro e wz ⟨rfl, hb⟩
        have HBZ := Lib.hid (HB4.out.trans (hb.mono HB4.out.size))
        clear hb
        go_wp2_with fail
        go_ret
        exact ⟨ret_bool rfl, HBZ.out⟩
      | true =>
        have HQ := Lib.hid hq
        have HE : Hid (askE al A l K = 0) := Lib.hid (by unfold askE; rw [hq]; rfl)
        rw [hq, HE.out, Bool.true_and] at HCK
        generalize hbb : isRunB A l K run = bb at HCK
        have HBB := Lib.hid hbb
        clear hq hbb
        go_wp2_with fail
        refine HCK.out.mono ?_
        rintro e w2 ⟨rfl, hb2⟩
        have HC2 := Lib.hid (HC1.out.trans (hb2.mono HC1.out.size))
        clear hb2
        clear x10 x11 x12 x13 x14 x15 y1 y1a y1b
        have g2 := H4.out w2 HC2.out
        have x20 : w2.cell? ⟨w.heap.size, 0, none⟩ = some (.slice pa al.length ca) := by rw [g2.1.cell]; rfl
        have x21 : w2.cell? ⟨w.heap.size + 1, 0, none⟩ = some (.int .i64 A.st) := by rw [g2.2.1.cell]; rfl
        have x22 : w2.cell? ⟨w.heap.size + 1, 1, none⟩ = some (.slice p1 A.fin.length c1) := by rw [g2.2.1.cell]; rfl
        have x23 : w2.cell? ⟨w.heap.size + 1, 2, none⟩ = some (.slice p2 A.ru.length c2) := by rw [g2.2.1.cell]; rfl
        have x24 : w2.cell? ⟨w.heap.size + 1 + 1, 0, none⟩ = some (.int .i64 l) := by rw [g2.2.2.1.cell]; rfl
        have x25 : w2.cell? ⟨w.heap.size + 1 + 1, 1, none⟩ = some (.slice p K.len c) := by rw [g2.2.2.1.cell]; rfl
        have y2 := g2.2.2.1.lt
        have y2a := g2.1.lt
        have y2b := g2.2.1.lt
        have HB2 := Lib.hid g2.2.2.2.2
        clear g2
        have HCR := Lib.hid (rcheck_ok al A (by have := HP.out.2; omega) l K run _ _ _ _ w2 (by have := HP.out.1; omega) (HI.out.below HB2.out) (HA.out.below HB2.out) (HK.out.below HB2.out) (HR.out.below HB2.out))
        rw [HQ.out, HE.out, Bool.true_and, HBB.out] at HCR
        go_wp2_with fail
        refine HCR.out.mono ?_
        rintro e w3 ⟨rfl, hb3⟩
        have HC3 := Lib.hid (HC2.out.trans (hb3.mono HC2.out.size))
        clear hb3
        clear x20 x21 x22 x23 x24 x25 y2 y2a y2b
        have g3 := H4.out w3 HC3.out
        have x30 : w3.cell? ⟨w.heap.size, 0, none⟩ = some (.slice pa al.length ca) := by rw [g3.1.cell]; rfl
        have x31 : w3.cell? ⟨w.heap.size + 1, 0, none⟩ = some (.int .i64 A.st) := by rw [g3.2.1.cell]; rfl
        have x32 : w3.cell? ⟨w.heap.size + 1, 1, none⟩ = some (.slice p1 A.fin.length c1) := by rw [g3.2.1.cell]; rfl
        have x33 : w3.cell? ⟨w.heap.size + 1, 2, none⟩ = some (.slice p2 A.ru.length c2) := by rw [g3.2.1.cell]; rfl
        have x34 : w3.cell? ⟨w.heap.size + 1 + 1, 0, none⟩ = some (.int .i64 l) := by rw [g3.2.2.1.cell]; rfl
        have x35 : w3.cell? ⟨w.heap.size + 1 + 1, 1, none⟩ = some (.slice p K.len c) := by rw [g3.2.2.1.cell]; rfl
        have y3 := g3.2.2.1.lt
        have y3a := g3.1.lt
        have y3b := g3.2.1.lt
        have HB3 := Lib.hid g3.2.2.2.2
        clear g3
        have HRU := Lib.hid (run_ok al A l K _ _ _ w3 (by have := HP.out.1; omega) HWF.out (HI.out.below HB3.out) (HA.out.below HB3.out) (HK.out.below HB3.out))
        have hbe : (bb != bb) = false := by cases bb <;> rfl
        cases hh : hasB A l K with
        | false =>
          have HH := Lib.hid hh
          have HRE : Hid (runE al A l K = 8) := Lib.hid (by unfold runE; rw [HQ.out, hh]; rfl)
          rw [HRE.out] at HRU
          clear hh
          go_wp2_with fail
          refine HRU.out.mono ?_
          rintro e w4 ⟨⟨u4, run4, rfl, _, _⟩, hb4⟩
          have HC4 := Lib.hid (HC3.out.trans (hb4.mono HC3.out.size))
          clear hb4
          clear x30 x31 x32 x33 x34 x35 y3 y3a y3b
          have g4 := H4.out w4 HC4.out
          have x40 : w4.cell? ⟨w.heap.size, 0, none⟩ = some (.slice pa al.length ca) := by rw [g4.1.cell]; rfl
          have x41 : w4.cell? ⟨w.heap.size + 1, 0, none⟩ = some (.int .i64 A.st) := by rw [g4.2.1.cell]; rfl
          have x42 : w4.cell? ⟨w.heap.size + 1, 1, none⟩ = some (.slice p1 A.fin.length c1) := by rw [g4.2.1.cell]; rfl
          have x43 : w4.cell? ⟨w.heap.size + 1, 2, none⟩ = some (.slice p2 A.ru.length c2) := by rw [g4.2.1.cell]; rfl
          have x44 : w4.cell? ⟨w.heap.size + 1 + 1, 0, none⟩ = some (.int .i64 l) := by rw [g4.2.2.1.cell]; rfl
          have x45 : w4.cell? ⟨w.heap.size + 1 + 1, 1, none⟩ = some (.slice p K.len c) := by rw [g4.2.2.1.cell]; rfl
          have y4 := g4.2.2.1.lt
          have y4a := g4.1.lt
          have y4b := g4.2.1.lt
          have HB4 := Lib.hid g4.2.2.2.2
          clear g4
          have HHT := Lib.hid (has_tree_ok A (by have := HP.out.2; omega) l K _ _ w4 (by have := HP.out.1; omega) (HA.out.below HB4.out) (HK.out.below HB4.out) (ask_ok HQ.out).1 (ask_ok HQ.out).2)
          rw [HH.out] at HHT
          go_wp2_with fail
          refine HHT.out.mono ?_
          rintro e w5 ⟨rfl, hb5⟩
          have HB5 := Lib.hid (HB4.out.trans (hb5.mono HB4.out.size))
          clear hb5
          clear x40 x41 x42 x43 x44 x45 y4 y4a y4b
          go_wp2_with fail
          refine (HAW.out _ (HAL.out.below HB5.out)).mono ?_
          rintro e wz ⟨rfl, hb⟩
          have HBZ := Lib.hid (HB5.out.trans (hb.mono HB5.out.size))
          clear hb
          go_wp2_with fail
          go_ret
          exact ⟨ret_bool rfl, HBZ.out⟩
        | true =>
          have HH := Lib.hid hh
          have HRE : Hid (runE al A l K = 0) := Lib.hid (by unfold runE; rw [HQ.out, hh]; rfl)
          rw [HRE.out] at HRU
          clear hh
          go_wp2_with fail
          refine HRU.out.mono ?_
          rintro e w4 ⟨⟨u4, run4, rfl, hu4, hr4⟩, hb4⟩
          have HU4 := Lib.hid hu4
          have HR4 := Lib.hid (hr4 HQ.out HH.out)
          obtain ⟨p4, c4, rfl, _⟩ := hu4
          have HC4 := Lib.hid (HC3.out.trans (hb4.mono HC3.out.size))
          clear hb4 hr4
          clear x30 x31 x32 x33 x34 x35 y3 y3a y3b
          have g4 := H4.out w4 HC4.out
          have x40 : w4.cell? ⟨w.heap.size, 0, none⟩ = some (.slice pa al.length ca) := by rw [g4.1.cell]; rfl
          have x41 : w4.cell? ⟨w.heap.size + 1, 0, none⟩ = some (.int .i64 A.st) := by rw [g4.2.1.cell]; rfl
          have x42 : w4.cell? ⟨w.heap.size + 1, 1, none⟩ = some (.slice p1 A.fin.length c1) := by rw [g4.2.1.cell]; rfl
          have x43 : w4.cell? ⟨w.heap.size + 1, 2, none⟩ = some (.slice p2 A.ru.length c2) := by rw [g4.2.1.cell]; rfl
          have x44 : w4.cell? ⟨w.heap.size + 1 + 1, 0, none⟩ = some (.int .i64 l) := by rw [g4.2.2.1.cell]; rfl
          have x45 : w4.cell? ⟨w.heap.size + 1 + 1, 1, none⟩ = some (.slice p K.len c) := by rw [g4.2.2.1.cell]; rfl
          have y4 := g4.2.2.1.lt
          have y4a := g4.1.lt
          have y4b := g4.2.1.lt
          have HB4 := Lib.hid g4.2.2.2.2
          clear g4
          have HHT := Lib.hid (has_tree_ok A (by have := HP.out.2; omega) l K _ _ w4 (by have := HP.out.1; omega) (HA.out.below HB4.out) (HK.out.below HB4.out) (ask_ok HQ.out).1 (ask_ok HQ.out).2)
          rw [HH.out] at HHT
          go_wp2_with fail
          refine HHT.out.mono ?_
          rintro e w5 ⟨rfl, hb5⟩
          have HU5 := Lib.hid (HU4.out.below hb5)
          have HC5 := Lib.hid (HC4.out.trans (hb5.mono HC4.out.size))
          clear hb5 HU4
          clear x40 x41 x42 x43 x44 x45 y4 y4a y4b
          have g5 := H4.out w5 HC5.out
          have x50 : w5.cell? ⟨w.heap.size, 0, none⟩ = some (.slice pa al.length ca) := by rw [g5.1.cell]; rfl
          have x51 : w5.cell? ⟨w.heap.size + 1, 0, none⟩ = some (.int .i64 A.st) := by rw [g5.2.1.cell]; rfl
          have x52 : w5.cell? ⟨w.heap.size + 1, 1, none⟩ = some (.slice p1 A.fin.length c1) := by rw [g5.2.1.cell]; rfl
          have x53 : w5.cell? ⟨w.heap.size + 1, 2, none⟩ = some (.slice p2 A.ru.length c2) := by rw [g5.2.1.cell]; rfl
          have x54 : w5.cell? ⟨w.heap.size + 1 + 1, 0, none⟩ = some (.int .i64 l) := by rw [g5.2.2.1.cell]; rfl
          have x55 : w5.cell? ⟨w.heap.size + 1 + 1, 1, none⟩ = some (.slice p K.len c) := by rw [g5.2.2.1.cell]; rfl
          have y5 := g5.2.2.1.lt
          have y5a := g5.1.lt
          have y5b := g5.2.1.lt
          have HB5 := Lib.hid g5.2.2.2.2
          clear g5
          have HCK2 := Lib.hid (check_ok al A l K run4 _ _ _ _ w5 (by have := HP.out.1; omega) HWF.out (HI.out.below HB5.out) (HA.out.below HB5.out) (HK.out.below HB5.out) HU5.out)
          rw [HQ.out, HE.out, HR4.out] at HCK2
          go_wp2_with fail
          refine HCK2.out.mono ?_
          rintro e w6 ⟨rfl, hb6⟩
          have HU6 := Lib.hid (HU5.out.below hb6)
          have HC6 := Lib.hid (HC5.out.trans (hb6.mono HC5.out.size))
          clear hb6 HU5
          clear x50 x51 x52 x53 x54 x55 y5 y5a y5b
          have g6 := H4.out w6 HC6.out
          have x60 : w6.cell? ⟨w.heap.size, 0, none⟩ = some (.slice pa al.length ca) := by rw [g6.1.cell]; rfl
          have x61 : w6.cell? ⟨w.heap.size + 1, 0, none⟩ = some (.int .i64 A.st) := by rw [g6.2.1.cell]; rfl
          have x62 : w6.cell? ⟨w.heap.size + 1, 1, none⟩ = some (.slice p1 A.fin.length c1) := by rw [g6.2.1.cell]; rfl
          have x63 : w6.cell? ⟨w.heap.size + 1, 2, none⟩ = some (.slice p2 A.ru.length c2) := by rw [g6.2.1.cell]; rfl
          have x64 : w6.cell? ⟨w.heap.size + 1 + 1, 0, none⟩ = some (.int .i64 l) := by rw [g6.2.2.1.cell]; rfl
          have x65 : w6.cell? ⟨w.heap.size + 1 + 1, 1, none⟩ = some (.slice p K.len c) := by rw [g6.2.2.1.cell]; rfl
          have y6 := g6.2.2.1.lt
          have y6a := g6.1.lt
          have y6b := g6.2.1.lt
          have HB6 := Lib.hid g6.2.2.2.2
          clear g6
          have HIS := Lib.hid (isrun_ok A (by have := HP.out.2; omega) l K run4 _ _ _ w6 (by have := HP.out.1; omega) (HA.out.below HB6.out) (HK.out.below HB6.out) HU6.out)
          rw [HR4.out] at HIS
          go_wp2_with fail
          refine HIS.out.mono ?_
          rintro e w7 ⟨rfl, hb7⟩
          have HB7 := Lib.hid (HB6.out.trans (hb7.mono HB6.out.size))
          clear hb7
          clear x60 x61 x62 x63 x64 x65 y6 y6a y6b
          go_wp2_with fail
          refine (HAW.out _ (HAL.out.below HB7.out)).mono ?_
          rintro e wz ⟨rfl, hb⟩
          have HBZ := Lib.hid (HB7.out.trans (hb.mono HB7.out.size))
          clear hb
          go_wp2_with fail
          go_ret
          exact ⟨ret_bool rfl, HBZ.out⟩

end Go.Proofs.YtopineheelkcmaaDoor
