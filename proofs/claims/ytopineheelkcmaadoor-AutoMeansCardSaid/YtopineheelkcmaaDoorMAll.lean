/- The law AutoMeans: its walk. -/
import Derived.Test.YtopineheelkcmaaDoorAAll
import Derived.Test.YtopineheelkcmaaDoorMFew
import Derived.Test.YtopineheelkcmaaDoorMRepl
import Derived.Test.YtopineheelkcmaaDoorMMean
namespace Go.Proofs.YtopineheelkcmaaDoor
open Go.RowKit Go.Shelf

set_option maxRecDepth 100000 in
/-- Five boxes. -/
theorem five_boxes (w : World) (a b c d e : Array Value) (ta tb tc td te : TypeId) : ∀ W, Below (((((w.alloc (.cells a ta)).alloc (.cells b tb)).alloc (.cells c tc)).alloc (.cells d td)).alloc (.cells e te)).heap.size (((((w.alloc (.cells a ta)).alloc (.cells b tb)).alloc (.cells c tc)).alloc (.cells d td)).alloc (.cells e te)) W →
    Blk W w.heap.size ta a ∧ Blk W (w.heap.size + 1) tb b ∧ Blk W (w.heap.size + 1 + 1) tc c ∧ Blk W (w.heap.size + 1 + 1 + 1) td d ∧ Blk W (w.heap.size + 1 + 1 + 1 + 1) te e ∧ Below w.heap.size w W := fun W hW => by
  obtain ⟨h0, h1, h2, h3, h4, hb⟩ := blk5 w ta tb tc td te a b c d e
  exact ⟨h0.below hW h0.lt, h1.below hW h1.lt, h2.below hW h2.lt, h3.below hW h3.lt, h4.below hW h4.lt, hb.trans (hW.mono hb.size)⟩

set_option maxRecDepth 100000 in
theorem few2_parts {al : List Int} {A : Au} {l lx : Int} {K X : Hg} (h : (fewH (.cons l K (.cons lx X .nil)) && fewA al A) = true) : K.size + 1 ≤ 400 ∧ X.size + 1 ≤ 400 ∧ A.ru.length ≤ 60 := by
  rw [Bool.and_eq_true, fewH_cons, Bool.and_eq_true, fewH_cons, Bool.and_eq_true] at h
  obtain ⟨⟨h1, h2, _⟩, h3⟩ := h
  unfold fewA at h3
  rw [Bool.and_eq_true, Bool.and_eq_true] at h3
  have a := of_decide_eq_true h1
  have b := of_decide_eq_true h2
  have c := of_decide_eq_true h3.2.1
  omega

set_option maxRecDepth 100000 in
set_option maxHeartbeats 8000000 in
theorem means_walk (al : List Int) (A : Au) (l lx : Int) (K X : Hg) (pos : List Int) (av v vk vx pv : Value) (w : World) (hal : AlIs w) (hT : TabAt 1 Lib.deBruijn64tab w) (hwf : (Lit.int .i64 l).wf = true) (hwx : (Lit.int .i64 lx).wf = true) (ha : IsInts w av al) (hA : IsAu w v A) (hK : IsH w vk K) (hX : IsH w vx X) (hp : IsInts w pv pos) :
    Calls Tryd.prog 8 #[.agg #[av], v, .agg #[.int .i64 l, vk], .agg #[.int .i64 lx, vx], pv] w fun e w' => e = .returned (.bool true) ∧ Below w.heap.size w w' := by
  have HAL := Lib.hid hal
  have HT := Lib.hid hT
  have HA := Lib.hid hA
  have HI := Lib.hid ha
  have HK := Lib.hid hK
  have HX := Lib.hid hX
  have HP := Lib.hid hp
  have HWF := Lib.hid hwf
  have HWX := Lib.hid hwx
  have HAW := Lib.hid (fun w h => awake_ok w h)
  obtain ⟨fv, rv, rfl, hf, hr⟩ := hA
  have H5 := Lib.hid (five_boxes w #[av] #[.int .i64 A.st, fv, rv] #[.int .i64 l, vk] #[.int .i64 lx, vx] #[.int .i64 l, vk, .int .i64 lx, vx] 24 27 43 43 43)
  have h0 := H5.out _ (Below.refl _ _)
  have HF := Lib.hid (mfew_ok al A (.cons l K (.cons lx X .nil)) _ _ _ _ (HI.out.below h0.2.2.2.2.2) (HA.out.below h0.2.2.2.2.2) (isH_two h0.2.2.2.2.1 hwf (HK.out.below h0.2.2.2.2.2) hwx (HX.out.below h0.2.2.2.2.2)))
  clear h0
  obtain ⟨p1, c1, rfl, _⟩ := hf
  obtain ⟨p2, c2, rfl, _⟩ := hr
  obtain ⟨p, c, rfl, _⟩ := hK
  obtain ⟨px, cx, rfl, _⟩ := hX
  obtain ⟨pa, ca, rfl, _⟩ := ha
  obtain ⟨pp, cp, rfl, hpl, hpm, _⟩ := hp
  unfold maxLen at hpm
  clear hal hT hwf hwx
  go_enter Tryd.func8, Tryd.ntmps8
  go_wp2_with fail
  refine HF.out.mono ?_
  rintro e w1 ⟨rfl, hb1⟩
  have HC1 := Lib.hid hb1
  clear hb1
  have g1 := H5.out w1 HC1.out
  have x10 : w1.cell? ⟨w.heap.size, 0, none⟩ = some (.slice pa al.length ca) := by rw [g1.1.cell]; rfl
  have x11 : w1.cell? ⟨w.heap.size + 1, 0, none⟩ = some (.int .i64 A.st) := by rw [g1.2.1.cell]; rfl
  have x12 : w1.cell? ⟨w.heap.size + 1, 1, none⟩ = some (.slice p1 A.fin.length c1) := by rw [g1.2.1.cell]; rfl
  have x13 : w1.cell? ⟨w.heap.size + 1, 2, none⟩ = some (.slice p2 A.ru.length c2) := by rw [g1.2.1.cell]; rfl
  have x14 : w1.cell? ⟨w.heap.size + 1 + 1, 0, none⟩ = some (.int .i64 l) := by rw [g1.2.2.1.cell]; rfl
  have x15 : w1.cell? ⟨w.heap.size + 1 + 1, 1, none⟩ = some (.slice p K.len c) := by rw [g1.2.2.1.cell]; rfl
  have x16 : w1.cell? ⟨w.heap.size + 1 + 1 + 1, 0, none⟩ = some (.int .i64 lx) := by rw [g1.2.2.2.1.cell]; rfl
  have x17 : w1.cell? ⟨w.heap.size + 1 + 1 + 1, 1, none⟩ = some (.slice px X.len cx) := by rw [g1.2.2.2.1.cell]; rfl
  have y1 := g1.2.2.2.1.lt
  have y1a := g1.1.lt
  have y1b := g1.2.1.lt
  have y1c := g1.2.2.1.lt
  have HB1 := Lib.hid g1.2.2.2.2.2
  clear g1
  generalize hfew : (fewH (.cons l K (.cons lx X .nil)) && fewA al A) = ff
  cases ff with
  | false =>
    clear hfew
    go_wp2_with fail
    refine (HAW.out _ (HAL.out.below HB1.out)).mono ?_
    rintro e wz ⟨rfl, hb⟩
    have HBZ := Lib.hid (HB1.out.trans (hb.mono HB1.out.size))
    clear hb
    go_wp2_with fail
    go_ret
    exact ⟨ret_bool rfl, HBZ.out⟩
  | true =>
    have HPP := Lib.hid (few2_parts hfew)
    clear hfew
    by_cases hlen : 400 < pos.length
    · have hl1 : (400 : Int) < (pos.length : Int) := by omega
      have hl2 : decide ((400 : Int) < (pos.length : Int)) = true := decide_eq_true hl1
      clear hlen
      go_wp2_with fail
      refine (HAW.out _ (HAL.out.below HB1.out)).mono ?_
      rintro e wz ⟨rfl, hb⟩
      have HBZ := Lib.hid (HB1.out.trans (hb.mono HB1.out.size))
      clear hb
      go_wp2_with fail
      go_ret
      exact ⟨ret_bool rfl, HBZ.out⟩
    · have hl1 : ¬ (400 : Int) < (pos.length : Int) := by omega
      have hl2 : decide ((400 : Int) < (pos.length : Int)) = false := decide_eq_false hl1
      have HLEN := Lib.hid hlen
      clear hlen hl1
      go_wp2_with fail
      refine (rtvalid_ok al _ l _ K _ (HI.out.below HB1.out) (HK.out.below HB1.out)).mono ?_
      rintro e w2 ⟨rfl, hb2⟩
      have HC2 := Lib.hid (HC1.out.trans (hb2.mono HC1.out.size))
      clear hb2
      clear x10 x11 x12 x13 x14 x15 x16 x17 y1 y1a y1b y1c
      have g2 := H5.out w2 HC2.out
      have x20 : w2.cell? ⟨w.heap.size, 0, none⟩ = some (.slice pa al.length ca) := by rw [g2.1.cell]; rfl
      have x21 : w2.cell? ⟨w.heap.size + 1, 0, none⟩ = some (.int .i64 A.st) := by rw [g2.2.1.cell]; rfl
      have x22 : w2.cell? ⟨w.heap.size + 1, 1, none⟩ = some (.slice p1 A.fin.length c1) := by rw [g2.2.1.cell]; rfl
      have x23 : w2.cell? ⟨w.heap.size + 1, 2, none⟩ = some (.slice p2 A.ru.length c2) := by rw [g2.2.1.cell]; rfl
      have x24 : w2.cell? ⟨w.heap.size + 1 + 1, 0, none⟩ = some (.int .i64 l) := by rw [g2.2.2.1.cell]; rfl
      have x25 : w2.cell? ⟨w.heap.size + 1 + 1, 1, none⟩ = some (.slice p K.len c) := by rw [g2.2.2.1.cell]; rfl
      have x26 : w2.cell? ⟨w.heap.size + 1 + 1 + 1, 0, none⟩ = some (.int .i64 lx) := by rw [g2.2.2.2.1.cell]; rfl
      have x27 : w2.cell? ⟨w.heap.size + 1 + 1 + 1, 1, none⟩ = some (.slice px X.len cx) := by rw [g2.2.2.2.1.cell]; rfl
      have y2 := g2.2.2.2.1.lt
      have y2a := g2.1.lt
      have y2b := g2.2.1.lt
      have y2c := g2.2.2.1.lt
      have HB2 := Lib.hid g2.2.2.2.2.2
      clear g2
      generalize htv : tvalid al l K = tv
      cases tv with
      | false =>
        clear htv
        go_wp2_with fail
        refine (HAW.out _ (HAL.out.below HB2.out)).mono ?_
        rintro e wz ⟨rfl, hb⟩
        have HBZ := Lib.hid (HB2.out.trans (hb.mono HB2.out.size))
        clear hb
        go_wp2_with fail
        go_ret
        exact ⟨ret_bool rfl, HBZ.out⟩
      | true =>
        have HTV := Lib.hid htv
        clear htv
        go_wp2_with fail
        refine (rfind_ok pos _ l K _ w _ HB2.out (HP.out.below HB2.out) HWF.out HK.out).mono ?_
        rintro e w3 ⟨hb3, hcase⟩
        have HC3 := Lib.hid (HC2.out.trans (hb3.mono HC2.out.size))
        clear hb3
        clear x20 x21 x22 x23 x24 x25 x26 x27 y2 y2a y2b y2c
        have g3 := H5.out w3 HC3.out
        have x30 : w3.cell? ⟨w.heap.size, 0, none⟩ = some (.slice pa al.length ca) := by rw [g3.1.cell]; rfl
        have x31 : w3.cell? ⟨w.heap.size + 1, 0, none⟩ = some (.int .i64 A.st) := by rw [g3.2.1.cell]; rfl
        have x32 : w3.cell? ⟨w.heap.size + 1, 1, none⟩ = some (.slice p1 A.fin.length c1) := by rw [g3.2.1.cell]; rfl
        have x33 : w3.cell? ⟨w.heap.size + 1, 2, none⟩ = some (.slice p2 A.ru.length c2) := by rw [g3.2.1.cell]; rfl
        have x34 : w3.cell? ⟨w.heap.size + 1 + 1, 0, none⟩ = some (.int .i64 l) := by rw [g3.2.2.1.cell]; rfl
        have x35 : w3.cell? ⟨w.heap.size + 1 + 1, 1, none⟩ = some (.slice p K.len c) := by rw [g3.2.2.1.cell]; rfl
        have x36 : w3.cell? ⟨w.heap.size + 1 + 1 + 1, 0, none⟩ = some (.int .i64 lx) := by rw [g3.2.2.2.1.cell]; rfl
        have x37 : w3.cell? ⟨w.heap.size + 1 + 1 + 1, 1, none⟩ = some (.slice px X.len cx) := by rw [g3.2.2.2.1.cell]; rfl
        have y3 := g3.2.2.2.1.lt
        have y3a := g3.1.lt
        have y3b := g3.2.1.lt
        have y3c := g3.2.2.1.lt
        have HB3 := Lib.hid g3.2.2.2.2.2
        clear g3
        rcases hcase with ⟨y, r, hg, rfl, hy⟩ | ⟨hg, rfl⟩
        · obtain ⟨y1, Y⟩ := y
          have HG := Lib.hid hg
          obtain ⟨vy, rfl, hwy, hyh⟩ := hy
          simp only at hwy hyh
          have HWY := Lib.hid hwy
          have HYH := Lib.hid hyh
          obtain ⟨py, cy, rfl, _⟩ := hyh
          have HSY : Hid (Y.size ≤ K.size) := Lib.hid (get_size _ _ _ hg)
          have HC3a : Hid (Below _ _ (w3.alloc (.cells #[.int .i64 y1, .slice py Y.len cy] 43))) := Lib.hid (HC3.out.alloc HC3.out.size _)
          have HB3a := Lib.hid (H5.out _ HC3a.out).2.2.2.2.2
          have HST := Lib.hid (states_ok al A y1 Y _ _ _ (w3.alloc (.cells #[.int .i64 y1, .slice py Y.len cy] 43)) (by have h1 := HPP.out.1; have h2 := HSY.out; omega) HWY.out (HI.out.below HB3a.out) (HA.out.below HB3a.out) (HYH.out.below HB3a.out) (fun j hj => cell_later HB3a.out (HT.out j hj)))
          clear hg hwy
          go_wp2_with fail
          generalize he : askE al A y1 Y = ey at HST
          have HEY := Lib.hid he
          clear he
          refine HST.out.mono ?_
          rintro e w4 ⟨⟨u4, rfl, hu4⟩, hb4⟩
          have HU4 := Lib.hid hu4
          have HC4 := Lib.hid (HC3a.out.trans (hb4.mono HC3a.out.size))
          clear hb4 hu4 HST
          clear x30 x31 x32 x33 x34 x35 x36 x37 y3 y3a y3b y3c
          have g4 := H5.out w4 HC4.out
          have x40 : w4.cell? ⟨w.heap.size, 0, none⟩ = some (.slice pa al.length ca) := by rw [g4.1.cell]; rfl
          have x41 : w4.cell? ⟨w.heap.size + 1, 0, none⟩ = some (.int .i64 A.st) := by rw [g4.2.1.cell]; rfl
          have x42 : w4.cell? ⟨w.heap.size + 1, 1, none⟩ = some (.slice p1 A.fin.length c1) := by rw [g4.2.1.cell]; rfl
          have x43 : w4.cell? ⟨w.heap.size + 1, 2, none⟩ = some (.slice p2 A.ru.length c2) := by rw [g4.2.1.cell]; rfl
          have x44 : w4.cell? ⟨w.heap.size + 1 + 1, 0, none⟩ = some (.int .i64 l) := by rw [g4.2.2.1.cell]; rfl
          have x45 : w4.cell? ⟨w.heap.size + 1 + 1, 1, none⟩ = some (.slice p K.len c) := by rw [g4.2.2.1.cell]; rfl
          have x46 : w4.cell? ⟨w.heap.size + 1 + 1 + 1, 0, none⟩ = some (.int .i64 lx) := by rw [g4.2.2.2.1.cell]; rfl
          have x47 : w4.cell? ⟨w.heap.size + 1 + 1 + 1, 1, none⟩ = some (.slice px X.len cx) := by rw [g4.2.2.2.1.cell]; rfl
          have y4 := g4.2.2.2.1.lt
          have y4a := g4.1.lt
          have y4b := g4.2.1.lt
          have y4c := g4.2.2.1.lt
          have HB4 := Lib.hid g4.2.2.2.2.2
          clear g4
          have HST2 := Lib.hid (states_ok al A lx X _ _ _ w4 (by have h1 := HPP.out.2.1; omega) HWX.out (HI.out.below HB4.out) (HA.out.below HB4.out) (HX.out.below HB4.out) (fun j hj => cell_later HB4.out (HT.out j hj)))
          generalize he : askE al A lx X = ex at HST2
          have HEX := Lib.hid he
          clear he
          go_wp2_with fail
          refine HST2.out.mono ?_
          rintro e w5 ⟨⟨u5, rfl, hu5⟩, hb5⟩
          have HU5 := Lib.hid hu5
          have HU4b := Lib.hid (HU4.out.below hb5)
          have HC5 := Lib.hid (HC4.out.trans (hb5.mono HC4.out.size))
          clear hb5 hu5 HST2 HU4
          clear x40 x41 x42 x43 x44 x45 x46 x47 y4 y4a y4b y4c
          have g5 := H5.out w5 HC5.out
          have x50 : w5.cell? ⟨w.heap.size, 0, none⟩ = some (.slice pa al.length ca) := by rw [g5.1.cell]; rfl
          have x51 : w5.cell? ⟨w.heap.size + 1, 0, none⟩ = some (.int .i64 A.st) := by rw [g5.2.1.cell]; rfl
          have x52 : w5.cell? ⟨w.heap.size + 1, 1, none⟩ = some (.slice p1 A.fin.length c1) := by rw [g5.2.1.cell]; rfl
          have x53 : w5.cell? ⟨w.heap.size + 1, 2, none⟩ = some (.slice p2 A.ru.length c2) := by rw [g5.2.1.cell]; rfl
          have x54 : w5.cell? ⟨w.heap.size + 1 + 1, 0, none⟩ = some (.int .i64 l) := by rw [g5.2.2.1.cell]; rfl
          have x55 : w5.cell? ⟨w.heap.size + 1 + 1, 1, none⟩ = some (.slice p K.len c) := by rw [g5.2.2.1.cell]; rfl
          have x56 : w5.cell? ⟨w.heap.size + 1 + 1 + 1, 0, none⟩ = some (.int .i64 lx) := by rw [g5.2.2.2.1.cell]; rfl
          have x57 : w5.cell? ⟨w.heap.size + 1 + 1 + 1, 1, none⟩ = some (.slice px X.len cx) := by rw [g5.2.2.2.1.cell]; rfl
          have y5 := g5.2.2.2.1.lt
          have y5a := g5.1.lt
          have y5b := g5.2.1.lt
          have y5c := g5.2.2.1.lt
          have HB5 := Lib.hid g5.2.2.2.2.2
          clear g5
          by_cases hy0 : ey = 0
          · by_cases hx0 : ex = 0
            · subst hy0
              subst hx0
              have HQY : Hid (askB al A y1 Y = true) := Lib.hid (by have := HEY.out; unfold askE at this; cases h : askB al A y1 Y with | true => rfl | false => (rw [h] at this; cases this))
              have HQX : Hid (askB al A lx X = true) := Lib.hid (by have := HEX.out; unfold askE at this; cases h : askB al A lx X with | true => rfl | false => (rw [h] at this; cases this))
              generalize hL : stsA al A y1 Y = L at HU4b
              generalize hM : stsA al A lx X = M at HU5
              have HL : Hid (L = stsL A y1 Y) := Lib.hid (by rw [← hL]; unfold stsA; rw [HQY.out]; rfl)
              have HM : Hid (M = stsL A lx X) := Lib.hid (by rw [← hM]; unfold stsA; rw [HQX.out]; rfl)
              clear hL hM
              obtain ⟨p4, c4, rfl, h41, h42, h43⟩ := id HU4b.out
              unfold maxLen at h42
              have HCL := Lib.hid h43
              obtain ⟨p5, c5, rfl, _⟩ := id HU5.out
              clear h43
              go_wp2_with fail
              go_loopw [75] (fun iv wr => ∃ k : Nat, iv = .int .i64 (k : Nat) ∧ k ≤ L.length ∧ Hid (∀ q ∈ L.take k, q ∈ M) ∧ Hid (Below w5.heap.size w5 wr)) (fun iv _ => L.length - (intOf iv).toNat)
              case atStart => exact ⟨0, rfl, by omega, Lib.hid (fun q h => by simp at h), Lib.hid (Below.refl _ _)⟩
              case round =>
                rename World => wr
                obtain ⟨k, rfl, hk, HS, HBr⟩ := hrel
                by_cases hlt : k < L.length
                · obtain ⟨r, hrk⟩ : ∃ r, L[k]? = some r := ⟨_, List.getElem?_eq_getElem hlt⟩
                  obtain ⟨b, o, rfl, hcl⟩ := HCL.out (fun h => by simp [h] at hlt)
                  have q0 := cell_later HBr.out (hcl k r hrk)
                  have ql := World.block_lt_of_cell? _ _ q0
                  simp only at ql
                  have HRK := Lib.hid hrk
                  have hlt1 : (k : Int) < (L.length : Int) := by omega
                  have HIN := Lib.hid (in_ok M _ r wr (HU5.out.below HBr.out))
                  clear hrk hcl
                  cases hin : inB M r with
                  | true =>
                    rw [hin] at HIN
                    have HS2 : Hid (∀ q ∈ L.take (k + 1), q ∈ M) := Lib.hid (fun q hq => by
                      rw [List.take_add_one, HRK.out] at hq
                      rcases List.mem_append.1 hq with h | h
                      · exact HS.out q h
                      · simp at h; subst h; exact inB_iff.1 hin)
                    clear hin
                    go_wp2_with fail
                    refine HIN.out.mono ?_
                    rintro e w6 ⟨rfl, rfl⟩
                    go_wp2_with fail
                    go_roundw
                    case rel => exact ⟨k + 1, by go_num, by omega, HS2, HBr⟩
                    case measure => simp [intOf]; omega
                  | false =>
                    rw [hin] at HIN
                    have HBZ0 := Lib.hid (HB5.out.trans (HBr.out.mono HB5.out.size))
                    clear hin
                    go_wp2_with fail
                    refine HIN.out.mono ?_
                    rintro e w6 ⟨rfl, rfl⟩
                    go_wp2_with fail
                    refine (HAW.out _ (HAL.out.below HBZ0.out)).mono ?_
                    rintro e wz ⟨rfl, hb⟩
                    have HBZ := Lib.hid (HBZ0.out.trans (hb.mono HBZ0.out.size))
                    clear hb
                    go_wp2_with fail
                    go_ret
                    exact ⟨ret_bool rfl, HBZ.out⟩
                · have hge : L.length ≤ k := by omega
                  have HSUB : Hid (∀ q, q ∈ stsL A y1 Y → q ∈ stsL A lx X) := Lib.hid (fun q hq => by
                    have := HS.out q (by rw [List.take_of_length_le hge, HL.out]; exact hq)
                    rwa [HM.out] at this)
                  have HC6 := Lib.hid (HC5.out.trans (HBr.out.mono HC5.out.size))
                  have hkd : decide (k < L.length) = false := decide_eq_false hlt
                  have hkd2 : decide ((k : Int) < (L.length : Int)) = false := decide_eq_false (by omega)
                  clear hlt HS HCL
                  clear x50 x51 x52 x53 x54 x55 x56 x57 y5 y5a y5b y5c
                  have g6 := H5.out wr HC6.out
                  have x60 : wr.cell? ⟨w.heap.size, 0, none⟩ = some (.slice pa al.length ca) := by rw [g6.1.cell]; rfl
                  have x61 : wr.cell? ⟨w.heap.size + 1, 0, none⟩ = some (.int .i64 A.st) := by rw [g6.2.1.cell]; rfl
                  have x62 : wr.cell? ⟨w.heap.size + 1, 1, none⟩ = some (.slice p1 A.fin.length c1) := by rw [g6.2.1.cell]; rfl
                  have x63 : wr.cell? ⟨w.heap.size + 1, 2, none⟩ = some (.slice p2 A.ru.length c2) := by rw [g6.2.1.cell]; rfl
                  have x64 : wr.cell? ⟨w.heap.size + 1 + 1, 0, none⟩ = some (.int .i64 l) := by rw [g6.2.2.1.cell]; rfl
                  have x65 : wr.cell? ⟨w.heap.size + 1 + 1, 1, none⟩ = some (.slice p K.len c) := by rw [g6.2.2.1.cell]; rfl
                  have x66 : wr.cell? ⟨w.heap.size + 1 + 1 + 1, 0, none⟩ = some (.int .i64 lx) := by rw [g6.2.2.2.1.cell]; rfl
                  have x67 : wr.cell? ⟨w.heap.size + 1 + 1 + 1, 1, none⟩ = some (.slice px X.len cx) := by rw [g6.2.2.2.1.cell]; rfl
                  have y6 := g6.2.2.2.1.lt
                  have y6a := g6.1.lt
                  have y6b := g6.2.1.lt
                  have y6c := g6.2.2.1.lt
                  have HB6 := Lib.hid g6.2.2.2.2.2
                  clear g6
                  have HRP := Lib.hid (replace_any (pos.length + 1) pos _ l K _ lx X _ (y1, Y) w wr HB6.out (Nat.lt_succ_self _) (HP.out.below HB6.out) HWF.out HK.out (by have := HPP.out.1; omega) HWX.out HX.out HG.out)
                  go_wp2_with fail
                  refine HRP.out.mono ?_
                  rintro e w7 ⟨rz, rfl, hz, hb7⟩
                  have hmono : hasB A l K = true → hasB A (putT pos (l, K) (lx, X)).1 (putT pos (l, K) (lx, X)).2 = true := fun h => has_mono A (t := (l, K)) (y := (y1, Y)) (x := (lx, X)) HG.out HSUB.out h
                  have hsz := put_size pos (l, K) (lx, X) (y1, Y) HG.out
                  generalize putT pos (l, K) (lx, X) = z at hz hmono hsz
                  obtain ⟨z1, Z⟩ := z
                  simp only at hz hmono hsz
                  have HMO := Lib.hid hmono
                  have HZS : Hid (Z.size ≤ 1000) := Lib.hid (by have h1 := HPP.out.1; have h2 := HPP.out.2.1; omega)
                  obtain ⟨vz, rfl, hwz, hzh⟩ := hz
                  simp only at hwz hzh
                  have HZH := Lib.hid hzh.isH
                  have HWZ := Lib.hid hwz
                  obtain ⟨pz, cz, rfl, _⟩ := hzh
                  have HC7 := Lib.hid (HC6.out.trans (hb7.mono HC6.out.size))
                  have HC8 : Hid (Below _ _ (w7.alloc (.cells #[.int .i64 z1, .slice pz Z.len cz] 43))) := Lib.hid (HC7.out.alloc HC7.out.size _)
                  have HZB := Lib.hid (Blk.new w7 43 #[.int .i64 z1, .slice pz Z.len cz])
                  have HZH8 := Lib.hid (HZH.out.below ((Below.refl _ w7).alloc (Nat.le_refl _) (.cells #[.int .i64 z1, .slice pz Z.len cz] 43)))
                  clear hmono hsz hwz hb7 HRP HZH
                  clear x60 x61 x62 x63 x64 x65 x66 x67 y6 y6a y6b y6c
                  have g7 := H5.out w7 HC7.out
                  have x70 : w7.cell? ⟨w.heap.size, 0, none⟩ = some (.slice pa al.length ca) := by rw [g7.1.cell]; rfl
                  have x71 : w7.cell? ⟨w.heap.size + 1, 0, none⟩ = some (.int .i64 A.st) := by rw [g7.2.1.cell]; rfl
                  have x72 : w7.cell? ⟨w.heap.size + 1, 1, none⟩ = some (.slice p1 A.fin.length c1) := by rw [g7.2.1.cell]; rfl
                  have x73 : w7.cell? ⟨w.heap.size + 1, 2, none⟩ = some (.slice p2 A.ru.length c2) := by rw [g7.2.1.cell]; rfl
                  have x74 : w7.cell? ⟨w.heap.size + 1 + 1, 0, none⟩ = some (.int .i64 l) := by rw [g7.2.2.1.cell]; rfl
                  have x75 : w7.cell? ⟨w.heap.size + 1 + 1, 1, none⟩ = some (.slice p K.len c) := by rw [g7.2.2.1.cell]; rfl
                  have x76 : w7.cell? ⟨w.heap.size + 1 + 1 + 1, 0, none⟩ = some (.int .i64 lx) := by rw [g7.2.2.2.1.cell]; rfl
                  have x77 : w7.cell? ⟨w.heap.size + 1 + 1 + 1, 1, none⟩ = some (.slice px X.len cx) := by rw [g7.2.2.2.1.cell]; rfl
                  have y7 := g7.2.2.2.1.lt
                  have y7a := g7.1.lt
                  have y7b := g7.2.1.lt
                  have y7c := g7.2.2.1.lt
                  have HB7 := Lib.hid g7.2.2.2.2.2
                  clear g7
                  have HB8 := Lib.hid (H5.out _ HC8.out).2.2.2.2.2
                  have HAC := Lib.hid (accepts_ok al A l K _ _ _ (w7.alloc (.cells #[.int .i64 z1, .slice pz Z.len cz] 43)) (by have h1 := HPP.out.1; omega) HWF.out (HI.out.below HB8.out) (HA.out.below HB8.out) (HK.out.below HB8.out))
                  generalize hba : (askB al A l K && hasB A l K) = ba at HAC
                  generalize hea : askE al A l K = ea at HAC
                  have HBA := Lib.hid hba
                  have HEA := Lib.hid hea
                  clear hba hea
                  go_wp2_with fail
                  refine HAC.out.mono ?_
                  rintro e w9 ⟨rfl, hb9⟩
                  have HC9 := Lib.hid (HC8.out.trans (hb9.mono HC8.out.size))
                  have HZB9 := Lib.hid (HZB.out.below hb9 HZB.out.lt)
                  have HZH9 := Lib.hid (HZH8.out.below hb9)
                  clear hb9 HAC HZB HZH8
                  clear x70 x71 x72 x73 x74 x75 x76 x77 y7 y7a y7b y7c
                  have g9 := H5.out w9 HC9.out
                  have x90 : w9.cell? ⟨w.heap.size, 0, none⟩ = some (.slice pa al.length ca) := by rw [g9.1.cell]; rfl
                  have x91 : w9.cell? ⟨w.heap.size + 1, 0, none⟩ = some (.int .i64 A.st) := by rw [g9.2.1.cell]; rfl
                  have x92 : w9.cell? ⟨w.heap.size + 1, 1, none⟩ = some (.slice p1 A.fin.length c1) := by rw [g9.2.1.cell]; rfl
                  have x93 : w9.cell? ⟨w.heap.size + 1, 2, none⟩ = some (.slice p2 A.ru.length c2) := by rw [g9.2.1.cell]; rfl
                  have x94 : w9.cell? ⟨w.heap.size + 1 + 1, 0, none⟩ = some (.int .i64 l) := by rw [g9.2.2.1.cell]; rfl
                  have x95 : w9.cell? ⟨w.heap.size + 1 + 1, 1, none⟩ = some (.slice p K.len c) := by rw [g9.2.2.1.cell]; rfl
                  have x96 : w9.cell? ⟨w.heap.size + 1 + 1 + 1, 0, none⟩ = some (.int .i64 lx) := by rw [g9.2.2.2.1.cell]; rfl
                  have x97 : w9.cell? ⟨w.heap.size + 1 + 1 + 1, 1, none⟩ = some (.slice px X.len cx) := by rw [g9.2.2.2.1.cell]; rfl
                  have y9 := g9.2.2.2.1.lt
                  have y9a := g9.1.lt
                  have y9b := g9.2.1.lt
                  have y9c := g9.2.2.1.lt
                  have HB9 := Lib.hid g9.2.2.2.2.2
                  clear g9
                  have k0 : w9.cell? ⟨w7.heap.size, 0, none⟩ = some (.int .i64 z1) := by rw [HZB9.out.cell]; rfl
                  have k1 : w9.cell? ⟨w7.heap.size, 1, none⟩ = some (.slice pz Z.len cz) := by rw [HZB9.out.cell]; rfl
                  have kl := HZB9.out.lt
                  have HAD := Lib.hid (accepts_ok al A z1 Z _ _ _ w9 (by have h1 := HZS.out; omega) HWZ.out (HI.out.below HB9.out) (HA.out.below HB9.out) HZH9.out)
                  generalize hbz : (askB al A z1 Z && hasB A z1 Z) = bz at HAD
                  generalize hez : askE al A z1 Z = ez at HAD
                  have HBZQ := Lib.hid hbz
                  have HEZ := Lib.hid hez
                  clear hbz hez
                  go_wp2_with fail
                  refine HAD.out.mono ?_
                  rintro e w10 ⟨rfl, hb10⟩
                  have HB10 := Lib.hid (HB9.out.trans (hb10.mono HB9.out.size))
                  clear hb10 HAD k0 k1 kl
                  clear x90 x91 x92 x93 x94 x95 x96 x97 y9 y9a y9b y9c
                  by_cases ha0 : ea = 0
                  · by_cases hz0 : ez = 0
                    · have HOR : Hid (ba = true → bz = true) := Lib.hid (fun h => by
                        have h1 : askB al A z1 Z = true := by
                          have := HEZ.out
                          unfold askE at this
                          cases h : askB al A z1 Z with
                          | true => rfl
                          | false => (rw [h, hz0] at this; cases this)
                        have h2 := HBA.out
                        rw [h, Bool.and_eq_true] at h2
                        rw [← HBZQ.out, h1, HMO.out h2.2]; rfl)
                      subst ha0
                      subst hz0
                      cases ba with
                      | false =>
                        go_wp2_with fail
                        refine (HAW.out _ (HAL.out.below HB10.out)).mono ?_
                        rintro e wz ⟨rfl, hb⟩
                        have HBZ := Lib.hid (HB10.out.trans (hb.mono HB10.out.size))
                        clear hb
                        go_wp2_with fail
                        go_ret
                        exact ⟨ret_bool rfl, HBZ.out⟩
                      | true =>
                        have hbz := HOR.out rfl
                        subst hbz
                        go_wp2_with fail
                        refine (HAW.out _ (HAL.out.below HB10.out)).mono ?_
                        rintro e wz ⟨rfl, hb⟩
                        have HBZ := Lib.hid (HB10.out.trans (hb.mono HB10.out.size))
                        clear hb
                        go_wp2_with fail
                        go_ret
                        exact ⟨ret_bool rfl, HBZ.out⟩
                    · have hx1 : (ez != 0) = true := by simpa using hz0
                      have hx2 : (ez == 0) = false := by simpa using hz0
                      subst ha0
                      clear hz0
                      go_wp2_with fail
                      refine (HAW.out _ (HAL.out.below HB10.out)).mono ?_
                      rintro e wz ⟨rfl, hb⟩
                      have HBZ := Lib.hid (HB10.out.trans (hb.mono HB10.out.size))
                      clear hb
                      go_wp2_with fail
                      go_ret
                      exact ⟨ret_bool rfl, HBZ.out⟩
                  · have hx1 : (ea != 0) = true := by simpa using ha0
                    have hx2 : (ea == 0) = false := by simpa using ha0
                    clear ha0
                    go_wp2_with fail
                    refine (HAW.out _ (HAL.out.below HB10.out)).mono ?_
                    rintro e wz ⟨rfl, hb⟩
                    have HBZ := Lib.hid (HB10.out.trans (hb.mono HB10.out.size))
                    clear hb
                    go_wp2_with fail
                    go_ret
                    exact ⟨ret_bool rfl, HBZ.out⟩
            · have hx1 : (ex != 0) = true := by simpa using hx0
              have hx2 : (ex == 0) = false := by simpa using hx0
              subst hy0
              clear hx0
              go_wp2_with fail
              refine (HAW.out _ (HAL.out.below HB5.out)).mono ?_
              rintro e wz ⟨rfl, hb⟩
              have HBZ := Lib.hid (HB5.out.trans (hb.mono HB5.out.size))
              clear hb
              go_wp2_with fail
              go_ret
              exact ⟨ret_bool rfl, HBZ.out⟩
          · have hy1 : (ey != 0) = true := by simpa using hy0
            have hy2 : (ey == 0) = false := by simpa using hy0
            clear hy0
            go_wp2_with fail
            refine (HAW.out _ (HAL.out.below HB5.out)).mono ?_
            rintro e wz ⟨rfl, hb⟩
            have HBZ := Lib.hid (HB5.out.trans (hb.mono HB5.out.size))
            clear hb
            go_wp2_with fail
            go_ret
            exact ⟨ret_bool rfl, HBZ.out⟩
        · clear hg
          have HC3a : Hid (Below _ _ (w3.alloc (.cells #[.int .i64 0, .slice none 0 0] 43))) := Lib.hid (HC3.out.alloc HC3.out.size _)
          have HB3a := Lib.hid (H5.out _ HC3a.out).2.2.2.2.2
          go_wp2_with fail
          refine (HAW.out _ (HAL.out.below HB3a.out)).mono ?_
          rintro e wz ⟨rfl, hb⟩
          have HBZ := Lib.hid (HB3a.out.trans (hb.mono HB3a.out.size))
          clear hb
          go_wp2_with fail
          go_ret
          exact ⟨ret_bool rfl, HBZ.out⟩

end Go.Proofs.YtopineheelkcmaaDoor
