/- ref03.States, Accepts. -/
import Derived.Test.YtopineheelkcmaaDoorAsk
namespace Go.Proofs.YtopineheelkcmaaDoor
open Go.RowKit Go.Shelf

set_option maxRecDepth 100000 in
set_option maxHeartbeats 1000000 in
theorem raccepts_ok (al : List Int) (A : Au) (hlen : A.ru.length ≤ 100) (l : Int) (K : Hg) (av v vk : Value) (w : World) (h2000 : K.size ≤ 2000) (ha : IsInts w av al) (hA : IsAu w v A) (hK : IsH w vk K) :
    Calls Tryd.prog 28 #[.agg #[av], v, .agg #[.int .i64 l, vk]] w fun e w' => e = .returned (.tuple #[.bool (askB al A l K && hasB A l K), .int .i64 (askE al A l K)]) ∧ Below w.heap.size w w' := by
  have HA := Lib.hid hA
  have HAL := Lib.hid ha
  have HK := Lib.hid hK
  obtain ⟨fv, rv, rfl, hf, hr⟩ := hA
  have H3 := Lib.hid (three_boxes w #[av] #[.int .i64 A.st, fv, rv] #[.int .i64 l, vk] 24 27 43)
  obtain ⟨p1, c1, rfl, _⟩ := hf
  obtain ⟨p2, c2, rfl, _⟩ := hr
  obtain ⟨p, c, rfl, _⟩ := hK
  obtain ⟨pa, ca, rfl, _⟩ := ha
  have h0 := H3.out _ (Below.refl _ _)
  have HASK := Lib.hid (asked_ok al A l K _ _ _ _ (HAL.out.below h0.2.2.2) (HA.out.below h0.2.2.2) (HK.out.below h0.2.2.2))
  clear h0
  cases hq : askB al A l K with
  | true =>
    have HQ := Lib.hid hq
    have he : askE al A l K = 0 := by unfold askE; rw [hq]; rfl
    rw [he] at HASK
    clear he hq
    go_enter Tryd.func28, Tryd.ntmps28
    go_wp2_with fail
    refine HASK.out.mono ?_
    rintro e w1 ⟨rfl, hb1⟩
    have h1 := H3.out w1 hb1
    have HB1 := Lib.hid h1.2.2.2
    have x0 : w1.cell? ⟨w.heap.size + 1, 0, none⟩ = some (.int .i64 A.st) := by rw [h1.2.1.cell]; rfl
    have x1 : w1.cell? ⟨w.heap.size + 1, 1, none⟩ = some (.slice p1 A.fin.length c1) := by rw [h1.2.1.cell]; rfl
    have x2 : w1.cell? ⟨w.heap.size + 1, 2, none⟩ = some (.slice p2 A.ru.length c2) := by rw [h1.2.1.cell]; rfl
    have y0 : w1.cell? ⟨w.heap.size + 1 + 1, 0, none⟩ = some (.int .i64 l) := by rw [h1.2.2.1.cell]; rfl
    have y1 : w1.cell? ⟨w.heap.size + 1 + 1, 1, none⟩ = some (.slice p K.len c) := by rw [h1.2.2.1.cell]; rfl
    have s1 := h1.2.2.1.lt
    have HT := Lib.hid (has_tree_ok A hlen l K _ _ w1 h2000 (HA.out.below HB1.out) (HK.out.below HB1.out) (ask_ok HQ.out).1 (ask_ok HQ.out).2)
    clear h1 hb1
    go_wp2_with fail
    refine HT.out.mono ?_
    rintro e w2 ⟨rfl, hb2⟩
    have HB2 := Lib.hid (HB1.out.trans (hb2.mono HB1.out.size))
    clear hb2
    go_wp2_with fail
    go_ret2
    exact ⟨by rw [show askE al A l K = 0 by unfold askE; rw [HQ.out]; rfl]; rfl, HB2.out⟩
  | false =>
    have HQ := Lib.hid hq
    have he : askE al A l K = 1 := by unfold askE; rw [hq]; rfl
    rw [he] at HASK
    clear he hq
    go_enter Tryd.func28, Tryd.ntmps28
    go_wp2_with fail
    refine HASK.out.mono ?_
    rintro e w1 ⟨rfl, hb1⟩
    have HB1 := Lib.hid (H3.out w1 hb1).2.2.2
    clear hb1
    go_wp2_with fail
    go_ret2
    exact ⟨by rw [show askE al A l K = 1 by unfold askE; rw [HQ.out]; rfl]; rfl, HB1.out⟩

set_option maxRecDepth 100000 in
set_option maxHeartbeats 1000000 in
theorem rstates_ok (al : List Int) (A : Au) (hlen : A.ru.length ≤ 100) (l : Int) (K : Hg) (av v vk : Value) (w : World) (h2000 : K.size ≤ 2000) (ha : IsInts w av al) (hA : IsAu w v A) (hK : IsH w vk K) :
    Calls Tryd.prog 26 #[.agg #[av], v, .agg #[.int .i64 l, vk]] w fun e w' => (∃ u, e = .returned (.tuple #[u, .int .i64 (askE al A l K)]) ∧ IsInts w' u (if askB al A l K then stsL A l K else [])) ∧ Below w.heap.size w w' := by
  have HA := Lib.hid hA
  have HAL := Lib.hid ha
  have HK := Lib.hid hK
  obtain ⟨fv, rv, rfl, hf, hr⟩ := hA
  have H3 := Lib.hid (three_boxes w #[av] #[.int .i64 A.st, fv, rv] #[.int .i64 l, vk] 24 27 43)
  obtain ⟨p1, c1, rfl, _⟩ := hf
  obtain ⟨p2, c2, rfl, _⟩ := hr
  obtain ⟨p, c, rfl, _⟩ := hK
  obtain ⟨pa, ca, rfl, _⟩ := ha
  have h0 := H3.out _ (Below.refl _ _)
  have HASK := Lib.hid (asked_ok al A l K _ _ _ _ (HAL.out.below h0.2.2.2) (HA.out.below h0.2.2.2) (HK.out.below h0.2.2.2))
  clear h0
  cases hq : askB al A l K with
  | true =>
    have HQ := Lib.hid hq
    have he : askE al A l K = 0 := by unfold askE; rw [hq]; rfl
    rw [he] at HASK
    clear he hq
    go_enter Tryd.func26, Tryd.ntmps26
    go_wp2_with fail
    refine HASK.out.mono ?_
    rintro e w1 ⟨rfl, hb1⟩
    have h1 := H3.out w1 hb1
    have HB1 := Lib.hid h1.2.2.2
    have x0 : w1.cell? ⟨w.heap.size + 1, 0, none⟩ = some (.int .i64 A.st) := by rw [h1.2.1.cell]; rfl
    have x1 : w1.cell? ⟨w.heap.size + 1, 1, none⟩ = some (.slice p1 A.fin.length c1) := by rw [h1.2.1.cell]; rfl
    have x2 : w1.cell? ⟨w.heap.size + 1, 2, none⟩ = some (.slice p2 A.ru.length c2) := by rw [h1.2.1.cell]; rfl
    have y0 : w1.cell? ⟨w.heap.size + 1 + 1, 0, none⟩ = some (.int .i64 l) := by rw [h1.2.2.1.cell]; rfl
    have y1 : w1.cell? ⟨w.heap.size + 1 + 1, 1, none⟩ = some (.slice p K.len c) := by rw [h1.2.2.1.cell]; rfl
    have s1 := h1.2.2.1.lt
    have HT := Lib.hid (of_ok A hlen (K.size + 1) l K _ _ w1 (Nat.lt_succ_self _) h2000 (HA.out.below HB1.out) (HK.out.below HB1.out) (ask_ok HQ.out).1 (ask_ok HQ.out).2)
    clear h1 hb1
    go_wp2_with fail
    refine HT.out.mono ?_
    rintro e w2 ⟨⟨u, rfl, hu, -⟩, hb2⟩
    have HB2 := Lib.hid (HB1.out.trans (hb2.mono HB1.out.size))
    have HU : Hid (IsInts w2 u (stsL A l K)) := Lib.hid hu.isInts
    clear hb2 hu
    go_wp2_with fail
    go_ret2
    exact ⟨⟨u, by rw [show askE al A l K = 0 by unfold askE; rw [HQ.out]; rfl]; rfl, HU.out⟩, HB2.out⟩
  | false =>
    have HQ := Lib.hid hq
    have he : askE al A l K = 1 := by unfold askE; rw [hq]; rfl
    rw [he] at HASK
    clear he hq
    go_enter Tryd.func26, Tryd.ntmps26
    go_wp2_with fail
    refine HASK.out.mono ?_
    rintro e w1 ⟨rfl, hb1⟩
    have HB1 := Lib.hid (H3.out w1 hb1).2.2.2
    clear hb1
    go_wp2_with fail
    go_ret2
    exact ⟨⟨_, by rw [show askE al A l K = 1 by unfold askE; rw [HQ.out]; rfl]; rfl, ⟨none, 0, rfl, Nat.le_refl _, by decide, fun h => absurd rfl h⟩⟩, HB1.out⟩

end Go.Proofs.YtopineheelkcmaaDoor
