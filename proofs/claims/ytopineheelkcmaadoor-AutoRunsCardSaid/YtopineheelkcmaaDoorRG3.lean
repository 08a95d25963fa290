/- ref03.IsRun, Check. ref03.Check. -/
import Derived.Test.YtopineheelkcmaaDoorRG1
import Derived.Test.YtopineheelkcmaaDoorRAcc
import Derived.Test.YtopineheelkcmaaDoorRG2
import Derived.Deep.RegionHeld3
namespace Go.Proofs.YtopineheelkcmaaDoor
section
open Go.RowKit Go.Shelf

/-- A run that assigns a final state to the root. -/
def isRunB (A : Au) (l : Int) (K : Hg) (run : List Int) : Bool := decide (run.length = K.size + 1) && (inB A.fin (run.getD 0 0) && (wkT A.ru l K run).isSome)

set_option maxRecDepth 100000 in
set_option maxHeartbeats 1000000 in
theorem isrun_ok (A : Au) (hlenA : A.ru.length ≤ 100) (l : Int) (K : Hg) (run : List Int) (v vk rv : Value) (w : World) (h2000 : K.size ≤ 2000) (hA : IsAu w v A) (hK : IsH w vk K) (hR : IsInts w rv run) :
    Calls Tryd.prog 34 #[v, .agg #[.int .i64 l, vk], rv] w fun e w' => e = .returned (.bool (isRunB A l K run)) ∧ Below w.heap.size w w' := by
  have HA := Lib.hid hA
  have HK := Lib.hid hK
  have HR := Lib.hid hR
  obtain ⟨fv, uv, rfl, hf, hr⟩ := hA
  have HF := Lib.hid hf
  have hbw : Below w.heap.size w ((w.alloc (.cells #[.int .i64 A.st, fv, uv] 27)).alloc (.cells #[.int .i64 l, vk] 43)) := ((Below.refl _ w).alloc (Nat.le_refl _) _).alloc (by simp) _
  have HX0 := Lib.hid ((Blk.new w 27 #[.int .i64 A.st, fv, uv]).alloc (.cells #[.int .i64 l, vk] 43))
  have HX1 : Hid (Blk ((w.alloc (.cells #[.int .i64 A.st, fv, uv] 27)).alloc (.cells #[.int .i64 l, vk] 43)) (w.heap.size + 1) 43 #[.int .i64 l, vk]) := Lib.hid (by simpa using Blk.new (w.alloc (.cells #[.int .i64 A.st, fv, uv] 27)) 43 #[.int .i64 l, vk])
  have HB := Lib.hid hbw
  obtain ⟨p1, c1, rfl, _⟩ := hf
  obtain ⟨p2, c2, rfl, _⟩ := hr
  obtain ⟨p, c, rfl, _⟩ := hK
  obtain ⟨pr, cr, rfl, hr1, hr2, hr3⟩ := hR
  unfold maxLen at hr2
  have HST : Hid (∀ W, Below ((w.alloc (.cells #[.int .i64 A.st, .slice p1 A.fin.length c1, .slice p2 A.ru.length c2] 27)).alloc (.cells #[.int .i64 l, .slice p K.len c] 43)).heap.size ((w.alloc (.cells #[.int .i64 A.st, .slice p1 A.fin.length c1, .slice p2 A.ru.length c2] 27)).alloc (.cells #[.int .i64 l, .slice p K.len c] 43)) W →
      W.cell? ⟨w.heap.size, 1, none⟩ = some (.slice p1 A.fin.length c1) ∧ W.cell? ⟨w.heap.size + 1, 0, none⟩ = some (.int .i64 l) ∧ W.cell? ⟨w.heap.size + 1, 1, none⟩ = some (.slice p K.len c)) := Lib.hid (fun W hW => by
    have h0 := HX0.out.below hW (by simp; omega)
    have h1 := HX1.out.below hW (by simp)
    exact ⟨by rw [h0.cell]; rfl, by rw [h1.cell]; rfl, by rw [h1.cell]; rfl⟩)
  have HW0 := Lib.hid (Below.refl ((w.alloc (.cells #[.int .i64 A.st, .slice p1 A.fin.length c1, .slice p2 A.ru.length c2] 27)).alloc (.cells #[.int .i64 l, .slice p K.len c] 43)).heap.size ((w.alloc (.cells #[.int .i64 A.st, .slice p1 A.fin.length c1, .slice p2 A.ru.length c2] 27)).alloc (.cells #[.int .i64 l, .slice p K.len c] 43))).drew
  have HSZ := Lib.hid (size01_ok l K (.slice p K.len c) _ (by omega) (HK.out.below (HB.out.trans (HW0.out.mono (by simp; omega)))))
  clear hbw
  by_cases hlen : run.length = K.size + 1
  · cases run with
    | nil => simp at hlen
    | cons to run =>
    obtain ⟨br, or, rfl, hcell⟩ := hr3 (by simp)
    have HCL : Hid (∀ W, Below w.heap.size w W → W.cell? ⟨br, or, none⟩ = some (.int .i64 to)) := Lib.hid (fun W hW => cell_later hW (by simpa using hcell 0 to rfl))
    have hd1 : (((to :: run).length : Int) != (K.size : Int) + 1) = false := by simp only [List.length_cons] at hlen ⊢; simp; omega
    have hd2 : (((run.length : Int) + 1) != (K.size : Int) + 1) = false := by simp only [List.length_cons] at hlen; simp; omega
    have hd3 : ((run.length : Int) == (K.size : Int)) = true := by simp only [List.length_cons] at hlen; simp; omega
    have hn0 : (0 : Int) < (run.length : Int) + 1 := by omega
    have hn1 : (0 : Int) < ((to :: run).length : Int) := by simp <;> omega
    have HLEN := Lib.hid hlen
    have hse : ((K.size : Int) + 1) = (run.length : Int) + 1 := by simp only [List.length_cons] at hlen; omega
    rw [hse] at HSZ
    clear hd1 hd2 hd3 hlen hse
    have hn2 : (0 : Int) < ((run.length + 1 : Nat) : Int) := by simp <;> omega
    clear hcell hr3
    simp only [List.length_cons] at *
    go_enter Tryd.func34, Tryd.ntmps34
    go_wp2_with fail
    go_region_held3 (fun W => W.cell? ⟨w.heap.size, 1, none⟩ = some (.slice p1 A.fin.length c1) ∧ W.cell? ⟨w.heap.size + 1, 0, none⟩ = some (.int .i64 l) ∧ W.cell? ⟨w.heap.size + 1, 1, none⟩ = some (.slice p K.len c) ∧ W.cell? ⟨br, or, none⟩ = some (.int .i64 to))
      (first | (have h9 := HST.out _ HB1.out; exact ⟨h9.1, h9.2.1, h9.2.2, HCL.out _ HBW.out⟩) | (have h9 := HST.out _ HW0.out; exact ⟨h9.1, h9.2.1, h9.2.2, HCL.out _ (HB.out.trans (HW0.out.mono (by simp; omega)))⟩))
      (first
        | (go_at_call 40; refine HSZ.out.mono ?_; rintro e w1 ⟨rfl, hb1⟩; have HB1 := Lib.hid (HW0.out.trans (hb1.mono (by simp))); have HBW := Lib.hid (HB.out.trans (HB1.out.mono (by simp; omega))); clear hb1)
        | (go_at_call 43; refine (in_ok A.fin _ to _ (HF.out.below HBW.out)).mono ?_; rintro e w2 ⟨rfl, rfl⟩))
    cases hin : inB A.fin to with
    | false =>
      have HN : Hid (isRunB A l K (to :: run) = false) := Lib.hid (by unfold isRunB; rw [show (to :: run).getD 0 0 = to from rfl, hin]; simp)
      clear hin
      go_wp2_with fail
      go_ret
      exact ⟨ret_bool HN.out.symm, HBW.out⟩
    | true =>
      have HN : Hid (isRunB A l K (to :: run) = (wkT A.ru l K (to :: run)).isSome) := Lib.hid (by unfold isRunB; rw [show (to :: run).getD 0 0 = to from rfl, hin, decide_eq_true (show (to :: run).length = K.size + 1 from HLEN.out)]; rfl)
      have h1 := HX0.out.below HB1.out (by simp; omega)
      have h2 := HX1.out.below HB1.out (by simp)
      have x0 : w1.cell? ⟨w.heap.size, 0, none⟩ = some (.int .i64 A.st) := by rw [h1.cell]; rfl
      have x1 : w1.cell? ⟨w.heap.size, 1, none⟩ = some (.slice p1 A.fin.length c1) := by rw [h1.cell]; rfl
      have x2 : w1.cell? ⟨w.heap.size, 2, none⟩ = some (.slice p2 A.ru.length c2) := by rw [h1.cell]; rfl
      have x3 : w1.cell? ⟨w.heap.size + 1, 0, none⟩ = some (.int .i64 l) := by rw [h2.cell]; rfl
      have x4 : w1.cell? ⟨w.heap.size + 1, 1, none⟩ = some (.slice p K.len c) := by rw [h2.cell]; rfl
      have xl := h2.lt
      have HWK := Lib.hid (walk_ok A hlenA (K.size + 1) l K _ _ _ (to :: run) w w1 HBW.out (Nat.lt_succ_self _) h2000 (by have := HLEN.out; simp only [List.length_cons] at this ⊢; omega) (HA.out.below HBW.out) (HK.out.below HBW.out) HR.out)
      (try simp only [List.length_cons] at HWK)
      clear hin h1 h2
      go_wp2_with fail
      refine HWK.out.mono ?_
      rintro e w3 ⟨⟨u, rfl, hu⟩, hb3⟩
      have HB3 := Lib.hid (HBW.out.trans (hb3.mono HBW.out.size))
      clear hu hb3
      go_wp2_with fail
      go_ret
      exact ⟨ret_bool HN.out.symm, HB3.out⟩
  · have hd1 : ((run.length : Int) != (K.size : Int) + 1) = true := by simp; omega
    have hd2 : ((run.length : Int) == (K.size : Int) + 1) = false := by simp; omega
    have HN : Hid (isRunB A l K run = false) := Lib.hid (by unfold isRunB; rw [decide_eq_false hlen]; rfl)
    clear hlen hr3
    go_enter Tryd.func34, Tryd.ntmps34
    go_wp2_with fail
    refine wp_region_held_drew (S := (fun W => W.cell? ⟨w.heap.size, 1, none⟩ = some (.slice p1 A.fin.length c1) ∧ W.cell? ⟨w.heap.size + 1, 0, none⟩ = some (.int .i64 l) ∧ W.cell? ⟨w.heap.size + 1, 1, none⟩ = some (.slice p K.len c))) (by kernel_rfl) (by (try dsimp only); exact HST.out _ HW0.out) (fun hHeld => ?_)
    refine wpAnyH_take (i := 0) (oi := ⟨some 9, _, _, _, _, _⟩) (v := ?v_1) rfl (by kernel_rfl) (by kernel_rfl) (by kernel_rfl) (fun _ _ _ h => h) (Or.inl ⟨by rfl, ?y_1⟩) (by assumption) ?r_1
    case y_1 => (intro w hSw; (try dsimp only at hSw); go_simp); (try with_reducible rfl)
    (try simp only [Act.put, List.setIfInBounds_toArray, List.set_cons_zero, List.set_cons_succ])
    refine wpAnyH_take (i := 1) (oi := ⟨some 10, _, _, _, _, _⟩) (v := ?v_2) rfl (by kernel_rfl) (by kernel_rfl) (by kernel_rfl) (fun _ _ _ h => h) (Or.inl ⟨by rfl, ?y_2⟩) (by assumption) ?r_2
    case y_2 => (intro w hSw; (try dsimp only at hSw); go_simp); (try with_reducible rfl)
    (try simp only [Act.put, List.setIfInBounds_toArray, List.set_cons_zero, List.set_cons_succ])
    refine wpAnyH_take (i := 2) (oi := ⟨some 11, _, _, _, _, _⟩) (v := ?v_3) rfl (by kernel_rfl) (by kernel_rfl) (by kernel_rfl) (fun _ _ _ h => h) (Or.inl ⟨by rfl, ?y_3⟩) (by assumption) ?r_3
    case y_3 => (intro w hSw; (try dsimp only at hSw); go_simp); (try with_reducible rfl)
    (try simp only [Act.put, List.setIfInBounds_toArray, List.set_cons_zero, List.set_cons_succ])
    refine wpAnyH_ready (rs := [3]) (by kernel_rfl) (by simp) ?_
    refine AllReadyH.cons rfl (fun KK hK => ?_) AllReadyH.nil
    go_simp
    refine HSZ.out.mono ?_
    rintro e w1 ⟨rfl, hb1⟩
    have HB1 := Lib.hid (HW0.out.trans (hb1.mono (by simp)))
    have HBW := Lib.hid (HB.out.trans (HB1.out.mono (by simp; omega)))
    clear hb1
    (try go_wp2_with fail)
    refine hK.out _ _ (by (try dsimp only); exact HST.out _ HB1.out) (fun hHeld => ?_)
    clear hK KK
    (try simp only [Act.put, List.setIfInBounds_toArray, List.set_cons_zero, List.set_cons_succ])
    refine wpAnyH_take (i := 4) (oi := ⟨some 13, _, _, _, _, _⟩) (v := ?v_4) rfl (by kernel_rfl) (by kernel_rfl) (by kernel_rfl) (fun _ _ _ h => h) (Or.inl ⟨by rfl, ?y_4⟩) (by assumption) ?r_4
    case y_4 => (intro w hSw; (try dsimp only at hSw); go_simp); (try with_reducible rfl)
    (try simp only [Act.put, List.setIfInBounds_toArray, List.set_cons_zero, List.set_cons_succ])
    refine wpAnyH_take (i := 5) (oi := ⟨some 14, _, _, _, _, _⟩) (v := ?v_5) rfl (by kernel_rfl) (by kernel_rfl) (by kernel_rfl) (fun _ _ _ h => h) (Or.inl ⟨by rfl, ?y_5⟩) (by assumption) ?r_5
    case y_5 => (intro w hSw; (try dsimp only at hSw); go_simp); (try with_reducible rfl)
    (try simp only [Act.put, List.setIfInBounds_toArray, List.set_cons_zero, List.set_cons_succ])
    refine wpAnyH_take (i := 6) (oi := ⟨some 15, _, _, _, _, _⟩) (v := undef) rfl (by kernel_rfl) (by kernel_rfl) (by kernel_rfl) (fun _ _ _ h => h) (Or.inr ⟨by first | kernel_rfl | rfl, rfl⟩) (by assumption) ?r_6
    (try simp only [Act.put, List.setIfInBounds_toArray, List.set_cons_zero, List.set_cons_succ])
    refine wpAnyH_take (i := 7) (oi := ⟨some 16, _, _, _, _, _⟩) (v := undef) rfl (by kernel_rfl) (by kernel_rfl) (by kernel_rfl) (fun _ _ _ h => h) (Or.inr ⟨by first | kernel_rfl | rfl, rfl⟩) (by assumption) ?r_7
    (try simp only [Act.put, List.setIfInBounds_toArray, List.set_cons_zero, List.set_cons_succ])
    refine wpAnyH_take (i := 8) (oi := ⟨some 17, _, _, _, _, _⟩) (v := undef) rfl (by kernel_rfl) (by kernel_rfl) (by kernel_rfl) (fun _ _ _ h => h) (Or.inr ⟨by first | kernel_rfl | rfl, rfl⟩) (by assumption) ?r_8
    (try simp only [Act.put, List.setIfInBounds_toArray, List.set_cons_zero, List.set_cons_succ])
    refine wpAnyH_take (i := 9) (oi := ⟨some 18, _, _, _, _, _⟩) (v := undef) rfl (by kernel_rfl) (by kernel_rfl) (by kernel_rfl) (fun _ _ _ h => h) (Or.inr ⟨by first | kernel_rfl | rfl, rfl⟩) (by assumption) ?r_9
    (try simp only [Act.put, List.setIfInBounds_toArray, List.set_cons_zero, List.set_cons_succ])
    refine wpAnyH_take (i := 10) (oi := ⟨some 19, _, _, _, _, _⟩) (v := undef) rfl (by kernel_rfl) (by kernel_rfl) (by kernel_rfl) (fun _ _ _ h => h) (Or.inr ⟨by first | kernel_rfl | rfl, rfl⟩) (by assumption) ?r_10
    (try simp only [Act.put, List.setIfInBounds_toArray, List.set_cons_zero, List.set_cons_succ])
    refine wpAnyH_take (i := 11) (oi := ⟨some 20, _, _, _, _, _⟩) (v := undef) rfl (by kernel_rfl) (by kernel_rfl) (by kernel_rfl) (fun _ _ _ h => h) (Or.inr ⟨by first | kernel_rfl | rfl, rfl⟩) (by assumption) ?r_11
    (try simp only [Act.put, List.setIfInBounds_toArray, List.set_cons_zero, List.set_cons_succ])
    refine wpAnyH_take (i := 12) (oi := ⟨some 21, _, _, _, _, _⟩) (v := undef) rfl (by kernel_rfl) (by kernel_rfl) (by kernel_rfl) (fun _ _ _ h => h) (Or.inr ⟨by first | kernel_rfl | rfl, rfl⟩) (by assumption) ?r_12
    (try simp only [Act.put, List.setIfInBounds_toArray, List.set_cons_zero, List.set_cons_succ])
    refine wpAnyH_take (i := 13) (oi := ⟨some 22, _, _, _, _, _⟩) (v := ?v_13) rfl (by kernel_rfl) (by kernel_rfl) (by kernel_rfl) (fun _ _ _ h => h) (Or.inl ⟨by rfl, ?y_13⟩) (by assumption) ?r_13
    case y_13 => (intro w hSw; (try dsimp only at hSw); go_simp); (try with_reducible rfl)
    (try simp only [Act.put, List.setIfInBounds_toArray, List.set_cons_zero, List.set_cons_succ])
    refine wpAnyH_done (by kernel_rfl) ?_ _
    go_wp2_with fail
    go_ret
    exact ⟨ret_bool HN.out.symm, HBW.out⟩
end

section
open Go.RowKit Go.Shelf

set_option maxRecDepth 100000 in
set_option maxHeartbeats 1000000 in
theorem rcheck_ok (al : List Int) (A : Au) (hlen : A.ru.length ≤ 100) (l : Int) (K : Hg) (run : List Int) (av v vk rv : Value) (w : World) (h2000 : K.size ≤ 2000) (ha : IsInts w av al) (hA : IsAu w v A) (hK : IsH w vk K) (hR : IsInts w rv run) :
    Calls Tryd.prog 31 #[.agg #[av], v, .agg #[.int .i64 l, vk], rv] w fun e w' => e = .returned (.tuple #[.bool (askB al A l K && isRunB A l K run), .int .i64 (askE al A l K)]) ∧ Below w.heap.size w w' := by
  have HA := Lib.hid hA
  have HAL := Lib.hid ha
  have HK := Lib.hid hK
  have HR := Lib.hid hR
  obtain ⟨fv, rv, rfl, hf, hr⟩ := hA
  have H3 := Lib.hid (three_boxes w #[av] #[.int .i64 A.st, fv, rv] #[.int .i64 l, vk] 24 27 43)
  obtain ⟨p1, c1, rfl, _⟩ := hf
  obtain ⟨p2, c2, rfl, _⟩ := hr
  obtain ⟨p, c, rfl, _⟩ := hK
  obtain ⟨pa, ca, rfl, _⟩ := ha
  obtain ⟨pr, cr, rfl, _⟩ := hR
  have h0 := H3.out _ (Below.refl _ _)
  have HASK := Lib.hid (asked_ok al A l K _ _ _ _ (HAL.out.below h0.2.2.2) (HA.out.below h0.2.2.2) (HK.out.below h0.2.2.2))
  clear h0
  cases hq : askB al A l K with
  | true =>
    have HQ := Lib.hid hq
    have he : askE al A l K = 0 := by unfold askE; rw [hq]; rfl
    rw [he] at HASK
    clear he hq
    go_enter Tryd.func31, Tryd.ntmps31
    go_wp2_with fail
    refine HASK.out.mono ?_
    rintro e w1 ⟨rfl, hb1⟩
    have h1 := H3.out w1 hb1
    have HB1 := Lib.hid h1.2.2.2
    have x0 : w1.cell? ⟨w.heap.size + 1, 0, none⟩ = some (.int .i64 A.st) := by rw [h1.2.1.cell]; rfl
    have x1 : w1.cell? ⟨w.heap.size + 1, 1, none⟩ = some (.slice p1 A.fin.length c1) := by rw [h1.2.1.cell]; rfl
    have x2 : w1.cell? ⟨w.heap.size + 1, 2, none⟩ = some (.slice p2 A.ru.length c2) := by rw [h1.2.1.cell]; rfl
    have y0 : w1.cell? ⟨w.heap.size + 1 + 1, 0, none⟩ = some (.int .i64 l) := by rw [h1.2.2.1.cell]; rfl
    have y1 : w1.cell? ⟨w.heap.size + 1 + 1, 1, none⟩ = some (.slice p K.len c) := by rw [h1.2.2.1.cell]; rfl
    have s1 := h1.2.2.1.lt
    have HT := Lib.hid (isrun_ok A hlen l K run _ _ _ w1 h2000 (HA.out.below HB1.out) (HK.out.below HB1.out) (HR.out.below HB1.out))
    clear h1 hb1
    go_wp2_with fail
    refine HT.out.mono ?_
    rintro e w2 ⟨rfl, hb2⟩
    have HB2 := Lib.hid (HB1.out.trans (hb2.mono HB1.out.size))
    clear hb2
    go_wp2_with fail
    go_ret2
    exact ⟨by rw [show askE al A l K = 0 by unfold askE; rw [HQ.out]; rfl]; rfl, HB2.out⟩
  | false =>
    have HQ := Lib.hid hq
    have he : askE al A l K = 1 := by unfold askE; rw [hq]; rfl
    rw [he] at HASK
    clear he hq
    go_enter Tryd.func31, Tryd.ntmps31
    go_wp2_with fail
    refine HASK.out.mono ?_
    rintro e w1 ⟨rfl, hb1⟩
    have HB1 := Lib.hid (H3.out w1 hb1).2.2.2
    clear hb1
    go_wp2_with fail
    go_ret2
    exact ⟨by rw [show askE al A l K = 1 by unfold askE; rw [HQ.out]; rfl]; rfl, HB1.out⟩
end

end Go.Proofs.YtopineheelkcmaaDoor
