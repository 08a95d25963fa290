/- auto.Valid. -/
import Derived.Test.YtopineheelkcmaaDoorAuV
namespace Go.Proofs.YtopineheelkcmaaDoor
open Go.RowKit Go.Shelf

theorem validA_f1 {al : List Int} {A : Au} (h : validAl al = false) : validA al A = false := by unfold validA; rw [h]; rfl
theorem validA_f2 {al : List Int} {A : Au} (h : ¬ 0 ≤ A.st) : validA al A = false := by unfold validA; rw [decide_eq_false h]; simp
theorem validA_f3 {al : List Int} {A : Au} (h : ¬ A.st ≤ 300) : validA al A = false := by unfold validA; rw [decide_eq_false h]; simp
theorem validA_f4 {al : List Int} {A : Au} (h : ¬ (A.ru.length : Int) ≤ 20000) : validA al A = false := by unfold validA; rw [decide_eq_false h]; simp
theorem validA_t {al : List Int} {A : Au} (h1 : validAl al = true) (h2 : 0 ≤ A.st) (h3 : A.st ≤ 300) (h4 : (A.ru.length : Int) ≤ 20000) : validA al A = (finB A.st (-1) A.fin && A.ru.all (ruB al A.st)) := by
  unfold validA; rw [h1, decide_eq_true h2, decide_eq_true h3, decide_eq_true h4]; rfl

set_option maxRecDepth 100000 in
set_option maxHeartbeats 2000000 in
theorem valid_ok (al : List Int) (A : Au) (av v : Value) (w : World) (ha : IsInts w av al) (h : IsAu w v A) :
    Calls Tryd.prog 11 #[.agg #[av], v] w fun e w' => e = .returned (.bool (validA al A)) ∧ Below w.heap.size w w' := by
  have h0 := h
  obtain ⟨fv, rv, rfl, hf, hr⟩ := h
  have hbw : Below w.heap.size w ((w.alloc (.cells #[av] 24)).alloc (.cells #[.int .i64 A.st, fv, rv] 27)) := ((Below.refl _ w).alloc (Nat.le_refl _) _).alloc (by simp) _
  have HX0 := Lib.hid ((Blk.new w 24 #[av]).alloc (.cells #[.int .i64 A.st, fv, rv] 27))
  have HX1 : Hid (Blk ((w.alloc (.cells #[av] 24)).alloc (.cells #[.int .i64 A.st, fv, rv] 27)) (w.heap.size + 1) 27 #[.int .i64 A.st, fv, rv]) := Lib.hid (by simpa using Blk.new (w.alloc (.cells #[av] 24)) 27 #[.int .i64 A.st, fv, rv])
  have HVA := Lib.hid (validAlphabet_ok al av _ (ha.below hbw))
  have HA := Lib.hid ha
  have HAU := Lib.hid h0
  have HB := Lib.hid hbw
  obtain ⟨p1, c1, rfl, _⟩ := hf
  obtain ⟨p2, c2, rfl, _, hr4, _⟩ := hr
  obtain ⟨pa, ca, rfl, _, ha4, _⟩ := ha
  unfold maxLen at hr4 ha4
  clear hbw h0
  by_cases h1 : validAl al = true
  · rw [h1] at HVA
    have H1 := Lib.hid h1
    clear h1
    by_cases h2 : 0 ≤ A.st
    · have n2 : ¬ A.st < 0 := by omega
      have d2 : decide (A.st < 0) = false := decide_eq_false n2
      by_cases h3 : A.st ≤ 300
      · have n3 : ¬ 300 < A.st := by omega
        have d3 : decide (300 < A.st) = false := decide_eq_false n3
        by_cases h4 : (A.ru.length : Int) ≤ 20000
        · have n4 : ¬ 20000 < (A.ru.length : Int) := by omega
          have d4 : decide (20000 < (A.ru.length : Int)) = false := decide_eq_false n4
          have HV := Lib.hid (validA_t (al := al) (A := A) H1.out h2 h3 h4)
          go_enter Tryd.func11, Tryd.ntmps11
          go_wp2_with fail
          refine HVA.out.mono ?_
          rintro e w1 ⟨rfl, hb⟩
          have hs := hb.size
          simp only [World.size_alloc] at hs
          have HB1 := Lib.hid (HB.out.trans (hb.mono (by simp; omega)))
          have HX1b := Lib.hid (HX1.out.below hb (by simp))
          have HX0b := Lib.hid (HX0.out.below hb (by simp; omega))
          have z0 : w1.cell? ⟨w.heap.size + 1, 0, none⟩ = some (.int .i64 A.st) := by rw [HX1b.out.cell]; rfl
          have z1 : w1.cell? ⟨w.heap.size + 1, 1, none⟩ = some (.slice p1 A.fin.length c1) := by rw [HX1b.out.cell]; rfl
          have z2 : w1.cell? ⟨w.heap.size + 1, 2, none⟩ = some (.slice p2 A.ru.length c2) := by rw [HX1b.out.cell]; rfl
          have y0 : w1.cell? ⟨w.heap.size, 0, none⟩ = some (.slice pa al.length ca) := by rw [HX0b.out.cell]; rfl
          have l1 : w.heap.size + 1 < w1.heap.size := by omega
          have l0 : w.heap.size < w1.heap.size := by omega
          have HVF := Lib.hid (validFinal_ok A _ w1 (HAU.out.below HB1.out))
          clear hb
          by_cases h5 : finB A.st (-1) A.fin = true
          · rw [h5] at HVF
            have H5 := Lib.hid h5
            clear h5
            go_wp2_with fail
            refine HVF.out.mono ?_
            rintro e w2 ⟨rfl, hb⟩
            have hs2 := hb.size
            have HB2 := Lib.hid (HB1.out.trans (hb.mono HB1.out.size))
            have z0' := cell_later hb z0
            have z1' := cell_later hb z1
            have z2' := cell_later hb z2
            have y0' := cell_later hb y0
            have l1' : w.heap.size + 1 < w2.heap.size := by omega
            have l0' : w.heap.size < w2.heap.size := by omega
            have HVR := Lib.hid (validRules_ok al A _ _ w2 (HA.out.below HB2.out) (HAU.out.below HB2.out))
            clear hb z0 z1 z2 y0 l1 l0
            go_wp2_with fail
            refine HVR.out.mono ?_
            rintro e w3 ⟨rfl, hb⟩
            have HB3 := Lib.hid (HB2.out.trans (hb.mono HB2.out.size))
            clear hb
            go_wp2_with fail
            go_ret
            exact ⟨ret_bool (by rw [HV.out, H5.out]; rfl), HB3.out⟩
          · have h5' : finB A.st (-1) A.fin = false := by simpa using h5
            rw [h5'] at HVF
            have H5 := Lib.hid h5'
            clear h5 h5'
            go_wp2_with fail
            refine HVF.out.mono ?_
            rintro e w2 ⟨rfl, hb⟩
            have HB2 := Lib.hid (HB1.out.trans (hb.mono HB1.out.size))
            clear hb
            go_wp2_with fail
            go_ret
            exact ⟨ret_bool (by rw [HV.out, H5.out]; rfl), HB2.out⟩
        · have n4 : 20000 < (A.ru.length : Int) := by omega
          have d4 : decide (20000 < (A.ru.length : Int)) = true := decide_eq_true n4
          have HV := Lib.hid (validA_f4 (al := al) (A := A) h4)
          clear h4
          go_enter Tryd.func11, Tryd.ntmps11
          go_wp2_with fail
          refine HVA.out.mono ?_
          rintro e w1 ⟨rfl, hb⟩
          have hs := hb.size
          simp only [World.size_alloc] at hs
          have HB1 := Lib.hid (HB.out.trans (hb.mono (by simp; omega)))
          have HX1b := Lib.hid (HX1.out.below hb (by simp))
          have z0 : w1.cell? ⟨w.heap.size + 1, 0, none⟩ = some (.int .i64 A.st) := by rw [HX1b.out.cell]; rfl
          have z2 : w1.cell? ⟨w.heap.size + 1, 2, none⟩ = some (.slice p2 A.ru.length c2) := by rw [HX1b.out.cell]; rfl
          have l1 : w.heap.size + 1 < w1.heap.size := by omega
          clear hb
          go_wp2_with fail
          go_ret
          exact ⟨ret_bool (by rw [HV.out]), HB1.out⟩
      · have n3 : 300 < A.st := by omega
        have d3 : decide (300 < A.st) = true := decide_eq_true n3
        have HV := Lib.hid (validA_f3 (al := al) (A := A) h3)
        clear h3
        go_enter Tryd.func11, Tryd.ntmps11
        go_wp2_with fail
        refine HVA.out.mono ?_
        rintro e w1 ⟨rfl, hb⟩
        have hs := hb.size
        simp only [World.size_alloc] at hs
        have HB1 := Lib.hid (HB.out.trans (hb.mono (by simp; omega)))
        have HX1b := Lib.hid (HX1.out.below hb (by simp))
        have z0 : w1.cell? ⟨w.heap.size + 1, 0, none⟩ = some (.int .i64 A.st) := by rw [HX1b.out.cell]; rfl
        have l1 : w.heap.size + 1 < w1.heap.size := by omega
        clear hb
        go_wp2_with fail
        go_ret
        exact ⟨ret_bool (by rw [HV.out]), HB1.out⟩
    · have n2 : A.st < 0 := by omega
      have d2 : decide (A.st < 0) = true := decide_eq_true n2
      have HV := Lib.hid (validA_f2 (al := al) (A := A) h2)
      clear h2
      go_enter Tryd.func11, Tryd.ntmps11
      go_wp2_with fail
      refine HVA.out.mono ?_
      rintro e w1 ⟨rfl, hb⟩
      have hs := hb.size
      simp only [World.size_alloc] at hs
      have HB1 := Lib.hid (HB.out.trans (hb.mono (by simp; omega)))
      have HX1b := Lib.hid (HX1.out.below hb (by simp))
      have z0 : w1.cell? ⟨w.heap.size + 1, 0, none⟩ = some (.int .i64 A.st) := by rw [HX1b.out.cell]; rfl
      have l1 : w.heap.size + 1 < w1.heap.size := by omega
      clear hb
      go_wp2_with fail
      go_ret
      exact ⟨ret_bool (by rw [HV.out]), HB1.out⟩
  · have h1' : validAl al = false := by simpa using h1
    rw [h1'] at HVA
    have HV := Lib.hid (validA_f1 (A := A) h1')
    clear h1 h1'
    go_enter Tryd.func11, Tryd.ntmps11
    go_wp2_with fail
    refine HVA.out.mono ?_
    rintro e w1 ⟨rfl, hb⟩
    have HB1 := Lib.hid (HB.out.trans (hb.mono (by simp; omega)))
    clear hb
    go_wp2_with fail
    go_ret
    exact ⟨ret_bool (by rw [HV.out]), HB1.out⟩

end Go.Proofs.YtopineheelkcmaaDoor
