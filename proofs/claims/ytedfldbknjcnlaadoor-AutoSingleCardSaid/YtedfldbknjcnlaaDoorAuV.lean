/- auto.validRules, auto.Valid. -/
import Derived.Test.YtedfldbknjcnlaaDoorFG1
import Derived.Deep.RegionHeld3
import Derived.Shelf.Abstract
namespace Go.Proofs.YtedfldbknjcnlaaDoor
open Go.RowKit Go.Shelf

theorem ruB_of {al : List Int} {st : Int} {r : Ru} {x : Int} (h1 : 0 ≤ r.sym) (h2 : r.sym < al.length) (hx : al[r.sym.toNat]? = some x) : ruB al st r = (((r.fr.length : Int) == x) && (stIn st r.to && r.fr.all (stIn st))) := by
  have : al.getD r.sym.toNat 0 = x := by rw [List.getD_eq_getElem?_getD, hx]; rfl
  unfold ruB
  rw [this]
  simp [h1, h2]

set_option maxRecDepth 100000 in
set_option maxHeartbeats 2000000 in
theorem validRules_ok (al : List Int) (A : Au) (av v : Value) (w : World) (ha : IsInts w av al) (h : IsAu w v A) :
    Calls Tryd.prog 51 #[.agg #[av], v] w fun e w' => e = .returned (.bool (A.ru.all (ruB al A.st))) ∧ Below w.heap.size w w' := by
  obtain ⟨fv, rv, rfl, hf, hr⟩ := h
  obtain ⟨st, fin, ru⟩ := A
  simp only at *
  have hbw : Below w.heap.size w ((w.alloc (.cells #[av] 24)).alloc (.cells #[.int .i64 st, fv, rv] 27)) := ((Below.refl _ w).alloc (Nat.le_refl _) _).alloc (by simp) _
  have ha2 := ha.below hbw
  have hf2 := hf.below hbw
  have hr2 := hr.below hbw
  have HX0 := Lib.hid ((Blk.new w 24 #[av]).alloc (.cells #[.int .i64 st, fv, rv] 27))
  have HX1 : Hid (Blk ((w.alloc (.cells #[av] 24)).alloc (.cells #[.int .i64 st, fv, rv] 27)) (w.heap.size + 1) 27 #[.int .i64 st, fv, rv]) := Lib.hid (by simpa using Blk.new (w.alloc (.cells #[av] 24)) 27 #[.int .i64 st, fv, rv])
  have HF := Lib.hid hf2
  obtain ⟨p1, c1, rfl, _⟩ := hf
  obtain ⟨pa, ca, rfl, ha3, ha4, hac⟩ := ha2
  have HR := Lib.hid hr2
  obtain ⟨pr, cr, rfl, hr3, hr4, hrc⟩ := hr2
  unfold maxLen at ha4 hr4
  have HAC := Lib.hid hac
  have HRC := Lib.hid hrc
  have HB := Lib.hid hbw
  have HA := Lib.hid ha
  clear hac hrc hbw hf2 hr ha
  go_enter Tryd.func51, Tryd.ntmps51
  go_wp2_with fail
  go_loopw [12] (fun iv wr => ∃ k : Nat, iv = .int .i64 (k : Nat) ∧ k ≤ ru.length ∧ Hid (ru.all (ruB al st) = (ru.drop k).all (ruB al st)) ∧ Hid (Below w.heap.size w wr) ∧ Hid (Below (w.heap.size + 1 + 1) ((w.alloc (.cells #[.slice pa al.length ca] 24)).alloc (.cells #[.int .i64 st, .slice p1 fin.length c1, .slice pr ru.length cr] 27)) wr))
    (fun iv _ => ru.length - (intOf iv).toNat)
  case atStart => exact ⟨0, rfl, by omega, Lib.hid rfl, HB, Lib.hid (Below.refl _ _)⟩
  case round =>
    rename World => wr
    obtain ⟨k, rfl, hk, HE, HBr, HB2⟩ := hrel
    have hsz := HB2.out.size
    simp only [World.size_alloc] at hsz
    have hs0 : w.heap.size < wr.heap.size := by omega
    have hs1 : w.heap.size + 1 < wr.heap.size := by omega
    have HX0r := Lib.hid (HX0.out.below HB2.out (by omega))
    have HX1r := Lib.hid (HX1.out.below HB2.out (by omega))
    by_cases hlt : k < ru.length
    · obtain ⟨r, hrk⟩ : ∃ r, ru[k]? = some r := ⟨_, List.getElem?_eq_getElem hlt⟩
      obtain ⟨b, o, rfl, hcl⟩ := HRC.out (fun h => by simp [h] at hlt)
      obtain ⟨q0, ⟨u, q1, hu⟩, q2⟩ := (hcl k r hrk).below (by simpa using HB2.out)
      have HU := Lib.hid hu
      obtain ⟨pu, cu, rfl, hu3, hu4, huc⟩ := hu
      unfold maxLen at hu4
      obtain ⟨sym, fr, to⟩ := r
      simp only at q0 q1 q2 hu3 HU huc
      have hbl := World.block_lt_of_cell? _ _ q0
      simp only at hbl
      have hd : Hid (ru.drop k = ⟨sym, fr, to⟩ :: ru.drop (k + 1)) := Lib.hid (by
        rw [List.drop_eq_getElem_cons hlt]
        congr 1
        exact (List.getElem?_eq_some_iff.1 hrk).2)
      have hlt1 : (k : Int) < (ru.length : Int) := by omega
      have y0 : wr.cell? ⟨w.heap.size, 0, none⟩ = some (.slice pa al.length ca) := by rw [HX0r.out.cell]; rfl
      have z0 : wr.cell? ⟨w.heap.size + 1, 0, none⟩ = some (.int .i64 st) := by rw [HX1r.out.cell]; rfl
      have z1 : wr.cell? ⟨w.heap.size + 1, 1, none⟩ = some (.slice p1 fin.length c1) := by rw [HX1r.out.cell]; rfl
      have z2 : wr.cell? ⟨w.heap.size + 1, 2, none⟩ = some (.slice (some ⟨b, o, none⟩) ru.length cr) := by rw [HX1r.out.cell]; rfl
      have HUC := Lib.hid huc
      clear hrk hcl huc
      by_cases h1 : 0 ≤ sym
      · have n1 : ¬ sym < 0 := by omega
        have d1 : decide (sym < 0) = false := decide_eq_false n1
        by_cases h2 : sym < (al.length : Int)
        · have n2 : ¬ (al.length : Int) ≤ sym := by omega
          have d2 : decide ((al.length : Int) ≤ sym) = false := decide_eq_false n2
          obtain ⟨s, rfl⟩ := Int.eq_ofNat_of_zero_le h1
          have d2n : decide (al.length ≤ s) = false := decide_eq_false (by omega)
          have n2n : ¬ al.length ≤ s := by omega
          obtain ⟨x, hx⟩ : ∃ x, al[s]? = some x := ⟨_, List.getElem?_eq_getElem (by omega)⟩
          obtain ⟨ba, oa, rfl, hacl⟩ := HAC.out (fun h => by simp [h] at h2; omega)
          have a1 := cell_later (by simpa using HB2.out) (hacl s x hx)
          have ab := World.block_lt_of_cell? _ _ a1
          simp only at ab
          have HRB := Lib.hid (ruB_of (al := al) (st := st) (r := ⟨(s : Int), fr, to⟩) (x := x) (by simp) h2 (by simpa using hx))
          clear hacl hx
          by_cases h3 : (fr.length : Int) = x
          · have e3 : ((fr.length : Int) == x) = true := by simpa using h3
            have e3' : ((fr.length : Int) != x) = false := by simpa using h3
            have H3 := Lib.hid h3
            clear h3
            have HAW : IsAu ((wr.alloc (.cells #[.int .i64 (s : Int), .slice pu fr.length cu, .int .i64 to] 70)).drew) (.agg #[.int .i64 st, .slice p1 fin.length c1, .slice (some ⟨b, o, none⟩) ru.length cr]) ⟨st, fin, ru⟩ := by
              have hbb : Below ((w.alloc (.cells #[.slice (some ⟨ba, oa, none⟩) al.length ca] 24)).alloc (.cells #[.int .i64 st, .slice p1 fin.length c1, .slice (some ⟨b, o, none⟩) ru.length cr] 27)).heap.size _ ((wr.alloc (.cells #[.int .i64 (s : Int), .slice pu fr.length cu, .int .i64 to] 70)).drew) := ((by simpa using HB2.out : Below _ _ wr).alloc (by simpa using hsz) _).drew
              exact ⟨_, _, rfl, HF.out.below hbb, HR.out.below hbb⟩
            have HH := Lib.hid (hasState_ok ⟨st, fin, ru⟩ _ to _ HAW)
            have hst : ∀ W, Below (wr.alloc (.cells #[.int .i64 (s : Int), .slice pu fr.length cu, .int .i64 to] 70)).heap.size (wr.alloc (.cells #[.int .i64 (s : Int), .slice pu fr.length cu, .int .i64 to] 70)) W →
                W.cell? ⟨wr.heap.size, 0, none⟩ = some (.int .i64 (s : Int)) ∧ W.cell? ⟨wr.heap.size, 1, none⟩ = some (.slice pu fr.length cu) ∧ W.cell? ⟨wr.heap.size, 2, none⟩ = some (.int .i64 to) ∧ W.cell? ⟨w.heap.size, 0, none⟩ = some (.slice (some ⟨ba, oa, none⟩) al.length ca) ∧ W.cell? ⟨ba, oa + s, none⟩ = some (.int .i64 x) ∧
                W.cell? ⟨w.heap.size + 1, 0, none⟩ = some (.int .i64 st) ∧ W.cell? ⟨w.heap.size + 1, 1, none⟩ = some (.slice p1 fin.length c1) ∧ W.cell? ⟨w.heap.size + 1, 2, none⟩ = some (.slice (some ⟨b, o, none⟩) ru.length cr) := fun W hW => by
              have kb : Below wr.heap.size wr W := ((Below.refl _ wr).alloc (Nat.le_refl _) _).trans (hW.mono (by simp))
              have hN := (Blk.new wr 70 #[.int .i64 (s : Int), .slice pu fr.length cu, .int .i64 to]).below hW (by simp)
              exact ⟨by rw [hN.cell]; rfl, by rw [hN.cell]; rfl, by rw [hN.cell]; rfl, cell_later kb y0, cell_later kb a1, cell_later kb z0, cell_later kb z1, cell_later kb z2⟩
            have HST := Lib.hid hst
            have HPOST : Hid (∀ W, Below (wr.alloc (.cells #[.int .i64 (s : Int), .slice pu fr.length cu, .int .i64 to] 70)).heap.size (wr.alloc (.cells #[.int .i64 (s : Int), .slice pu fr.length cu, .int .i64 to] 70)) W → Below w.heap.size w W ∧ Below (w.heap.size + 1 + 1) ((w.alloc (.cells #[.slice (some ⟨ba, oa, none⟩) al.length ca] 24)).alloc (.cells #[.int .i64 st, .slice p1 fin.length c1, .slice (some ⟨b, o, none⟩) ru.length cr] 27)) W) := Lib.hid (fun W hW =>
              ⟨(HBr.out.alloc HBr.out.size _).trans (hW.mono (by simp; omega)), (HB2.out.alloc (by omega) _).trans (hW.mono (by simp; omega))⟩)
            clear hst HAW
            by_cases h4 : stIn st to = true
            · rw [h4] at HH
              have H4 := Lib.hid h4
              clear h4
              go_wp2_with fail
              go_region_held3 (fun W => W.cell? ⟨wr.heap.size, 0, none⟩ = some (.int .i64 (s : Int)) ∧ W.cell? ⟨wr.heap.size, 1, none⟩ = some (.slice pu fr.length cu) ∧ W.cell? ⟨wr.heap.size, 2, none⟩ = some (.int .i64 to) ∧ W.cell? ⟨w.heap.size, 0, none⟩ = some (.slice (some ⟨ba, oa, none⟩) al.length ca) ∧ W.cell? ⟨ba, oa + s, none⟩ = some (.int .i64 x) ∧
                  W.cell? ⟨w.heap.size + 1, 0, none⟩ = some (.int .i64 st) ∧ W.cell? ⟨w.heap.size + 1, 1, none⟩ = some (.slice p1 fin.length c1) ∧ W.cell? ⟨w.heap.size + 1, 2, none⟩ = some (.slice (some ⟨b, o, none⟩) ru.length cr))
                (first | exact HST.out _ (Below.refl _ _).drew | exact HST.out _ HB1.out)
                (first
                  | (go_at_call 70; refine HH.out.mono ?_; rintro e w1 ⟨rfl, hb1⟩; have HB1 : Hid (Below (wr.alloc (.cells #[.int .i64 (s : Int), .slice pu fr.length cu, .int .i64 to] 70)).heap.size (wr.alloc (.cells #[.int .i64 (s : Int), .slice pu fr.length cu, .int .i64 to] 70)) w1) := Lib.hid ((Below.refl _ _).drew.trans hb1); clear hb1))
              obtain ⟨g0, g1, g2, g3, g4, g5, g6, g7⟩ := HST.out _ HB1.out
              have hW0 : wr.heap.size + 1 ≤ w1.heap.size := by have := HB1.out.size; rw [World.size_alloc] at this; exact this
              have gl : wr.heap.size < w1.heap.size := by omega
              have gl2 : w.heap.size + 1 < w1.heap.size := by omega
              clear g0 g2 g3 g4 z0 z1 z2 y0 a1 q0 q1 q2
              go_wp2_with fail
              clear g1
              go_loopw [49] (fun jv wj => ∃ j : Nat, jv = .int .i64 (j : Nat) ∧ j ≤ fr.length ∧ Hid (fr.all (stIn st) = (fr.drop j).all (stIn st)) ∧ Hid (Below (wr.alloc (.cells #[.int .i64 (s : Int), .slice pu fr.length cu, .int .i64 to] 70)).heap.size (wr.alloc (.cells #[.int .i64 (s : Int), .slice pu fr.length cu, .int .i64 to] 70)) wj))
                (fun jv _ => fr.length - (intOf jv).toNat)
              case atStart => exact ⟨0, rfl, by omega, Lib.hid rfl, HB1⟩
              case round =>
                rename World => wj
                obtain ⟨j, rfl, hj, HEj, HBj⟩ := hrel
                clear HB1 g5 g6 g7 gl gl2
                obtain ⟨-, -, -, -, -, g5, g6, g7⟩ := HST.out _ HBj.out
                have hWj : wr.heap.size + 1 ≤ wj.heap.size := by have := HBj.out.size; rw [World.size_alloc] at this; exact this
                have gl2 : w.heap.size + 1 < wj.heap.size := by omega
                by_cases hjl : j < fr.length
                · obtain ⟨f, hf⟩ : ∃ f, fr[j]? = some f := ⟨_, List.getElem?_eq_getElem hjl⟩
                  obtain ⟨bu, ou, rfl, hcl⟩ := HUC.out (fun h => by simp [h] at hjl)
                  have u1 : wj.cell? ⟨bu, ou + j, none⟩ = some (.int .i64 f) := cell_later (((Below.refl _ wr).alloc (Nat.le_refl _) _).trans (HBj.out.mono (by simp))) (hcl j f hf)
                  have ub := World.block_lt_of_cell? _ _ u1
                  simp only at ub
                  have hd2 : Hid (fr.drop j = f :: fr.drop (j + 1)) := Lib.hid (by
                    rw [List.drop_eq_getElem_cons hjl]
                    congr 1
                    exact (List.getElem?_eq_some_iff.1 hf).2)
                  have hjl1 : (j : Int) < (fr.length : Int) := by omega
                  have HJL := Lib.hid hjl
                  have HAW2 : IsAu wj (.agg #[.int .i64 st, .slice p1 fin.length c1, .slice (some ⟨b, o, none⟩) ru.length cr]) ⟨st, fin, ru⟩ := ⟨_, _, rfl, HF.out.below (by simpa using (HPOST.out _ HBj.out).2), HR.out.below (by simpa using (HPOST.out _ HBj.out).2)⟩
                  have HH2 := Lib.hid (hasState_ok ⟨st, fin, ru⟩ _ f _ HAW2)
                  clear hcl hf HAW2
                  by_cases h5 : stIn st f = true
                  · rw [h5] at HH2
                    have H5 := Lib.hid h5
                    clear h5
                    go_wp2_with fail
                    refine HH2.out.mono ?_
                    rintro e w2 ⟨rfl, hb2⟩
                    have HB3 := Lib.hid (HBj.out.trans (hb2.mono HBj.out.size))
                    clear hb2 g5 g6 g7 u1
                    go_wp2_with fail
                    go_roundw
                    case rel => exact ⟨j + 1, by go_num, HJL.out, Lib.hid (by rw [HEj.out, hd2.out, List.all_cons, H5.out]; rfl), HB3⟩
                    case measure => have := HJL.out; simp [intOf]; omega
                  · have h5' : stIn st f = false := by simpa using h5
                    rw [h5'] at HH2
                    have H5 := Lib.hid h5'
                    clear h5 h5'
                    go_wp2_with fail
                    refine HH2.out.mono ?_
                    rintro e w2 ⟨rfl, hb2⟩
                    have HB3 := Lib.hid (HBj.out.trans (hb2.mono HBj.out.size))
                    clear hb2 g5 g6 g7 u1
                    go_wp2_with fail
                    go_ret
                    exact ⟨ret_bool (by rw [HE.out, hd.out, List.all_cons, HRB.out, H4.out, HEj.out, hd2.out, List.all_cons, H5.out]; simp), (HPOST.out _ HB3.out).1⟩
                · have hd2 : Hid (fr.drop j = []) := Lib.hid (List.drop_eq_nil_iff.2 (by omega))
                  clear g5 g6 g7
                  go_wp2_with fail
                  go_roundw
                  case rel => exact ⟨k + 1, by go_num, by omega, Lib.hid (by rw [HE.out, hd.out, List.all_cons, HRB.out, H4.out, HEj.out, hd2.out, e3]; rfl), Lib.hid (HPOST.out _ HBj.out).1, Lib.hid (HPOST.out _ HBj.out).2⟩
                  case measure => simp [intOf]; omega
            · have h4' : stIn st to = false := by simpa using h4
              rw [h4'] at HH
              have H4 := Lib.hid h4'
              clear h4 h4'
              go_wp2_with fail
              go_region_held3 (fun W => W.cell? ⟨wr.heap.size, 0, none⟩ = some (.int .i64 (s : Int)) ∧ W.cell? ⟨wr.heap.size, 1, none⟩ = some (.slice pu fr.length cu) ∧ W.cell? ⟨wr.heap.size, 2, none⟩ = some (.int .i64 to) ∧ W.cell? ⟨w.heap.size, 0, none⟩ = some (.slice (some ⟨ba, oa, none⟩) al.length ca) ∧ W.cell? ⟨ba, oa + s, none⟩ = some (.int .i64 x) ∧
                  W.cell? ⟨w.heap.size + 1, 0, none⟩ = some (.int .i64 st) ∧ W.cell? ⟨w.heap.size + 1, 1, none⟩ = some (.slice p1 fin.length c1) ∧ W.cell? ⟨w.heap.size + 1, 2, none⟩ = some (.slice (some ⟨b, o, none⟩) ru.length cr))
                (first | exact HST.out _ (Below.refl _ _).drew | exact HST.out _ HB1.out)
                (first
                  | (go_at_call 70; refine HH.out.mono ?_; rintro e w1 ⟨rfl, hb1⟩; have HB1 : Hid (Below (wr.alloc (.cells #[.int .i64 (s : Int), .slice pu fr.length cu, .int .i64 to] 70)).heap.size (wr.alloc (.cells #[.int .i64 (s : Int), .slice pu fr.length cu, .int .i64 to] 70)) w1) := Lib.hid ((Below.refl _ _).drew.trans hb1); clear hb1))
              clear z0 z1 z2 y0 a1 q0 q1 q2
              go_wp2_with fail
              go_ret
              exact ⟨ret_bool (by rw [HE.out, hd.out, List.all_cons, HRB.out, H4.out]; simp), (HPOST.out _ HB1.out).1⟩
          · have e3 : ((fr.length : Int) == x) = false := by simpa using h3
            have e3' : ((fr.length : Int) != x) = true := by simpa using h3
            go_wp2_with fail
            go_quiet (fail)
            go_wp2_with fail
            go_ret
            exact ⟨ret_bool (by rw [HE.out, hd.out, List.all_cons, HRB.out, e3]; rfl), below_drewN (HBr.out.alloc HBr.out.size _) _⟩
        · have d2 : decide ((al.length : Int) ≤ sym) = true := decide_eq_true (by omega)
          have n2 : (al.length : Int) ≤ sym := by omega
          go_wp2_with fail
          go_quiet (fail)
          go_wp2_with fail
          go_ret
          exact ⟨ret_bool (by rw [HE.out, hd.out, List.all_cons, ruB]; simp only; rw [decide_eq_false (show ¬ sym < (al.length : Int) by omega)]; simp), below_drewN (HBr.out.alloc HBr.out.size _) _⟩
      · have n1 : sym < 0 := by omega
        have d1 : decide (sym < 0) = true := decide_eq_true n1
        go_wp2_with fail
        go_quiet (fail)
        go_wp2_with fail
        go_ret
        exact ⟨ret_bool (by rw [HE.out, hd.out, List.all_cons, ruB]; simp only; rw [decide_eq_false (show ¬ 0 ≤ sym by omega)]; simp), below_drewN (HBr.out.alloc HBr.out.size _) _⟩
    · have hd : Hid (ru.drop k = []) := Lib.hid (List.drop_eq_nil_iff.2 (by omega))
      have hge : ru.length ≤ k := by omega
      go_wp2_with fail
      go_ret
      exact ⟨ret_bool (by rw [HE.out, hd.out]; rfl), HBr.out⟩

end Go.Proofs.YtedfldbknjcnlaaDoor
