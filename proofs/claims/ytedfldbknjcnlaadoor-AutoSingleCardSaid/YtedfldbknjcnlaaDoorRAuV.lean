/- ref03.Valid. -/
import Derived.Test.YtedfldbknjcnlaaDoorFG3
import Derived.Test.YtedfldbknjcnlaaDoorFG8
namespace Go.Proofs.YtedfldbknjcnlaaDoor
open Go.RowKit Go.Shelf

set_option maxRecDepth 100000 in
set_option maxHeartbeats 2000000 in
theorem rvalid_ok (al : List Int) (A : Au) (av v : Value) (w : World) (ha : IsInts w av al) (h : IsAu w v A) :
    Calls Tryd.prog 12 #[.agg #[av], v] w fun e w' => e = .returned (.bool (validA al A)) ∧ Below w.heap.size w w' := by
  have h0 := h
  obtain ⟨fv, rv, rfl, hf, hr⟩ := h
  have hbw : Below w.heap.size w ((w.alloc (.cells #[av] 24)).alloc (.cells #[.int .i64 A.st, fv, rv] 27)) := ((Below.refl _ w).alloc (Nat.le_refl _) _).alloc (by simp) _
  have HX0 := Lib.hid ((Blk.new w 24 #[av]).alloc (.cells #[.int .i64 A.st, fv, rv] 27))
  have HX1 : Hid (Blk ((w.alloc (.cells #[av] 24)).alloc (.cells #[.int .i64 A.st, fv, rv] 27)) (w.heap.size + 1) 27 #[.int .i64 A.st, fv, rv]) := Lib.hid (by simpa using Blk.new (w.alloc (.cells #[av] 24)) 27 #[.int .i64 A.st, fv, rv])
  have HVA := Lib.hid (rvalidAlphabet_ok al av _ (ha.below hbw))
  have HA := Lib.hid ha
  have HAU := Lib.hid h0
  have HB := Lib.hid hbw
  have hf0 := hf
  have hr0 := hr
  obtain ⟨p1, c1, rfl, _⟩ := hf
  obtain ⟨p2, c2, rfl, _, hr4, _⟩ := hr
  obtain ⟨pa, ca, rfl, _, ha4, _⟩ := ha
  unfold maxLen at hr4 ha4
  have HF0 := Lib.hid hf0
  have HR0 := Lib.hid hr0
  clear hbw h0 hf0 hr0
  by_cases h1 : validAl al = true
  · rw [h1] at HVA
    have H1 := Lib.hid h1
    clear h1
    by_cases h2 : 0 ≤ A.st
    · have n2 : ¬ A.st < 0 := by omega
      have d2 : decide (A.st < 0) = false := decide_eq_false n2
      by_cases h3 : A.st ≤ 300
      · have n3 : ¬ 300 < A.st := by omega
        have d3 : decide (300 < A.st) = false := decide_eq_false n3
        by_cases h4 : (A.ru.length : Int) ≤ 20000
        · have n4 : ¬ 20000 < (A.ru.length : Int) := by omega
          have d4 : decide (20000 < (A.ru.length : Int)) = false := decide_eq_false n4
          have HV := Lib.hid (validA_t (al := al) (A := A) H1.out h2 h3 h4)
          go_enter Tryd.func12, Tryd.ntmps12
          go_wp2_with fail
          refine HVA.out.mono ?_
          rintro e w1 ⟨rfl, hb⟩
          have hs := hb.size
          simp only [World.size_alloc] at hs
          have HB1 := Lib.hid (HB.out.trans (hb.mono (by simp; omega)))
          have HX1b := Lib.hid (HX1.out.below hb (by simp))
          have HX0b := Lib.hid (HX0.out.below hb (by simp; omega))
          have z0 : w1.cell? ⟨w.heap.size + 1, 0, none⟩ = some (.int .i64 A.st) := by rw [HX1b.out.cell]; rfl
          have z1 : w1.cell? ⟨w.heap.size + 1, 1, none⟩ = some (.slice p1 A.fin.length c1) := by rw [HX1b.out.cell]; rfl
          have z2 : w1.cell? ⟨w.heap.size + 1, 2, none⟩ = some (.slice p2 A.ru.length c2) := by rw [HX1b.out.cell]; rfl
          have y0 : w1.cell? ⟨w.heap.size, 0, none⟩ = some (.slice pa al.length ca) := by rw [HX0b.out.cell]; rfl
          have l1 : w.heap.size + 1 < w1.heap.size := by omega
          have l0 : w.heap.size < w1.heap.size := by omega
          have HFr := Lib.hid (HF0.out.below HB1.out)
          have HRr := Lib.hid (HR0.out.below HB1.out)
          have HAr := Lib.hid (HA.out.below HB1.out)
          clear hb
          obtain ⟨st, fin, ru⟩ := A
          simp only at *
          obtain ⟨pf', cf', e1, -, hfc2, hfcl⟩ := HFr.out
          simp only [Value.slice.injEq] at e1
          obtain ⟨rfl, -, rfl⟩ := e1
          unfold maxLen at hfc2
          have HFC := Lib.hid hfcl
          clear hfcl
          go_wp2_with fail
          go_loop [33] (fun iv => ∃ (k : Nat) (last : Int), iv = .int .i64 (k : Nat) ∧ k ≤ fin.length ∧ Hid ((k = 0 ∧ last = -1) ∨ (0 < k ∧ fin[k - 1]? = some last ∧ 0 ≤ last)) ∧ Hid (finB st (-1) fin = finB st last (fin.drop k))) (fun iv => fin.length - (intOf iv).toNat)
          case atStart => exact ⟨0, -1, rfl, by omega, Lib.hid (.inl ⟨rfl, rfl⟩), Lib.hid rfl⟩
          case round =>
            obtain ⟨k, last, rfl, hk, HL, HE⟩ := hrel
            by_cases hlt : k < fin.length
            · obtain ⟨s, hs⟩ : ∃ s, fin[k]? = some s := ⟨_, List.getElem?_eq_getElem hlt⟩
              obtain ⟨b, o, rfl, hcl⟩ := HFC.out (fun h => by simp [h] at hlt)
              have c1 := hcl k s hs
              have hbl := World.block_lt_of_cell? _ _ c1
              simp only at hbl
              have hlast : -1 ≤ last := by rcases HL.out with ⟨_, h⟩ | ⟨_, _, h⟩ <;> omega
              have hd : Hid (fin.drop k = s :: fin.drop (k + 1)) := Lib.hid (by
                rw [List.drop_eq_getElem_cons hlt]
                congr 1
                exact (List.getElem?_eq_some_iff.1 hs).2)
              have HSK := Lib.hid hs
              have hlt1 : (k : Int) < (fin.length : Int) := by omega
              have HCL := Lib.hid hcl
              clear hs hcl
              by_cases g1 : 0 ≤ s
              · have n1 : ¬ s < 0 := by omega
                have e1 : decide (s < 0) = false := decide_eq_false n1
                by_cases g2 : s < st
                · have n2' : ¬ st ≤ s := by omega
                  have e2 : decide (st ≤ s) = false := decide_eq_false n2'
                  by_cases g3 : k = 0
                  · have HLL : Hid (last = -1) := Lib.hid (by rcases HL.out with ⟨_, h⟩ | ⟨h, _, _⟩ <;> omega)
                    have hkn : ¬ (0 : Int) < (k : Int) := by omega
                    have hkd : decide ((0 : Int) < (k : Int)) = false := decide_eq_false hkn
                    have hkd2 : decide (0 < k) = false := decide_eq_false (by omega)
                    clear hlast g3 hkn
                    go_wp2_with fail
                    go_round
                    case rel => exact ⟨k + 1, s, by go_num, by omega, Lib.hid (.inr ⟨by omega, by simpa using HSK.out, g1⟩), Lib.hid (by rw [HE.out, hd.out, finB, HLL.out, decide_eq_true (show -1 < s by omega), decide_eq_true g2]; rfl)⟩
                    case measure => simp [intOf]; omega
                  · have hk0 : 0 < k := by omega
                    have hki : (0 : Int) < (k : Int) := by omega
                    have hkd : decide ((0 : Int) < (k : Int)) = true := decide_eq_true hki
                    have hkp := (show 0 < k ∧ fin[k - 1]? = some last ∧ 0 ≤ last by rcases HL.out with ⟨h, _⟩ | h <;> first | omega | exact h)
                    have c2 := HCL.out (k - 1) last hkp.2.1
                    have s1 : ((k : Int) - 1).toNat = k - 1 := by omega
                    have s2 : (0 : Int) ≤ (k : Int) - 1 := by omega
                    have s3 : (k : Int) - 1 < (fin.length : Int) := by omega
                    have s4 : (1 : Int) ≤ (k : Int) := by omega
                    clear g3 hkp
                    by_cases g4 : last < s
                    · have n4 : ¬ s ≤ last := by omega
                      have e4 : decide (s ≤ last) = false := decide_eq_false n4
                      go_wp2_with fail
                      go_round
                      case rel => exact ⟨k + 1, s, by go_num, by omega, Lib.hid (.inr ⟨by omega, by simpa using HSK.out, g1⟩), Lib.hid (by rw [HE.out, hd.out, finB, decide_eq_true g4, decide_eq_true g2]; rfl)⟩
                      case measure => simp [intOf]; omega
                    · have n4 : s ≤ last := by omega
                      have e4 : decide (s ≤ last) = true := decide_eq_true n4
                      go_wp2_with fail
                      go_ret
                      exact ⟨ret_bool (by rw [HV.out, HE.out, hd.out, finB, decide_eq_false (show ¬ last < s by omega)]; rfl), HB1.out⟩
                · have n2' : st ≤ s := by omega
                  have e2 : decide (st ≤ s) = true := decide_eq_true n2'
                  go_wp2_with fail
                  go_ret
                  exact ⟨ret_bool (by rw [HV.out, HE.out, hd.out, finB, decide_eq_false (show ¬ s < st by omega)]; simp), HB1.out⟩
              · have n1 : s < 0 := by omega
                have e1 : decide (s < 0) = true := decide_eq_true n1
                go_wp2_with fail
                go_ret
                exact ⟨ret_bool (by rw [HV.out, HE.out, hd.out, finB, decide_eq_false (show ¬ last < s by omega)]; rfl), HB1.out⟩
            · have hd : Hid (fin.drop k = []) := Lib.hid (List.drop_eq_nil_iff.2 (by omega))
              have hge : fin.length ≤ k := by omega
              have HFT : Hid (finB st (-1) fin = true) := Lib.hid (by rw [HE.out, hd.out, finB])
              clear hlt
              obtain ⟨pr', cr', e1, -, hrc2, hrcl⟩ := HRr.out
              simp only [Value.slice.injEq] at e1
              obtain ⟨rfl, -, rfl⟩ := e1
              obtain ⟨pa', ca', e1, -, hac2, hacl⟩ := HAr.out
              simp only [Value.slice.injEq] at e1
              obtain ⟨rfl, -, rfl⟩ := e1
              have HRC := Lib.hid hrcl
              have HAC := Lib.hid hacl
              clear hrcl hacl
              go_wp2_with fail
              go_loopw [64] (fun iv wr => ∃ k : Nat, iv = .int .i64 (k : Nat) ∧ k ≤ ru.length ∧ Hid (ru.all (ruB al st) = (ru.drop k).all (ruB al st)) ∧ Hid (Below w1.heap.size w1 wr)) (fun iv _ => ru.length - (intOf iv).toNat)
              case atStart => exact ⟨0, rfl, by omega, Lib.hid rfl, Lib.hid (Below.refl _ _)⟩
              case round =>
                rename World => wr
                obtain ⟨k, rfl, hk, HE, HBr⟩ := hrel
                have hsz := HBr.out.size
                have s0 : w.heap.size < wr.heap.size := by omega
                have s1 : w.heap.size + 1 < wr.heap.size := by omega
                have HBw := Lib.hid (HB1.out.trans (HBr.out.mono HB1.out.size))
                by_cases hlt : k < ru.length
                · obtain ⟨r, hrk⟩ : ∃ r, ru[k]? = some r := ⟨_, List.getElem?_eq_getElem hlt⟩
                  obtain ⟨b, o, rfl, hcl⟩ := HRC.out (fun h => by simp [h] at hlt)
                  obtain ⟨q0, ⟨u, q1, hu⟩, q2⟩ := (hcl k r hrk).below HBr.out
                  obtain ⟨pu, cu, rfl, hu3, hu4, huc⟩ := hu
                  unfold maxLen at hu4
                  obtain ⟨sym, fr, to⟩ := r
                  simp only at q0 q1 q2 hu3 huc
                  have hbl := World.block_lt_of_cell? _ _ q0
                  simp only at hbl
                  have hd2 : Hid (ru.drop k = ⟨sym, fr, to⟩ :: ru.drop (k + 1)) := Lib.hid (by
                    rw [List.drop_eq_getElem_cons hlt]
                    congr 1
                    exact (List.getElem?_eq_some_iff.1 hrk).2)
                  have hlt1 : (k : Int) < (ru.length : Int) := by omega
                  have y0' : wr.cell? ⟨w.heap.size, 0, none⟩ = some (.slice pa al.length ca) := cell_later HBr.out y0
                  have z0' : wr.cell? ⟨w.heap.size + 1, 0, none⟩ = some (.int .i64 st) := cell_later HBr.out z0
                  have HUC := Lib.hid huc
                  clear hrk hcl huc y0 z0 z1 z2
                  by_cases h1 : 0 ≤ sym
                  · have n1 : ¬ sym < 0 := by omega
                    have d1 : decide (sym < 0) = false := decide_eq_false n1
                    by_cases h2 : sym < (al.length : Int)
                    · obtain ⟨s, rfl⟩ := Int.eq_ofNat_of_zero_le h1
                      have n2 : ¬ (al.length : Int) ≤ (s : Int) := by omega
                      have d2 : decide ((al.length : Int) ≤ (s : Int)) = false := decide_eq_false n2
                      have d2n : decide (al.length ≤ s) = false := decide_eq_false (by omega)
                      have n2n : ¬ al.length ≤ s := by omega
                      obtain ⟨x, hx⟩ : ∃ x, al[s]? = some x := ⟨_, List.getElem?_eq_getElem (by omega)⟩
                      obtain ⟨ba, oa, rfl, hacl2⟩ := HAC.out (fun h => by simp [h] at h2; omega)
                      have a1 := cell_later HBr.out (hacl2 s x hx)
                      have ab := World.block_lt_of_cell? _ _ a1
                      simp only at ab
                      have HRB := Lib.hid (ruB_of (al := al) (st := st) (r := ⟨(s : Int), fr, to⟩) (x := x) (by simp) h2 (by simpa using hx))
                      clear hacl2 hx
                      by_cases h3 : (fr.length : Int) = x
                      · have e3 : ((fr.length : Int) == x) = true := by simpa using h3
                        have e3' : ((fr.length : Int) != x) = false := by simpa using h3
                        have H3 := Lib.hid e3
                        clear h3
                        by_cases h4 : 0 ≤ to
                        · have n4 : ¬ to < 0 := by omega
                          have d4' : decide (to < 0) = false := decide_eq_false n4
                          by_cases h5 : to < st
                          · have n5 : ¬ st ≤ to := by omega
                            have d5 : decide (st ≤ to) = false := decide_eq_false n5
                            have HS : Hid (stIn st to = true) := Lib.hid (by unfold stIn; rw [decide_eq_true h4, decide_eq_true h5]; rfl)
                            go_wp2_with fail
                            go_quiet (fail)
                            go_wp2_with fail
                            go_loopw [106] (fun jv wj => ∃ j : Nat, jv = .int .i64 (j : Nat) ∧ j ≤ fr.length ∧ Hid (fr.all (stIn st) = (fr.drop j).all (stIn st)) ∧ Hid (Below (wr.heap.size + 1) (wr.alloc (.cells #[.int .i64 (s : Int), .slice pu fr.length cu, .int .i64 to] 70)) wj)) (fun jv _ => fr.length - (intOf jv).toNat)
                            case atStart => exact ⟨0, rfl, by omega, Lib.hid rfl, Lib.hid (below_drewN (Below.refl _ _) _)⟩
                            case round =>
                              rename World => wj
                              obtain ⟨j, rfl, hj, HEj, HBj⟩ := hrel
                              have HBj2 := Lib.hid (((Below.refl _ wr).alloc (Nat.le_refl _) (.cells #[.int .i64 (s : Int), .slice pu fr.length cu, .int .i64 to] 70)).trans (HBj.out.mono (Nat.le_succ _)))
                              have z0j := cell_later HBj2.out z0'
                              have hszj := HBj2.out.size
                              have t1 : w.heap.size + 1 < wj.heap.size := by omega
                              have t2 : wr.heap.size < wj.heap.size := by have := HBj.out.size; simp at this; omega
                              by_cases hjl : j < fr.length
                              · obtain ⟨f, hf⟩ : ∃ f, fr[j]? = some f := ⟨_, List.getElem?_eq_getElem hjl⟩
                                obtain ⟨bu, ou, rfl, huc⟩ := HUC.out (fun h => by simp [h] at hjl)
                                have f1 := cell_later HBj2.out (huc j f hf)
                                have fb := World.block_lt_of_cell? _ _ f1
                                simp only at fb
                                have hd3 : Hid (fr.drop j = f :: fr.drop (j + 1)) := Lib.hid (by
                                  rw [List.drop_eq_getElem_cons hjl]
                                  congr 1
                                  exact (List.getElem?_eq_some_iff.1 hf).2)
                                have hjl1 : (j : Int) < (fr.length : Int) := by omega
                                clear huc hf
                                by_cases h6 : 0 ≤ f
                                · have n6 : ¬ f < 0 := by omega
                                  have d6 : decide (f < 0) = false := decide_eq_false n6
                                  by_cases h7 : f < st
                                  · have n7 : ¬ st ≤ f := by omega
                                    have d7 : decide (st ≤ f) = false := decide_eq_false n7
                                    go_wp2_with fail
                                    go_roundw
                                    case rel => exact ⟨j + 1, by go_num, by omega, Lib.hid (by rw [HEj.out, hd3.out, List.all_cons, stIn, decide_eq_true h6, decide_eq_true h7]; rfl), HBj⟩
                                    case measure => simp [intOf]; omega
                                  · have n7 : st ≤ f := by omega
                                    have d7 : decide (st ≤ f) = true := decide_eq_true n7
                                    go_wp2_with fail
                                    go_ret
                                    exact ⟨ret_bool (by rw [HV.out, HFT.out, HE.out, hd2.out, List.all_cons, HRB.out, HEj.out, hd3.out, List.all_cons, show stIn st f = false by unfold stIn; rw [decide_eq_false (show ¬ f < st by omega)]; simp]; simp), HBw.out.trans (HBj2.out.mono HBw.out.size)⟩
                                · have n6 : f < 0 := by omega
                                  have d6 : decide (f < 0) = true := decide_eq_true n6
                                  go_wp2_with fail
                                  go_ret
                                  exact ⟨ret_bool (by rw [HV.out, HFT.out, HE.out, hd2.out, List.all_cons, HRB.out, HEj.out, hd3.out, List.all_cons, show stIn st f = false by unfold stIn; rw [decide_eq_false (show ¬ 0 ≤ f by omega)]; simp]; simp), HBw.out.trans (HBj2.out.mono HBw.out.size)⟩
                              · have hd3 : Hid (fr.drop j = []) := Lib.hid (List.drop_eq_nil_iff.2 (by omega))
                                have hgej : fr.length ≤ j := by omega
                                clear hjl
                                go_wp2_with fail
                                go_roundw
                                case rel => exact ⟨k + 1, by go_num, by omega, Lib.hid (by rw [HE.out, hd2.out, List.all_cons, HRB.out, HS.out, HEj.out, hd3.out, H3.out]; rfl), Lib.hid (HBr.out.trans (HBj2.out.mono HBr.out.size))⟩
                                case measure => simp [intOf]; omega
                          · have n5 : st ≤ to := by omega
                            have d5 : decide (st ≤ to) = true := decide_eq_true n5
                            go_wp2_with fail
                            go_quiet (fail)
                            go_wp2_with fail
                            go_ret
                            exact ⟨ret_bool (by rw [HV.out, HFT.out, HE.out, hd2.out, List.all_cons, HRB.out, show stIn st to = false by unfold stIn; rw [decide_eq_false (show ¬ to < st by omega)]; simp]; simp), below_drewN (HBw.out.alloc HBw.out.size _) _⟩
                        · have n4 : to < 0 := by omega
                          have d4' : decide (to < 0) = true := decide_eq_true n4
                          go_wp2_with fail
                          go_quiet (fail)
                          go_wp2_with fail
                          go_ret
                          exact ⟨ret_bool (by rw [HV.out, HFT.out, HE.out, hd2.out, List.all_cons, HRB.out, show stIn st to = false by unfold stIn; rw [decide_eq_false (show ¬ 0 ≤ to by omega)]; simp]; simp), below_drewN (HBw.out.alloc HBw.out.size _) _⟩
                      · have e3 : ((fr.length : Int) == x) = false := by simpa using h3
                        have e3' : ((fr.length : Int) != x) = true := by simpa using h3
                        go_wp2_with fail
                        go_quiet (fail)
                        go_wp2_with fail
                        go_ret
                        exact ⟨ret_bool (by rw [HV.out, HFT.out, HE.out, hd2.out, List.all_cons, HRB.out, e3]; simp), below_drewN (HBw.out.alloc HBw.out.size _) _⟩
                    · have d2 : decide ((al.length : Int) ≤ sym) = true := decide_eq_true (by omega)
                      have n2 : (al.length : Int) ≤ sym := by omega
                      go_wp2_with fail
                      go_quiet (fail)
                      go_wp2_with fail
                      go_ret
                      exact ⟨ret_bool (by rw [HV.out, HFT.out, HE.out, hd2.out, List.all_cons, ruB]; simp only; rw [decide_eq_false (show ¬ sym < (al.length : Int) by omega)]; simp), below_drewN (HBw.out.alloc HBw.out.size _) _⟩
                  · have n1 : sym < 0 := by omega
                    have d1 : decide (sym < 0) = true := decide_eq_true n1
                    go_wp2_with fail
                    go_quiet (fail)
                    go_wp2_with fail
                    go_ret
                    exact ⟨ret_bool (by rw [HV.out, HFT.out, HE.out, hd2.out, List.all_cons, ruB]; simp only; rw [decide_eq_false (show ¬ 0 ≤ sym by omega)]; simp), below_drewN (HBw.out.alloc HBw.out.size _) _⟩
                · have hd2 : Hid (ru.drop k = []) := Lib.hid (List.drop_eq_nil_iff.2 (by omega))
                  have hgek : ru.length ≤ k := by omega
                  clear hlt
                  go_wp2_with fail
                  go_ret
                  exact ⟨ret_bool (by rw [HV.out, HFT.out, HE.out, hd2.out]; rfl), HBw.out⟩
        · have n4 : 20000 < (A.ru.length : Int) := by omega
          have d4 : decide (20000 < (A.ru.length : Int)) = true := decide_eq_true n4
          have HV := Lib.hid (validA_f4 (al := al) (A := A) h4)
          clear h4
          go_enter Tryd.func12, Tryd.ntmps12
          go_wp2_with fail
          refine HVA.out.mono ?_
          rintro e w1 ⟨rfl, hb⟩
          have hs := hb.size
          simp only [World.size_alloc] at hs
          have HB1 := Lib.hid (HB.out.trans (hb.mono (by simp; omega)))
          have HX1b := Lib.hid (HX1.out.below hb (by simp))
          have z0 : w1.cell? ⟨w.heap.size + 1, 0, none⟩ = some (.int .i64 A.st) := by rw [HX1b.out.cell]; rfl
          have z2 : w1.cell? ⟨w.heap.size + 1, 2, none⟩ = some (.slice p2 A.ru.length c2) := by rw [HX1b.out.cell]; rfl
          have l1 : w.heap.size + 1 < w1.heap.size := by omega
          clear hb
          go_wp2_with fail
          go_ret
          exact ⟨ret_bool (by rw [HV.out]), HB1.out⟩
      · have n3 : 300 < A.st := by omega
        have d3 : decide (300 < A.st) = true := decide_eq_true n3
        have HV := Lib.hid (validA_f3 (al := al) (A := A) h3)
        clear h3
        go_enter Tryd.func12, Tryd.ntmps12
        go_wp2_with fail
        refine HVA.out.mono ?_
        rintro e w1 ⟨rfl, hb⟩
        have hs := hb.size
        simp only [World.size_alloc] at hs
        have HB1 := Lib.hid (HB.out.trans (hb.mono (by simp; omega)))
        have HX1b := Lib.hid (HX1.out.below hb (by simp))
        have z0 : w1.cell? ⟨w.heap.size + 1, 0, none⟩ = some (.int .i64 A.st) := by rw [HX1b.out.cell]; rfl
        have l1 : w.heap.size + 1 < w1.heap.size := by omega
        clear hb
        go_wp2_with fail
        go_ret
        exact ⟨ret_bool (by rw [HV.out]), HB1.out⟩
    · have n2 : A.st < 0 := by omega
      have d2 : decide (A.st < 0) = true := decide_eq_true n2
      have HV := Lib.hid (validA_f2 (al := al) (A := A) h2)
      clear h2
      go_enter Tryd.func12, Tryd.ntmps12
      go_wp2_with fail
      refine HVA.out.mono ?_
      rintro e w1 ⟨rfl, hb⟩
      have hs := hb.size
      simp only [World.size_alloc] at hs
      have HB1 := Lib.hid (HB.out.trans (hb.mono (by simp; omega)))
      have HX1b := Lib.hid (HX1.out.below hb (by simp))
      have z0 : w1.cell? ⟨w.heap.size + 1, 0, none⟩ = some (.int .i64 A.st) := by rw [HX1b.out.cell]; rfl
      have l1 : w.heap.size + 1 < w1.heap.size := by omega
      clear hb
      go_wp2_with fail
      go_ret
      exact ⟨ret_bool (by rw [HV.out]), HB1.out⟩
  · have h1' : validAl al = false := by simpa using h1
    rw [h1'] at HVA
    have HV := Lib.hid (validA_f1 (A := A) h1')
    clear h1 h1'
    go_enter Tryd.func12, Tryd.ntmps12
    go_wp2_with fail
    refine HVA.out.mono ?_
    rintro e w1 ⟨rfl, hb⟩
    have HB1 := Lib.hid (HB.out.trans (hb.mono (by simp; omega)))
    clear hb
    go_wp2_with fail
    go_ret
    exact ⟨ret_bool (by rw [HV.out]), HB1.out⟩

end Go.Proofs.YtedfldbknjcnlaaDoor
