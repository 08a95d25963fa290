/- ref03.Few for one automaton. -/
import Derived.Test.YtopineheelkcmaaDoorRAuV
namespace Go.Proofs.YtopineheelkcmaaDoor
open Go.RowKit Go.Shelf

def fewA (al : List Int) (A : Au) : Bool := decide (A.fin.length ≤ 60) && (decide (A.ru.length ≤ 60) && (A.ru.all (fun r => decide (r.fr.length ≤ 10)) && decide (al.length ≤ 40)))

set_option maxRecDepth 100000 in
set_option maxHeartbeats 2000000 in
theorem fewA_ok (al : List Int) (A : Au) (av fv rv : Value) (g : Nat) (w : World) (ha : IsInts w av al) (hA : IsAu w (.agg #[.int .i64 A.st, fv, rv]) A) (hg : Blk w g 27 #[.int .i64 A.st, fv, rv]) :
    Calls Tryd.prog 45 #[.agg #[av], .int .i64 300, .int .i64 60, .slice (some ⟨g, 0, none⟩) 1 1] w fun e w' => e = .returned (.bool (fewA al A)) ∧ Below w.heap.size w w' := by
  have HB := Lib.hid ((Below.refl _ w).alloc (Nat.le_refl _) (.cells #[av] 24))
  have HX0 := Lib.hid (Blk.new w 24 #[av])
  have HG := Lib.hid (hg.alloc (.cells #[av] 24))
  have hA2 := hA.below ((Below.refl _ w).alloc (Nat.le_refl _) (.cells #[av] 24))
  obtain ⟨fv', rv', e1, hf, hr⟩ := hA2
  cases e1
  obtain ⟨p1, c1, rfl, hf1, hf2, -⟩ := hf
  obtain ⟨p2, c2, rfl, hr1, hr2, hrc⟩ := hr
  obtain ⟨pa, ca, rfl, ha1, ha2, -⟩ := ha
  unfold maxLen at hf2 hr2 ha2
  obtain ⟨st, fin, ru⟩ := A
  simp only at *
  have HRC := Lib.hid hrc
  have hgl := hg.lt
  clear hrc hA hg
  go_enter Tryd.func45, Tryd.ntmps45
  go_wp2_with fail
  go_loopw [15] (fun iv wr => ∃ k : Nat, iv = .int .i64 (k : Nat) ∧ k ≤ 1 ∧ Hid (k = 1 → fin.length ≤ 60 ∧ ru.length ≤ 60 ∧ ru.all (fun r => decide (r.fr.length ≤ 10)) = true) ∧ Hid (Below (w.heap.size + 1) (w.alloc (.cells #[.slice pa al.length ca] 24)) wr)) (fun iv _ => 1 - (intOf iv).toNat)
  case atStart => exact ⟨0, rfl, by omega, Lib.hid (fun h => by omega), Lib.hid (Below.refl _ _)⟩
  case round =>
    rename World => wr
    obtain ⟨k, rfl, hk, HK, HBr⟩ := hrel
    have hsz := HBr.out.size
    rw [World.size_alloc] at hsz
    have HBw := Lib.hid (HB.out.trans (HBr.out.mono (Nat.le_succ _)))
    by_cases hk0 : k = 0
    · subst hk0
      have hgr := HG.out.below HBr.out (by omega)
      have x0 : wr.cell? ⟨g, 0, none⟩ = some (.int .i64 st) := by rw [hgr.cell]; rfl
      have x1 : wr.cell? ⟨g, 1, none⟩ = some (.slice p1 fin.length c1) := by rw [hgr.cell]; rfl
      have x2 : wr.cell? ⟨g, 2, none⟩ = some (.slice p2 ru.length c2) := by rw [hgr.cell]; rfl
      have hgl2 := hgr.lt
      clear hgr HK
      by_cases h1 : fin.length ≤ 60
      · have n1 : ¬ 60 < (fin.length : Int) := by omega
        have d1 : decide (60 < (fin.length : Int)) = false := decide_eq_false n1
        have d1n : decide (60 < fin.length) = false := decide_eq_false (by omega)
        by_cases h2 : ru.length ≤ 60
        · have n2 : ¬ 60 < (ru.length : Int) := by omega
          have d2 : decide (60 < (ru.length : Int)) = false := decide_eq_false n2
          have d2n : decide (60 < ru.length) = false := decide_eq_false (by omega)
          by_cases h3 : 300 < st
          · have n3 : ¬ st ≤ 300 := by omega
            have d3 : decide (300 < st) = true := decide_eq_true h3
            have d4 : decide (st ≤ 300) = false := decide_eq_false n3
            go_wp2_with fail
            go_loopw [45] (fun jv wj => ∃ j : Nat, jv = .int .i64 (j : Nat) ∧ j ≤ ru.length ∧ Hid (ru.all (fun r => decide (r.fr.length ≤ 10)) = (ru.drop j).all (fun r => decide (r.fr.length ≤ 10))) ∧ Hid (Below (w.heap.size + 1) (w.alloc (.cells #[.slice pa al.length ca] 24)) wj)) (fun jv _ => ru.length - (intOf jv).toNat)
            case atStart => exact ⟨0, rfl, by omega, Lib.hid rfl, Lib.hid (HBr.out.alloc (by omega) _)⟩
            case round =>
              rename World => wj
              obtain ⟨j, rfl, hj, HEj, HBj⟩ := hrel
              have hszj := HBj.out.size
              rw [World.size_alloc] at hszj
              have HBwj := Lib.hid (HB.out.trans (HBj.out.mono (Nat.le_succ _)))
              by_cases hjl : j < ru.length
              · obtain ⟨r, hrk⟩ : ∃ r, ru[j]? = some r := ⟨_, List.getElem?_eq_getElem hjl⟩
                obtain ⟨b, o, rfl, hcl⟩ := HRC.out (fun h => by simp [h] at hjl)
                obtain ⟨q0, ⟨u, q1, hu⟩, q2⟩ := (hcl j r hrk).below (by simpa using HBj.out)
                obtain ⟨pu, cu, rfl, hu3, hu4, -⟩ := hu
                unfold maxLen at hu4
                obtain ⟨sym, fr, to⟩ := r
                simp only at q0 q1 q2 hu3
                have hbl := World.block_lt_of_cell? _ _ q0
                simp only at hbl
                have hd2 : Hid (ru.drop j = ⟨sym, fr, to⟩ :: ru.drop (j + 1)) := Lib.hid (by
                  rw [List.drop_eq_getElem_cons hjl]
                  congr 1
                  exact (List.getElem?_eq_some_iff.1 hrk).2)
                have hjl1 : (j : Int) < (ru.length : Int) := by omega
                clear hrk hcl x0 x1 x2
                by_cases h5 : fr.length ≤ 10
                · have n5 : ¬ 10 < (fr.length : Int) := by omega
                  have d5 : decide (10 < (fr.length : Int)) = false := decide_eq_false n5
                  have d5n : decide (10 < fr.length) = false := decide_eq_false (by omega)
                  go_wp2_with fail
                  go_roundw
                  case rel => exact ⟨j + 1, by go_num, by omega, Lib.hid (by rw [HEj.out, hd2.out, List.all_cons, decide_eq_true h5]; rfl), Lib.hid (HBj.out.alloc (by omega) _)⟩
                  case measure => simp [intOf]; omega
                · have n5 : 10 < (fr.length : Int) := by omega
                  have d5 : decide (10 < (fr.length : Int)) = true := decide_eq_true n5
                  have d5n : decide (10 < fr.length) = true := decide_eq_true (by omega)
                  go_wp2_with fail
                  go_ret
                  exact ⟨ret_bool (by unfold fewA; simp only; rw [HEj.out, hd2.out, List.all_cons, decide_eq_false h5]; simp), HBwj.out.alloc HBwj.out.size _⟩
              · have hd2 : Hid (ru.drop j = []) := Lib.hid (List.drop_eq_nil_iff.2 (by omega))
                have hgej : ru.length ≤ j := by omega
                clear hjl
                go_wp2_with fail
                go_roundw
                case rel => exact ⟨1, rfl, by omega, Lib.hid (fun _ => ⟨h1, h2, by rw [HEj.out, hd2.out]; rfl⟩), HBj⟩
                case measure => simp [intOf]
          · have d3 : decide (300 < st) = false := decide_eq_false h3
            go_wp2_with fail
            go_loopw [45] (fun jv wj => ∃ j : Nat, jv = .int .i64 (j : Nat) ∧ j ≤ ru.length ∧ Hid (ru.all (fun r => decide (r.fr.length ≤ 10)) = (ru.drop j).all (fun r => decide (r.fr.length ≤ 10))) ∧ Hid (Below (w.heap.size + 1) (w.alloc (.cells #[.slice pa al.length ca] 24)) wj)) (fun jv _ => ru.length - (intOf jv).toNat)
            case atStart => exact ⟨0, rfl, by omega, Lib.hid rfl, Lib.hid (HBr.out.alloc (by omega) _)⟩
            case round =>
              rename World => wj
              obtain ⟨j, rfl, hj, HEj, HBj⟩ := hrel
              have hszj := HBj.out.size
              rw [World.size_alloc] at hszj
              have HBwj := Lib.hid (HB.out.trans (HBj.out.mono (Nat.le_succ _)))
              by_cases hjl : j < ru.length
              · obtain ⟨r, hrk⟩ : ∃ r, ru[j]? = some r := ⟨_, List.getElem?_eq_getElem hjl⟩
                obtain ⟨b, o, rfl, hcl⟩ := HRC.out (fun h => by simp [h] at hjl)
                obtain ⟨q0, ⟨u, q1, hu⟩, q2⟩ := (hcl j r hrk).below (by simpa using HBj.out)
                obtain ⟨pu, cu, rfl, hu3, hu4, -⟩ := hu
                unfold maxLen at hu4
                obtain ⟨sym, fr, to⟩ := r
                simp only at q0 q1 q2 hu3
                have hbl := World.block_lt_of_cell? _ _ q0
                simp only at hbl
                have hd2 : Hid (ru.drop j = ⟨sym, fr, to⟩ :: ru.drop (j + 1)) := Lib.hid (by
                  rw [List.drop_eq_getElem_cons hjl]
                  congr 1
                  exact (List.getElem?_eq_some_iff.1 hrk).2)
                have hjl1 : (j : Int) < (ru.length : Int) := by omega
                clear hrk hcl x0 x1 x2
                by_cases h5 : fr.length ≤ 10
                · have n5 : ¬ 10 < (fr.length : Int) := by omega
                  have d5 : decide (10 < (fr.length : Int)) = false := decide_eq_false n5
                  have d5n : decide (10 < fr.length) = false := decide_eq_false (by omega)
                  go_wp2_with fail
                  go_roundw
                  case rel => exact ⟨j + 1, by go_num, by omega, Lib.hid (by rw [HEj.out, hd2.out, List.all_cons, decide_eq_true h5]; rfl), Lib.hid (HBj.out.alloc (by omega) _)⟩
                  case measure => simp [intOf]; omega
                · have n5 : 10 < (fr.length : Int) := by omega
                  have d5 : decide (10 < (fr.length : Int)) = true := decide_eq_true n5
                  have d5n : decide (10 < fr.length) = true := decide_eq_true (by omega)
                  go_wp2_with fail
                  go_ret
                  exact ⟨ret_bool (by unfold fewA; simp only; rw [HEj.out, hd2.out, List.all_cons, decide_eq_false h5]; simp), HBwj.out.alloc HBwj.out.size _⟩
              · have hd2 : Hid (ru.drop j = []) := Lib.hid (List.drop_eq_nil_iff.2 (by omega))
                have hgej : ru.length ≤ j := by omega
                clear hjl
                go_wp2_with fail
                go_roundw
                case rel => exact ⟨1, rfl, by omega, Lib.hid (fun _ => ⟨h1, h2, by rw [HEj.out, hd2.out]; rfl⟩), HBj⟩
                case measure => simp [intOf]
        · have n2 : 60 < (ru.length : Int) := by omega
          have d2 : decide (60 < (ru.length : Int)) = true := decide_eq_true n2
          have d2n : decide (60 < ru.length) = true := decide_eq_true (by omega)
          go_wp2_with fail
          go_ret
          exact ⟨ret_bool (by unfold fewA; simp only; rw [decide_eq_false h2]; simp), HBw.out.alloc HBw.out.size _⟩
      · have n1 : 60 < (fin.length : Int) := by omega
        have d1 : decide (60 < (fin.length : Int)) = true := decide_eq_true n1
        have d1n : decide (60 < fin.length) = true := decide_eq_true (by omega)
        go_wp2_with fail
        go_ret
        exact ⟨ret_bool (by unfold fewA; simp only; rw [decide_eq_false h1]; simp), HBw.out.alloc HBw.out.size _⟩
    · have hk1 : k = 1 := by omega
      have HK1 := Lib.hid (HK.out hk1)
      subst hk1
      have hx := HX0.out.below HBr.out (by simp)
      have y0 : wr.cell? ⟨w.heap.size, 0, none⟩ = some (.slice pa al.length ca) := by rw [hx.cell]; rfl
      have hl := hx.lt
      clear hx
      go_wp2_with fail
      go_ret
      exact ⟨ret_bool (by obtain ⟨a, b, c⟩ := HK1.out; unfold fewA; simp only; rw [decide_eq_true a, decide_eq_true b, c]; simp; omega), HBw.out⟩

end Go.Proofs.YtopineheelkcmaaDoor
