/- ref03.Few for one automaton. The law's few for a list of trees. How an argument that came in reads: a node or a tree. -/
import Derived.Test.YtedfldbknjcnlaaDoorRAuV
import Derived.Test.YtedfldbknjcnlaaDoorFG8
import Derived.Test.YtedfldbknjcnlaaDoorHg
import Derived.Test.YtedfldbknjcnlaaDoorHgS
import Derived.ProofKit
namespace Go.Proofs.YtedfldbknjcnlaaDoor
section
open Go.RowKit Go.Shelf

def fewA (al : List Int) (A : Au) : Bool := decide (A.fin.length ≤ 60) && (decide (A.ru.length ≤ 60) && (A.ru.all (fun r => decide (r.fr.length ≤ 10)) && decide (al.length ≤ 40)))

set_option maxRecDepth 100000 in
set_option maxHeartbeats 2000000 in
theorem fewA_ok (al : List Int) (A : Au) (av fv rv : Value) (g : Nat) (w : World) (ha : IsInts w av al) (hA : IsAu w (.agg #[.int .i64 A.st, fv, rv]) A) (hg : Blk w g 27 #[.int .i64 A.st, fv, rv]) :
    Calls Tryd.prog 45 #[.agg #[av], .int .i64 300, .int .i64 60, .slice (some ⟨g, 0, none⟩) 1 1] w fun e w' => e = .returned (.bool (fewA al A)) ∧ Below w.heap.size w w' := by
  have HB := Lib.hid ((Below.refl _ w).alloc (Nat.le_refl _) (.cells #[av] 24))
  have HX0 := Lib.hid (Blk.new w 24 #[av])
  have HG := Lib.hid (hg.alloc (.cells #[av] 24))
  have hA2 := hA.below ((Below.refl _ w).alloc (Nat.le_refl _) (.cells #[av] 24))
  obtain ⟨fv', rv', e1, hf, hr⟩ := hA2
  cases e1
  obtain ⟨p1, c1, rfl, hf1, hf2, -⟩ := hf
  obtain ⟨p2, c2, rfl, hr1, hr2, hrc⟩ := hr
  obtain ⟨pa, ca, rfl, ha1, ha2, -⟩ := ha
  unfold maxLen at hf2 hr2 ha2
  obtain ⟨st, fin, ru⟩ := A
  simp only at *
  have HRC := Lib.hid hrc
  have hgl := hg.lt
  clear hrc hA hg
  go_enter Tryd.func45, Tryd.ntmps45
  go_wp2_with fail
  go_loopw [15] (fun iv wr => ∃ k : Nat, iv = .int .i64 (k : Nat) ∧ k ≤ 1 ∧ Hid (k = 1 → fin.length ≤ 60 ∧ ru.length ≤ 60 ∧ ru.all (fun r => decide (r.fr.length ≤ 10)) = true) ∧ Hid (Below (w.heap.size + 1) (w.alloc (.cells #[.slice pa al.length ca] 24)) wr)) (fun iv _ => 1 - (intOf iv).toNat)
  case atStart => exact ⟨0, rfl, by omega, Lib.hid (fun h => by omega), Lib.hid (Below.refl _ _)⟩
  case round =>
    rename World => wr
    obtain ⟨k, rfl, hk, HK, HBr⟩ := hrel
    have hsz := HBr.out.size
    rw [World.size_alloc] at hsz
    have HBw := Lib.hid (HB.out.trans (HBr.out.mono (Nat.le_succ _)))
    by_cases hk0 : k = 0
    · subst hk0
      have hgr := HG.out.below HBr.out (by omega)
      have x0 : wr.cell? ⟨g, 0, none⟩ = some (.int .i64 st) := by rw [hgr.cell]; rfl
      have x1 : wr.cell? ⟨g, 1, none⟩ = some (.slice p1 fin.length c1) := by rw [hgr.cell]; rfl
      have x2 : wr.cell? ⟨g, 2, none⟩ = some (.slice p2 ru.length c2) := by rw [hgr.cell]; rfl
      have hgl2 := hgr.lt
      clear hgr HK
      by_cases h1 : fin.length ≤ 60
      · have n1 : ¬ 60 < (fin.length : Int) := by omega
        have d1 : decide (60 < (fin.length : Int)) = false := decide_eq_false n1
        have d1n : decide (60 < fin.length) = false := decide_eq_false (by omega)
        by_cases h2 : ru.length ≤ 60
        · have n2 : ¬ 60 < (ru.length : Int) := by omega
          have d2 : decide (60 < (ru.length : Int)) = false := decide_eq_false n2
          have d2n : decide (60 < ru.length) = false := decide_eq_false (by omega)
          by_cases h3 : 300 < st
          · have n3 : ¬ st ≤ 300 := by omega
            have d3 : decide (300 < st) = true := decide_eq_true h3
            have d4 : decide (st ≤ 300) = false := decide_eq_false n3
            go_wp2_with fail
            go_loopw [45] (fun jv wj => ∃ j : Nat, jv = .int .i64 (j : Nat) ∧ j ≤ ru.length ∧ Hid (ru.all (fun r => decide (r.fr.length ≤ 10)) = (ru.drop j).all (fun r => decide (r.fr.length ≤ 10))) ∧ Hid (Below (w.heap.size + 1) (w.alloc (.cells #[.slice pa al.length ca] 24)) wj)) (fun jv _ => ru.length - (intOf jv).toNat)
            case atStart => exact ⟨0, rfl, by omega, Lib.hid rfl, Lib.hid (HBr.out.alloc (by omega) _)⟩
            case round =>
              rename World => wj
              obtain ⟨j, rfl, hj, HEj, HBj⟩ := hrel
              have hszj := HBj.out.size
              rw [World.size_alloc] at hszj
              have HBwj := Lib.hid (HB.out.trans (HBj.out.mono (Nat.le_succ _)))
              by_cases hjl : j < ru.length
              · obtain ⟨r, hrk⟩ : ∃ r, ru[j]? = some r := ⟨_, List.getElem?_eq_getElem hjl⟩
                obtain ⟨b, o, rfl, hcl⟩ := HRC.out (fun h => by simp [h] at hjl)
                obtain ⟨q0, ⟨u, q1, hu⟩, q2⟩ := (hcl j r hrk).below (by simpa using HBj.out)
                obtain ⟨pu, cu, rfl, hu3, hu4, -⟩ := hu
                unfold maxLen at hu4
                obtain ⟨sym, fr, to⟩ := r
                simp only at q0 q1 q2 hu3
                have hbl := World.block_lt_of_cell? _ _ q0
                simp only at hbl
                have hd2 : Hid (ru.drop j = ⟨sym, fr, to⟩ :: ru.drop (j + 1)) := Lib.hid (by
                  rw [List.drop_eq_getElem_cons hjl]
                  congr 1
                  exact (List.getElem?_eq_some_iff.1 hrk).2)
                have hjl1 : (j : Int) < (ru.length : Int) := by omega
                clear hrk hcl x0 x1 x2
                by_cases h5 : fr.length ≤ 10
                · have n5 : ¬ 10 < (fr.length : Int) := by omega
                  have d5 : decide (10 < (fr.length : Int)) = false := decide_eq_false n5
                  have d5n : decide (10 < fr.length) = false := decide_eq_false (by omega)
                  go_wp2_with fail
                  go_roundw
                  case rel => exact ⟨j + 1, by go_num, by omega, Lib.hid (by rw [HEj.out, hd2.out, List.all_cons, decide_eq_true h5]; rfl), Lib.hid (HBj.out.alloc (by omega) _)⟩
                  case measure => simp [intOf]; omega
                · have n5 : 10 < (fr.length : Int) := by omega
                  have d5 : decide (10 < (fr.length : Int)) = true := decide_eq_true n5
                  have d5n : decide (10 < fr.length) = true := decide_eq_true (by omega)
                  go_wp2_with fail
                  go_ret
                  exact ⟨ret_bool (by unfold fewA; simp only; rw [HEj.out, hd2.out, List.all_cons, decide_eq_false h5]; simp), HBwj.out.alloc HBwj.out.size _⟩
              · have hd2 : Hid (ru.drop j = []) := Lib.hid (List.drop_eq_nil_iff.2 (by omega))
                have hgej : ru.length ≤ j := by omega
                clear hjl
                go_wp2_with fail
                go_roundw
                case rel => exact ⟨1, rfl, by omega, Lib.hid (fun _ => ⟨h1, h2, by rw [HEj.out, hd2.out]; rfl⟩), HBj⟩
                case measure => simp [intOf]
          · have d3 : decide (300 < st) = false := decide_eq_false h3
            go_wp2_with fail
            go_loopw [45] (fun jv wj => ∃ j : Nat, jv = .int .i64 (j : Nat) ∧ j ≤ ru.length ∧ Hid (ru.all (fun r => decide (r.fr.length ≤ 10)) = (ru.drop j).all (fun r => decide (r.fr.length ≤ 10))) ∧ Hid (Below (w.heap.size + 1) (w.alloc (.cells #[.slice pa al.length ca] 24)) wj)) (fun jv _ => ru.length - (intOf jv).toNat)
            case atStart => exact ⟨0, rfl, by omega, Lib.hid rfl, Lib.hid (HBr.out.alloc (by omega) _)⟩
            case round =>
              rename World => wj
              obtain ⟨j, rfl, hj, HEj, HBj⟩ := hrel
              have hszj := HBj.out.size
              rw [World.size_alloc] at hszj
              have HBwj := Lib.hid (HB.out.trans (HBj.out.mono (Nat.le_succ _)))
              by_cases hjl : j < ru.length
              · obtain ⟨r, hrk⟩ : ∃ r, ru[j]? = some r := ⟨_, List.getElem?_eq_getElem hjl⟩
                obtain ⟨b, o, rfl, hcl⟩ := HRC.out (fun h => by simp [h] at hjl)
                obtain ⟨q0, ⟨u, q1, hu⟩, q2⟩ := (hcl j r hrk).below (by simpa using HBj.out)
                obtain ⟨pu, cu, rfl, hu3, hu4, -⟩ := hu
                unfold maxLen at hu4
                obtain ⟨sym, fr, to⟩ := r
                simp only at q0 q1 q2 hu3
                have hbl := World.block_lt_of_cell? _ _ q0
                simp only at hbl
                have hd2 : Hid (ru.drop j = ⟨sym, fr, to⟩ :: ru.drop (j + 1)) := Lib.hid (by
                  rw [List.drop_eq_getElem_cons hjl]
                  congr 1
                  exact (List.getElem?_eq_some_iff.1 hrk).2)
                have hjl1 : (j : Int) < (ru.length : Int) := by omega
                clear hrk hcl x0 x1 x2
                by_cases h5 : fr.length ≤ 10
                · have n5 : ¬ 10 < (fr.length : Int) := by omega
                  have d5 : decide (10 < (fr.length : Int)) = false := decide_eq_false n5
                  have d5n : decide (10 < fr.length) = false := decide_eq_false (by omega)
                  go_wp2_with fail
                  go_roundw
                  case rel => exact ⟨j + 1, by go_num, by omega, Lib.hid (by rw [HEj.out, hd2.out, List.all_cons, decide_eq_true h5]; rfl), Lib.hid (HBj.out.alloc (by omega) _)⟩
                  case measure => simp [intOf]; omega
                · have n5 : 10 < (fr.length : Int) := by omega
                  have d5 : decide (10 < (fr.length : Int)) = true := decide_eq_true n5
                  have d5n : decide (10 < fr.length) = true := decide_eq_true (by omega)
                  go_wp2_with fail
                  go_ret
                  exact ⟨ret_bool (by unfold fewA; simp only; rw [HEj.out, hd2.out, List.all_cons, decide_eq_false h5]; simp), HBwj.out.alloc HBwj.out.size _⟩
              · have hd2 : Hid (ru.drop j = []) := Lib.hid (List.drop_eq_nil_iff.2 (by omega))
                have hgej : ru.length ≤ j := by omega
                clear hjl
                go_wp2_with fail
                go_roundw
                case rel => exact ⟨1, rfl, by omega, Lib.hid (fun _ => ⟨h1, h2, by rw [HEj.out, hd2.out]; rfl⟩), HBj⟩
                case measure => simp [intOf]
        · have n2 : 60 < (ru.length : Int) := by omega
          have d2 : decide (60 < (ru.length : Int)) = true := decide_eq_true n2
          have d2n : decide (60 < ru.length) = true := decide_eq_true (by omega)
          go_wp2_with fail
          go_ret
          exact ⟨ret_bool (by unfold fewA; simp only; rw [decide_eq_false h2]; simp), HBw.out.alloc HBw.out.size _⟩
      · have n1 : 60 < (fin.length : Int) := by omega
        have d1 : decide (60 < (fin.length : Int)) = true := decide_eq_true n1
        have d1n : decide (60 < fin.length) = true := decide_eq_true (by omega)
        go_wp2_with fail
        go_ret
        exact ⟨ret_bool (by unfold fewA; simp only; rw [decide_eq_false h1]; simp), HBw.out.alloc HBw.out.size _⟩
    · have hk1 : k = 1 := by omega
      have HK1 := Lib.hid (HK.out hk1)
      subst hk1
      have hx := HX0.out.below HBr.out (by simp)
      have y0 : wr.cell? ⟨w.heap.size, 0, none⟩ = some (.slice pa al.length ca) := by rw [hx.cell]; rfl
      have hl := hx.lt
      clear hx
      go_wp2_with fail
      go_ret
      exact ⟨ret_bool (by obtain ⟨a, b, c⟩ := HK1.out; unfold fewA; simp only; rw [decide_eq_true a, decide_eq_true b, c]; simp; omega), HBw.out⟩
end

section
open Go.RowKit Go.Shelf

def fewH : Hg → Bool
  | .nil => true
  | .cons _ k r => decide ((k.size : Int) + 1 ≤ 400) && fewH r
theorem fewH_cons (l : Int) (K R : Hg) : fewH (.cons l K R) = (decide ((K.size : Int) + 1 ≤ 400) && fewH R) := rfl

set_option maxRecDepth 100000 in
set_option maxHeartbeats 2000000 in
theorem mfew_ok (al : List Int) (A : Au) (H : Hg) (av v vH : Value) (w : World) (ha : IsInts w av al) (hA : IsAu w v A) (hH : IsH w vH H) :
    Calls Tryd.prog 9 #[.agg #[av], v, vH] w fun e w' => e = .returned (.bool (fewH H && fewA al A)) ∧ Below w.heap.size w w' := by
  have HAL := Lib.hid ha
  have HA := Lib.hid hA
  obtain ⟨fv, rv, rfl, hf, hr⟩ := hA
  have hbw : Below w.heap.size w ((w.alloc (.cells #[av] 24)).alloc (.cells #[.int .i64 A.st, fv, rv] 27)) := ((Below.refl _ w).alloc (Nat.le_refl _) _).alloc (by simp) _
  have HX0 := Lib.hid ((Blk.new w 24 #[av]).alloc (.cells #[.int .i64 A.st, fv, rv] 27))
  have HX1 : Hid (Blk ((w.alloc (.cells #[av] 24)).alloc (.cells #[.int .i64 A.st, fv, rv] 27)) (w.heap.size + 1) 27 #[.int .i64 A.st, fv, rv]) := Lib.hid (by simpa using Blk.new (w.alloc (.cells #[av] 24)) 27 #[.int .i64 A.st, fv, rv])
  have HB := Lib.hid hbw
  obtain ⟨p1, c1, rfl, _⟩ := hf
  obtain ⟨p2, c2, rfl, _⟩ := hr
  obtain ⟨p, c, rfl, hc1, hc2, hrow⟩ := hH
  obtain ⟨pa, ca, rfl, _⟩ := ha
  unfold maxLen at hc2
  have HR := Lib.hid hrow
  clear hbw hrow
  go_enter Tryd.func9, Tryd.ntmps9
  go_wp2_with fail
  go_loopw [11] (fun iv wr => ∃ (k : Nat) (R : Hg), iv = .int .i64 (k : Nat) ∧ Hid (k + R.len = H.len) ∧ Hid (fewH H = fewH R) ∧ Hid (Below (w.heap.size + 1 + 1) ((w.alloc (.cells #[.slice pa al.length ca] 24)).alloc (.cells #[.int .i64 A.st, .slice p1 A.fin.length c1, .slice p2 A.ru.length c2] 27)) wr) ∧ Hid (R ≠ .nil → ∃ b o, p = some ⟨b, o, none⟩ ∧ Row w R b (o + k * 2))) (fun iv _ => H.len - (intOf iv).toNat)
  case atStart => exact ⟨0, H, rfl, Lib.hid (by simp), Lib.hid rfl, Lib.hid (Below.refl _ _), Lib.hid (by simpa using HR.out)⟩
  case round =>
    rename World => wr
    obtain ⟨k, R, rfl, hk, hf, HBr, hR⟩ := hrel
    have hsz := HBr.out.size
    rw [World.size_alloc, World.size_alloc] at hsz
    have HBw := Lib.hid (HB.out.trans (HBr.out.mono (by omega)))
    cases R with
    | nil =>
      have hge : H.len ≤ k := by have := hk.out; simp only [Hg.len] at this; omega
      have hres : Hid ((fewH H && fewA al A) = fewA al A) := Lib.hid (by rw [hf.out]; rfl)
      clear hk hR HR hf
      have hx := HX0.out.below HBr.out (by omega)
      have hx1 := HX1.out.below HBr.out (by omega)
      have y0 : wr.cell? ⟨w.heap.size, 0, none⟩ = some (.slice pa al.length ca) := by rw [hx.cell]; rfl
      have z0 : wr.cell? ⟨w.heap.size + 1, 0, none⟩ = some (.int .i64 A.st) := by rw [hx1.cell]; rfl
      have z1 : wr.cell? ⟨w.heap.size + 1, 1, none⟩ = some (.slice p1 A.fin.length c1) := by rw [hx1.cell]; rfl
      have z2 : wr.cell? ⟨w.heap.size + 1, 2, none⟩ = some (.slice p2 A.ru.length c2) := by rw [hx1.cell]; rfl
      have hl := hx.lt
      have hl1 := hx1.lt
      have HBa : Hid (Below w.heap.size w (wr.alloc (.cells #[.int .i64 A.st, .slice p1 A.fin.length c1, .slice p2 A.ru.length c2] 27))) := Lib.hid (HBw.out.alloc HBw.out.size _)
      have HF := Lib.hid (fewA_ok al A _ _ _ wr.heap.size _ (HAL.out.below HBa.out) (HA.out.below HBa.out) (Blk.new wr _ _))
      clear hx hx1
      go_wp2_with fail
      refine HF.out.mono ?_
      rintro e w1 ⟨rfl, hb1⟩
      have HB1 := Lib.hid (HBa.out.trans (hb1.mono HBa.out.size))
      clear hb1
      go_wp2_with fail
      go_ret
      exact ⟨by rw [hres.out] <;> rfl, HB1.out⟩
    | cons l K R =>
      obtain ⟨b, o, rfl, hr⟩ := hR.out (by simp)
      rw [Row.cons_iff] at hr
      obtain ⟨c1, hl, ⟨vk, c2, hvk⟩, hr⟩ := hr
      have hlt : k < H.len := by have := hk.out; simp only [Hg.len] at this; omega
      have c1 := cell_later HBw.out c1
      have c2 := cell_later HBw.out c2
      have hbl := World.block_lt_of_cell? _ _ c1
      simp only at hbl
      have hba : Below w.heap.size w (wr.alloc (.cells #[.int .i64 l, vk] 43)) := HBw.out.alloc HBw.out.size _
      have HFW := Lib.hid (few01_ok l K vk 400 _ (hvk.below hba) (by omega) (by omega))
      obtain ⟨pk, ck, rfl, _, _, _⟩ := hvk
      have HBA := Lib.hid ((Below.refl _ wr).alloc (Nat.le_refl _) (.cells #[.int .i64 l, .slice pk K.len ck] 43))
      have HRR := Lib.hid hr
      clear hR HR hr hba
      by_cases h2 : (K.size : Int) + 1 ≤ 400
      · have hd : decide ((K.size : Int) + 1 ≤ 400) = true := decide_eq_true h2
        have hf2 : Hid (fewH H = fewH R) := Lib.hid (by rw [hf.out, fewH_cons, hd, Bool.true_and])
        rw [hd] at HFW
        clear h2 hf hd
        go_wp2_with fail
        refine HFW.out.mono ?_
        rintro e w1 ⟨rfl, hb1⟩
        have HB1 := Lib.hid (HBr.out.trans ((HBA.out.trans (hb1.mono (by simp))).mono (by omega)))
        clear hb1
        go_wp2_with fail
        go_roundw
        case rel =>
          refine ⟨k + 1, R, by go_num, Lib.hid (by have := hk.out; simp only [Hg.len] at this; omega), hf2, HB1, Lib.hid (fun _ => ⟨b, o, rfl, ?_⟩)⟩
          rw [show o + (k + 1) * 2 = o + k * 2 + 2 from by omega]; exact HRR.out
        case measure => simp [intOf]; omega
      · have hd : decide ((K.size : Int) + 1 ≤ 400) = false := decide_eq_false h2
        have hf2 : Hid ((fewH H && fewA al A) = false) := Lib.hid (by rw [hf.out, fewH_cons, hd, Bool.false_and, Bool.false_and])
        rw [hd] at HFW
        clear h2 hf hd
        go_wp2_with fail
        refine HFW.out.mono ?_
        rintro e w1 ⟨rfl, hb1⟩
        have HB1 := Lib.hid (HBw.out.trans ((HBA.out.trans (hb1.mono (by simp))).mono (by omega)))
        clear hb1
        go_wp2_with fail
        go_ret
        exact ⟨by rw [hf2.out] <;> rfl, HB1.out⟩
end

section
open Go.RowKit Go.ChangeShapes Go.WideShapes

section
variable {H : Type} {enc : TypeId × Value → H} {P : Program} {w : World} {base : Nat} {spare : Nat → Bool} {held : Bool}

theorem cell_none_spot {w : World} {a : Addr} {v : Value} (h : w.cell? a = some v) : a.spot = none := by
  unfold World.cell? at h
  split at h
  · cases hs : a.spot with
    | none => rfl
    | some _ => simp [hs] at h
  · cases h
theorem addr_eta {a : Addr} (h : a.spot = none) : a = ⟨a.block, a.off, none⟩ := by
  obtain ⟨b, o, s⟩ := a; simp at h; subst h; rfl
theorem addr_add_plain (b o n : Nat) : (⟨b, o, none⟩ : Addr).add n = ⟨b, o + n, none⟩ := by
  unfold Addr.add; split
  · next h => subst h; rfl
  · rfl

theorem read_row (b o len : Nat) (f : Nat → Int) (hf : ∀ i, i < len → ∃ v K, w.cell? ⟨b, o + i * 2, none⟩ = some (.int .i64 (f i)) ∧ (Lit.int .i64 (f i)).wf = true ∧ w.cell? ⟨b, o + i * 2 + 1, none⟩ = some v ∧ IsH w v K) :
    ∀ d, d ≤ len → ∃ h, h.len = d ∧ Row w h b (o + (len - d) * 2) := by
  intro d
  induction d with
  | zero => intro _; exact ⟨.nil, rfl, trivial⟩
  | succ d ih =>
    intro hd
    obtain ⟨h, hl, hr⟩ := ih (by omega)
    obtain ⟨v, K, c1, hwf, c2, hv⟩ := hf (len - (d + 1)) (by omega)
    refine ⟨.cons (f (len - (d + 1))) K h, by simp [Hg.len, hl], ?_⟩
    rw [Row.cons_iff]
    refine ⟨c1, hwf, ⟨v, c2, hv⟩, ?_⟩
    rw [show o + (len - (d + 1)) * 2 + 2 = o + (len - d) * 2 by omega]
    exact hr

theorem read_hedge {ts tn ti : TypeId} {n1 n2 g1 g2 q1 q2 : String} {m1 m2 : Bool} {z1 z2 : Nat} (hts : P.underlying ts = some (.slice tn)) (htn : P.underlying tn = some (.struct #[⟨n1, ti, 0, m1, g1, q1, z1⟩, ⟨n2, ts, 1, m2, g2, q2, z2⟩])) (hti : P.underlying ti = some (.int .i64))
    (hc : P.cellsOf tn = 2) (hci : P.cellsOf ti = 1) (hcs : P.cellsOf ts = 1) : ∀ (fuel : Nat) (cs : List Value) (x : DataW H × List MemPlace), DataW.trod enc P w base spare held fuel ts cs = some x → ∃ v h, cs = [v] ∧ IsH w v h := by
  intro fuel
  induction fuel using Nat.strongRecOn with
  | _ fuel ih =>
    intro cs x hx
    rcases DataW.trod_slice hts hx with ⟨rfl, _⟩ | ⟨a, len, cap, elems, rest, n, rfl, rfl, _, _, hl, hm, hlen, hel, _, _⟩
    · exact ⟨_, .nil, rfl, none, 0, rfl, Nat.le_refl _, by decide, fun h => absurd rfl h⟩
    · have key : ∀ i, i < len → ∃ l v K, w.cell? (a.add (i * 2)) = some (.int .i64 l) ∧ (Lit.int .i64 l).wf = true ∧ w.cell? ((a.add (i * 2)).add 1) = some v ∧ IsH w v K := by
        intro i hi
        have h1 := hel i hi
        rw [hc, List.getElem?_eq_getElem (by omega)] at h1
        simp only [Option.bind_eq_some_iff] at h1
        obtain ⟨cs', hcells, ht⟩ := h1
        obtain ⟨_, hcl, hat⟩ := World.cells?_some hcells
        obtain ⟨xs, n', rfl, _, _, hxl, hf⟩ := DataW.trod_struct htn ht
        simp at hxl
        match cs', hcl with
        | [c0, c1], _ =>
          have f0 := hf 0 _ rfl
          have f1 := hf 1 _ rfl
          have f0 : DataW.trod enc P w base spare held n' ti (List.take (P.cellsOf ti) [c0, c1]) = xs[0]? := f0
          have f1 : DataW.trod enc P w base spare held n' ts (List.take (P.cellsOf ts) [c1]) = xs[1]? := f1
          rw [hci] at f0
          rw [hcs] at f1
          have f0 : DataW.trod enc P w base spare held n' ti [c0] = xs[0]? := f0
          have f1 : DataW.trod enc P w base spare held n' ts [c1] = xs[1]? := f1
          have hxs0 : (DataW.trod enc P w base spare held n' ti [c0]).isSome = true := by
            rw [f0]; simp; omega
          have hxs1 : (DataW.trod enc P w base spare held n' ts [c1]).isSome = true := by
            rw [f1]; simp; omega
          obtain ⟨y0, hy0⟩ := Option.isSome_iff_exists.1 hxs0
          obtain ⟨y1, hy1⟩ := Option.isSome_iff_exists.1 hxs1
          obtain ⟨l, e0, _, hwf⟩ := DataW.trod_int hti hy0
          simp at e0
          subst e0
          obtain ⟨v, K, e1, hv⟩ := ih n' (by omega) [c1] y1 hy1
          simp at e1
          subst e1
          have a0 := hat 0 (by omega)
          have a1 := hat 1 (by omega)
          simp only [List.getElem?_cons_zero, List.getElem?_cons_succ] at a0 a1
          refine ⟨l, c1, K, ?_, hwf, a1, hv⟩
          simpa [Addr.add] using a0
      refine ⟨.slice (some a) len cap, ?_⟩
      by_cases h0 : len = 0
      · subst h0
        exact ⟨.nil, rfl, _, _, rfl, hl, hm, fun h => absurd rfl h⟩
      · obtain ⟨l0, v0, K0, q0, _⟩ := key 0 (by omega)
        have hsp : a.spot = none := by
          have := cell_none_spot q0
          simpa [Addr.add] using this
        rw [addr_eta hsp]
        have key2 : ∀ i, ∃ l : Int, i < len → ∃ v K, w.cell? ⟨a.block, a.off + i * 2, none⟩ = some (.int .i64 l) ∧ (Lit.int .i64 l).wf = true ∧ w.cell? ⟨a.block, a.off + i * 2 + 1, none⟩ = some v ∧ IsH w v K := by
          intro i
          by_cases hi : i < len
          · obtain ⟨l, v, K, h1, h2, h3, h4⟩ := key i hi
            rw [addr_eta hsp, addr_add_plain] at h1 h3
            rw [addr_add_plain] at h3
            exact ⟨l, fun _ => ⟨v, K, h1, h2, h3, h4⟩⟩
          · exact ⟨0, fun h => absurd h hi⟩
        obtain ⟨h, hh, hr⟩ := read_row (w := w) a.block a.off len (fun i => (key2 i).choose) (fun i hi => (key2 i).choose_spec hi) len (Nat.le_refl _)
        refine ⟨h, rfl, some ⟨a.block, a.off, none⟩, cap, by rw [hh], by omega, hm, fun _ => ⟨_, _, rfl, ?_⟩⟩
        simpa using hr
end
end

end Go.Proofs.YtedfldbknjcnlaaDoor
