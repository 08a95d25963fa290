/- auto.Valid. What automata do with trees, as data. ref03.In, Meet, Insert. -/
import Derived.Test.YtedfldbknjcnlaaDoorAuV
import Derived.Test.YtedfldbknjcnlaaDoorFG1
import Derived.Deep.RegionHeld3
import Derived.Shelf.Abstract
import Derived.Maps.AppendAt
namespace Go.Proofs.YtedfldbknjcnlaaDoor
section
open Go.RowKit Go.Shelf

theorem validA_f1 {al : List Int} {A : Au} (h : validAl al = false) : validA al A = false := by unfold validA; rw [h]; rfl
theorem validA_f2 {al : List Int} {A : Au} (h : ¬ 0 ≤ A.st) : validA al A = false := by unfold validA; rw [decide_eq_false h]; simp
theorem validA_f3 {al : List Int} {A : Au} (h : ¬ A.st ≤ 300) : validA al A = false := by unfold validA; rw [decide_eq_false h]; simp
theorem validA_f4 {al : List Int} {A : Au} (h : ¬ (A.ru.length : Int) ≤ 20000) : validA al A = false := by unfold validA; rw [decide_eq_false h]; simp
theorem validA_t {al : List Int} {A : Au} (h1 : validAl al = true) (h2 : 0 ≤ A.st) (h3 : A.st ≤ 300) (h4 : (A.ru.length : Int) ≤ 20000) : validA al A = (finB A.st (-1) A.fin && A.ru.all (ruB al A.st)) := by
  unfold validA; rw [h1, decide_eq_true h2, decide_eq_true h3, decide_eq_true h4]; rfl

set_option maxRecDepth 100000 in
set_option maxHeartbeats 2000000 in
theorem valid_ok (al : List Int) (A : Au) (av v : Value) (w : World) (ha : IsInts w av al) (h : IsAu w v A) :
    Calls Tryd.prog 11 #[.agg #[av], v] w fun e w' => e = .returned (.bool (validA al A)) ∧ Below w.heap.size w w' := by
  have h0 := h
  obtain ⟨fv, rv, rfl, hf, hr⟩ := h
  have hbw : Below w.heap.size w ((w.alloc (.cells #[av] 24)).alloc (.cells #[.int .i64 A.st, fv, rv] 27)) := ((Below.refl _ w).alloc (Nat.le_refl _) _).alloc (by simp) _
  have HX0 := Lib.hid ((Blk.new w 24 #[av]).alloc (.cells #[.int .i64 A.st, fv, rv] 27))
  have HX1 : Hid (Blk ((w.alloc (.cells #[av] 24)).alloc (.cells #[.int .i64 A.st, fv, rv] 27)) (w.heap.size + 1) 27 #[.int .i64 A.st, fv, rv]) := Lib.hid (by simpa using Blk.new (w.alloc (.cells #[av] 24)) 27 #[.int .i64 A.st, fv, rv])
  have HVA := Lib.hid (validAlphabet_ok al av _ (ha.below hbw))
  have HA := Lib.hid ha
  have HAU := Lib.hid h0
  have HB := Lib.hid hbw
  obtain ⟨p1, c1, rfl, _⟩ := hf
  obtain ⟨p2, c2, rfl, _, hr4, _⟩ := hr
  obtain ⟨pa, ca, rfl, _, ha4, _⟩ := ha
  unfold maxLen at hr4 ha4
  clear hbw h0
  by_cases h1 : validAl al = true
  · rw [h1] at HVA
    have H1 := Lib.hid h1
    clear h1
    by_cases h2 : 0 ≤ A.st
    · have n2 : ¬ A.st < 0 := by omega
      have d2 : decide (A.st < 0) = false := decide_eq_false n2
      by_cases h3 : A.st ≤ 300
      · have n3 : ¬ 300 < A.st := by omega
        have d3 : decide (300 < A.st) = false := decide_eq_false n3
        by_cases h4 : (A.ru.length : Int) ≤ 20000
        · have n4 : ¬ 20000 < (A.ru.length : Int) := by omega
          have d4 : decide (20000 < (A.ru.length : Int)) = false := decide_eq_false n4
          have HV := Lib.hid (validA_t (al := al) (A := A) H1.out h2 h3 h4)
          go_enter Tryd.func11, Tryd.ntmps11
          go_wp2_with fail
          refine HVA.out.mono ?_
          rintro e w1 ⟨rfl, hb⟩
          have hs := hb.size
          simp only [World.size_alloc] at hs
          have HB1 := Lib.hid (HB.out.trans (hb.mono (by simp; omega)))
          have HX1b := Lib.hid (HX1.out.below hb (by simp))
          have HX0b := Lib.hid (HX0.out.below hb (by simp; omega))
          have z0 : w1.cell? ⟨w.heap.size + 1, 0, none⟩ = some (.int .i64 A.st) := by rw [HX1b.out.cell]; rfl
          have z1 : w1.cell? ⟨w.heap.size + 1, 1, none⟩ = some (.slice p1 A.fin.length c1) := by rw [HX1b.out.cell]; rfl
          have z2 : w1.cell? ⟨w.heap.size + 1, 2, none⟩ = some (.slice p2 A.ru.length c2) := by rw [HX1b.out.cell]; rfl
          have y0 : w1.cell? ⟨w.heap.size, 0, none⟩ = some (.slice pa al.length ca) := by rw [HX0b.out.cell]; rfl
          have l1 : w.heap.size + 1 < w1.heap.size := by omega
          have l0 : w.heap.size < w1.heap.size := by omega
          have HVF := Lib.hid (validFinal_ok A _ w1 (HAU.out.below HB1.out))
          clear hb
          by_cases h5 : finB A.st (-1) A.fin = true
          · rw [h5] at HVF
            have H5 := Lib.hid h5
            clear h5
            go_wp2_with fail
            refine HVF.out.mono ?_
            rintro e w2 ⟨rfl, hb⟩
            have hs2 := hb.size
            have HB2 := Lib.hid (HB1.out.trans (hb.mono HB1.out.size))
            have z0' := cell_later hb z0
            have z1' := cell_later hb z1
            have z2' := cell_later hb z2
            have y0' := cell_later hb y0
            have l1' : w.heap.size + 1 < w2.heap.size := by omega
            have l0' : w.heap.size < w2.heap.size := by omega
            have HVR := Lib.hid (validRules_ok al A _ _ w2 (HA.out.below HB2.out) (HAU.out.below HB2.out))
            clear hb z0 z1 z2 y0 l1 l0
            go_wp2_with fail
            refine HVR.out.mono ?_
            rintro e w3 ⟨rfl, hb⟩
            have HB3 := Lib.hid (HB2.out.trans (hb.mono HB2.out.size))
            clear hb
            go_wp2_with fail
            go_ret
            exact ⟨ret_bool (by rw [HV.out, H5.out]; rfl), HB3.out⟩
          · have h5' : finB A.st (-1) A.fin = false := by simpa using h5
            rw [h5'] at HVF
            have H5 := Lib.hid h5'
            clear h5 h5'
            go_wp2_with fail
            refine HVF.out.mono ?_
            rintro e w2 ⟨rfl, hb⟩
            have HB2 := Lib.hid (HB1.out.trans (hb.mono HB1.out.size))
            clear hb
            go_wp2_with fail
            go_ret
            exact ⟨ret_bool (by rw [HV.out, H5.out]; rfl), HB2.out⟩
        · have n4 : 20000 < (A.ru.length : Int) := by omega
          have d4 : decide (20000 < (A.ru.length : Int)) = true := decide_eq_true n4
          have HV := Lib.hid (validA_f4 (al := al) (A := A) h4)
          clear h4
          go_enter Tryd.func11, Tryd.ntmps11
          go_wp2_with fail
          refine HVA.out.mono ?_
          rintro e w1 ⟨rfl, hb⟩
          have hs := hb.size
          simp only [World.size_alloc] at hs
          have HB1 := Lib.hid (HB.out.trans (hb.mono (by simp; omega)))
          have HX1b := Lib.hid (HX1.out.below hb (by simp))
          have z0 : w1.cell? ⟨w.heap.size + 1, 0, none⟩ = some (.int .i64 A.st) := by rw [HX1b.out.cell]; rfl
          have z2 : w1.cell? ⟨w.heap.size + 1, 2, none⟩ = some (.slice p2 A.ru.length c2) := by rw [HX1b.out.cell]; rfl
          have l1 : w.heap.size + 1 < w1.heap.size := by omega
          clear hb
          go_wp2_with fail
          go_ret
          exact ⟨ret_bool (by rw [HV.out]), HB1.out⟩
      · have n3 : 300 < A.st := by omega
        have d3 : decide (300 < A.st) = true := decide_eq_true n3
        have HV := Lib.hid (validA_f3 (al := al) (A := A) h3)
        clear h3
        go_enter Tryd.func11, Tryd.ntmps11
        go_wp2_with fail
        refine HVA.out.mono ?_
        rintro e w1 ⟨rfl, hb⟩
        have hs := hb.size
        simp only [World.size_alloc] at hs
        have HB1 := Lib.hid (HB.out.trans (hb.mono (by simp; omega)))
        have HX1b := Lib.hid (HX1.out.below hb (by simp))
        have z0 : w1.cell? ⟨w.heap.size + 1, 0, none⟩ = some (.int .i64 A.st) := by rw [HX1b.out.cell]; rfl
        have l1 : w.heap.size + 1 < w1.heap.size := by omega
        clear hb
        go_wp2_with fail
        go_ret
        exact ⟨ret_bool (by rw [HV.out]), HB1.out⟩
    · have n2 : A.st < 0 := by omega
      have d2 : decide (A.st < 0) = true := decide_eq_true n2
      have HV := Lib.hid (validA_f2 (al := al) (A := A) h2)
      clear h2
      go_enter Tryd.func11, Tryd.ntmps11
      go_wp2_with fail
      refine HVA.out.mono ?_
      rintro e w1 ⟨rfl, hb⟩
      have hs := hb.size
      simp only [World.size_alloc] at hs
      have HB1 := Lib.hid (HB.out.trans (hb.mono (by simp; omega)))
      have HX1b := Lib.hid (HX1.out.below hb (by simp))
      have z0 : w1.cell? ⟨w.heap.size + 1, 0, none⟩ = some (.int .i64 A.st) := by rw [HX1b.out.cell]; rfl
      have l1 : w.heap.size + 1 < w1.heap.size := by omega
      clear hb
      go_wp2_with fail
      go_ret
      exact ⟨ret_bool (by rw [HV.out]), HB1.out⟩
  · have h1' : validAl al = false := by simpa using h1
    rw [h1'] at HVA
    have HV := Lib.hid (validA_f1 (A := A) h1')
    clear h1 h1'
    go_enter Tryd.func11, Tryd.ntmps11
    go_wp2_with fail
    refine HVA.out.mono ?_
    rintro e w1 ⟨rfl, hb⟩
    have HB1 := Lib.hid (HB.out.trans (hb.mono (by simp; omega)))
    clear hb
    go_wp2_with fail
    go_ret
    exact ⟨ret_bool (by rw [HV.out]), HB1.out⟩
end

section
open Go.RowKit

def inB : List Int → Int → Bool
  | [], _ => false
  | x :: l, n => x == n || inB l n
theorem inB_iff {l : List Int} {n : Int} : inB l n = true ↔ n ∈ l := by
  induction l with
  | nil => simp [inB]
  | cons x l ih => simp only [inB, Bool.or_eq_true, beq_iff_eq, ih, List.mem_cons]; constructor <;> (rintro (h | h) <;> simp [h])
def insL (n : Int) : List Int → List Int
  | [] => [n]
  | x :: l => if x < n then x :: insL n l else if x = n then x :: l else n :: x :: l
theorem insL_mem {n q : Int} {l : List Int} : q ∈ insL n l ↔ q = n ∨ q ∈ l := by
  induction l with
  | nil => simp [insL]
  | cons x l ih =>
    unfold insL
    split
    · simp only [List.mem_cons, ih]; constructor <;> (rintro (h | h | h) <;> simp [h])
    · split
      · rename_i h; subst h; simp
      · simp
theorem insL_sorted {n : Int} {l : List Int} (h : l.Pairwise (· < ·)) : (insL n l).Pairwise (· < ·) := by
  induction l with
  | nil => simp [insL]
  | cons x l ih =>
    rw [List.pairwise_cons] at h
    unfold insL
    split
    · rename_i hx
      rw [List.pairwise_cons]
      refine ⟨fun y hy => ?_, ih h.2⟩
      rcases insL_mem.1 hy with rfl | hy
      · exact hx
      · exact h.1 y hy
    · split
      · exact List.pairwise_cons.2 h
      · rw [List.pairwise_cons]
        refine ⟨fun y hy => ?_, List.pairwise_cons.2 h⟩
        rcases List.mem_cons.1 hy with rfl | hy
        · omega
        · have := h.1 y hy; omega
theorem insL_len {n : Int} {l : List Int} : (insL n l).length ≤ l.length + 1 := by
  induction l with
  | nil => simp [insL]
  | cons x l ih =>
    unfold insL
    split
    · simp; omega
    · split <;> simp
/-- Two increasing lists with the same members are the same. -/
theorem sorted_eq : ∀ {l m : List Int}, l.Pairwise (· < ·) → m.Pairwise (· < ·) → (∀ q, q ∈ l ↔ q ∈ m) → l = m
  | [], [], _, _, _ => rfl
  | [], y :: m, _, _, h => by have := (h y).2 (List.mem_cons_self ..); cases this
  | x :: l, [], _, _, h => by have := (h x).1 (List.mem_cons_self ..); cases this
  | x :: l, y :: m, h1, h2, h => by
    rw [List.pairwise_cons] at h1 h2
    have e : x = y := by
      have a := (h x).1 (List.mem_cons_self ..)
      have b := (h y).2 (List.mem_cons_self ..)
      rcases List.mem_cons.1 a with a | a
      · exact a
      · rcases List.mem_cons.1 b with b | b
        · exact b.symm
        · have := h2.1 x a; have := h1.1 y b; omega
    subst e
    rw [sorted_eq h1.2 h2.2 (fun q => ?_)]
    constructor
    · intro hq
      rcases List.mem_cons.1 ((h q).1 (List.mem_cons_of_mem _ hq)) with rfl | hq'
      · have := h1.1 q hq; omega
      · exact hq'
    · intro hq
      rcases List.mem_cons.1 ((h q).2 (List.mem_cons_of_mem _ hq)) with rfl | hq'
      · have := h2.1 q hq; omega
      · exact hq'

def fitsL : List (List Int) → List Int → Bool
  | [], _ => true
  | _ :: _, [] => false
  | s :: S, f :: F => inB s f && fitsL S F
def stepF (sym : Int) (S : List (List Int)) (r : Ru) : Bool := r.sym == sym && fitsL S r.fr
def stepL (R : List Ru) (sym : Int) (S : List (List Int)) (out : List Int) : List Int :=
  match R with
  | [] => out
  | r :: R => stepL R sym S (if stepF sym S r = true then insL r.to out else out)
theorem stepL_sorted (sym : Int) (S : List (List Int)) : ∀ (R : List Ru) (out : List Int), out.Pairwise (· < ·) → (stepL R sym S out).Pairwise (· < ·)
  | [], _, h => h
  | r :: R, out, h => by
    rw [stepL]
    refine stepL_sorted sym S R _ ?_
    split
    · exact insL_sorted h
    · exact h
theorem stepL_mem (sym : Int) (S : List (List Int)) (q : Int) : ∀ (R : List Ru) (out : List Int), q ∈ stepL R sym S out ↔ q ∈ out ∨ ∃ r ∈ R, stepF sym S r = true ∧ r.to = q
  | [], out => by simp [stepL]
  | r :: R, out => by
    rw [stepL, stepL_mem sym S q R]
    by_cases h : stepF sym S r = true
    · rw [if_pos h, insL_mem]
      constructor
      · rintro ((rfl | h1) | ⟨r', h1, h2⟩)
        · exact .inr ⟨r, List.mem_cons_self .., h, rfl⟩
        · exact .inl h1
        · exact .inr ⟨r', List.mem_cons_of_mem _ h1, h2⟩
      · rintro (h1 | ⟨r', h1, h2, h3⟩)
        · exact .inl (.inr h1)
        · rcases List.mem_cons.1 h1 with rfl | h1
          · exact .inl (.inl h3.symm)
          · exact .inr ⟨r', h1, h2, h3⟩
    · rw [if_neg h]
      constructor
      · rintro (h1 | ⟨r', h1, h2⟩)
        · exact .inl h1
        · exact .inr ⟨r', List.mem_cons_of_mem _ h1, h2⟩
      · rintro (h1 | ⟨r', h1, h2, h3⟩)
        · exact .inl h1
        · rcases List.mem_cons.1 h1 with rfl | h1
          · exact absurd h2 h
          · exact .inr ⟨r', h1, h2, h3⟩
theorem stepL_len (sym : Int) (S : List (List Int)) : ∀ (R : List Ru) (out : List Int), (stepL R sym S out).length ≤ out.length + R.length
  | [], _ => by simp [stepL]
  | r :: R, out => by
    rw [stepL]
    have h1 := stepL_len sym S R (if stepF sym S r = true then insL r.to out else out)
    have h2 : (if stepF sym S r = true then insL r.to out else out).length ≤ out.length + 1 := by
      split
      · exact insL_len
      · omega
    simp only [List.length_cons]
    omega
end

section
open Go.RowKit Go.Shelf

theorem inB_drop {l : List Int} {n x : Int} {k : Nat} (h : l[k]? = some x) : inB (l.drop k) n = (x == n || inB (l.drop (k + 1)) n) := by
  have hlt := (List.getElem?_eq_some_iff.1 h).1
  rw [List.drop_eq_getElem_cons hlt, (List.getElem?_eq_some_iff.1 h).2]
  rfl

set_option maxRecDepth 100000 in
set_option maxHeartbeats 1000000 in
theorem in_ok (l : List Int) (v : Value) (n : Int) (w : World) (hv : IsInts w v l) :
    Calls Tryd.prog 43 #[v, .int .i64 n] w fun e w' => e = .returned (.bool (inB l n)) ∧ w = w' := by
  obtain ⟨p, c, rfl, hc1, hc2, hcell⟩ := hv
  unfold maxLen at hc2
  have HC := Lib.hid hcell
  clear hcell
  go_enter Tryd.func43, Tryd.ntmps43
  go_wp2_with fail
  go_loop [9] (fun iv => ∃ k : Nat, iv = .int .i64 (k : Nat) ∧ k ≤ l.length ∧ Hid (inB l n = inB (l.drop k) n)) (fun iv => l.length - (intOf iv).toNat)
  case atStart => exact ⟨0, rfl, by omega, Lib.hid rfl⟩
  case round =>
    obtain ⟨k, rfl, hk, HE⟩ := hrel
    by_cases hlt : k < l.length
    · obtain ⟨x, hx⟩ : ∃ x, l[k]? = some x := ⟨_, List.getElem?_eq_getElem hlt⟩
      obtain ⟨b, o, rfl, hcl⟩ := HC.out (fun h => by simp [h] at hlt)
      have c1 := hcl k x hx
      have hbl := World.block_lt_of_cell? _ _ c1
      simp only at hbl
      have HD := Lib.hid (inB_drop (n := n) hx)
      have hlt1 : (k : Int) < (l.length : Int) := by omega
      clear hx hcl
      by_cases h : x = n
      · have e1 : (x == n) = true := by simpa using h
        have HX := Lib.hid h
        clear h
        go_wp2_with fail
        go_ret
        exact ⟨ret_bool (by rw [HE.out, HD.out, e1]; rfl), rfl⟩
      · have e1 : (x == n) = false := by simpa using h
        go_wp2_with fail
        go_round
        case rel => exact ⟨k + 1, by go_num, by omega, Lib.hid (by rw [HE.out, HD.out, e1]; rfl)⟩
        case measure => simp [intOf]; omega
    · have hd : Hid (l.drop k = []) := Lib.hid (List.drop_eq_nil_iff.2 (by omega))
      have hge : l.length ≤ k := by omega
      clear hlt
      go_wp2_with fail
      go_ret
      exact ⟨ret_bool (by rw [HE.out, hd.out, inB]), rfl⟩

def meetB : List Int → List Int → Bool
  | [], _ => false
  | x :: l, m => inB m x || meetB l m
theorem meetB_drop {l m : List Int} {x : Int} {k : Nat} (h : l[k]? = some x) : meetB (l.drop k) m = (inB m x || meetB (l.drop (k + 1)) m) := by
  have hlt := (List.getElem?_eq_some_iff.1 h).1
  rw [List.drop_eq_getElem_cons hlt, (List.getElem?_eq_some_iff.1 h).2]
  rfl
theorem meetB_iff {l m : List Int} : meetB l m = true ↔ ∃ x ∈ l, x ∈ m := by
  induction l with
  | nil => simp [meetB]
  | cons x l ih => simp only [meetB, Bool.or_eq_true, inB_iff, ih, List.mem_cons, exists_eq_or_imp]

set_option maxRecDepth 100000 in
set_option maxHeartbeats 1000000 in
theorem meet_ok (l m : List Int) (v u : Value) (w : World) (hv : IsInts w v l) (hu : IsInts w u m) :
    Calls Tryd.prog 73 #[v, u] w fun e w' => e = .returned (.bool (meetB l m)) ∧ w = w' := by
  have HU := Lib.hid hu
  obtain ⟨p, c, rfl, hc1, hc2, hcell⟩ := hv
  obtain ⟨pu, cu, rfl, _⟩ := hu
  unfold maxLen at hc2
  have HC := Lib.hid hcell
  clear hcell
  go_enter Tryd.func73, Tryd.ntmps73
  go_wp2_with fail
  go_loop [9] (fun iv => ∃ k : Nat, iv = .int .i64 (k : Nat) ∧ k ≤ l.length ∧ Hid (meetB l m = meetB (l.drop k) m)) (fun iv => l.length - (intOf iv).toNat)
  case atStart => exact ⟨0, rfl, by omega, Lib.hid rfl⟩
  case round =>
    obtain ⟨k, rfl, hk, HE⟩ := hrel
    by_cases hlt : k < l.length
    · obtain ⟨x, hx⟩ : ∃ x, l[k]? = some x := ⟨_, List.getElem?_eq_getElem hlt⟩
      obtain ⟨b, o, rfl, hcl⟩ := HC.out (fun h => by simp [h] at hlt)
      have c1 := hcl k x hx
      have hbl := World.block_lt_of_cell? _ _ c1
      simp only at hbl
      have HD := Lib.hid (meetB_drop (m := m) hx)
      have hlt1 : (k : Int) < (l.length : Int) := by omega
      have HI := Lib.hid (in_ok m _ x w HU.out)
      clear hx hcl
      by_cases h : inB m x = true
      · rw [h] at HI
        have HX := Lib.hid h
        clear h
        go_wp2_with fail
        refine HI.out.mono ?_
        rintro e w1 ⟨rfl, rfl⟩
        go_wp2_with fail
        go_ret
        exact ⟨ret_bool (by rw [HE.out, HD.out, HX.out]; rfl), rfl⟩
      · have h' : inB m x = false := by simpa using h
        rw [h'] at HI
        have HX := Lib.hid h'
        clear h h'
        go_wp2_with fail
        refine HI.out.mono ?_
        rintro e w1 ⟨rfl, rfl⟩
        go_wp2_with fail
        go_round
        case rel => exact ⟨k + 1, by go_num, by omega, Lib.hid (by rw [HE.out, HD.out, HX.out]; rfl)⟩
        case measure => simp [intOf]; omega
    · have hd : Hid (l.drop k = []) := Lib.hid (List.drop_eq_nil_iff.2 (by omega))
      have hge : l.length ≤ k := by omega
      clear hlt
      go_wp2_with fail
      go_ret
      exact ⟨ret_bool (by rw [HE.out, hd.out, meetB]), rfl⟩
end

end Go.Proofs.YtedfldbknjcnlaaDoor
