/- Automata as data and as they lie in memory; auto.hasState, validFinal. -/
import Derived.Test.YtopineheelkcmaaDoorAlpha
namespace Go.Proofs.YtopineheelkcmaaDoor
open Go.RowKit

structure Ru where
  sym : Int
  fr : List Int
  to : Int
structure Au where
  st : Int
  fin : List Int
  ru : List Ru

def IsRu (w : World) (b o : Nat) (r : Ru) : Prop :=
  w.cell? ⟨b, o, none⟩ = some (.int .i64 r.sym) ∧ (∃ u, w.cell? ⟨b, o + 1, none⟩ = some u ∧ IsInts w u r.fr) ∧ w.cell? ⟨b, o + 2, none⟩ = some (.int .i64 r.to)
theorem IsRu.below {w w' : World} {b o : Nat} {r : Ru} (h : IsRu w b o r) (hb : Below w.heap.size w w') : IsRu w' b o r := by
  obtain ⟨h1, ⟨u, h2, h3⟩, h4⟩ := h
  exact ⟨cell_later hb h1, ⟨u, cell_later hb h2, h3.below hb⟩, cell_later hb h4⟩
def IsRus (w : World) (v : Value) (R : List Ru) : Prop :=
  ∃ p c, v = .slice p R.length c ∧ R.length ≤ c ∧ c ≤ maxLen ∧ (R ≠ [] → ∃ b o, p = some ⟨b, o, none⟩ ∧ ∀ (i : Nat) (r : Ru), R[i]? = some r → IsRu w b (o + i * 3) r)
theorem IsRus.below {w w' : World} {v : Value} {R : List Ru} (h : IsRus w v R) (hb : Below w.heap.size w w') : IsRus w' v R := by
  obtain ⟨p, c, e, h1, h2, h3⟩ := h
  refine ⟨p, c, e, h1, h2, fun hne => ?_⟩
  obtain ⟨b, o, e, hc⟩ := h3 hne
  exact ⟨b, o, e, fun i r hr => (hc i r hr).below hb⟩
def IsAu (w : World) (v : Value) (A : Au) : Prop := ∃ fv rv, v = .agg #[.int .i64 A.st, fv, rv] ∧ IsInts w fv A.fin ∧ IsRus w rv A.ru
theorem IsAu.below {w w' : World} {v : Value} {A : Au} (h : IsAu w v A) (hb : Below w.heap.size w w') : IsAu w' v A := by
  obtain ⟨fv, rv, e, h1, h2⟩ := h
  exact ⟨fv, rv, e, h1.below hb, h2.below hb⟩

def stIn (st s : Int) : Bool := decide (0 ≤ s) && decide (s < st)
def finB (st : Int) : Int → List Int → Bool
  | _, [] => true
  | last, s :: l => decide (last < s) && (decide (s < st) && finB st s l)
def ruB (al : List Int) (st : Int) (r : Ru) : Bool :=
  decide (0 ≤ r.sym) && (decide (r.sym < al.length) && (((r.fr.length : Int) == al.getD r.sym.toNat 0) && (stIn st r.to && r.fr.all (stIn st))))
def validA (al : List Int) (A : Au) : Bool :=
  validAl al && (decide (0 ≤ A.st) && (decide (A.st ≤ 300) && (decide ((A.ru.length : Int) ≤ 20000) && (finB A.st (-1) A.fin && A.ru.all (ruB al A.st)))))

set_option maxRecDepth 100000 in
set_option maxHeartbeats 1000000 in
theorem hasState_ok (A : Au) (v : Value) (s : Int) (w : World) (h : IsAu w v A) :
    Calls Tryd.prog 70 #[v, .int .i64 s] w fun e w' => e = .returned (.bool (stIn A.st s)) ∧ Below w.heap.size w w' := by
  obtain ⟨fv, rv, rfl, hf, hr⟩ := h
  obtain ⟨p1, c1, rfl, _⟩ := hf
  obtain ⟨p2, c2, rfl, _⟩ := hr
  by_cases h1 : 0 ≤ s
  · by_cases h2 : s < A.st
    · have d2 : decide (s < A.st) = true := decide_eq_true h2
      go_enter Tryd.func70, Tryd.ntmps70
      go_wp2_with fail
      go_ret
      exact ⟨ret_bool (by simp [stIn, h1, h2]), (Below.refl _ w).alloc (Nat.le_refl _) _⟩
    · have d2 : decide (s < A.st) = false := decide_eq_false h2
      go_enter Tryd.func70, Tryd.ntmps70
      go_wp2_with fail
      go_ret
      exact ⟨ret_bool (by simp [stIn, h2]), (Below.refl _ w).alloc (Nat.le_refl _) _⟩
  · have d1 : decide (0 ≤ s) = false := decide_eq_false h1
    go_enter Tryd.func70, Tryd.ntmps70
    go_wp2_with fail
    go_ret
    exact ⟨ret_bool (by simp [stIn, h1]; try omega), (Below.refl _ w).alloc (Nat.le_refl _) _⟩

set_option maxRecDepth 100000 in
set_option maxHeartbeats 1000000 in
theorem validFinal_ok (A : Au) (v : Value) (w : World) (h : IsAu w v A) :
    Calls Tryd.prog 50 #[v] w fun e w' => e = .returned (.bool (finB A.st (-1) A.fin)) ∧ Below w.heap.size w w' := by
  obtain ⟨fv, rv, rfl, hf, hr⟩ := h
  obtain ⟨p2, c2, rfl, _⟩ := hr
  have hbw : Below w.heap.size w (w.alloc (.cells #[.int .i64 A.st, fv, .slice p2 A.ru.length c2] 27)) := (Below.refl _ w).alloc (Nat.le_refl _) _
  have hf2 := hf.below hbw
  have HX := Lib.hid (Blk.new w 27 #[.int .i64 A.st, fv, .slice p2 A.ru.length c2])
  obtain ⟨p, c, rfl, hc1, hc2, hcell⟩ := hf2
  unfold maxLen at hc2
  have HC := Lib.hid hcell
  have HB := Lib.hid hbw
  obtain ⟨st, fin, ru⟩ := A
  simp only at *
  clear hcell hbw hf
  go_enter Tryd.func50, Tryd.ntmps50
  go_wp2_with fail
  go_loop [3, 9] (fun lv iv => ∃ (k : Nat) (last : Int), lv = .int .i64 last ∧ iv = .int .i64 (k : Nat) ∧ k ≤ fin.length ∧ Hid (finB st (-1) fin = finB st last (fin.drop k))) (fun _ iv => fin.length - (intOf iv).toNat)
  case atStart => exact ⟨0, -1, rfl, rfl, by omega, Lib.hid rfl⟩
  case round =>
    obtain ⟨k, last, rfl, rfl, hk, HE⟩ := hrel
    by_cases hlt : k < fin.length
    · obtain ⟨s, hs⟩ : ∃ s, fin[k]? = some s := ⟨_, List.getElem?_eq_getElem hlt⟩
      obtain ⟨b, o, rfl, hcl⟩ := HC.out (fun h => by simp [h] at hlt)
      have c1 := hcl k s hs
      have hbl := World.block_lt_of_cell? _ _ c1
      simp only at hbl
      have x0 : (w.alloc (.cells #[.int .i64 st, .slice (some ⟨b, o, none⟩) fin.length c, .slice p2 ru.length c2] 27)).cell? ⟨w.heap.size, 0, none⟩ = some (.int .i64 st) := by rw [HX.out.cell]; rfl
      have hd : Hid (fin.drop k = s :: fin.drop (k + 1)) := Lib.hid (by
        rw [List.drop_eq_getElem_cons hlt]
        congr 1
        exact (List.getElem?_eq_some_iff.1 hs).2)
      have hlt1 : (k : Int) < (fin.length : Int) := by omega
      clear hs hcl
      by_cases h1 : last < s
      · have d1 : decide (s ≤ last) = false := decide_eq_false (by omega)
        have n1 : ¬ s ≤ last := by omega
        by_cases h2 : s < st
        · have d2 : decide (st ≤ s) = false := decide_eq_false (by omega)
          have n2 : ¬ st ≤ s := by omega
          go_wp2_with fail
          go_round
          case rel => exact ⟨k + 1, s, rfl, by go_num, by omega, Lib.hid (by rw [HE.out, hd.out, finB]; simp [h1, h2])⟩
          case measure => simp [intOf]; omega
        · have d2 : decide (st ≤ s) = true := decide_eq_true (by omega)
          have n2 : st ≤ s := by omega
          go_wp2_with fail
          go_ret
          exact ⟨ret_bool (by rw [HE.out, hd.out, finB]; simp [h2]; try (intros; omega)), HB.out⟩
      · have d1 : decide (s ≤ last) = true := decide_eq_true (by omega)
        have n1 : s ≤ last := by omega
        go_wp2_with fail
        go_ret
        exact ⟨ret_bool (by rw [HE.out, hd.out, finB]; simp [h1]; try (intros; omega)), HB.out⟩
    · have hd : Hid (fin.drop k = []) := Lib.hid (List.drop_eq_nil_iff.2 (by omega))
      have hge : fin.length ≤ k := by omega
      go_wp2_with fail
      go_ret
      exact ⟨ret_bool (by rw [HE.out, hd.out, finB]), HB.out⟩

end Go.Proofs.YtopineheelkcmaaDoor
