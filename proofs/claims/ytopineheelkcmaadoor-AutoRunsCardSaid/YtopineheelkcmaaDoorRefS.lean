/- ref03.In, Meet, Insert. -/
import Derived.Test.YtopineheelkcmaaDoorSem

import Derived.Deep.RegionHeld3
import Derived.Shelf.Abstract
import Derived.Maps.AppendAt
namespace Go.Proofs.YtopineheelkcmaaDoor
open Go.RowKit Go.Shelf

theorem inB_drop {l : List Int} {n x : Int} {k : Nat} (h : l[k]? = some x) : inB (l.drop k) n = (x == n || inB (l.drop (k + 1)) n) := by
  have hlt := (List.getElem?_eq_some_iff.1 h).1
  rw [List.drop_eq_getElem_cons hlt, (List.getElem?_eq_some_iff.1 h).2]
  rfl

set_option maxRecDepth 100000 in
set_option maxHeartbeats 1000000 in
theorem in_ok (l : List Int) (v : Value) (n : Int) (w : World) (hv : IsInts w v l) :
    Calls Tryd.prog 43 #[v, .int .i64 n] w fun e w' => e = .returned (.bool (inB l n)) ∧ w = w' := by
  obtain ⟨p, c, rfl, hc1, hc2, hcell⟩ := hv
  unfold maxLen at hc2
  have HC := Lib.hid hcell
  clear hcell
  go_enter Tryd.func43, Tryd.ntmps43
  go_wp2_with fail
  go_loop [9] (fun iv => ∃ k : Nat, iv = .int .i64 (k : Nat) ∧ k ≤ l.length ∧ Hid (inB l n = inB (l.drop k) n)) (fun iv => l.length - (intOf iv).toNat)
  case atStart => exact ⟨0, rfl, by omega, Lib.hid rfl⟩
  case round =>
    obtain ⟨k, rfl, hk, HE⟩ := hrel
    by_cases hlt : k < l.length
    · obtain ⟨x, hx⟩ : ∃ x, l[k]? = some x := ⟨_, List.getElem?_eq_getElem hlt⟩
      obtain ⟨b, o, rfl, hcl⟩ := HC.out (fun h => by simp [h] at hlt)
      have c1 := hcl k x hx
      have hbl := World.block_lt_of_cell? _ _ c1
      simp only at hbl
      have HD := Lib.hid (inB_drop (n := n) hx)
      have hlt1 : (k : Int) < (l.length : Int) := by omega
      clear hx hcl
      by_cases h : x = n
      · have e1 : (x == n) = true := by simpa using h
        have HX := Lib.hid h
        clear h
        go_wp2_with fail
        go_ret
        exact ⟨ret_bool (by rw [HE.out, HD.out, e1]; rfl), rfl⟩
      · have e1 : (x == n) = false := by simpa using h
        go_wp2_with fail
        go_round
        case rel => exact ⟨k + 1, by go_num, by omega, Lib.hid (by rw [HE.out, HD.out, e1]; rfl)⟩
        case measure => simp [intOf]; omega
    · have hd : Hid (l.drop k = []) := Lib.hid (List.drop_eq_nil_iff.2 (by omega))
      have hge : l.length ≤ k := by omega
      clear hlt
      go_wp2_with fail
      go_ret
      exact ⟨ret_bool (by rw [HE.out, hd.out, inB]), rfl⟩

def meetB : List Int → List Int → Bool
  | [], _ => false
  | x :: l, m => inB m x || meetB l m
theorem meetB_drop {l m : List Int} {x : Int} {k : Nat} (h : l[k]? = some x) : meetB (l.drop k) m = (inB m x || meetB (l.drop (k + 1)) m) := by
  have hlt := (List.getElem?_eq_some_iff.1 h).1
  rw [List.drop_eq_getElem_cons hlt, (List.getElem?_eq_some_iff.1 h).2]
  rfl
theorem meetB_iff {l m : List Int} : meetB l m = true ↔ ∃ x ∈ l, x ∈ m := by
  induction l with
  | nil => simp [meetB]
  | cons x l ih => simp only [meetB, Bool.or_eq_true, inB_iff, ih, List.mem_cons, exists_eq_or_imp]

set_option maxRecDepth 100000 in
set_option maxHeartbeats 1000000 in
theorem meet_ok (l m : List Int) (v u : Value) (w : World) (hv : IsInts w v l) (hu : IsInts w u m) :
    Calls Tryd.prog 73 #[v, u] w fun e w' => e = .returned (.bool (meetB l m)) ∧ w = w' := by
  have HU := Lib.hid hu
  obtain ⟨p, c, rfl, hc1, hc2, hcell⟩ := hv
  obtain ⟨pu, cu, rfl, _⟩ := hu
  unfold maxLen at hc2
  have HC := Lib.hid hcell
  clear hcell
  go_enter Tryd.func73, Tryd.ntmps73
  go_wp2_with fail
  go_loop [9] (fun iv => ∃ k : Nat, iv = .int .i64 (k : Nat) ∧ k ≤ l.length ∧ Hid (meetB l m = meetB (l.drop k) m)) (fun iv => l.length - (intOf iv).toNat)
  case atStart => exact ⟨0, rfl, by omega, Lib.hid rfl⟩
  case round =>
    obtain ⟨k, rfl, hk, HE⟩ := hrel
    by_cases hlt : k < l.length
    · obtain ⟨x, hx⟩ : ∃ x, l[k]? = some x := ⟨_, List.getElem?_eq_getElem hlt⟩
      obtain ⟨b, o, rfl, hcl⟩ := HC.out (fun h => by simp [h] at hlt)
      have c1 := hcl k x hx
      have hbl := World.block_lt_of_cell? _ _ c1
      simp only at hbl
      have HD := Lib.hid (meetB_drop (m := m) hx)
      have hlt1 : (k : Int) < (l.length : Int) := by omega
      have HI := Lib.hid (in_ok m _ x w HU.out)
      clear hx hcl
      by_cases h : inB m x = true
      · rw [h] at HI
        have HX := Lib.hid h
        clear h
        go_wp2_with fail
        refine HI.out.mono ?_
        rintro e w1 ⟨rfl, rfl⟩
        go_wp2_with fail
        go_ret
        exact ⟨ret_bool (by rw [HE.out, HD.out, HX.out]; rfl), rfl⟩
      · have h' : inB m x = false := by simpa using h
        rw [h'] at HI
        have HX := Lib.hid h'
        clear h h'
        go_wp2_with fail
        refine HI.out.mono ?_
        rintro e w1 ⟨rfl, rfl⟩
        go_wp2_with fail
        go_round
        case rel => exact ⟨k + 1, by go_num, by omega, Lib.hid (by rw [HE.out, HD.out, HX.out]; rfl)⟩
        case measure => simp [intOf]; omega
    · have hd : Hid (l.drop k = []) := Lib.hid (List.drop_eq_nil_iff.2 (by omega))
      have hge : l.length ≤ k := by omega
      clear hlt
      go_wp2_with fail
      go_ret
      exact ⟨ret_bool (by rw [HE.out, hd.out, meetB]), rfl⟩

end Go.Proofs.YtopineheelkcmaaDoor
