/- Alphabets: tree.ValidAlphabet, fits; ref01.ValidAlphabet. -/
import Derived.Test.YtopineheelkcmaaDoorRows
import Derived.Test.YtopineheelkcmaaDoorHgS
import Derived.Deep.QuietTactic
import Derived.BigQuiet
namespace Go.Proofs.YtopineheelkcmaaDoor
open Go.RowKit

/-- A slice that reads as a list of numbers. -/
def IsInts (w : World) (v : Value) (l : List Int) : Prop :=
  ∃ p c, v = .slice p l.length c ∧ l.length ≤ c ∧ c ≤ maxLen ∧ (l ≠ [] → ∃ b o, p = some ⟨b, o, none⟩ ∧ ∀ (i : Nat) (x : Int), l[i]? = some x → w.cell? ⟨b, o + i, none⟩ = some (.int .i64 x))
theorem IsInts.below {w w' : World} {v : Value} {l : List Int} (h : IsInts w v l) (hb : Below w.heap.size w w') : IsInts w' v l := by
  obtain ⟨p, c, e, h1, h2, h3⟩ := h
  refine ⟨p, c, e, h1, h2, fun hne => ?_⟩
  obtain ⟨b, o, e, hc⟩ := h3 hne
  exact ⟨b, o, e, fun i x hx => cell_later hb (hc i x hx)⟩

def rok (r : Int) : Bool := decide (0 ≤ r) && decide (r ≤ 3)
def validAl (l : List Int) : Bool := decide (l.length ≤ 12) && l.all rok
/-- Whether a node with the symbol s and n subtrees fits the alphabet. -/
def fit (l : List Int) (s : Int) (n : Nat) : Bool := decide (0 ≤ s) && (decide (s < l.length) && ((n : Int) == l.getD s.toNat 0))

set_option maxRecDepth 100000 in
set_option maxHeartbeats 1000000 in
theorem validAlphabet_ok (l : List Int) (v : Value) (w : World) (hv : IsInts w v l) :
    Calls Tryd.prog 49 #[.agg #[v]] w fun e w' => e = .returned (.bool (validAl l)) ∧ Below w.heap.size w w' := by
  obtain ⟨p, c, rfl, hc1, hc2, hcell⟩ := hv
  unfold maxLen at hc2
  have HC := Lib.hid hcell
  clear hcell
  by_cases h12 : l.length ≤ 12
  · go_enter Tryd.func49, Tryd.ntmps49
    go_wp2
    go_loop [12] (fun i => ∃ k : Nat, i = .int .i64 k ∧ k ≤ l.length ∧ Hid ((l.take k).all rok = true)) (fun i => l.length - (intOf i).toNat)
    case atStart => exact ⟨0, rfl, by omega, Lib.hid (by simp)⟩
    case round =>
      obtain ⟨k, rfl, hk, ha⟩ := hrel
      by_cases hlt : k < l.length
      · obtain ⟨r, hr⟩ : ∃ r, l[k]? = some r := ⟨_, List.getElem?_eq_getElem hlt⟩
        obtain ⟨b, o, rfl, hcl⟩ := HC.out (fun h => by simp [h] at hlt)
        have c1 := hcl k r hr
        have hbl := World.block_lt_of_cell? _ _ c1
        simp only at hbl
        have hst : Hid ((l.take (k + 1)).all rok = rok r) := Lib.hid (by rw [List.take_add_one, hr]; simp [ha.out])
        have hmem : Hid (r ∈ l) := Lib.hid (List.mem_of_getElem? hr)
        clear hr hcl
        by_cases h1 : 0 ≤ r
        · by_cases h2 : r ≤ 3
          · go_wp2_with fail
            go_round
            case rel => exact ⟨k + 1, by go_num, by omega, Lib.hid (by rw [hst.out]; simp [rok, h1, h2])⟩
            case measure => simp [intOf]; omega
          · have h2' : 3 < r := by omega
            clear h2
            go_wp2_with fail
            go_ret
            exact ⟨ret_bool (by
              have := hmem.out
              simp only [validAl, Bool.false_eq, Bool.and_eq_false_iff]
              right
              rw [List.all_eq_false]
              exact ⟨r, this, by simp [rok]; omega⟩), (Below.refl _ _).alloc (Nat.le_refl _) _⟩
        · have h1' : r < 0 := by omega
          clear h1
          go_wp2_with fail
          go_ret
          exact ⟨ret_bool (by
            have := hmem.out
            simp only [validAl, Bool.false_eq, Bool.and_eq_false_iff]
            right
            rw [List.all_eq_false]
            exact ⟨r, this, by simp [rok]; omega⟩), (Below.refl _ _).alloc (Nat.le_refl _) _⟩
      · have hge : l.length ≤ k := by omega
        have ha2 : Hid (l.all rok = true) := Lib.hid (by have := ha.out; rwa [List.take_of_length_le hge] at this)
        clear hlt
        go_wp2_with fail
        go_ret
        exact ⟨ret_bool (by simp [validAl, h12, ha2.out]), (Below.refl _ _).alloc (Nat.le_refl _) _⟩
  · have h12' : 12 < l.length := by omega
    clear h12
    go_enter Tryd.func49, Tryd.ntmps49
    go_wp2
    go_ret
    exact ⟨ret_bool (by simp [validAl]; omega), (Below.refl _ _).alloc (Nat.le_refl _) _⟩

set_option maxRecDepth 100000 in
set_option maxHeartbeats 1000000 in
theorem fits_ok (l : List Int) (v : Value) (s : Int) (n : Nat) (pk : Option Addr) (ck : Nat) (w : World) (hv : IsInts w v l) (hn : n ≤ maxLen) :
    Calls Tryd.prog 91 #[.agg #[v], .agg #[.int .i64 s, .slice pk n ck]] w fun e w' => e = .returned (.bool (fit l s n)) ∧ Below w.heap.size w w' := by
  obtain ⟨p, c, rfl, hc1, hc2, hcell⟩ := hv
  unfold maxLen at hc2 hn
  have hba : ∀ o1 o2 q, Below w.heap.size w (((w.alloc o1).alloc o2).drewN q) := fun o1 o2 q => below_drewN (((Below.refl _ w).alloc (Nat.le_refl _) o1).alloc (by simp) o2) q
  have HC := Lib.hid hcell
  have HBA := Lib.hid hba
  clear hcell hba
  by_cases h1 : 0 ≤ s
  · by_cases h2 : s < l.length
    · obtain ⟨k, rfl⟩ := Int.eq_ofNat_of_zero_le h1
      have hk : k < l.length := by omega
      obtain ⟨r, hr⟩ : ∃ r, l[k]? = some r := ⟨_, List.getElem?_eq_getElem hk⟩
      obtain ⟨b, o, rfl, hcl⟩ := HC.out (fun h => by simp [h] at hk)
      have c1 := hcl k r hr
      have hbl := World.block_lt_of_cell? _ _ c1
      simp only at hbl
      have hbl2 : b < w.heap.size + 1 := by omega
      have hfit : Hid (fit l k n = ((n : Int) == r)) := Lib.hid (by simp [fit, h2, hr])
      clear hr hcl
      go_enter Tryd.func91, Tryd.ntmps91
      go_wp2_with fail
      go_quiet (fail)
      go_wp2_with fail
      go_ret
      exact ⟨ret_bool (by rw [hfit.out]), HBA.out _ _ _⟩
    · have h2' : (l.length : Int) ≤ s := by omega
      have hd : decide (s < (l.length : Int)) = false := by simpa using h2'
      have hfit : Hid (fit l s n = false) := Lib.hid (by simp [fit]; omega)
      clear h2
      go_enter Tryd.func91, Tryd.ntmps91
      go_wp2_with fail
      go_quiet (fail)
      go_wp2_with fail
      go_ret
      exact ⟨ret_bool (by rw [hfit.out]), HBA.out _ _ _⟩
  · have h1' : s < 0 := by omega
    have hd : decide (0 ≤ s) = false := by simpa using h1
    have hfit : Hid (fit l s n = false) := Lib.hid (by simp [fit]; omega)
    clear h1
    go_enter Tryd.func91, Tryd.ntmps91
    go_wp2_with fail
    go_quiet (fail)
    go_wp2_with fail
    go_ret
    exact ⟨ret_bool (by rw [hfit.out]), HBA.out _ _ _⟩

end Go.Proofs.YtopineheelkcmaaDoor
