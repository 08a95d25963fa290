/- ref01.List of equals. -/
import Derived.Test.YtopineheelkcmaaDoorRTValid
import Derived.BigQuiet
namespace Go.Proofs.YtopineheelkcmaaDoor
open Go.RowKit Go.Shelf

set_option maxRecDepth 100000 in
set_option maxHeartbeats 1000000 in
theorem list01_ok (l : List Int) (v v' : Value) (w : World) (hv : IsInts w v l) (hv' : IsInts w v' l) :
    Calls Tryd.prog 29 #[v, v'] w fun e w' => e = .returned (.bool true) ∧ Below w.heap.size w w' := by
  obtain ⟨p, c, rfl, hc1, hc2, hcell⟩ := hv
  obtain ⟨p', c', rfl, hc1', hc2', hcell'⟩ := hv'
  unfold maxLen at hc2 hc2'
  have HC := Lib.hid hcell
  have HC' := Lib.hid hcell'
  clear hcell hcell'
  go_enter Tryd.func29, Tryd.ntmps29
  go_wp2_with fail
  go_loopw [13] (fun i wr => ∃ k : Nat, i = .int .i64 k ∧ k ≤ l.length ∧ Hid (Below w.heap.size w wr)) (fun i _ => l.length - (intOf i).toNat)
  case atStart => exact ⟨0, rfl, by omega, Lib.hid (Below.refl _ _)⟩
  case round =>
    obtain ⟨k, rfl, hk, HB⟩ := hrel
    by_cases hlt : k < l.length
    · obtain ⟨r, hr⟩ : ∃ r, l[k]? = some r := ⟨_, List.getElem?_eq_getElem hlt⟩
      obtain ⟨b, o, rfl, hcl⟩ := HC.out (fun h => by simp [h] at hlt)
      obtain ⟨b', o', rfl, hcl'⟩ := HC'.out (fun h => by simp [h] at hlt)
      have c1 := cell_later HB.out (hcl k r hr)
      have c2 := cell_later HB.out (hcl' k r hr)
      have hbl := World.block_lt_of_cell? _ _ c1
      have hbl' := World.block_lt_of_cell? _ _ c2
      simp only at hbl hbl'
      clear hr hcl hcl'
      go_wp2_with fail
      go_quiet (fail)
      go_wp2_with fail
      go_roundw
      case rel => exact ⟨k + 1, by go_num, by omega, Lib.hid (below_drewN HB.out _)⟩
      case measure => simp [intOf]; omega
    · have hge : l.length ≤ k := by omega
      clear hlt
      go_wp2_with fail
      go_ret
      exact ⟨rfl, HB.out⟩

end Go.Proofs.YtopineheelkcmaaDoor
