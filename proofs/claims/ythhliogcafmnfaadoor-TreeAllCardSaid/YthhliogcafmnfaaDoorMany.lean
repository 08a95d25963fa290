/- ref01.many. -/
import Derived.Test.YthhliogcafmnfaaDoorWays
namespace Go.Proofs.YthhliogcafmnfaaDoor
open Go.RowKit Go.Shelf

set_option maxRecDepth 100000 in
set_option maxHeartbeats 1000000 in
theorem many_ok (ranks : List Nat) (v : Value) (n : Nat) (w : World) (hv : IsInts w v (ranks.map (fun r : Nat => (r : Int)))) (hr : ∀ r ∈ ranks, r ≤ 3) (hlen : ranks.length ≤ 12) (hn : n ≤ 12) :
    Calls Tryd.prog 78 #[.agg #[v], .int .i64 (n : Nat)] w fun e w' => e = .returned (.int .i64 (c30 (Wn ranks 1 n) : Nat)) ∧ Below w.heap.size w w' := by
  have hbw : Below w.heap.size w (w.alloc (.cells #[v] 24)) := (Below.refl _ w).alloc (Nat.le_refl _) _
  have HW := Lib.hid (ways_ok ranks v 1 n _ (hv.below hbw) hr hlen (by omega) hn)
  obtain ⟨p, c, rfl, hc1, hc2, hcell⟩ := hv
  have HBW := Lib.hid hbw
  rw [List.length_map] at HW HBW hc1
  rw [List.length_map]
  clear hbw hr hcell
  go_enter Tryd.func78, Tryd.ntmps78
  go_wp2_with fail
  refine HW.out.mono ?_
  rintro e w1 ⟨rfl, hb⟩
  have HB := Lib.hid (HBW.out.trans (hb.mono (by simp)))
  clear hb
  go_wp2_with fail
  go_ret
  exact ⟨rfl, HB.out⟩

end Go.Proofs.YthhliogcafmnfaaDoor
