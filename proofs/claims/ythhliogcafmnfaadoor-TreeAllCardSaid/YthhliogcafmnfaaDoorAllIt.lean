/- All the iterators over trees and lists of trees. -/
import Derived.Test.YthhliogcafmnfaaDoorSplit
namespace Go.Proofs.YthhliogcafmnfaaDoor
open Go.RowKit Go.Shelf

theorem all_forests (wB : World) (b : Nat) (rv : Value) (ranks : List Nat) (hB : Cens wB b rv ranks) : ∀ (n : Nat), n ≤ 12 → ∀ k, k ≤ 3 → FIter wB ranks b k n := by
  intro n
  induction n using Nat.strongRecOn with
  | ind n ih =>
    intro hn k hk
    refine forests_iter wB b rv ranks hB k n hk hn (fun s hk1 hs1 hsn => ?_)
    refine split_any wB b rv ranks hB k n s hk1 hk hs1 hsn hn ?_ (ih (n - s) (by omega) (by omega) (k - 1) (by omega))
    exact trees_iter wB b rv ranks hB s hs1 (by omega) (fun r hr => ih (s - 1) (by omega) (by omega) r (hB.le r hr))
theorem all_trees (wB : World) (b : Nat) (rv : Value) (ranks : List Nat) (hB : Cens wB b rv ranks) (m : Nat) (h1 : 1 ≤ m) (h2 : m ≤ 12) : TIter wB ranks b m :=
  trees_iter wB b rv ranks hB m h1 h2 (fun r hr => all_forests wB b rv ranks hB (m - 1) (by omega) r (hB.le r hr))

end Go.Proofs.YthhliogcafmnfaaDoor
