/- law02.same. -/
import Derived.Test.YtkbcehapalcadabRefNodes
import Derived.Test.YtkbcehapalcadabParts
import Derived.Deep.QuietTactic
import Derived.BigQuiet
namespace Go.Proofs.Ytkbcehapalcadab
open Go.RowKit Go.Shelf

theorem neq_info (a b c d : Int) (W : World) : (binOp .neq 81 (.agg #[.int .i64 a, .int .i64 b, .int .i64 c, .int .i64 d]) (.agg #[.int .i64 a, .int .i64 b, .int .i64 c, .int .i64 d])).run Try.prog W = .ok (.bool false) W := by
  simp only [binOp]
  simp [Op.equal, Op.maxDepth, run_equalIn_struct, go_sem, Try.underlying81, Try.underlying3]

theorem below_drewN {B : Nat} {a w : World} (h : Below B a w) (n : Nat) : Below B a (w.drewN n) := ⟨h.os, h.tape, h.output, h.size, h.block⟩

theorem cells_of_info {w : World} {base : Nat} {e : TypeId} {g cap n : Nat} {F : List (Int × Int × Int × Int)} (h : w.ownsRow base e 4 (.slice (some ⟨g, 0, none⟩) n cap) n (cs4 F)) {i : Nat} {x : Int × Int × Int × Int} (hx : F[i]? = some x) (hi : i < n) (hF : F.length = n) :
    w.cell? ⟨g, i * 4, none⟩ = some (.int .i64 x.1) ∧ w.cell? ⟨g, i * 4 + 1, none⟩ = some (.int .i64 x.2.1) ∧ w.cell? ⟨g, i * 4 + 2, none⟩ = some (.int .i64 x.2.2.1) ∧ w.cell? ⟨g, i * 4 + 3, none⟩ = some (.int .i64 x.2.2.2) := by
  refine ⟨?_, ?_, ?_, ?_⟩
  · have := cs4_get F i x hx 0 (by omega)
    rw [h.cellAt _ (by omega)]; simpa [c4] using this
  · rw [h.cellAt _ (by omega), cs4_get F i x hx 1 (by omega)]; rfl
  · rw [h.cellAt _ (by omega), cs4_get F i x hx 2 (by omega)]; rfl
  · rw [h.cellAt _ (by omega), cs4_get F i x hx 3 (by omega)]; rfl

set_option maxRecDepth 100000 in
set_option maxHeartbeats 1000000 in
theorem same_ok (F : List (Int × Int × Int × Int)) (n : Nat) (hn : F.length = n) (hpos : 0 < n) (b1 b2 : Nat) (v1 v2 : Value) (w : World) (h1 : w.ownsRow b1 58 4 v1 n (cs4 F)) (h2 : w.ownsRow b2 81 4 v2 n (cs4 F)) :
    Calls Try.prog 30 #[v1, v2] w fun e w' => e = .returned (.bool true) ∧ Below w.heap.size w w' := by
  obtain ⟨m, rfl⟩ : ∃ m, n = m + 1 := ⟨n - 1, by omega⟩
  obtain ⟨g1, cap1, rfl⟩ := ownsRow_succ h1
  obtain ⟨g2, cap2, rfl⟩ := ownsRow_succ h2
  obtain ⟨hc1, hc2⟩ := World.ownsRow_bounds h1
  obtain ⟨hc3, hc4⟩ := World.ownsRow_bounds h2
  have H1 := Lib.hid h1
  have H2 := Lib.hid h2
  have HN := Lib.hid hn
  clear h1 h2 hn
  go_enter Try.func30, Try.ntmps30
  go_wp2
  go_loopw [13] (fun i wr => ∃ (k q : Nat), i = .int .i64 k ∧ k ≤ m + 1 ∧ wr = w.drewN q) (fun i _ => m + 1 - (intOf i).toNat)
  case atStart => exact ⟨0, 0, rfl, by omega, rfl⟩
  case round =>
    obtain ⟨k, q, rfl, hk, rfl⟩ := hrel
    by_cases hlt : k < m + 1
    · obtain ⟨⟨xa, xb, xc, xd⟩, hx⟩ : ∃ x, F[k]? = some x := ⟨_, List.getElem?_eq_getElem (by have := HN.out; omega)⟩
      obtain ⟨a1, a2, a3, a4⟩ := cells_of_info H1.out hx hlt HN.out
      obtain ⟨e1, e2, e3, e4⟩ := cells_of_info H2.out hx hlt HN.out
      simp only at a1 a2 a3 a4 e1 e2 e3 e4
      have hne := neq_info xa xb xc xd
      have hk0 : (0 : Int) ≤ (k : Int) := by omega
      have hk1 : (k : Int) < (m : Int) + 1 := by omega
      clear hx
      go_wp2_with fail
      go_quiet (fail)
      go_wp2_with fail
      go_roundw
      case rel => exact ⟨k + 1, q + nq, by go_num, by omega, by simp [World.drewN_drewN]⟩
      case measure => simp [intOf]; omega
    · have hge : m + 1 ≤ k := by omega
      clear hlt
      go_wp2_with fail
      go_ret
      exact ⟨rfl, below_drewN (Below.refl _ _) _⟩

set_option maxHeartbeats 400000 in
theorem same_nil (w : World) : Calls Try.prog 30 #[.slice none 0 0, .slice none 0 0] w fun e w' => e = .returned (.bool true) ∧ Below w.heap.size w w' := by
  go_enter Try.func30, Try.ntmps30
  go_wp2
  go_loop [13] (fun i => i = .int .i64 0) (fun _ => 0)
  case atStart => rfl
  case round =>
    subst hrel
    go_wp2
    go_ret
    exact ⟨rfl, Below.refl _ _⟩

end Go.Proofs.Ytkbcehapalcadab
