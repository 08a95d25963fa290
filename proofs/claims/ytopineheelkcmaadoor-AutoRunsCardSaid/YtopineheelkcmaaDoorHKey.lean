/- The key rule.Head. -/
import Derived.Test.YtopineheelkcmaaDoorHead
import Derived.DeepKeys4
import Derived.Maps.Own
import Derived.Maps.Keyed
namespace Go.Proofs.YtopineheelkcmaaDoor
open Go.RowKit Go.Shelf Go.Maps Go.WideMaps

theorem hd_laidOut : laidOutB Tryd.prog = true := by kernel_rfl
theorem hd_row : (97 : TypeId) < Tryd.prog.types.size := of_decide_eq_true (by kernel_rfl)
theorem hd_wide : (match Tryd.prog.underlying 97 with | some (.array _ _) | some (.struct _) => true | _ => false) = true := by rw [Tryd.underlying97]
set_option maxRecDepth 100000 in
theorem hd_law : KeyLaw Tryd.prog 97 := deep_law_laid hd_laidOut (m := 3) (by omega) hd_row (by kernel_rfl) hd_wide
theorem hd_keyed : Keyed Tryd.prog 97 := Keyed.of_law hd_law
theorem hd_cells : Tryd.prog.cellsOf 97 = 4 := by kernel_rfl
theorem hd_cells3 : Tryd.prog.cellsOf 95 = 3 := by kernel_rfl
theorem hd_cells1 : Tryd.prog.cellsOf 3 = 1 := by kernel_rfl
theorem hd_kt : Tryd.prog.keyType 97 = true := by kernel_rfl
theorem hd_size : ∃ m, Tryd.prog.types.size = m + 3 := ⟨Tryd.prog.types.size - 3, by have : 3 ≤ Tryd.prog.types.size := of_decide_eq_true (by kernel_rfl); omega⟩

def klOf (s a b c : Int) : Lit := .string (keyBytes [.int .i64 s, .int .i64 a, .int .i64 b, .int .i64 c])

set_option maxRecDepth 100000 in
theorem hd_keyOf {s a b c : Int} (hs : (Lit.int .i64 s).wf = true) (ha : (Lit.int .i64 a).wf = true) (hb : (Lit.int .i64 b).wf = true) (hc : (Lit.int .i64 c).wf = true) :
    keyOf Tryd.prog 97 (keyV s a b c) = some (klOf s a b c) := by
  obtain ⟨m, hm⟩ := hd_size
  unfold keyOf keyV
  simp only [Tryd.underlying97]
  rw [if_pos (by simp [hd_kt, Value.formed, Tryd.underlying97, hd_cells]), hm]
  have h3 : ∀ d, Tryd.prog.keyLits (d + 2) 95 [.int .i64 a, .int .i64 b, .int .i64 c] = some [.int .i64 a, .int .i64 b, .int .i64 c] := fun d => by
    unfold Program.keyLits
    simp only [Tryd.underlying95]
    rw [if_pos (by rw [hd_cells3]; rfl), show List.range 3 = [0, 1, 2] from rfl, List.mapM_cons, List.mapM_cons, List.mapM_cons, List.mapM_nil]
    simp [hd_cells1, Program.keyLits, Tryd.underlying3, ha, hb, hc]
  have h1 : ∀ d, Tryd.prog.keyLits (d + 1) 3 [.int .i64 s] = some [.int .i64 s] := fun d => by
    simp [Program.keyLits, Tryd.underlying3, hs]
  unfold Program.keyLits
  simp only [Tryd.underlying97, Value.cells]
  rw [if_pos (by rw [hd_cells]; exact ⟨rfl, by kernel_rfl⟩)]
  simp [hd_cells1, hd_cells3, h3, h1, klOf]

set_option maxRecDepth 100000 in
theorem kl_inj {s a b c s' a' b' c' : Int} (hs : (Lit.int .i64 s).wf = true) (ha : (Lit.int .i64 a).wf = true) (hb : (Lit.int .i64 b).wf = true) (hc : (Lit.int .i64 c).wf = true) (hs' : (Lit.int .i64 s').wf = true) (ha' : (Lit.int .i64 a').wf = true) (hb' : (Lit.int .i64 b').wf = true) (hc' : (Lit.int .i64 c').wf = true)
    (h : klOf s a b c = klOf s' a' b' c') : s = s' ∧ a = a' ∧ b = b' ∧ c = c' := by
  have := hd_keyed.inj (hd_keyOf hs ha hb hc) (h ▸ hd_keyOf hs' ha' hb' hc')
  simpa [keyV] using this

end Go.Proofs.YtopineheelkcmaaDoor
