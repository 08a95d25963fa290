/- rule.HeadOf. -/
import Derived.Test.YtopineheelkcmaaDoorAu
import Derived.Laws.CopyOwn
import Derived.Shelf.Abstract
namespace Go.Proofs.YtopineheelkcmaaDoor
open Go.RowKit Go.Shelf

theorem splice_head (s : Int) (fr : List Int) (hl : fr.length ≤ 3) : splice [.int .i64 s, .int .i64 0, .int .i64 0, .int .i64 0] 1 (fr.map (Value.int .i64)) = [.int .i64 s, .int .i64 (fr.getD 0 0), .int .i64 (fr.getD 1 0), .int .i64 (fr.getD 2 0)] := by
  rcases fr with _ | ⟨a, _ | ⟨b, _ | ⟨c, _ | ⟨d, r⟩⟩⟩⟩ <;> first | rfl | (exfalso; simp at hl)
def keyV (s a b c : Int) : Value := .agg #[.int .i64 s, .int .i64 a, .int .i64 b, .int .i64 c]
def hdV (s : Int) (fr : List Int) : Value := keyV s (fr.getD 0 0) (fr.getD 1 0) (fr.getD 2 0)

set_option maxRecDepth 100000 in
set_option maxHeartbeats 1000000 in
theorem headOf_ok (s : Int) (fr : List Int) (v : Value) (w : World) (hv : IsInts w v fr) (hl : fr.length ≤ 3) :
    Calls Tryd.prog 77 #[.int .i64 s, v] w fun e w' => e = .returned (hdV s fr) ∧ Below w.heap.size w w' := by
  obtain ⟨p, c, rfl, hc1, hc2, hcell⟩ := hv
  unfold maxLen at hc2
  have HC := Lib.hid hcell
  have HS4 : Hid ((Tryd.prog.info? 97).map (·.size) = some 4) := Lib.hid (by kernel_rfl)
  have HSZ : Hid ((Tryd.prog.info? 3).map (·.size) = some 1) := Lib.hid (by kernel_rfl)
  have HB0 : Hid (Below w.heap.size w ((w.alloc (.cells #[.int .i64 0, .int .i64 0, .int .i64 0, .int .i64 0] 97)).alloc (.cells #[.int .i64 s, .int .i64 0, .int .i64 0, .int .i64 0] 97))) := Lib.hid (((Below.refl _ w).alloc (Nat.le_refl _) _).alloc (by simp) _)
  have HX : Hid (Blk ((w.alloc (.cells #[.int .i64 0, .int .i64 0, .int .i64 0, .int .i64 0] 97)).alloc (.cells #[.int .i64 s, .int .i64 0, .int .i64 0, .int .i64 0] 97)) (w.heap.size + 1) 97 #[.int .i64 s, .int .i64 0, .int .i64 0, .int .i64 0]) := Lib.hid (by simpa using Blk.new (w.alloc (.cells #[.int .i64 0, .int .i64 0, .int .i64 0, .int .i64 0] 97)) 97 #[.int .i64 s, .int .i64 0, .int .i64 0, .int .i64 0])
  have HXR : Hid (((w.alloc (.cells #[.int .i64 0, .int .i64 0, .int .i64 0, .int .i64 0] 97)).alloc (.cells #[.int .i64 s, .int .i64 0, .int .i64 0, .int .i64 0] 97)).heap[w.heap.size + 1]? = some (.cells ([.int .i64 s, .int .i64 0, .int .i64 0, .int .i64 0] : List Value).toArray 97 (0, 0))) := Lib.hid HX.out
  clear hcell
  go_enter Tryd.func77, Tryd.ntmps77
  go_wp2_with (with_reducible refine wpList_copy_splice rfl (.tmp 9) (.tmp 10) 22 22 rfl 3 Tryd.underlying22 HSZ.out (some ⟨w.heap.size + 1, 1, none⟩) p 3 3 fr.length c rfl rfl (w.heap.size + 1) 1 [.int .i64 s, .int .i64 0, .int .i64 0, .int .i64 0] 97 HXR.out (fr.map (Value.int .i64)) ?c1 ?c2 ?c3 ?c4 (w.heap.size + 1) ((w.alloc (.cells #[.int .i64 0, .int .i64 0, .int .i64 0, .int .i64 0] 97)).alloc (.cells #[.int .i64 s, .int .i64 0, .int .i64 0, .int .i64 0] 97)) (Below.refl _ _) (Nat.le_refl _) ?_)
  case c1 => simp [Nat.min_eq_left hl]
  case c2 =>
    intro h0
    obtain ⟨b, o, rfl, hcl⟩ := HC.out (by rintro rfl; simp at h0)
    refine ⟨_, rfl, fun j x hx => ?_⟩
    have h := cell_later HB0.out (hcl j x hx)
    rw [show ((⟨b, o, none⟩ : Addr).add j) = ⟨b, o + j, none⟩ by unfold Addr.add; split <;> simp_all]
    exact h
  case c3 => simp; omega
  case c4 =>
    intro x hx
    obtain ⟨y, _, rfl⟩ := List.mem_map.1 hx
    rfl
  intro w2 hg2 hb2
  have hx := hg2.out
  rw [splice_head s fr hl] at hx
  have hX : Blk w2 (w.heap.size + 1) 97 #[.int .i64 s, .int .i64 (fr.getD 0 0), .int .i64 (fr.getD 1 0), .int .i64 (fr.getD 2 0)] := hx
  have x0 : w2.cell? ⟨w.heap.size + 1, 0, none⟩ = some (.int .i64 s) := by rw [hX.cell]; rfl
  have x1 : w2.cell? ⟨w.heap.size + 1, 1, none⟩ = some (.int .i64 (fr.getD 0 0)) := by rw [hX.cell]; rfl
  have x2 : w2.cell? ⟨w.heap.size + 1, 2, none⟩ = some (.int .i64 (fr.getD 1 0)) := by rw [hX.cell]; rfl
  have x3 : w2.cell? ⟨w.heap.size + 1, 3, none⟩ = some (.int .i64 (fr.getD 2 0)) := by rw [hX.cell]; rfl
  have HX2 := Lib.hid hX
  have HA : Hid (Blk w2 w.heap.size 97 #[.int .i64 0, .int .i64 0, .int .i64 0, .int .i64 0]) := Lib.hid (((Blk.new w 97 #[.int .i64 0, .int .i64 0, .int .i64 0, .int .i64 0]).alloc (.cells #[.int .i64 s, .int .i64 0, .int .i64 0, .int .i64 0] 97)).below hb2 (by omega))
  have HB2 : Hid (Below w.heap.size w w2) := Lib.hid (HB0.out.trans (hb2.mono (Nat.le_succ _)))
  have a0 : w2.cell? ⟨w.heap.size, 0, none⟩ = some (.int .i64 0) := by rw [HA.out.cell]; rfl
  have f0 : w2.frozen? ⟨w.heap.size, 0, none⟩ = false := HA.out.frozen _
  have a1 : w2.cell? ⟨w.heap.size, 1, none⟩ = some (.int .i64 0) := by rw [HA.out.cell]; rfl
  have f1 : w2.frozen? ⟨w.heap.size, 1, none⟩ = false := HA.out.frozen _
  have a2 : w2.cell? ⟨w.heap.size, 2, none⟩ = some (.int .i64 0) := by rw [HA.out.cell]; rfl
  have f2 : w2.frozen? ⟨w.heap.size, 2, none⟩ = false := HA.out.frozen _
  have a3 : w2.cell? ⟨w.heap.size, 3, none⟩ = some (.int .i64 0) := by rw [HA.out.cell]; rfl
  have f3 : w2.frozen? ⟨w.heap.size, 3, none⟩ = false := HA.out.frozen _
  have hla := HA.out.lt
  have hlx := hX.lt
  generalize hg0 : fr.getD 0 0 = g0 at *
  generalize hg1 : fr.getD 1 0 = g1 at *
  generalize hg2 : fr.getD 2 0 = g2 at *
  have HK : Hid (hdV s fr = keyV s g0 g1 g2) := Lib.hid (by unfold hdV; rw [hg0, hg1, hg2])
  clear hx hX hb2 hg0 hg1 hg2
  go_wp2_with fail
  refine bodyPost_ret (results_cell_row rfl _ _ w.heap.size 97 #[.int .i64 s, .int .i64 g0, .int .i64 g1, .int .i64 g2] (0, 0) _ rfl (by have h := (((HA.out.set_ 0 (.int .i64 s)).set_ 1 (.int .i64 g0)).set_ 2 (.int .i64 g1)).set_ 3 (.int .i64 g2); exact h) Tryd.underlying97 rfl HS4.out) rfl ⟨?_, ?_⟩
  · rw [HK.out]; rfl
  · exact (((HB2.out.setCell (p := ⟨w.heap.size, 0, none⟩) (Nat.le_refl _) _).setCell (p := ⟨w.heap.size, 1, none⟩) (Nat.le_refl _) _).setCell (p := ⟨w.heap.size, 2, none⟩) (Nat.le_refl _) _).setCell (p := ⟨w.heap.size, 3, none⟩) (Nat.le_refl _) _

end Go.Proofs.YtopineheelkcmaaDoor
