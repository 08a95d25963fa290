/- The census of trees: countLists. -/
import Derived.Test.YthhliogcafmnfaaDoorCen
import Derived.Test.YthhliogcafmnfaaDoorAlpha
import Derived.Test.YthhliogcafmnfaaDoorSubs
import Derived.Shelf.Abstract
import Derived.Deep.RegionHeld3
import Derived.Deep.QuietTactic
import Derived.BigQuiet
namespace Go.Proofs.YthhliogcafmnfaaDoor
open Go.RowKit Go.Shelf

/-- The census at block b: the ranks' slice, and the numbers v k n. -/
def Cn (w : World) (b : Nat) (rv : Value) (v : Nat → Nat → Nat) : Prop :=
  ∃ cs, Blk w b 98 cs ∧ cs.size = 53 ∧ cs[0]? = some rv ∧ ∀ k n, k < 4 → n < 13 → cs[1 + k * 13 + n]? = some (.int .i64 (v k n : Nat))
theorem Cn.cell {w : World} {b : Nat} {rv : Value} {v : Nat → Nat → Nat} (h : Cn w b rv v) {k n : Nat} (hk : k < 4) (hn : n < 13) : w.cell? ⟨b, 1 + k * 13 + n, none⟩ = some (.int .i64 (v k n : Nat)) := by
  obtain ⟨cs, hb, _, _, hc⟩ := h
  rw [hb.cell]; exact hc k n hk hn
theorem Cn.ranks {w : World} {b : Nat} {rv : Value} {v : Nat → Nat → Nat} (h : Cn w b rv v) : w.cell? ⟨b, 0, none⟩ = some rv := by
  obtain ⟨cs, hb, _, h0, _⟩ := h
  rw [hb.cell]; exact h0
theorem Cn.lt {w : World} {b : Nat} {rv : Value} {v : Nat → Nat → Nat} (h : Cn w b rv v) : b < w.heap.size := by
  obtain ⟨cs, hb, _⟩ := h; exact hb.lt
theorem Cn.frozen {w : World} {b : Nat} {rv : Value} {v : Nat → Nat → Nat} (h : Cn w b rv v) (i : Nat) : w.frozen? ⟨b, i, none⟩ = false := by
  obtain ⟨cs, hb, _⟩ := h; exact hb.frozen i
theorem Cn.kp {w w' : World} {b : Nat} {rv : Value} {v : Nat → Nat → Nat} {S : Nat → Prop} (h : Cn w b rv v) (hk : Kp S w w') (hS : S b) : Cn w' b rv v := by
  obtain ⟨cs, hb, h1⟩ := h; exact ⟨cs, hb.kp hk hS, h1⟩
theorem Cn.below {w w' : World} {b B : Nat} {rv : Value} {v : Nat → Nat → Nat} (h : Cn w b rv v) (hk : Below B w w') (hS : b < B) : Cn w' b rv v := by
  obtain ⟨cs, hb, h1⟩ := h; exact ⟨cs, hb.below hk hS, h1⟩
theorem Cn.drew {w : World} {b : Nat} {rv : Value} {v : Nat → Nat → Nat} (h : Cn w b rv v) : Cn w.drew b rv v := h
def upd (v : Nat → Nat → Nat) (k n x : Nat) : Nat → Nat → Nat := fun k' n' => if k' = k ∧ n' = n then x else v k' n'
theorem Cn.set {w : World} {b : Nat} {rv : Value} {v : Nat → Nat → Nat} (h : Cn w b rv v) {k n : Nat} (x : Nat) (hk : k < 4) (hn : n < 13) : Cn (w.setCell ⟨b, 1 + k * 13 + n, none⟩ (.int .i64 (x : Nat))) b rv (upd v k n x) := by
  obtain ⟨cs, hb, hs, h0, hc⟩ := h
  refine ⟨_, hb.set_ (1 + k * 13 + n) (.int .i64 (x : Nat)), by simpa using hs, ?_, fun k' n' hk' hn' => ?_⟩
  · rw [Array.getElem?_setIfInBounds_ne (by omega)]; exact h0
  · by_cases e : k' = k ∧ n' = n
    · obtain ⟨rfl, rfl⟩ := e
      rw [Array.getElem?_setIfInBounds_self_of_lt (by omega), upd, if_pos ⟨rfl, rfl⟩]
    · rw [Array.getElem?_setIfInBounds_ne (by omega), upd, if_neg e]; exact hc k' n' hk' hn'

theorem drewN_add (w : World) (a b : Nat) : w.drewN (a + b) = (w.drewN a).drewN b := by
  simp [World.drewN, Nat.add_assoc]
theorem sumL_succ (g : Nat → Nat) (j : Nat) : sumL (List.range (j + 1)) g = sumL (List.range j) g + g j := by
  simp [sumL, List.range_succ]
theorem sumL_le {g : Nat → Nat} {c : Nat} (h : ∀ i, g i ≤ c) (j : Nat) : sumL (List.range j) g ≤ j * c := by
  induction j with
  | zero => simp [sumL]
  | succ j ih => rw [sumL_succ, Nat.add_mul]; have := h j; omega

set_option maxRecDepth 100000 in
set_option maxHeartbeats 1000000 in
theorem countLists_ok (b : Nat) (rv : Value) (v : Nat → Nat → Nat) (k n : Nat) (w : World) (hc : Cn w b rv v) (hk : 1 ≤ k) (hk3 : k ≤ 3) (hn : n ≤ 12) (hv : ∀ k n, v k n ≤ 4097) :
    Calls Tryd.prog 119 #[.pointer (some ⟨b, 0, none⟩), .int .i64 (k : Nat), .int .i64 (n : Nat)] w fun e w' => e = .returned (.int .i64 (cap (sumL (List.range n) (fun i => v 1 (i + 1) * v (k - 1) (n - (i + 1)))) : Nat)) ∧ ∃ q, w' = w.drewN q := by
  have HC := Lib.hid hc
  have hg : ∀ i, v 1 (i + 1) * v (k - 1) (n - (i + 1)) ≤ 16785409 := fun i => Nat.mul_le_mul (hv _ _) (hv _ _)
  have HG := Lib.hid hg
  have HV := Lib.hid hv
  clear hc hg hv
  go_enter Tryd.func119, Tryd.ntmps119
  go_wp2_with fail
  go_loopw [7, 8] (fun nv fv wr => ∃ (S j : Nat), nv = .int .i64 (S : Nat) ∧ fv = .int .i64 ((j : Int) + 1) ∧ j ≤ n ∧ Hid (S = sumL (List.range j) (fun i => v 1 (i + 1) * v (k - 1) (n - (i + 1)))) ∧ Hid (∃ q, wr = w.drewN q) ∧ Hid (Cn wr b rv v))
    (fun _ fv _ => n + 1 - (intOf fv).toNat)
  case atStart => exact ⟨0, 0, rfl, rfl, by omega, Lib.hid rfl, Lib.hid ⟨0, rfl⟩, HC⟩
  case round =>
    obtain ⟨S, j, rfl, rfl, hj, hS, hq, HCr⟩ := hrel
    by_cases hlt : j < n
    · have hSl : S ≤ 12 * 16785409 := by rw [hS.out]; exact Nat.le_trans (sumL_le HG.out j) (Nat.mul_le_mul_right _ (by omega))
      have c1 := HCr.out.cell (k := 1) (n := j + 1) (by omega) (by omega)
      have c2 := HCr.out.cell (k := k - 1) (n := n - (j + 1)) (by omega) (by omega)
      have c3 := HCr.out.lt
      have hv1 := HV.out 1 (j + 1)
      have hv2 := HV.out (k - 1) (n - (j + 1))
      have hp := HG.out j
      have hdd : decide ((j : Int) + 1 ≤ (n : Int)) = true := decide_eq_true (by omega)
      have hle : (j : Int) + 1 ≤ (n : Int) := by omega
      have HS2 : Hid (S + v 1 (j + 1) * v (k - 1) (n - (j + 1)) = sumL (List.range (j + 1)) (fun i => v 1 (i + 1) * v (k - 1) (n - (i + 1)))) := Lib.hid (by rw [sumL_succ, hS.out])
      have HQ : Hid (∀ nq, ∃ q, wr.drewN nq = w.drewN q) := Lib.hid (fun nq => by
        obtain ⟨q, rfl⟩ := hq.out
        exact ⟨q + nq, (drewN_add w q nq).symm⟩)
      go_wp2_with fail
      go_quiet (fail)
      go_wp2_with fail
      go_roundw
      case rel => exact ⟨S + v 1 (j + 1) * v (k - 1) (n - (j + 1)), j + 1, by push_cast; rfl, by push_cast; rfl, by omega, HS2, Lib.hid (HQ.out _), Lib.hid (HCr.out.kp ((Kp.refl (fun _ => True) _).drewN _) trivial)⟩
      case measure => simp [intOf]; omega
    · have hdd : decide ((j : Int) + 1 ≤ (n : Int)) = false := decide_eq_false (by omega)
      have hle : ¬ (j : Int) + 1 ≤ (n : Int) := by omega
      have hje : j = n := by omega
      have HR : Hid (S = sumL (List.range n) (fun i => v 1 (i + 1) * v (k - 1) (n - (i + 1)))) := Lib.hid (by rw [← hje]; rw [hS.out, hje])
      by_cases hcp : S ≤ 4097
      · have HX : Hid (cap S = S) := Lib.hid (by unfold cap; omega)
        have hm1 : ¬ (4097 : Int) < (S : Int) := by omega
        clear hje
        go_wp2_with fail
        go_ret
        exact ⟨by rw [← HR.out, HX.out]; rfl, hq.out⟩
      · have HX : Hid (cap S = 4097) := Lib.hid (by unfold cap; omega)
        have hm1 : (4097 : Int) < (S : Int) := by omega
        clear hje
        go_wp2_with fail
        go_ret
        exact ⟨by rw [← HR.out, HX.out]; rfl, hq.out⟩

end Go.Proofs.YthhliogcafmnfaaDoor
