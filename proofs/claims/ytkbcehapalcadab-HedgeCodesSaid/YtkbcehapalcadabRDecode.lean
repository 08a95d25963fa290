/- ref02.Decode. -/
import Derived.Test.YtkbcehapalcadabDecTop
import Derived.Test.YtkbcehapalcadabUncode
import Derived.Test.YtkbcehapalcadabRAlpha
import Derived.Test.YtkbcehapalcadabRTValid
namespace Go.Proofs.Ytkbcehapalcadab
open Go.RowKit Go.Shelf

set_option maxRecDepth 100000 in
set_option maxHeartbeats 1000000 in
theorem rdecode_ok (n s : Int) (vk : Value) (K : Hg) (w : World) (hwf : (Lit.int .i64 s).wf = true) (hv : IsH w vk K) (hs : K.size ≤ 1000000) :
    Calls Try.prog 25 #[.int .i64 n, .agg #[.int .i64 s, vk]] w fun e w' => Below w.heap.size w w' ∧ DecAns n s K w.heap.size e w' := by
  have hb0 : Below w.heap.size w (w.alloc (.cells #[.int .i64 s, vk] 41)) := (Below.refl _ w).alloc (Nat.le_refl _) _
  have hbx := Blk.new w 41 #[.int .i64 s, vk]
  have HV := Lib.hid hv
  have HBX := Lib.hid hbx
  have HB0 := Lib.hid hb0
  have HWF := Lib.hid hwf
  obtain ⟨p, c, rfl, hc1, hc2, hrow⟩ := hv
  clear hrow hb0 hbx hwf
  by_cases h1 : n < 1
  · have HVL : Hid (vlab n = false) := Lib.hid (by simp [vlab]; omega)
    go_enter Try.func25, Try.ntmps25
    go_wp2_with fail
    go_ret2
    exact ⟨HB0.out, .inr (.inl ⟨HVL.out, rfl⟩)⟩
  · have h1' : 1 ≤ n := by omega
    have hd1 : decide (n < 1) = false := decide_eq_false h1
    clear h1
    by_cases h2 : 8 < n
    · have HVL : Hid (vlab n = false) := Lib.hid (by simp [vlab]; omega)
      go_enter Try.func25, Try.ntmps25
      go_wp2_with fail
      go_ret2
      exact ⟨HB0.out, .inr (.inl ⟨HVL.out, rfl⟩)⟩
    · have h2' : n ≤ 8 := by omega
      have hd2 : decide (8 < n) = false := decide_eq_false h2
      clear h2
      obtain ⟨m, rfl⟩ := Int.eq_ofNat_of_zero_le (show 0 ≤ n by omega)
      have HVL : Hid (vlab m = true) := Lib.hid (by simp [vlab]; omega)
      have HRA := Lib.hid (fun w => ralphabet_ok m (by omega) w)
      have hst : ∀ W, Below (w.heap.size + 1) (w.alloc (.cells #[.int .i64 s, .slice p K.len c] 41)) W →
          W.cell? ⟨w.heap.size, 0, none⟩ = some (.int .i64 s) ∧ W.cell? ⟨w.heap.size, 1, none⟩ = some (.slice p K.len c) := fun W hW => by
        have hbk := HBX.out.below hW (by omega)
        exact ⟨by rw [hbk.cell]; rfl, by rw [hbk.cell]; rfl⟩
      have HST := Lib.hid hst
      clear hst
      rcases Bool.eq_false_or_eq_true (tvalid (bin m) s K) with hT | hT
      · have HTT := Lib.hid hT
        clear hT
        go_enter Try.func25, Try.ntmps25
        go_wp2_with fail
        go_region_held3 (fun W => W.cell? ⟨w.heap.size, 0, none⟩ = some (.int .i64 s) ∧ W.cell? ⟨w.heap.size, 1, none⟩ = some (.slice p K.len c))
          (first | exact HST.out _ (Below.refl _ _).drew | exact HST.out _ HBA.out | exact HST.out _ HBB.out)
          (first
            | (go_at_call 38; refine (HRA.out _).mono ?_; rintro e w1 ⟨pa, ca, rfl, ha, hb1⟩; have HA := Lib.hid ha; have hsz1 : w.heap.size + 1 ≤ w1.heap.size := (by have := hb1.size; simpa using this); have HBA : Hid (Below (w.heap.size + 1) (w.alloc (.cells #[.int .i64 s, .slice p K.len c] 41)) w1) := Lib.hid ((Below.refl _ _).drew.trans (hb1.mono (by simp))); clear hb1 ha)
            | (go_at_call 49; refine (rtvalid_ok (bin m) _ s _ K w1 HA.out (HV.out.below (HB0.out.trans (HBA.out.mono (by omega))))).mono ?_; rintro e w2 ⟨rfl, hb2⟩; have HBB : Hid (Below (w.heap.size + 1) (w.alloc (.cells #[.int .i64 s, .slice p K.len c] 41)) w2) := Lib.hid (HBA.out.trans (hb2.mono hsz1)); have hsz2 : w.heap.size + 1 ≤ w2.heap.size := (by have := hb2.size; omega); clear hb2; rw [HTT.out]))
        all_goals
          obtain ⟨y0, y1⟩ := HST.out w2 HBB.out
          have hbw2 := HB0.out.trans (HBB.out.mono (by omega))
          obtain ⟨H, he, hl, hsz⟩ := tvalid_dec m s K HTT.out
          have hD := uncode_any (m : Int) (H.size + 1) H (.slice p K.len c) w2 (by omega) (by omega) (by rw [he]; exact HWF.out) (no_of_lok hl) (by rw [he]; exact HV.out.below hbw2)
          rw [he] at hD
          have HD := Lib.hid hD
          have HE := Lib.hid he
          have HL := Lib.hid hl
          have HSZ := Lib.hid hsz
          have HBW2 := Lib.hid hbw2
          clear hD he hl hsz hbw2
          go_wp2_with fail
          refine HD.out.mono ?_
          rintro e w3 ⟨r, rfl, hr, hb3⟩
          have HRr := Lib.hid hr
          obtain ⟨pr, cr, rfl, _⟩ := hr
          have HB3 := Lib.hid hb3
          clear hb3
          go_wp2_with fail
          go_ret2
          exact ⟨HBW2.out.trans (HB3.out.mono (by omega)), .inl ⟨HVL.out, H, _, HE.out, HL.out, HSZ.out, rfl, HRr.out.mono (fun c _ h => by omega)⟩⟩
      · have HTT := Lib.hid hT
        clear hT
        go_enter Try.func25, Try.ntmps25
        go_wp2_with fail
        go_region_held3 (fun W => W.cell? ⟨w.heap.size, 0, none⟩ = some (.int .i64 s) ∧ W.cell? ⟨w.heap.size, 1, none⟩ = some (.slice p K.len c))
          (first | exact HST.out _ (Below.refl _ _).drew | exact HST.out _ HBA.out | exact HST.out _ HBB.out)
          (first
            | (go_at_call 38; refine (HRA.out _).mono ?_; rintro e w1 ⟨pa, ca, rfl, ha, hb1⟩; have HA := Lib.hid ha; have hsz1 : w.heap.size + 1 ≤ w1.heap.size := (by have := hb1.size; simpa using this); have HBA : Hid (Below (w.heap.size + 1) (w.alloc (.cells #[.int .i64 s, .slice p K.len c] 41)) w1) := Lib.hid ((Below.refl _ _).drew.trans (hb1.mono (by simp))); clear hb1 ha)
            | (go_at_call 49; refine (rtvalid_ok (bin m) _ s _ K w1 HA.out (HV.out.below (HB0.out.trans (HBA.out.mono (by omega))))).mono ?_; rintro e w2 ⟨rfl, hb2⟩; have HBB : Hid (Below (w.heap.size + 1) (w.alloc (.cells #[.int .i64 s, .slice p K.len c] 41)) w2) := Lib.hid (HBA.out.trans (hb2.mono hsz1)); have hsz2 : w.heap.size + 1 ≤ w2.heap.size := (by have := hb2.size; omega); clear hb2; rw [HTT.out]))
        all_goals
          go_wp2_with fail
          go_ret2
          exact ⟨HB0.out.trans (HBB.out.mono (by omega)), .inr (.inr ⟨HVL.out, by simpa using HTT.out, rfl⟩)⟩

end Go.Proofs.Ytkbcehapalcadab
