/- The walk of law02.HedgeNodes. -/
import Derived.Test.YtkbcehapalcadabSameInfo
namespace Go.Proofs.Ytkbcehapalcadab
open Go.RowKit Go.Shelf

set_option maxRecDepth 100000 in
set_option maxHeartbeats 1000000 in
theorem hnodes_walk (n l : Int) (K : Hg) (vk : Value) (w : World) (hl : (Lit.int .i64 l).wf = true) (hv : IsH w vk K) :
    Calls Try.prog 5 #[.int .i64 n, .agg #[.int .i64 l, vk]] w (TrueLaw w) := by
  have hb2 : Below w.heap.size w ((w.alloc (.cells #[.int .i64 l, vk] 24)).alloc (.cells #[.int .i64 l, vk] 24)) := ((Below.refl _ w).alloc (Nat.le_refl _) _).alloc (by simp) _
  have hblk0 : Blk ((w.alloc (.cells #[.int .i64 l, vk] 24)).alloc (.cells #[.int .i64 l, vk] 24)) w.heap.size 24 #[.int .i64 l, vk] := (Blk.new w _ _).alloc _
  have hblk : Blk ((w.alloc (.cells #[.int .i64 l, vk] 24)).alloc (.cells #[.int .i64 l, vk] 24)) (w.heap.size + 1) 24 #[.int .i64 l, vk] := by
    have := Blk.new (w.alloc (.cells #[.int .i64 l, vk] 24)) 24 #[.int .i64 l, vk]
    rwa [World.size_alloc] at this
  have HF := Lib.hid (few_ok (.cons l K .nil) _ 2000 _ (isH_one hblk hl (hv.below hb2)) (by omega) (by omega))
  have HV := Lib.hid hv
  have HB := Lib.hid hb2
  have HB0 := Lib.hid hblk0
  obtain ⟨p, c, rfl, hc1, hc2, hrow⟩ := hv
  clear hrow hb2 hblk hblk0
  go_enter Try.func5, Try.ntmps5
  go_wp2_with fail
  refine HF.out.mono ?_
  rintro e w1 ⟨rfl, hb1⟩
  have hb1' : Below w.heap.size w w1 := HB.out.trans (hb1.mono (by simp; omega))
  have hx : Blk w1 w.heap.size 24 #[.int .i64 l, .slice p K.len c] := HB0.out.below hb1 (by simp; omega)
  have x1 : w1.cell? ⟨w.heap.size, 0, none⟩ = some (.int .i64 l) := by rw [hx.cell]; rfl
  have x2 : w1.cell? ⟨w.heap.size, 1, none⟩ = some (.slice p K.len c) := by rw [hx.cell]; rfl
  have x3 : w.heap.size < w1.heap.size := hx.lt
  have HB1 := Lib.hid hb1'
  have HX := Lib.hid hx
  clear hb1 hb1' hx HF HB HB0
  by_cases hsz : K.size < 2000
  · have hd : decide (((Hg.cons l K .nil).size : Int) ≤ 2000) = true := decide_eq_true (by simp only [Hg.size]; omega)
    rw [hd]
    clear hd
    have HN := Lib.hid (nodes_ok n l K _ w1 hl (HV.out.below HB1.out) (by omega))
    go_wp2_with fail
    refine HN.out.mono ?_
    rintro e w2 ⟨hb2, hres⟩
    have hx2 : Blk w2 w.heap.size 24 #[.int .i64 l, .slice p K.len c] := HX.out.below hb2 x3
    have y1 : w2.cell? ⟨w.heap.size, 0, none⟩ = some (.int .i64 l) := by rw [hx2.cell]; rfl
    have y2 : w2.cell? ⟨w.heap.size, 1, none⟩ = some (.slice p K.len c) := by rw [hx2.cell]; rfl
    have y3 : w.heap.size < w2.heap.size := hx2.lt
    have hbB : Below w.heap.size w w2 := HB1.out.trans (hb2.mono (by omega))
    have HM := Lib.hid (rnodesTop_ok n l K _ w2 hl (HV.out.below hbB) (by omega))
    have HBB := Lib.hid hbB
    clear hb2 hx2 hbB HN
    rcases hres with ⟨hvv, v2, rfl, hown⟩ | ⟨hvv, rfl⟩
    · obtain ⟨g, cap, rfl⟩ := ownsRow_succ hown
      have HO := Lib.hid hown
      have HVV := Lib.hid hvv
      clear hown hvv
      go_wp2_with fail
      refine HM.out.mono ?_
      rintro e w3 ⟨hb3, ⟨_, v3, rfl, hown3⟩ | ⟨h, _⟩⟩
      case inr => rw [HVV.out] at h; cases h
      obtain ⟨g3, cap3, rfl⟩ := ownsRow_succ hown3
      have hO3 : w3.ownsRow w1.heap.size 58 4 (.slice (some ⟨g, 0, none⟩) (K.size + 1) cap) (K.size + 1) (cs4 ((l, -1, 0, (K.size : Int)) :: K.inf 0 0 1)) := by
        obtain ⟨q1, q2⟩ := HO.out
        refine ⟨q1, q2.imp id ?_⟩
        rintro ⟨g', cap', cur, r1, r2, r3, r4⟩
        exact ⟨g', cap', cur, r1, r2, (hb3.block g' (Array.getElem?_eq_some_iff.1 r3).1).trans r3, r4⟩
      have HS := Lib.hid (same_ok ((l, -1, 0, (K.size : Int)) :: K.inf 0 0 1) (K.size + 1) (by simp [Hg.inf_length]) (by omega) _ _ _ _ w3 hO3 hown3)
      have HB3 := Lib.hid (HBB.out.trans (hb3.mono (by omega)))
      clear hown3 hO3 hb3 HO HM HVV
      go_wp2_with fail
      refine HS.out.mono ?_
      rintro e w4 ⟨rfl, hb4⟩
      have HB4 := Lib.hid (HB3.out.trans (hb4.mono HB3.out.size))
      have HA := Lib.hid (awake_ok w4)
      clear hb4
      go_wp2_with fail
      refine HA.out.mono ?_
      rintro e w5 ⟨rfl, hb5⟩
      go_wp2_with fail
      go_ret
      exact ⟨rfl, HB4.out.trans (hb5.mono HB4.out.size)⟩
    · have HVV := Lib.hid hvv
      clear hvv
      go_wp2_with fail
      refine HM.out.mono ?_
      rintro e w3 ⟨hb3, ⟨h, _⟩ | ⟨_, rfl⟩⟩
      · rw [HVV.out] at h; cases h
      have HB3 := Lib.hid (HBB.out.trans (hb3.mono (by omega)))
      have HS : Hid (Calls Try.prog 30 #[.slice none 0 0, .slice none 0 0] w3 fun e w' => e = .returned (.bool true) ∧ Below w3.heap.size w3 w') := Lib.hid (same_nil w3)
      clear hb3 HM HVV
      go_wp2_with fail
      refine HS.out.mono ?_
      rintro e w4 ⟨rfl, hb4⟩
      have HB4 := Lib.hid (HB3.out.trans (hb4.mono HB3.out.size))
      have HA := Lib.hid (awake_ok w4)
      clear hb4
      go_wp2_with fail
      refine HA.out.mono ?_
      rintro e w5 ⟨rfl, hb5⟩
      go_wp2_with fail
      go_ret
      exact ⟨rfl, HB4.out.trans (hb5.mono HB4.out.size)⟩
  · have hd : decide (((Hg.cons l K .nil).size : Int) ≤ 2000) = false := decide_eq_false (by simp only [Hg.size]; omega)
    rw [hd]
    clear hd
    have HA := Lib.hid (awake_ok w1)
    go_wp2_with fail
    refine HA.out.mono ?_
    rintro e w2 ⟨rfl, hb2⟩
    go_wp2_with fail
    go_ret
    exact ⟨rfl, HB1.out.trans (hb2.mono (by omega))⟩

end Go.Proofs.Ytkbcehapalcadab
