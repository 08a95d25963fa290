/- law02.awake. -/
import Derived.Test.YthdaeblfehclcabEncodeTop
import Derived.Test.YthdaeblfehclcabCollect
import Derived.Test.YthdaeblfehclcabSize01
namespace Go.Proofs.Ythdaeblfehclcab
open Go.RowKit Go.Shelf

theorem IsH.nil_ (w : World) : IsH w (.slice none 0 0) .nil := ⟨none, 0, rfl, Nat.le_refl _, by decide, fun h => absurd rfl h⟩
def hA : Hg := .cons 0 (.cons 1 .nil .nil) (.cons 1 .nil .nil)
theorem hA_enc : hA.enc 2 = (0, .cons 1 (.cons 2 .nil (.cons 2 .nil .nil)) (.cons 1 (.cons 2 .nil (.cons 2 .nil .nil)) .nil)) := rfl
theorem hA_vh : vh 2 hA = true := rfl
def kA : Hg := .cons 1 (.cons 0 .nil .nil) (.cons 1 .nil .nil)
theorem kA_vh : vh 2 (.cons 0 kA .nil) = true := rfl
theorem kA_inf : cs4 ((0, -1, 0, (kA.size : Int)) :: kA.inf 0 0 1) = [.int .i64 0, .int .i64 (-1), .int .i64 0, .int .i64 3, .int .i64 1, .int .i64 0, .int .i64 0, .int .i64 2, .int .i64 0, .int .i64 1, .int .i64 0, .int .i64 2, .int .i64 1, .int .i64 0, .int .i64 1, .int .i64 3] := rfl

/-- A block of one or two nodes. -/
theorem isH_one {w : World} {g : Nat} {t : TypeId} {l : Int} {v : Value} {k : Hg} (hb : Blk w g t #[.int .i64 l, v]) (hl : (Lit.int .i64 l).wf = true) (hk : IsH w v k) :
    IsH w (.slice (some ⟨g, 0, none⟩) 1 1) (.cons l k .nil) := by
  refine ⟨_, _, rfl, by simp [Hg.len], by decide, fun _ => ⟨_, _, rfl, ?_⟩⟩
  rw [Row.cons_iff]
  exact ⟨by rw [hb.cell]; rfl, hl, ⟨v, by rw [hb.cell]; rfl, hk⟩, trivial⟩
theorem isH_two {w : World} {g : Nat} {t : TypeId} {l l2 : Int} {v v2 : Value} {k k2 : Hg} (hb : Blk w g t #[.int .i64 l, v, .int .i64 l2, v2]) (hl : (Lit.int .i64 l).wf = true) (hk : IsH w v k) (hl2 : (Lit.int .i64 l2).wf = true) (hk2 : IsH w v2 k2) :
    IsH w (.slice (some ⟨g, 0, none⟩) 2 2) (.cons l k (.cons l2 k2 .nil)) := by
  refine ⟨_, _, rfl, by simp [Hg.len], by decide, fun _ => ⟨_, _, rfl, ?_⟩⟩
  rw [Row.cons_iff]
  refine ⟨by rw [hb.cell]; rfl, hl, ⟨v, by rw [hb.cell]; rfl, hk⟩, ?_⟩
  rw [Row.cons_iff]
  exact ⟨by rw [hb.cell]; rfl, hl2, ⟨v2, by rw [hb.cell]; rfl, hk2⟩, trivial⟩

set_option maxRecDepth 100000 in
set_option maxHeartbeats 1000000 in
theorem awake_ok (w : World) :
    Calls Try.prog 9 #[] w fun e w' => e = .returned (.bool true) ∧ Below w.heap.size w w' := by
  have hB0 := blk_0 w 24 #[.int .i64 1, .slice none 0 0] (.cells #[.int .i64 1, .slice none 0 0] 24) (.cells #[.int .i64 0, .slice (some ⟨w.heap.size + 1, 0, none⟩) 1 1, .int .i64 1, .slice none 0 0] 24)
  have hB1 := blk_1 w 24 (.cells #[.int .i64 1, .slice none 0 0] 24) #[.int .i64 1, .slice none 0 0] (.cells #[.int .i64 0, .slice (some ⟨w.heap.size + 1, 0, none⟩) 1 1, .int .i64 1, .slice none 0 0] 24)
  have hB2 := blk_2 w 24 (.cells #[.int .i64 1, .slice none 0 0] 24) (.cells #[.int .i64 1, .slice none 0 0] 24) #[.int .i64 0, .slice (some ⟨w.heap.size + 1, 0, none⟩) 1 1, .int .i64 1, .slice none 0 0]
  have hbw : Below w.heap.size w (((w.alloc (.cells #[.int .i64 1, .slice none 0 0] 24)).alloc (.cells #[.int .i64 1, .slice none 0 0] 24)).alloc (.cells #[.int .i64 0, .slice (some ⟨w.heap.size + 1, 0, none⟩) 1 1, .int .i64 1, .slice none 0 0] 24)) :=
    (((Below.refl _ w).alloc (Nat.le_refl _) _).alloc (by simp) _).alloc (by simp; omega) _
  have HE := Lib.hid (encodeTop_ok 2 (by decide) hA _ _ (isH_two hB2 (by decide) (isH_one hB1 (by decide) (IsH.nil_ _)) (by decide) (IsH.nil_ _)) (by decide))
  have HB0 := Lib.hid hB0
  have HBW := Lib.hid hbw
  clear hB0 hB1 hB2 hbw
  go_enter Try.func9, Try.ntmps9
  go_wp2_with fail
  refine HE.out.mono ?_
  rintro e w1 ⟨hb1, ⟨_, _, r, rfl, hr⟩ | ⟨h, _⟩ | ⟨_, h, _⟩⟩
  case inr.inl => rw [hA_vh] at h; cases h
  case inr.inr => simp [hA, Hg.size] at h
  rw [hA_enc] at hr
  have hr2 : ∃ vk, r = .agg #[.int .i64 0, vk] ∧ (Lit.int .i64 0).wf = true ∧ IsH w1 vk (.cons 1 (.cons 2 .nil (.cons 2 .nil .nil)) (.cons 1 (.cons 2 .nil (.cons 2 .nil .nil)) .nil)) := hr.isT
  obtain ⟨vr, rfl, _, hq⟩ := hr2
  have hq0 := hq
  obtain ⟨p, c, rfl, _, _, hrow⟩ := hq0
  obtain ⟨b, o, rfl, hrow2⟩ := hrow (by simp)
  rw [Row.cons_iff] at hrow2
  obtain ⟨c1, _, _, hrow3⟩ := hrow2
  rw [Row.cons_iff] at hrow3
  obtain ⟨c2, _, _, _⟩ := hrow3
  have hbn := World.block_lt_of_cell? _ _ c1
  simp only at hbn
  have HB1 := Lib.hid (HBW.out.trans (hb1.mono (by simp; omega)))
  have hx0 : Blk w1 w.heap.size 24 #[.int .i64 1, .slice none 0 0] := HB0.out.below hb1 (by simp; omega)
  have z1 : w1.cell? ⟨w.heap.size, 0, none⟩ = some (.int .i64 1) := by rw [hx0.cell]; rfl
  have z2 : w1.cell? ⟨w.heap.size, 1, none⟩ = some (.slice none 0 0) := by rw [hx0.cell]; rfl
  have z3 : w.heap.size < w1.heap.size := hx0.lt
  have z4 : w.heap.size < w1.heap.size + 1 := by omega
  have HQ := Lib.hid hq
  have hC0 := blk_0 w1 41 #[.int .i64 0, .slice (some ⟨b, o, none⟩) 2 c] (.cells #[.int .i64 0, .slice none 0 0] 24) (.cells #[.int .i64 1, .slice (some ⟨w1.heap.size + 1, 0, none⟩) 1 1, .int .i64 1, .slice none 0 0] 24)
  have hC1 := blk_1 w1 24 (.cells #[.int .i64 0, .slice (some ⟨b, o, none⟩) 2 c] 41) #[.int .i64 0, .slice none 0 0] (.cells #[.int .i64 1, .slice (some ⟨w1.heap.size + 1, 0, none⟩) 1 1, .int .i64 1, .slice none 0 0] 24)
  have hC2 := blk_2 w1 24 (.cells #[.int .i64 0, .slice (some ⟨b, o, none⟩) 2 c] 41) (.cells #[.int .i64 0, .slice none 0 0] 24) #[.int .i64 1, .slice (some ⟨w1.heap.size + 1, 0, none⟩) 1 1, .int .i64 1, .slice none 0 0]
  have hb1w : Below w1.heap.size w1 (((w1.alloc (.cells #[.int .i64 0, .slice (some ⟨b, o, none⟩) 2 c] 41)).alloc (.cells #[.int .i64 0, .slice none 0 0] 24)).alloc (.cells #[.int .i64 1, .slice (some ⟨w1.heap.size + 1, 0, none⟩) 1 1, .int .i64 1, .slice none 0 0] 24)) :=
    (((Below.refl _ w1).alloc (Nat.le_refl _) _).alloc (by simp) _).alloc (by simp; omega) _
  have HN := Lib.hid (nodes_ok 2 0 kA _ _ (by decide) (isH_two hC2 (by decide) (isH_one hC1 (by decide) (IsH.nil_ _)) (by decide) (IsH.nil_ _)) (by decide))
  have HC0 := Lib.hid hC0
  have HB1W := Lib.hid hb1w
  have HCC := Lib.hid (And.intro c1 c2)
  clear hb1 hx0 hr hq HE HB0 HBW hrow hC0 hC1 hC2 hb1w c1 c2
  simp only [Hg.len] at *
  go_wp2_with fail
  refine HN.out.mono ?_
  rintro e w2 ⟨hb2, ⟨_, v2, rfl, hown⟩ | ⟨h, _⟩⟩
  case inr => rw [kA_vh] at h; cases h
  rw [kA_inf] at hown
  have hown : w2.ownsRow _ 58 4 v2 (3 + 1) _ := hown
  obtain ⟨g2, cap2, rfl⟩ := ownsRow_succ hown
  have hb12 : Below w1.heap.size w1 w2 := HB1W.out.trans (hb2.mono (by simp; omega))
  have hx1 : Blk w2 w1.heap.size 41 #[.int .i64 0, .slice (some ⟨b, o, none⟩) 2 c] := HC0.out.below hb2 (by simp; omega)
  have y1 : w2.cell? ⟨w1.heap.size, 0, none⟩ = some (.int .i64 0) := by rw [hx1.cell]; rfl
  have y2 : w2.cell? ⟨w1.heap.size, 1, none⟩ = some (.slice (some ⟨b, o, none⟩) 2 c) := by rw [hx1.cell]; rfl
  have y3 := (hb12.cell (p := ⟨b, o, none⟩) hbn).trans HCC.out.1
  have y4 := (hb12.cell (p := ⟨b, o + 2, none⟩) hbn).trans HCC.out.2
  have y5 : w2.cell? ⟨g2, 4, none⟩ = some (.int .i64 1) := hown.cellAt 4 (by omega)
  have y6 : w2.cell? ⟨g2, 5, none⟩ = some (.int .i64 0) := hown.cellAt 5 (by omega)
  have y7 : w2.cell? ⟨g2, 6, none⟩ = some (.int .i64 0) := hown.cellAt 6 (by omega)
  have y8 : w2.cell? ⟨g2, 7, none⟩ = some (.int .i64 2) := hown.cellAt 7 (by omega)
  have HS := Lib.hid (size01_ok 0 _ _ w2 (by decide) (HQ.out.below hb12))
  have HB2 := Lib.hid (HB1.out.trans (hb12.mono (by omega)))
  have HB12 := Lib.hid hb12
  have HO := Lib.hid hown
  have HX1 := Lib.hid hx1
  clear hb2 hb12 hx1 hown HN HC0 HB1W HCC HQ HB1
  go_wp2_with fail
  refine HS.out.mono ?_
  rintro e w3 ⟨rfl, hb3⟩
  have hg2 : g2 < w2.heap.size := (HO.out.lt _ rfl).2
  have hw1 : w1.heap.size < w2.heap.size := HX1.out.lt
  have hb : b < w2.heap.size := by omega
  have x1 := (hb3.cell (p := ⟨w1.heap.size, 0, none⟩) hw1).trans y1
  have x2 := (hb3.cell (p := ⟨w1.heap.size, 1, none⟩) hw1).trans y2
  have x3 := (hb3.cell (p := ⟨b, o, none⟩) hb).trans y3
  have x4 := (hb3.cell (p := ⟨b, o + 2, none⟩) hb).trans y4
  have x5 := (hb3.cell (p := ⟨g2, 4, none⟩) hg2).trans y5
  have x6 := (hb3.cell (p := ⟨g2, 5, none⟩) hg2).trans y6
  have x7 := (hb3.cell (p := ⟨g2, 6, none⟩) hg2).trans y7
  have x8 := (hb3.cell (p := ⟨g2, 7, none⟩) hg2).trans y8
  have heq : ∀ W, (binOp .eql 58 (.agg #[.int .i64 1, .int .i64 0, .int .i64 0, .int .i64 2]) (.agg #[.int .i64 1, .int .i64 0, .int .i64 0, .int .i64 2])).run Try.prog W = .ok (.bool true) W := fun W => by kernel_rfl
  have HB3 := Lib.hid (HB2.out.trans (hb3.mono (by omega)))
  clear hb3 y1 y2 y3 y4 y5 y6 y7 y8 HS HB2 HB12 HO HX1
  simp only [Hg.size] at *
  go_wp2_with fail
  go_ret
  exact ⟨rfl, HB3.out⟩

end Go.Proofs.Ythdaeblfehclcab
