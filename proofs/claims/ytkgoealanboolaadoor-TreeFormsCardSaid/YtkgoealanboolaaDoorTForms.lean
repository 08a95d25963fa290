/- The walk of law01.TreeForms. -/
import Derived.Test.YtkgoealanboolaaDoorTName
namespace Go.Proofs.YtkgoealanboolaaDoor
open Go.RowKit Go.Shelf

/-- What stands throughout: nothing old has turned; the alphabet and the two trees lie in their boxes. -/
def FSt (w : World) (av : Value) (lt lu : Int) (vt vu : Value) (W : World) : Prop := Below w.heap.size w W ∧ Blk W w.heap.size 24 #[av] ∧ Blk W (w.heap.size + 1) 27 #[.int .i64 lt, vt] ∧ Blk W (w.heap.size + 1 + 1) 27 #[.int .i64 lu, vu]
theorem FSt.more {w W W' : World} {av : Value} {lt lu : Int} {vt vu : Value} (h : FSt w av lt lu vt vu W) (hb : Below W.heap.size W W') : FSt w av lt lu vt vu W' := ⟨h.1.trans (hb.mono h.1.size), h.2.1.below hb h.2.1.lt, h.2.2.1.below hb h.2.2.1.lt, h.2.2.2.below hb h.2.2.2.lt⟩
theorem FSt.alloc {w W : World} {av : Value} {lt lu : Int} {vt vu : Value} (h : FSt w av lt lu vt vu W) (o : Obj) : FSt w av lt lu vt vu (W.alloc o) := ⟨h.1.alloc h.1.size _, h.2.1.alloc _, h.2.2.1.alloc _, h.2.2.2.alloc _⟩
theorem FSt.facts {w W : World} {av : Value} {lt lu : Int} {vt vu : Value} (h : FSt w av lt lu vt vu W) : W.cell? ⟨w.heap.size, 0, none⟩ = some av ∧ W.cell? ⟨w.heap.size + 1, 0, none⟩ = some (.int .i64 lt) ∧ W.cell? ⟨w.heap.size + 1, 1, none⟩ = some vt ∧ W.cell? ⟨w.heap.size + 1 + 1, 0, none⟩ = some (.int .i64 lu) ∧ W.cell? ⟨w.heap.size + 1 + 1, 1, none⟩ = some vu ∧ w.heap.size < W.heap.size ∧ w.heap.size + 1 < W.heap.size ∧ w.heap.size + 1 + 1 < W.heap.size :=
  ⟨by rw [h.2.1.cell]; rfl, by rw [h.2.2.1.cell]; rfl, by rw [h.2.2.1.cell]; rfl, by rw [h.2.2.2.cell]; rfl, by rw [h.2.2.2.cell]; rfl, h.2.1.lt, h.2.2.1.lt, h.2.2.2.lt⟩
theorem fst_new (w : World) (av : Value) (lt lu : Int) (vt vu : Value) : FSt w av lt lu vt vu (((w.alloc (.cells #[av] 24)).alloc (.cells #[.int .i64 lt, vt] 27)).alloc (.cells #[.int .i64 lu, vu] 27)) :=
  ⟨(((Below.refl _ w).alloc (Nat.le_refl _) _).alloc (by simp) _).alloc (by simp; omega) _, blk_0 w _ _ _ _, blk_1 w _ _ _ _, blk3_2 w _ _ _ _⟩

set_option maxRecDepth 100000 in
set_option maxHeartbeats 4000000 in
theorem forms_walk (al : List Int) (lt lu : Int) (T U : Hg) (av vt vu : Value) (s : ByteArray) (w : World) (hal : AlIs w) (ha : IsInts w av al) (hlt : (Lit.int .i64 lt).wf = true) (hlu : (Lit.int .i64 lu).wf = true) (ht : IsH w vt T) (hu : IsH w vu U) (hs : s.size ≤ 9223372036854775807) :
    Calls Tryd.prog 3 #[.agg #[av], .agg #[.int .i64 lt, vt], .agg #[.int .i64 lu, vu], .string s] w fun e w' => e = .returned (.bool true) ∧ Below w.heap.size w w' := by
  have HLT := Lib.hid hlt
  have HLU := Lib.hid hlu
  have HA := Lib.hid ha
  have HT := Lib.hid ht
  have HU := Lib.hid hu
  have HAL := Lib.hid hal
  have ST0 := Lib.hid (fst_new w av lt lu vt vu)
  have hF := (few_ok al av (.cons lt T (.cons lu U .nil)) _ _ (ha.below (ST0.out.alloc (.cells #[.int .i64 lt, vt, .int .i64 lu, vu] 27)).1) (isH_two (Blk.new _ _ _) hlt (ht.below (ST0.out.alloc _).1) hlu (hu.below (ST0.out.alloc _).1)))
  have e3 : (((w.alloc (.cells #[av] 24)).alloc (.cells #[.int .i64 lt, vt] 27)).alloc (.cells #[.int .i64 lu, vu] 27)).heap.size = w.heap.size + 1 + 1 + 1 := by simp
  rw [e3] at hF
  have HF := Lib.hid hF
  clear hF e3
  obtain ⟨pa, ca, rfl, ha1, ha2, _⟩ := ha
  obtain ⟨pt, ct, rfl, ht1, ht2, _⟩ := ht
  obtain ⟨pu, cu, rfl, hu1, hu2, _⟩ := hu
  clear hlt hlu
  have HAW := Lib.hid (fun W (h : Below w.heap.size w W) => awake_ok W (HAL.out.below h))
  go_enter Tryd.func3, Tryd.ntmps3
  go_wp2_with fail
  refine HF.out.mono ?_
  rintro e w1 ⟨rfl, hb⟩
  have ST1 := Lib.hid ((ST0.out.alloc _).more hb)
  obtain ⟨z0, z1, z2, z3, z4, z5, z6, z7⟩ := ST1.out.facts
  clear hb HF ST0
  by_cases hfew : (fewH (.cons lt T (.cons lu U .nil)) && decide ((al.length : Int) ≤ 40)) = true
  rotate_left
  · have hd : (fewH (.cons lt T (.cons lu U .nil)) && decide ((al.length : Int) ≤ 40)) = false := by simpa using hfew
    rw [hd]
    clear hd hfew
    go_wp2_with fail
    refine (HAW.out _ ST1.out.1).mono ?_
    rintro e w2 ⟨rfl, hb2⟩
    have HB2 := Lib.hid hb2
    clear hb2
    go_wp2_with fail
    go_ret
    exact ⟨rfl, (ST1.out.more HB2.out).1⟩
  rw [hfew]
  have hsz : T.size + 1 ≤ 2000 ∧ U.size + 1 ≤ 2000 ∧ al.length ≤ 40 := by
    rw [fewH_cons, fewH_cons] at hfew
    simp only [Bool.and_eq_true, decide_eq_true_eq] at hfew
    omega
  clear hfew
  have hst : ∀ W, Below w1.heap.size w1 W → W.cell? ⟨w.heap.size, 0, none⟩ = some (.slice pa al.length ca) ∧ W.cell? ⟨w.heap.size + 1, 0, none⟩ = some (.int .i64 lt) ∧ W.cell? ⟨w.heap.size + 1, 1, none⟩ = some (.slice pt T.len ct) := fun W hW => by
    obtain ⟨z0, z1, z2, _⟩ := (ST1.out.more hW).facts
    exact ⟨z0, z1, z2⟩
  have HST := Lib.hid hst
  clear hst
  have C1 := Lib.hid (fun W (hW : Below w1.heap.size w1 W) => validAlphabet_ok al (.slice pa al.length ca) W (HA.out.below (ST1.out.more hW).1))
  have C2 := Lib.hid (fun W (hW : Below w1.heap.size w1 W) => rvalidAlphabet_ok al (.slice pa al.length ca) W (HA.out.below (ST1.out.more hW).1))
  have C3 := Lib.hid (fun W (hW : Below w1.heap.size w1 W) => tvalid_ok al (.slice pa al.length ca) lt (.slice pt T.len ct) T W (HA.out.below (ST1.out.more hW).1) HLT.out (HT.out.below (ST1.out.more hW).1) (by omega))
  have C4 := Lib.hid (fun W (hW : Below w1.heap.size w1 W) => rtvalid_ok al (.slice pa al.length ca) lt (.slice pt T.len ct) T W (HA.out.below (ST1.out.more hW).1) (HT.out.below (ST1.out.more hW).1))
  have C5 := Lib.hid (fun W (hW : Below w1.heap.size w1 W) => tsize_ok lt (.slice pt T.len ct) T W HLT.out (HT.out.below (ST1.out.more hW).1) (by omega))
  have C6 := Lib.hid (fun W (hW : Below w1.heap.size w1 W) => size01_ok lt T (.slice pt T.len ct) W (by omega) (HT.out.below (ST1.out.more hW).1))
  have C7 := Lib.hid (fun W (hW : Below w1.heap.size w1 W) => tdepth_ok lt (.slice pt T.len ct) T W HLT.out (HT.out.below (ST1.out.more hW).1) (by omega))
  have C8 := Lib.hid (fun W (hW : Below w1.heap.size w1 W) => rdepth_ok lt T (.slice pt T.len ct) W (by omega) (HT.out.below (ST1.out.more hW).1))
  have HB0 : Hid (Below w1.heap.size w1 w1.drew) := Lib.hid (Below.refl _ _).drew
  go_wp2_with fail
  go_region_held3 (fun W => W.cell? ⟨w.heap.size, 0, none⟩ = some (.slice pa al.length ca) ∧ W.cell? ⟨w.heap.size + 1, 0, none⟩ = some (.int .i64 lt) ∧ W.cell? ⟨w.heap.size + 1, 1, none⟩ = some (.slice pt T.len ct))
    (first | exact HST.out _ HB0.out | exact HST.out _ HB1.out | exact HST.out _ HB2.out | exact HST.out _ HB3.out | exact HST.out _ HB4.out | exact HST.out _ HB5.out | exact HST.out _ HB6.out | exact HST.out _ HB7.out | exact HST.out _ HB8.out)
    (first
      | (go_at_call 11; refine (C1.out _ HB0.out).mono ?_; rintro e u1 ⟨rfl, hb⟩; have HB1 := Lib.hid (HB0.out.trans (hb.mono HB0.out.size)); clear hb)
      | (go_at_call 12; refine (C2.out _ HB1.out).mono ?_; rintro e u2 ⟨rfl, hb⟩; have HB2 := Lib.hid (HB1.out.trans (hb.mono HB1.out.size)); clear hb)
      | (go_at_call 13; refine (C3.out _ HB2.out).mono ?_; rintro e u3 ⟨rfl, hb⟩; have HB3 := Lib.hid (HB2.out.trans (hb.mono HB2.out.size)); clear hb)
      | (go_at_call 14; refine (C4.out _ HB3.out).mono ?_; rintro e u4 ⟨rfl, hb⟩; have HB4 := Lib.hid (HB3.out.trans (hb.mono HB3.out.size)); clear hb)
      | (go_at_call 15; refine (C5.out _ HB4.out).mono ?_; rintro e u5 ⟨rfl, hb⟩; have HB5 := Lib.hid (HB4.out.trans (hb.mono HB4.out.size)); clear hb)
      | (go_at_call 16; refine (C6.out _ HB5.out).mono ?_; rintro e u6 ⟨rfl, hb⟩; have HB6 := Lib.hid (HB5.out.trans (hb.mono HB5.out.size)); clear hb)
      | (go_at_call 17; refine (C7.out _ HB6.out).mono ?_; rintro e u7 ⟨rfl, hb⟩; have HB7 := Lib.hid (HB6.out.trans (hb.mono HB6.out.size)); clear hb)
      | (go_at_call 18; refine (C8.out _ HB7.out).mono ?_; rintro e u8 ⟨rfl, hb⟩; have HB8 := Lib.hid (HB7.out.trans (hb.mono HB7.out.size)); clear hb))
  all_goals
    have ST8 := Lib.hid (ST1.out.more HB8.out)
    obtain ⟨z0, z1, z2, z3, z4, z5, z6, z7⟩ := ST8.out.facts
    have D1 := Lib.hid (fun W (hW : Below w.heap.size w W) => (show Calls Tryd.prog 19 #[.agg #[.int .i64 lt, .slice pt T.len ct], .agg #[.int .i64 lu, .slice pu U.len cu]] W fun e w' => e = .returned (.int .i64 (cmpT lt T lu U)) ∧ Below W.heap.size W w' from by
      rw [← lex_mkT]; exact tcompare_ok lt lu T U (.slice pt T.len ct) (.slice pu U.len cu) W (HT.out.below hW) (HU.out.below hW) (by omega) (by omega)))
    have D2 := Lib.hid (fun W (hW : Below w.heap.size w W) => rcompare_any (T.size + 1) lt lu T U (.slice pt T.len ct) (.slice pu U.len cu) W (by omega) (by omega) (by omega) (HT.out.below hW) (HU.out.below hW))
    have D3 := Lib.hid (fun W (hW : Below w.heap.size w W) => (show Calls Tryd.prog 19 #[.agg #[.int .i64 lu, .slice pu U.len cu], .agg #[.int .i64 lt, .slice pt T.len ct]] W fun e w' => e = .returned (.int .i64 (- cmpT lt T lu U)) ∧ Below W.heap.size W w' from by
      rw [← cmpT_neg, ← lex_mkT]; exact tcompare_ok lu lt U T (.slice pu U.len cu) (.slice pt T.len ct) W (HU.out.below hW) (HT.out.below hW) (by omega) (by omega)))
    have D4 := Lib.hid (fun W (hW : Below w.heap.size w W) => same_any (T.size + 1) lt lu T U (.slice pt T.len ct) (.slice pu U.len cu) W (by omega) (HT.out.below hW) (HU.out.below hW))
    have D5 := Lib.hid (fun W => tname_ok s W hs)
    have D6 := Lib.hid (fun W => rname_ok s W hs)
    have hzb := cmpT_bound lt lu T U
    have hzs : cmpT lt T lu U = 0 ↔ sameT lt T lu U = true := by rw [cmpT_zero, sameT_iff]
    clear HST C1 C2 C3 C4 C5 C6 C7 C8 HB0 HB1 HB2 HB3 HB4 HB5 HB6 HB7
    generalize cmpT lt T lu U = z at D1 D2 D3 hzb hzs
    have hneg : IntKind.i64.wrap (- - z) = z := by rw [Int.neg_neg]; exact IntWalk.i64_in _ (by omega)
    have hneg2 : IntKind.i64.wrap z = z := IntWalk.i64_in _ (by omega)
    have hneg3 : - - z = z := Int.neg_neg z
    go_wp2_with fail
    refine (D1.out _ ST8.out.1).mono ?_
    rintro e v1 ⟨rfl, hb⟩
    have TT1 := Lib.hid (ST8.out.more hb)
    obtain ⟨y0, y1, y2, y3, y4, y5, y6, y7⟩ := TT1.out.facts
    clear hb ST8 ST1 HB8 z0 z1 z2 z3 z4 z5 z6 z7
    go_wp2_with fail
    refine (D2.out _ TT1.out.1).mono ?_
    rintro e v2 ⟨rfl, hb⟩
    have TT2 := Lib.hid (TT1.out.more hb)
    obtain ⟨z0, z1, z2, z3, z4, z5, z6, z7⟩ := TT2.out.facts
    clear hb TT1 y0 y1 y2 y3 y4 y5 y6 y7
    go_wp2_with fail
    refine (D3.out _ TT2.out.1).mono ?_
    rintro e v3 ⟨rfl, hb⟩
    have TT3 := Lib.hid (TT2.out.more hb)
    obtain ⟨y0, y1, y2, y3, y4, y5, y6, y7⟩ := TT3.out.facts
    clear hb TT2 z0 z1 z2 z3 z4 z5 z6 z7
    cases hsm : sameT lt T lu U with
    | true =>
      have hz0 : z = 0 := hzs.2 hsm
      subst hz0
      rw [hsm] at D4
      clear hzs hzb hsm
      go_wp2_with fail
      refine (D4.out _ TT3.out.1).mono ?_
      rintro e v4 ⟨rfl, hb⟩
      have TT4 := Lib.hid (TT3.out.more hb)
      clear hb TT3 y0 y1 y2 y3 y4 y5 y6 y7
      go_wp2_with fail
      refine (D5.out _).mono ?_
      rintro e v5 ⟨rfl, rfl⟩
      go_wp2_with fail
      refine (D6.out _).mono ?_
      rintro e v6 ⟨rfl, rfl⟩
      go_wp2_with fail
      refine (HAW.out _ TT4.out.1).mono ?_
      rintro e v7 ⟨rfl, hb7⟩
      have HB7 := Lib.hid hb7
      clear hb7
      go_wp2_with fail
      go_ret
      exact ⟨rfl, (TT4.out.more HB7.out).1⟩
    | false =>
      have hz0 : ¬ z = 0 := fun e => by rw [hzs.1 e] at hsm; cases hsm
      have hz1 : (z == 0) = false := by simpa using hz0
      have hz2 : decide (z = 0) = false := decide_eq_false hz0
      rw [hsm] at D4
      clear hzs hsm
      go_wp2_with fail
      refine (D4.out _ TT3.out.1).mono ?_
      rintro e v4 ⟨rfl, hb⟩
      have TT4 := Lib.hid (TT3.out.more hb)
      clear hb TT3 y0 y1 y2 y3 y4 y5 y6 y7
      go_wp2_with fail
      refine (D5.out _).mono ?_
      rintro e v5 ⟨rfl, rfl⟩
      go_wp2_with fail
      refine (D6.out _).mono ?_
      rintro e v6 ⟨rfl, rfl⟩
      go_wp2_with fail
      refine (HAW.out _ TT4.out.1).mono ?_
      rintro e v7 ⟨rfl, hb7⟩
      have HB7 := Lib.hid hb7
      clear hb7
      go_wp2_with fail
      go_ret
      exact ⟨rfl, (TT4.out.more HB7.out).1⟩

end Go.Proofs.YtkgoealanboolaaDoor
