/- The law AutoTrims: its walk. -/
import Derived.Test.YtedfldbknjcnlaaDoorFTri
import Derived.Test.YtedfldbknjcnlaaDoorFG24
import Derived.Test.YtedfldbknjcnlaaDoorFewP
import Derived.Test.YtedfldbknjcnlaaDoorFG26
import Derived.Test.YtedfldbknjcnlaaDoorAHold
import Derived.Test.YtedfldbknjcnlaaDoorTrM
namespace Go.Proofs.YtedfldbknjcnlaaDoor
open Go.RowKit Go.Shelf Go.Maps Go.WideElems

set_option maxRecDepth 100000 in
set_option maxHeartbeats 4000000 in
theorem trims_walk (al : List Int) (A : Au) (l : Int) (K : Hg) (av v vk : Value) (w : World) (hal : AlIs w) (hwf : (Lit.int .i64 l).wf = true) (ha : IsInts w av al) (hA : IsAu w v A) (hK : IsH w vk K) :
    Calls Tryd.prog 6 #[.agg #[av], v, .agg #[.int .i64 l, vk]] w fun e w' => e = .returned (.bool true) ∧ Below w.heap.size w w' := by
  have HAL := Lib.hid hal
  have HI := Lib.hid ha
  have HA := Lib.hid hA
  have HK := Lib.hid hK
  have HWF := Lib.hid hwf
  have HAW := Lib.hid (fun w h => awake_ok w h)
  obtain ⟨fv, rv, rfl, hf, hr⟩ := hA
  obtain ⟨p1, c1, rfl, _⟩ := hf
  obtain ⟨p2, c2, rfl, _⟩ := hr
  obtain ⟨pa, ca, rfl, _⟩ := ha
  obtain ⟨p, c, rfl, _⟩ := hK
  obtain ⟨X, hX⟩ : ∃ X, X = (((w.alloc (.cells #[.slice pa al.length ca] 24)).alloc (.cells #[.int .i64 A.st, .slice p1 A.fin.length c1, .slice p2 A.ru.length c2] 27)).alloc (.cells #[.int .i64 l, .slice p K.len c] 43)).alloc (.cells #[.int .i64 l, .slice p K.len c] 43) := ⟨_, rfl⟩
  have H4 : ∀ W, Below X.heap.size X W → Blk W w.heap.size 24 #[.slice pa al.length ca] ∧ Blk W (w.heap.size + 1) 27 #[.int .i64 A.st, .slice p1 A.fin.length c1, .slice p2 A.ru.length c2] ∧ Blk W (w.heap.size + 1 + 1) 43 #[.int .i64 l, .slice p K.len c] ∧ Blk W (w.heap.size + 1 + 1 + 1) 43 #[.int .i64 l, .slice p K.len c] ∧ Below w.heap.size w W := by
    rw [hX]
    exact four_boxes w _ _ _ _ 24 27 43 43
  have HS : Hid (∀ W, Below X.heap.size X W → W.cell? ⟨w.heap.size, 0, none⟩ = some (.slice pa al.length ca) ∧ W.cell? ⟨w.heap.size + 1, 0, none⟩ = some (.int .i64 A.st) ∧ W.cell? ⟨w.heap.size + 1, 1, none⟩ = some (.slice p1 A.fin.length c1) ∧ W.cell? ⟨w.heap.size + 1, 2, none⟩ = some (.slice p2 A.ru.length c2) ∧ W.cell? ⟨w.heap.size + 1 + 1, 0, none⟩ = some (.int .i64 l) ∧ W.cell? ⟨w.heap.size + 1 + 1, 1, none⟩ = some (.slice p K.len c) ∧ w.heap.size < W.heap.size ∧ w.heap.size + 1 < W.heap.size ∧ w.heap.size + 1 + 1 < W.heap.size) := Lib.hid (fun W hW => by
    obtain ⟨h0, h1, h2, _⟩ := H4 W hW
    exact ⟨by rw [h0.cell]; rfl, by rw [h1.cell]; rfl, by rw [h1.cell]; rfl, by rw [h1.cell]; rfl, by rw [h2.cell]; rfl, by rw [h2.cell]; rfl, h0.lt, h1.lt, h2.lt⟩)
  have HBB : Hid (∀ W, Below X.heap.size X W → Below w.heap.size w W) := Lib.hid (fun W hW => (H4 W hW).2.2.2.2)
  have HAA : Hid (∀ W, Below X.heap.size X W → IsAu W (.agg #[.int .i64 A.st, .slice p1 A.fin.length c1, .slice p2 A.ru.length c2]) A) := Lib.hid (fun W hW => HA.out.below (HBB.out W hW))
  have HII : Hid (∀ W, Below X.heap.size X W → IsInts W (.slice pa al.length ca) al) := Lib.hid (fun W hW => HI.out.below (HBB.out W hW))
  have HKK : Hid (∀ W, Below X.heap.size X W → IsH W (.slice p K.len c) K) := Lib.hid (fun W hW => HK.out.below (HBB.out W hW))
  have HLL : Hid (∀ W, Below X.heap.size X W → AlIs W) := Lib.hid (fun W hW => HAL.out.below (HBB.out W hW))
  have HC0 := Lib.hid (Below.refl X.heap.size X)
  have HF := Lib.hid (lfew_ok al A l K _ _ _ (w.heap.size + 1 + 1 + 1) X (HII.out _ HC0.out) (HAA.out _ HC0.out) (HKK.out _ HC0.out) (H4 X HC0.out).2.2.2.1)
  obtain ⟨x0, x1, x2, x3, x4, x5, y0, y1, y2⟩ := HS.out X HC0.out
  have HX := Lib.hid hX
  rw [hX] at x0 x1 x2 x3 x4 x5 y0 y1 y2
  clear hX H4 hal
  go_enter Tryd.func6, Tryd.ntmps6
  go_wp2_with fail
  have hX := HX.out
  simp only [← hX] at *
  clear hX HX
  refine HF.out.mono ?_
  rintro e w1 ⟨rfl, hb1⟩
  have HC1 := Lib.hid hb1
  clear hb1 HF x0 x1 x2 x3 x4 x5 y0 y1 y2
  obtain ⟨x0, x1, x2, x3, x4, x5, y0, y1, y2⟩ := HS.out w1 HC1.out
  cases hfew : fewB al A K with
  | false =>
    clear hfew
    go_wp2_with fail
    refine (HAW.out _ (HLL.out _ HC1.out)).mono ?_
    rintro e wz ⟨rfl, hb⟩
    have HBZ := Lib.hid (HBB.out _ (HC1.out.trans (hb.mono HC1.out.size)))
    clear hb
    go_wp2_with fail
    go_ret
    exact ⟨ret_bool rfl, HBZ.out⟩
  | true =>
    have HP := Lib.hid (few_parts hfew)
    clear hfew
    go_wp2_with fail
    refine (trim_ok al A _ _ w1 (HII.out _ HC1.out) (HAA.out _ HC1.out)).mono ?_
    rintro e w2 ⟨⟨u, B, rfl, hu, hB0, hB1⟩, hb2⟩
    have HC2 := Lib.hid (HC1.out.trans (hb2.mono HC1.out.size))
    have HAB := Lib.hid hu.isAu
    have HB1 := Lib.hid hB1
    obtain ⟨_, _, rfl, ⟨pf, cf, rfl, _⟩, ⟨pr, cr, rfl, _⟩⟩ := hu.isAu
    clear hu hB0 hB1 hb2 x0 x1 x2 x3 x4 x5 y0 y1 y2
    obtain ⟨x0, x1, x2, x3, x4, x5, y0, y1, y2⟩ := HS.out w2 HC2.out
    cases hva : validA al A with
    | false =>
      have e1 : vE al A = 1 := by unfold vE; rw [hva]; rfl
      rw [e1]
      clear e1 hva
      go_wp2_with fail
      have HCY := Lib.hid (HC2.out.alloc HC2.out.size (.cells #[.int .i64 B.st, .slice pf B.fin.length cf, .slice pr B.ru.length cr] 27))
      refine (HAW.out _ (HLL.out _ HCY.out)).mono ?_
      rintro e wz ⟨rfl, hb⟩
      have HBZ := Lib.hid (HBB.out _ (HCY.out.trans (hb.mono HCY.out.size)))
      clear hb
      go_wp2_with fail
      go_ret
      exact ⟨ret_bool rfl, HBZ.out⟩
    | true =>
      have e1 : vE al A = 0 := by unfold vE; rw [hva]; rfl
      rw [e1]
      obtain ⟨M, hM, hT⟩ := HB1.out hva
      have HVB := Lib.hid (trim_valid hva hM hT)
      have HUB := Lib.hid (trim_all hva hM hT)
      have HSB := Lib.hid (trim_self HVB.out hT.str)
      have HHB : Hid (tvalid al l K = true → hasB B l K = hasB A l K) := Lib.hid (fun ht => trim_has hva hM hT ht)
      have e2 : vE al B = 0 := by unfold vE; rw [HVB.out]; rfl
      have HLB : Hid (B.ru.length ≤ 20000 ∧ 0 ≤ B.st ∧ B.st ≤ 300) := Lib.hid (by
        have h := HVB.out
        unfold validA at h
        simp only [Bool.and_eq_true, decide_eq_true_eq] at h
        omega)
      have HVA := Lib.hid hva
      have E2 := Lib.hid e2
      clear e1 e2 hva hM hT HB1
      go_wp2_with fail
      have HY := Lib.hid (Blk.new w2 27 #[.int .i64 B.st, .slice pf B.fin.length cf, .slice pr B.ru.length cr])
      have HCY := Lib.hid (HC2.out.alloc HC2.out.size (.cells #[.int .i64 B.st, .slice pf B.fin.length cf, .slice pr B.ru.length cr] 27))
      have HABY := Lib.hid (HAB.out.below ((Below.refl w2.heap.size w2).alloc (Nat.le_refl _) (.cells #[.int .i64 B.st, .slice pf B.fin.length cf, .slice pr B.ru.length cr] 27)))
      generalize w2.heap.size = g at *
      generalize w2.alloc (.cells #[.int .i64 B.st, .slice pf B.fin.length cf, .slice pr B.ru.length cr] 27) = Y at *
      refine (auseful_ok al B _ _ Y (HII.out _ HCY.out) HABY.out).mono ?_
      rintro e w3 ⟨⟨u3, rfl, hm3⟩, hb3⟩
      obtain ⟨n, hn⟩ : ∃ n, n = B.st.toNat := ⟨_, rfl⟩
      have HN := Lib.hid hn
      rw [← hn] at hm3
      obtain ⟨mb, M3, rfl, hbb, hus⟩ := hm3.2 HVB.out
      have em := IsUsd.uniq hus (hn ▸ HUB.out)
      have HBM : Hid (BB w3 mb (List.replicate n true)) := Lib.hid (by rw [HN.out] at *; rw [← em]; exact hbb)
      have HC3 := Lib.hid (HCY.out.trans (hb3.mono HCY.out.size))
      have HY3 := Lib.hid (HY.out.below hb3 HY.out.lt)
      have HAB3 := Lib.hid (HABY.out.below hb3)
      clear hm3 hbb hus em hb3 x0 x1 x2 x3 x4 x5 y0 y1 y2 hn
      rw [E2.out]
      obtain ⟨x0, x1, x2, x3, x4, x5, y0, y1, y2⟩ := HS.out w3 HC3.out
      have z0 : w3.cell? ⟨g, 0, none⟩ = some (.int .i64 B.st) := by rw [HY3.out.cell]; rfl
      have z1 : w3.cell? ⟨g, 1, none⟩ = some (.slice pf B.fin.length cf) := by rw [HY3.out.cell]; rfl
      have z2 : w3.cell? ⟨g, 2, none⟩ = some (.slice pr B.ru.length cr) := by rw [HY3.out.cell]; rfl
      have zl := HY3.out.lt
      go_wp2_with fail
      refine (trim_ok al B _ _ w3 (HII.out _ HC3.out) HAB3.out).mono ?_
      rintro e w4 ⟨⟨u4, D, rfl, hu4, _, hD1⟩, hb4⟩
      obtain ⟨M4, hM4, hT4⟩ := hD1 HVB.out
      have em4 := IsUsd.uniq hM4 HUB.out
      subst em4
      have ed := (hT4.uniq HSB.out).symm
      subst ed
      have HC4 := Lib.hid (HC3.out.trans (hb4.mono HC3.out.size))
      have HY4 := Lib.hid (HY3.out.below hb4 HY3.out.lt)
      have HAB4 := Lib.hid (HAB3.out.below hb4)
      have HBM4 : Hid (BB w4 mb (List.replicate n true)) := Lib.hid (Blk.below (show Blk w3 mb 4 ((List.replicate n true).map Value.bool).toArray from HBM.out) hb4 (Blk.lt (show Blk w3 mb 4 _ from HBM.out)))
      have HAD := Lib.hid hu4.isAu
      obtain ⟨_, _, rfl, ⟨pg, cg, rfl, _⟩, ⟨ps, cs, rfl, _⟩⟩ := hu4.isAu
      clear hu4 hD1 hM4 hT4 hb4 x0 x1 x2 x3 x4 x5 y0 y1 y2 z0 z1 z2 zl
      rw [E2.out]
      obtain ⟨Z, hZ⟩ : ∃ Z, Z = w4.alloc (.cells #[.int .i64 B.st, .slice pg B.fin.length cg, .slice ps B.ru.length cs] 27) := ⟨_, rfl⟩
      have HYZ : Hid (Blk Z g 27 #[.int .i64 B.st, .slice pf B.fin.length cf, .slice pr B.ru.length cr]) := Lib.hid (hZ ▸ HY4.out.alloc _)
      have HDZ : Hid (Blk Z w4.heap.size 27 #[.int .i64 B.st, .slice pg B.fin.length cg, .slice ps B.ru.length cs]) := Lib.hid (hZ ▸ Blk.new w4 _ _)
      have hwz : Below w4.heap.size w4 Z := hZ ▸ (Below.refl _ w4).alloc (Nat.le_refl _) _
      have HCZ := Lib.hid (HC4.out.trans (hwz.mono HC4.out.size))
      have HABZ := Lib.hid (HAB4.out.below hwz)
      have HADZ := Lib.hid (HAD.out.below hwz)
      have HBMZ : Hid (BB Z mb (List.replicate n true)) := Lib.hid (Blk.below (show Blk w4 mb 4 ((List.replicate n true).map Value.bool).toArray from HBM4.out) hwz (Blk.lt (show Blk w4 mb 4 _ from HBM4.out)))
      have z0 : Z.cell? ⟨g, 0, none⟩ = some (.int .i64 B.st) := by rw [HYZ.out.cell]; rfl
      have z1 : Z.cell? ⟨g, 1, none⟩ = some (.slice pf B.fin.length cf) := by rw [HYZ.out.cell]; rfl
      have z2 : Z.cell? ⟨g, 2, none⟩ = some (.slice pr B.ru.length cr) := by rw [HYZ.out.cell]; rfl
      have zl := HYZ.out.lt
      have d0 : Z.cell? ⟨w4.heap.size, 0, none⟩ = some (.int .i64 B.st) := by rw [HDZ.out.cell]; rfl
      have d1 : Z.cell? ⟨w4.heap.size, 1, none⟩ = some (.slice pg B.fin.length cg) := by rw [HDZ.out.cell]; rfl
      have d2 : Z.cell? ⟨w4.heap.size, 2, none⟩ = some (.slice ps B.ru.length cs) := by rw [HDZ.out.cell]; rfl
      have dl := HDZ.out.lt
      have HZ := Lib.hid hZ
      rw [hZ] at z0 z1 z2 zl d0 d1 d2 dl
      clear hZ hwz
      go_wp2_with fail
      have hZ := HZ.out
      simp only [← hZ] at *
      clear hZ HZ z0 z1 z2 zl d0 d1 d2 dl
      refine (rsame_ok B HLB.out.1 _ _ Z HABZ.out HADZ.out).mono ?_
      rintro e w5 ⟨rfl, hb5⟩
      have HC5 := Lib.hid (HCZ.out.trans (hb5.mono HCZ.out.size))
      have HY5 := Lib.hid (HYZ.out.below hb5 HYZ.out.lt)
      have HAB5 := Lib.hid (HABZ.out.below hb5)
      have HBM5 : Hid (BB w5 mb (List.replicate n true)) := Lib.hid (Blk.below (show Blk Z mb 4 ((List.replicate n true).map Value.bool).toArray from HBMZ.out) hb5 (Blk.lt (show Blk Z mb 4 _ from HBMZ.out)))
      clear hb5
      have z0 : w5.cell? ⟨g, 0, none⟩ = some (.int .i64 (n : Int)) := by
        rw [HY5.out.cell, show B.st = (n : Int) by have := HLB.out; have := HN.out; omega]
        rfl
      have zl := HY5.out.lt
      have hdn : ((n : Int) != (n : Int)) = false := by simp
      have hn300 : n ≤ 300 := by have := HLB.out; have := HN.out; omega
      go_wp2_with fail
      go_loopw [68] (fun iv wm => ∃ k : Nat, iv = .int .i64 (k : Nat) ∧ k ≤ n ∧ wm = w5) (fun iv _ => n - (intOf iv).toNat)
      case atStart => exact ⟨0, rfl, by omega, (by first | rfl | trivial)⟩
      case round =>
        rename World => wm
        obtain ⟨k, rfl, hk, rfl⟩ := hrel
        by_cases hlt : k < n
        · have m0 : wm.cell? ⟨mb, k, none⟩ = some (.bool true) := by
            rw [HBM5.out.at (by simpa using hlt), getD_all, decide_eq_true hlt]
          have ml := World.block_lt_of_cell? _ _ m0
          simp only at ml
          have hk1 : (k : Int) < (n : Int) := by omega
          go_wp2_with fail
          go_roundw
          case rel => exact ⟨k + 1, by go_num, by omega, (by first | rfl | trivial)⟩
          case measure => simp [intOf]; omega
        · have hkd : decide (k < n) = false := decide_eq_false hlt
          have hkd2 : decide ((k : Int) < (n : Int)) = false := decide_eq_false (by omega)
          obtain ⟨x0, x1, x2, x3, x4, x5, y0, y1, y2⟩ := HS.out wm HC5.out
          obtain ⟨xa, hxa⟩ : ∃ xa, xa = (askB al A l K && hasB A l K) := ⟨_, rfl⟩
          obtain ⟨ea, hea⟩ : ∃ ea, ea = askE al A l K := ⟨_, rfl⟩
          have HX1 := Lib.hid (accepts_ok al A l K _ _ _ wm (by have := HP.out.1; omega) HWF.out (HII.out _ HC5.out) (HAA.out _ HC5.out) (HKK.out _ HC5.out))
          rw [← hxa, ← hea] at HX1
          have HX2 : Hid (∀ W, Below wm.heap.size wm W → Calls Tryd.prog 27 #[.agg #[.slice pa al.length ca], .agg #[.int .i64 B.st, .slice pf B.fin.length cf, .slice pr B.ru.length cr], .agg #[.int .i64 l, .slice p K.len c]] W fun e w' => e = .returned (.tuple #[.bool xa, .int .i64 ea]) ∧ Below W.heap.size W w') := Lib.hid (fun W hW => by
            have hC := HC5.out.trans (hW.mono HC5.out.size)
            have h := accepts_ok al B l K _ _ _ W (by have := HP.out.1; omega) HWF.out (HII.out _ hC) (HAB5.out.below hW) (HKK.out _ hC)
            have e1 : askB al B l K = askB al A l K := by unfold askB; rw [HVA.out, HVB.out]
            have e2 : (askB al B l K && hasB B l K) = xa := by
              rw [hxa, e1]
              cases ht : tvalid al l K with
              | false => unfold askB; rw [ht]; simp
              | true => rw [HHB.out ht]
            have e3 : askE al B l K = ea := by rw [hea]; unfold askE; rw [e1]
            rw [e2, e3] at h
            exact h)
          clear hlt hxa hea
          go_wp2_with fail
          refine HX1.out.mono ?_
          rintro e w6 ⟨rfl, hb6⟩
          have HC6 := Lib.hid (HC5.out.trans (hb6.mono HC5.out.size))
          have HY6 := Lib.hid (HY5.out.below hb6 HY5.out.lt)
          have HB6 := Lib.hid hb6
          clear hb6 x0 x1 x2 x3 x4 x5 y0 y1 y2 z0 zl
          obtain ⟨x0, x1, x2, x3, x4, x5, y0, y1, y2⟩ := HS.out w6 HC6.out
          have z0 : w6.cell? ⟨g, 0, none⟩ = some (.int .i64 B.st) := by rw [HY6.out.cell]; rfl
          have z1 : w6.cell? ⟨g, 1, none⟩ = some (.slice pf B.fin.length cf) := by rw [HY6.out.cell]; rfl
          have z2 : w6.cell? ⟨g, 2, none⟩ = some (.slice pr B.ru.length cr) := by rw [HY6.out.cell]; rfl
          have zl := HY6.out.lt
          go_wp2_with fail
          refine (HX2.out _ HB6.out).mono ?_
          rintro e w7 ⟨rfl, hb7⟩
          have HC7 := Lib.hid (HC6.out.trans (hb7.mono HC6.out.size))
          clear hb7 x0 x1 x2 x3 x4 x5 y0 y1 y2 z0 z1 z2 zl
          go_wp2_with fail
          refine (HAW.out _ (HLL.out _ HC7.out)).mono ?_
          rintro e wz ⟨rfl, hb⟩
          have HBZ := Lib.hid (HBB.out _ (HC7.out.trans (hb.mono HC7.out.size)))
          clear hb
          go_wp2_with fail
          go_ret
          exact ⟨ret_bool rfl, HBZ.out⟩

end Go.Proofs.YtedfldbknjcnlaaDoor
