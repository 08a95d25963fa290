/- The law AutoSingle: its walk. -/
import Derived.Test.YtedfldbknjcnlaaDoorSgl
import Derived.Test.YtedfldbknjcnlaaDoorSgOne
import Derived.Test.YtedfldbknjcnlaaDoorSize01
import Derived.Test.YtedfldbknjcnlaaDoorAHold
import Derived.Test.YtedfldbknjcnlaaDoorALaw
import Derived.Test.YtedfldbknjcnlaaDoorFG9
namespace Go.Proofs.YtedfldbknjcnlaaDoor
open Go.RowKit Go.Shelf Go.Maps Go.WideElems

set_option maxRecDepth 100000 in
set_option maxHeartbeats 4000000 in
theorem single_walk (al : List Int) (l : Int) (K : Hg) (av vk : Value) (w : World) (hal : AlIs w) (hwf : (Lit.int .i64 l).wf = true) (ha : IsInts w av al) (hK : IsH w vk K) :
    Calls Tryd.prog 7 #[.agg #[av], .agg #[.int .i64 l, vk]] w fun e w' => e = .returned (.bool true) ∧ Below w.heap.size w w' := by
  have HAL := Lib.hid hal
  have HI := Lib.hid ha
  have HK := Lib.hid hK
  have HWF := Lib.hid hwf
  have HAW := Lib.hid (fun w h => awake_ok w h)
  obtain ⟨pa, ca, rfl, _, hca, _⟩ := ha
  obtain ⟨p, c, rfl, _⟩ := hK
  unfold maxLen at hca
  obtain ⟨X, hX⟩ : ∃ X, X = (w.alloc (.cells #[.slice pa al.length ca] 24)).alloc (.cells #[.int .i64 l, .slice p K.len c] 43) := ⟨_, rfl⟩
  have H2 : ∀ W, Below X.heap.size X W → Blk W w.heap.size 24 #[.slice pa al.length ca] ∧ Blk W (w.heap.size + 1) 43 #[.int .i64 l, .slice p K.len c] ∧ Below w.heap.size w W := by
    rw [hX]
    exact two_boxes w _ _ 24 43
  have HS : Hid (∀ W, Below X.heap.size X W → W.cell? ⟨w.heap.size, 0, none⟩ = some (.slice pa al.length ca) ∧ W.cell? ⟨w.heap.size + 1, 0, none⟩ = some (.int .i64 l) ∧ W.cell? ⟨w.heap.size + 1, 1, none⟩ = some (.slice p K.len c) ∧ w.heap.size < W.heap.size ∧ w.heap.size + 1 < W.heap.size) := Lib.hid (fun W hW => by
    obtain ⟨h0, h1, _⟩ := H2 W hW
    exact ⟨by rw [h0.cell]; rfl, by rw [h1.cell]; rfl, by rw [h1.cell]; rfl, h0.lt, h1.lt⟩)
  have HBB : Hid (∀ W, Below X.heap.size X W → Below w.heap.size w W) := Lib.hid (fun W hW => (H2 W hW).2.2)
  have HII : Hid (∀ W, Below X.heap.size X W → IsInts W (.slice pa al.length ca) al) := Lib.hid (fun W hW => HI.out.below (HBB.out W hW))
  have HKK : Hid (∀ W, Below X.heap.size X W → IsH W (.slice p K.len c) K) := Lib.hid (fun W hW => HK.out.below (HBB.out W hW))
  have HLL : Hid (∀ W, Below X.heap.size X W → AlIs W) := Lib.hid (fun W hW => HAL.out.below (HBB.out W hW))
  have HC0 := Lib.hid (Below.refl X.heap.size X)
  have HF := Lib.hid (few01_ok l K _ 400 X (HKK.out _ HC0.out) (by decide) (by decide))
  obtain ⟨x0, x1, x2, y0, y1⟩ := HS.out X HC0.out
  have HX := Lib.hid hX
  rw [hX] at x0 x1 x2 y0 y1
  clear hX H2 hal
  by_cases h40 : 40 < al.length
  · have h40i : (40 : Int) < (al.length : Int) := by omega
    go_enter Tryd.func7, Tryd.ntmps7
    go_wp2_with fail
    have hX := HX.out
    simp only [← hX] at *
    clear hX HX
    refine (HAW.out _ (HLL.out _ HC0.out)).mono ?_
    rintro e wz ⟨rfl, hb⟩
    have HBZ := Lib.hid (HBB.out _ (HC0.out.trans (hb.mono HC0.out.size)))
    clear hb
    go_wp2_with fail
    go_ret
    exact ⟨ret_bool rfl, HBZ.out⟩
  · have h40i : decide ((40 : Int) < (al.length : Int)) = false := decide_eq_false (by omega)
    have h40n : decide (40 < al.length) = false := decide_eq_false h40
    clear h40
    go_enter Tryd.func7, Tryd.ntmps7
    go_wp2_with fail
    have hX := HX.out
    simp only [← hX] at *
    clear hX HX
    refine HF.out.mono ?_
    rintro e w1 ⟨rfl, hb1⟩
    have HC1 := Lib.hid hb1
    clear hb1 HF x0 x1 x2 y0 y1 h40i h40n
    obtain ⟨x0, x1, x2, y0, y1⟩ := HS.out w1 HC1.out
    by_cases hsz : (K.size : Int) + 1 ≤ 400
    case neg =>
      rw [decide_eq_false hsz]
      clear hsz
      go_wp2_with fail
      refine (HAW.out _ (HLL.out _ HC1.out)).mono ?_
      rintro e wz ⟨rfl, hb⟩
      have HBZ := Lib.hid (HBB.out _ (HC1.out.trans (hb.mono HC1.out.size)))
      clear hb
      go_wp2_with fail
      go_ret
      exact ⟨ret_bool rfl, HBZ.out⟩
    case pos =>
      rw [decide_eq_true hsz]
      go_wp2_with fail
      refine (single_ok al l K _ _ w1 HWF.out (by omega) (HII.out _ HC1.out) (HKK.out _ HC1.out)).mono ?_
      rintro e w2 ⟨⟨u, B, rfl, hu, hB⟩, hb2⟩
      have HAB := Lib.hid hu
      have HBE := Lib.hid hB
      obtain ⟨_, _, rfl, ⟨pf, cf, rfl, _⟩, ⟨pr, cr, rfl, _⟩⟩ := hu
      obtain ⟨Y, hY⟩ : ∃ Y, Y = w2.alloc (.cells #[.int .i64 B.st, .slice pf B.fin.length cf, .slice pr B.ru.length cr] 27) := ⟨_, rfl⟩
      have hby : Below w2.heap.size w2 Y := hY ▸ (Below.refl _ w2).alloc (Nat.le_refl _) _
      have HC2 := Lib.hid (HC1.out.trans (hb2.mono HC1.out.size))
      have HCY := Lib.hid (HC2.out.trans (hby.mono HC2.out.size))
      have HYB : Hid (Blk Y w2.heap.size 27 #[.int .i64 B.st, .slice pf B.fin.length cf, .slice pr B.ru.length cr]) := Lib.hid (hY ▸ Blk.new w2 _ _)
      have HABY := Lib.hid (HAB.out.below hby)
      clear x0 x1 x2 y0 y1
      obtain ⟨x0, x1, x2, y0, y1⟩ := HS.out Y HCY.out
      have HY := Lib.hid hY
      rw [hY] at x0 x1 x2 y0 y1
      clear hB hb2 hby hY
      go_wp2_with fail
      have hY := HY.out
      simp only [← hY] at *
      clear hY HY x0 x1 x2 y0 y1
      refine (rtvalid_ok al _ l _ K Y (HII.out _ HCY.out) (HKK.out _ HCY.out)).mono ?_
      rintro e w3 ⟨rfl, hb3⟩
      have HC3 := Lib.hid (HCY.out.trans (hb3.mono HCY.out.size))
      have HY3 := Lib.hid (HYB.out.below hb3 HYB.out.lt)
      have HAB3 := Lib.hid (HABY.out.below hb3)
      clear hb3
      cases hva : tvalid al l K with
      | false =>
        have e1 : tE al l K = 1 := by unfold tE; rw [hva]; rfl
        rw [e1]
        clear e1 hva
        go_wp2_with fail
        refine (HAW.out _ (HLL.out _ HC3.out)).mono ?_
        rintro e wz ⟨rfl, hb⟩
        have HBZ := Lib.hid (HBB.out _ (HC3.out.trans (hb.mono HC3.out.size)))
        clear hb
        go_wp2_with fail
        go_ret
        exact ⟨ret_bool rfl, HBZ.out⟩
      | true =>
        have e1 : tE al l K = 0 := by unfold tE; rw [hva]; rfl
        rw [e1]
        have hs := sgA_ok hva
        have hbe := HBE.out hva
        subst hbe
        have HSA := Lib.hid hs
        have HTV := Lib.hid hva
        obtain ⟨x0, x1, x2, y0, y1⟩ := HS.out w3 HC3.out
        have z0 : w3.cell? ⟨w2.heap.size, 0, none⟩ = some (.int .i64 (sgA l K).st) := by rw [HY3.out.cell]; rfl
        have z1 : w3.cell? ⟨w2.heap.size, 1, none⟩ = some (.slice pf (sgA l K).fin.length cf) := by rw [HY3.out.cell]; rfl
        have z2 : w3.cell? ⟨w2.heap.size, 2, none⟩ = some (.slice pr (sgA l K).ru.length cr) := by rw [HY3.out.cell]; rfl
        have zl := HY3.out.lt
        clear e1 hva hs HBE
        go_wp2_with fail
        refine (rvalid_ok al (sgA l K) _ _ w3 (HII.out _ HC3.out) HAB3.out).mono ?_
        rw [HSA.out.valid]
        rintro e w4 ⟨rfl, hb4⟩
        have HC4 := Lib.hid (HC3.out.trans (hb4.mono HC3.out.size))
        have HY4 := Lib.hid (HY3.out.below hb4 HY3.out.lt)
        have HAB4 := Lib.hid (HAB3.out.below hb4)
        clear hb4 x0 x1 x2 y0 y1 z0 z1 z2 zl
        obtain ⟨x0, x1, x2, y0, y1⟩ := HS.out w4 HC4.out
        have z0 : w4.cell? ⟨w2.heap.size, 0, none⟩ = some (.int .i64 (sgA l K).st) := by rw [HY4.out.cell]; rfl
        have z1 : w4.cell? ⟨w2.heap.size, 1, none⟩ = some (.slice pf (sgA l K).fin.length cf) := by rw [HY4.out.cell]; rfl
        have z2 : w4.cell? ⟨w2.heap.size, 2, none⟩ = some (.slice pr (sgA l K).ru.length cr) := by rw [HY4.out.cell]; rfl
        have zl := HY4.out.lt
        have hlr := HSA.out.len
        go_wp2_with fail
        refine (one_ok (sgA l K) (by omega) _ w4 HAB4.out).mono ?_
        rw [HSA.out.one]
        rintro e w5 ⟨rfl, hb5⟩
        have HC5 := Lib.hid (HC4.out.trans (hb5.mono HC4.out.size))
        have HY5 := Lib.hid (HY4.out.below hb5 HY4.out.lt)
        have HAB5 := Lib.hid (HAB4.out.below hb5)
        clear hb5 x0 x1 x2 y0 y1 z0 z1 z2 zl
        obtain ⟨x0, x1, x2, y0, y1⟩ := HS.out w5 HC5.out
        have z0 : w5.cell? ⟨w2.heap.size, 0, none⟩ = some (.int .i64 (sgA l K).st) := by rw [HY5.out.cell]; rfl
        have z1 : w5.cell? ⟨w2.heap.size, 1, none⟩ = some (.slice pf (sgA l K).fin.length cf) := by rw [HY5.out.cell]; rfl
        have z2 : w5.cell? ⟨w2.heap.size, 2, none⟩ = some (.slice pr (sgA l K).ru.length cr) := by rw [HY5.out.cell]; rfl
        have zl := HY5.out.lt
        have HASK : Hid (askB al (sgA l K) l K = true) := Lib.hid (by unfold askB; rw [HSA.out.valid, HTV.out]; rfl)
        go_wp2_with fail
        refine (has_tree_ok (sgA l K) (by omega) l K _ _ w5 (by omega) HAB5.out (HKK.out _ HC5.out) (ask_ok HASK.out).1 (ask_ok HASK.out).2).mono ?_
        rw [HSA.out.has]
        rintro e w6 ⟨rfl, hb6⟩
        have HC6 := Lib.hid (HC5.out.trans (hb6.mono HC5.out.size))
        have HY6 := Lib.hid (HY5.out.below hb6 HY5.out.lt)
        have HAB6 := Lib.hid (HAB5.out.below hb6)
        clear hb6 x0 x1 x2 y0 y1 z0 z1 z2 zl
        obtain ⟨x0, x1, x2, y0, y1⟩ := HS.out w6 HC6.out
        have z0 : w6.cell? ⟨w2.heap.size, 0, none⟩ = some (.int .i64 (sgA l K).st) := by rw [HY6.out.cell]; rfl
        have z1 : w6.cell? ⟨w2.heap.size, 1, none⟩ = some (.slice pf (sgA l K).fin.length cf) := by rw [HY6.out.cell]; rfl
        have z2 : w6.cell? ⟨w2.heap.size, 2, none⟩ = some (.slice pr (sgA l K).ru.length cr) := by rw [HY6.out.cell]; rfl
        have zl := HY6.out.lt
        have HV := Lib.hid HSA.out.valid
        have hgd := goodA_of HV.out
        have hst : (sgA l K).st = (((sgA l K).ru.length : Nat) : Int) := rfl
        have hn300 : (sgA l K).ru.length ≤ 300 := by have := hgd.st; omega
        have HTR := Lib.hid (trimmed_ok (sgA l K) (sgA l K).ru.length hst hn300 (by omega) (by show 1 ≤ _; omega) hgd.sts (fun r hr => (hgd.rus r hr).len) (fin_ok HV.out) _ w6 HAB6.out)
        clear hgd
        go_wp2_with fail
        refine HTR.out.mono ?_
        rintro e w7 ⟨⟨u7, C, M, rfl, hu7, hM7, hT7⟩, hb7⟩
        have em : M = List.replicate (sgA l K).st.toNat true := IsUsd.uniq hM7 (by
          have h := HSA.out.used
          have e : (sgA l K).st.toNat = (sgA l K).ru.length := by omega
          rw [e] at h ⊢
          exact h)
        subst em
        obtain ⟨hc1, hc2, hc3⟩ := sgA_trim HSA.out hT7
        have hlen3 := hc3.length_eq
        obtain ⟨n, hn⟩ : ∃ n, n = (sgA l K).ru.length := ⟨_, rfl⟩
        have hcnt : ∀ q, q < n → C.ru.countP (fun r => r.to.toNat == q) = 1 := fun q hq => by
          rw [hc3.countP_eq]
          exact HSA.out.inv.count (by omega)
        have hto : ∀ r ∈ C.ru, stIn (n : Int) r.to = true := fun r hr => by
          have h1 := ((goodA_of HV.out).sts r (hc3.mem_iff.1 hr)).1
          rw [hst, ← hn] at h1
          exact h1
        have hst2 : C.st = (n : Int) := by rw [hc1, hst, hn]
        have hfl : C.fin.length = 1 := by rw [hc2]; rfl
        have hrl : C.ru.length = n := by rw [hlen3, hn]
        have hA7 := hu7.isAu
        obtain ⟨_, _, rfl, ⟨pg, cg, rfl, _⟩, ⟨ps, cs, rfl, _⟩⟩ := hu7.isAu
        have HA7 := Lib.hid hA7
        have HONE : Hid (∀ W, IsAu W (.agg #[.int .i64 C.st, .slice pg C.fin.length cg, .slice ps C.ru.length cs]) C → Calls Tryd.prog 41 #[.agg #[.int .i64 C.st, .slice pg C.fin.length cg, .slice ps C.ru.length cs]] W fun e w' => e = .returned (.bool true) ∧ Below W.heap.size W w') := Lib.hid (fun W hW => lone_ok C n hst2 (by omega) (by omega) (by rw [hst2]; exact hto) hcnt _ W hW)
        rw [hst2, hfl, hrl] at HA7 HONE
        have HC7 := Lib.hid (HC6.out.trans (hb7.mono HC6.out.size))
        have hnK : n ≤ K.size + 1 := by omega
        clear hu7 hM7 hT7 hb7 hc1 hc2 hc3 hlen3 hcnt hto hA7 z0 z1 z2 zl hlr hst hn300 HTR x0 x1 x2 y0 y1 hn
        rw [hst2, hfl, hrl]
        clear hst2 hfl hrl
        obtain ⟨Z, hZ⟩ : ∃ Z, Z = w7.alloc (.cells #[.int .i64 (n : Int), .slice pg 1 cg, .slice ps n cs] 27) := ⟨_, rfl⟩
        have hbz : Below w7.heap.size w7 Z := hZ ▸ (Below.refl _ w7).alloc (Nat.le_refl _) _
        have HCZ := Lib.hid (HC7.out.trans (hbz.mono HC7.out.size))
        have HNZ : Hid (Blk Z w7.heap.size 27 #[.int .i64 (n : Int), .slice pg 1 cg, .slice ps n cs]) := Lib.hid (hZ ▸ Blk.new w7 _ _)
        have HAZ := Lib.hid (HA7.out.below hbz)
        have HXW : Hid (∀ W, Below Z.heap.size Z W → Below X.heap.size X W) := Lib.hid (fun W hW => HCZ.out.trans (hW.mono HCZ.out.size))
        have HSZ : Hid (∀ W, Below Z.heap.size Z W → W.cell? ⟨w.heap.size + 1, 0, none⟩ = some (.int .i64 l) ∧ W.cell? ⟨w.heap.size + 1, 1, none⟩ = some (.slice p K.len c) ∧ w.heap.size + 1 < W.heap.size ∧ W.cell? ⟨w7.heap.size, 0, none⟩ = some (.int .i64 (n : Int)) ∧ W.cell? ⟨w7.heap.size, 1, none⟩ = some (.slice pg 1 cg) ∧ W.cell? ⟨w7.heap.size, 2, none⟩ = some (.slice ps n cs) ∧ w7.heap.size < W.heap.size) := Lib.hid (fun W hW => by
          obtain ⟨_, a1, a2, _, a4⟩ := HS.out W (HXW.out W hW)
          have h9 := HNZ.out.below hW HNZ.out.lt
          exact ⟨a1, a2, a4, by rw [h9.cell]; rfl, by rw [h9.cell]; rfl, by rw [h9.cell]; rfl, h9.lt⟩)
        have HON2 : Hid (∀ W, Below Z.heap.size Z W → Calls Tryd.prog 41 #[.agg #[.int .i64 (n : Int), .slice pg 1 cg, .slice ps n cs]] W fun e w' => e = .returned (.bool true) ∧ Below W.heap.size W w') := Lib.hid (fun W hW => HONE.out W (HAZ.out.below hW))
        have HSI : Hid (∀ W, Below Z.heap.size Z W → Calls Tryd.prog 40 #[.agg #[.int .i64 l, .slice p K.len c]] W fun e w' => e = .returned (.int .i64 ((K.size : Int) + 1)) ∧ Below W.heap.size W w') := Lib.hid (fun W hW => size01_ok l K _ W (by omega) (HKK.out _ (HXW.out W hW)))
        have HZD : Hid (Below Z.heap.size Z Z.drew) := Lib.hid (Below.refl _ _).drew
        have HZR : Hid (Below Z.heap.size Z Z) := Lib.hid (Below.refl _ _)
        have hd1 : ((n : Int) == (n : Int)) = true := by simp
        have hd2 : decide ((n : Int) ≤ (K.size : Int) + 1) = true := decide_eq_true (by omega)
        have hd3 : (n : Int) ≤ (K.size : Int) + 1 := by omega
        have HZ := Lib.hid hZ
        clear hbz hZ
        go_wp2_with fail
        have hZ := HZ.out
        simp only [← hZ] at *
        clear hZ HZ
        obtain ⟨a0, a1, a2, a3, a4, a5, a6⟩ := HSZ.out Z HZR.out
        go_region_held3 (fun W => W.cell? ⟨w.heap.size + 1, 0, none⟩ = some (.int .i64 l) ∧ W.cell? ⟨w.heap.size + 1, 1, none⟩ = some (.slice p K.len c) ∧ w.heap.size + 1 < W.heap.size ∧ W.cell? ⟨w7.heap.size, 0, none⟩ = some (.int .i64 (n : Int)) ∧ W.cell? ⟨w7.heap.size, 1, none⟩ = some (.slice pg 1 cg) ∧ W.cell? ⟨w7.heap.size, 2, none⟩ = some (.slice ps n cs) ∧ w7.heap.size < W.heap.size)
          (first | exact HSZ.out _ HZD.out | exact HSZ.out _ HC8.out | exact HSZ.out _ HC9.out | exact HSZ.out _ HC10.out)
          (first
            | (go_at_call 40; refine (HSI.out _ HZD.out).mono ?_; rintro e w8 ⟨rfl, hb8⟩; have HC8 := Lib.hid (HZD.out.trans (hb8.mono HZD.out.size)); clear hb8)
            | (go_at_call 41; refine (HON2.out _ HC8.out).mono ?_; rintro e w9 ⟨rfl, hb9⟩; have HC9 := Lib.hid (HC8.out.trans (hb9.mono HC8.out.size)); clear hb9)
            | (go_at_call 10; refine (HAW.out _ (HLL.out _ (HXW.out _ HC9.out))).mono ?_; rintro e w10 ⟨rfl, hb10⟩; have HC10 := Lib.hid (HC9.out.trans (hb10.mono HC9.out.size)); clear hb10))
        have HBZ := Lib.hid (HBB.out _ (HXW.out _ HC10.out))
        clear a0 a1 a2 a3 a4 a5 a6
        go_wp2_with fail
        go_ret
        exact ⟨ret_bool rfl, HBZ.out⟩

end Go.Proofs.YtedfldbknjcnlaaDoor
