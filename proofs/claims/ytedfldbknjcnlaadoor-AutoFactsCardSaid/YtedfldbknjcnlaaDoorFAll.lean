/- The law AutoFacts: its walk. -/
import Derived.Test.YtedfldbknjcnlaaDoorFTri
import Derived.Test.YtedfldbknjcnlaaDoorFG24
import Derived.Test.YtedfldbknjcnlaaDoorFG25
import Derived.Test.YtedfldbknjcnlaaDoorAHold
import Derived.Test.YtedfldbknjcnlaaDoorALaw
namespace Go.Proofs.YtedfldbknjcnlaaDoor
open Go.RowKit Go.Shelf Go.Maps Go.WideElems

theorem IsMs.below {ok : Bool} {w w' : World} {v : Value} {n : Nat} {P : List Bool → Prop} (h : IsMs ok w v n P) (hb : Below w.heap.size w w') : IsMs ok w' v n P := by
  refine ⟨h.1, fun e => ?_⟩
  obtain ⟨b, M, h1, h2, h3⟩ := h.2 e
  exact ⟨b, M, h1, Blk.below (show Blk w b 4 (M.map Value.bool).toArray from h2) hb (Blk.lt (show Blk w b 4 (M.map Value.bool).toArray from h2)), h3⟩
theorem bools_any (ok : Bool) (n : Nat) (P : List Bool → Prop) (hP : ∀ M M', P M → P M' → M = M') (hl : ∀ M, P M → M.length = n) (hn : ok = true → n ≤ 300) (u u' : Value) (w : World) (h : IsMs ok w u n P) (h' : IsMs ok w u' n P) :
    Calls Tryd.prog 23 #[u, u'] w fun e w' => e = .returned (.bool true) ∧ Below w.heap.size w w' := by
  cases ok with
  | false =>
    rw [h.1 rfl, h'.1 rfl]
    exact bools_nil w
  | true =>
    obtain ⟨b, M, e1, h1, h2⟩ := h.2 rfl
    obtain ⟨b', M', e1', h1', h2'⟩ := h'.2 rfl
    have e := hP M M' h2 h2'
    subst e
    rw [e1, e1']
    exact bools_same M n b b' w h1 h1' (hl M h2) (hn rfl)

theorem strS_len : ∀ (L R : List Ru), StrS L → (∀ x ∈ L, x ∈ R) → L.length ≤ R.length
  | [], R, _, _ => Nat.zero_le _
  | x :: L, R, h, hm => by
    obtain ⟨h1, h2⟩ := List.pairwise_cons.1 h
    have hx : x ∈ R := hm x List.mem_cons_self
    have ih := strS_len L (R.erase x) h2 (fun y hy => (List.mem_erase_of_ne (fun e => by
      have := h1 y hy
      rw [e] at this
      exact ltR_irrefl x this)).2 (hm y (List.mem_cons_of_mem _ hy)))
    rw [List.length_erase_of_mem hx] at ih
    have := List.length_pos_of_mem hx
    rw [List.length_cons]
    omega

set_option maxRecDepth 100000 in
set_option maxHeartbeats 4000000 in
theorem facts_walk (al : List Int) (A : Au) (av v : Value) (w : World) (hal : AlIs w) (ha : IsInts w av al) (hA : IsAu w v A) :
    Calls Tryd.prog 3 #[.agg #[av], v] w fun e w' => e = .returned (.bool true) ∧ Below w.heap.size w w' := by
  have HAL := Lib.hid hal
  have HI := Lib.hid ha
  have HA := Lib.hid hA
  have HAW := Lib.hid (fun w h => awake_ok w h)
  obtain ⟨fv, rv, rfl, hf, hr⟩ := hA
  obtain ⟨p1, c1, rfl, _⟩ := hf
  obtain ⟨p2, c2, rfl, _⟩ := hr
  obtain ⟨pa, ca, rfl, _⟩ := ha
  obtain ⟨X, hX⟩ : ∃ X, X = (w.alloc (.cells #[.slice pa al.length ca] 24)).alloc (.cells #[.int .i64 A.st, .slice p1 A.fin.length c1, .slice p2 A.ru.length c2] 27) := ⟨_, rfl⟩
  have H2 : ∀ W, Below X.heap.size X W → Blk W w.heap.size 24 #[.slice pa al.length ca] ∧ Blk W (w.heap.size + 1) 27 #[.int .i64 A.st, .slice p1 A.fin.length c1, .slice p2 A.ru.length c2] ∧ Below w.heap.size w W := by
    rw [hX]
    exact two_boxes w #[.slice pa al.length ca] #[.int .i64 A.st, .slice p1 A.fin.length c1, .slice p2 A.ru.length c2] 24 27
  have HS : Hid (∀ W, Below X.heap.size X W → W.cell? ⟨w.heap.size, 0, none⟩ = some (.slice pa al.length ca) ∧ W.cell? ⟨w.heap.size + 1, 0, none⟩ = some (.int .i64 A.st) ∧ W.cell? ⟨w.heap.size + 1, 1, none⟩ = some (.slice p1 A.fin.length c1) ∧ W.cell? ⟨w.heap.size + 1, 2, none⟩ = some (.slice p2 A.ru.length c2) ∧ w.heap.size < W.heap.size ∧ w.heap.size + 1 < W.heap.size) := Lib.hid (fun W hW => by
    obtain ⟨h0, h1, _⟩ := H2 W hW
    exact ⟨by rw [h0.cell]; rfl, by rw [h1.cell]; rfl, by rw [h1.cell]; rfl, by rw [h1.cell]; rfl, h0.lt, h1.lt⟩)
  have HBB : Hid (∀ W, Below X.heap.size X W → Below w.heap.size w W) := Lib.hid (fun W hW => (H2 W hW).2.2)
  have HAA : Hid (∀ W, Below X.heap.size X W → IsAu W (.agg #[.int .i64 A.st, .slice p1 A.fin.length c1, .slice p2 A.ru.length c2]) A) := Lib.hid (fun W hW => HA.out.below (HBB.out W hW))
  have HII : Hid (∀ W, Below X.heap.size X W → IsInts W (.slice pa al.length ca) al) := Lib.hid (fun W hW => HI.out.below (HBB.out W hW))
  have HLL : Hid (∀ W, Below X.heap.size X W → AlIs W) := Lib.hid (fun W hW => HAL.out.below (HBB.out W hW))
  have HC0 := Lib.hid (Below.refl X.heap.size X)
  have HF := Lib.hid (mfew_ok al A .nil _ _ (.slice none 0 0) X (HII.out _ HC0.out) (HAA.out _ HC0.out) ⟨none, 0, rfl, Nat.le_refl _, Nat.zero_le _, fun h => absurd rfl h⟩)
  obtain ⟨x0, x1, x2, x3, y0, y1⟩ := HS.out X HC0.out
  have HX := Lib.hid hX
  rw [hX] at x0 x1 x2 x3 y0 y1
  clear hX H2 hal
  go_enter Tryd.func3, Tryd.ntmps3
  go_wp2_with fail
  have hX := HX.out
  simp only [← hX] at *
  clear hX HX
  refine HF.out.mono ?_
  rintro e w1 ⟨rfl, hb1⟩
  have HC1 := Lib.hid hb1
  clear hb1 HF x0 x1 x2 x3 y0 y1
  obtain ⟨x0, x1, x2, x3, y0, y1⟩ := HS.out w1 HC1.out
  generalize hfew : (fewH .nil && fewA al A) = ff
  cases ff with
  | false =>
    clear hfew
    go_wp2_with fail
    refine (HAW.out _ (HLL.out _ HC1.out)).mono ?_
    rintro e wz ⟨rfl, hb⟩
    have HBZ := Lib.hid (HBB.out _ (HC1.out.trans (hb.mono HC1.out.size)))
    clear hb
    go_wp2_with fail
    go_ret
    exact ⟨ret_bool rfl, HBZ.out⟩
  | true =>
    have hru : A.ru.length ≤ 60 := by
      rw [Bool.and_eq_true] at hfew
      have h := hfew.2
      unfold fewA at h
      simp only [Bool.and_eq_true, decide_eq_true_eq] at h
      exact h.2.1
    clear hfew
    have HCD := Lib.hid HC1.out.drew
    obtain ⟨va, hva⟩ : ∃ va, va = validA al A := ⟨_, rfl⟩
    obtain ⟨ve, hve⟩ : ∃ ve, ve = vE al A := ⟨_, rfl⟩
    have HV1 : Hid (∀ W, Below X.heap.size X W → Calls Tryd.prog 11 #[.agg #[.slice pa al.length ca], .agg #[.int .i64 A.st, .slice p1 A.fin.length c1, .slice p2 A.ru.length c2]] W fun e w' => e = .returned (.bool va) ∧ Below W.heap.size W w') := Lib.hid (fun W hW => by rw [hva]; exact valid_ok al A _ _ W (HII.out _ hW) (HAA.out _ hW))
    have HV2 : Hid (∀ W, Below X.heap.size X W → Calls Tryd.prog 12 #[.agg #[.slice pa al.length ca], .agg #[.int .i64 A.st, .slice p1 A.fin.length c1, .slice p2 A.ru.length c2]] W fun e w' => e = .returned (.bool va) ∧ Below W.heap.size W w') := Lib.hid (fun W hW => by rw [hva]; exact rvalid_ok al A _ _ W (HII.out _ hW) (HAA.out _ hW))
    have HGD : Hid (va = true → GoodA al A) := Lib.hid (fun e => goodA_of (by rw [← hva]; exact e))
    obtain ⟨vd, hvd⟩ : ∃ vd, vd = (validA al A && oneB A.ru) := ⟨_, rfl⟩
    obtain ⟨vc, hvc⟩ : ∃ vc, vc = (validA al A && comB al A) := ⟨_, rfl⟩
    have HD1 : Hid (∀ W, Below X.heap.size X W → Calls Tryd.prog 13 #[.agg #[.slice pa al.length ca], .agg #[.int .i64 A.st, .slice p1 A.fin.length c1, .slice p2 A.ru.length c2]] W fun e w' => e = .returned (.tuple #[.bool vd, .int .i64 ve]) ∧ Below W.heap.size W w') := Lib.hid (fun W hW => by rw [hvd, hve]; exact det_ok al A _ _ W (HII.out _ hW) (HAA.out _ hW))
    have HD2 : Hid (∀ W, Below X.heap.size X W → Calls Tryd.prog 14 #[.agg #[.slice pa al.length ca], .agg #[.int .i64 A.st, .slice p1 A.fin.length c1, .slice p2 A.ru.length c2]] W fun e w' => e = .returned (.tuple #[.bool vd, .int .i64 ve]) ∧ Below W.heap.size W w') := Lib.hid (fun W hW => by rw [hvd, hve]; exact rdet_ok al A (by omega) _ _ W (HII.out _ hW) (HAA.out _ hW))
    have HE1 : Hid (∀ W, Below X.heap.size X W → Calls Tryd.prog 15 #[.agg #[.slice pa al.length ca], .agg #[.int .i64 A.st, .slice p1 A.fin.length c1, .slice p2 A.ru.length c2]] W fun e w' => e = .returned (.tuple #[.bool vc, .int .i64 ve]) ∧ Below W.heap.size W w') := Lib.hid (fun W hW => by rw [hvc, hve]; exact com_ok al A _ _ W (HII.out _ hW) (HAA.out _ hW))
    have HE2 : Hid (∀ W, Below X.heap.size X W → Calls Tryd.prog 16 #[.agg #[.slice pa al.length ca], .agg #[.int .i64 A.st, .slice p1 A.fin.length c1, .slice p2 A.ru.length c2]] W fun e w' => e = .returned (.tuple #[.bool vc, .int .i64 ve]) ∧ Below W.heap.size W w') := Lib.hid (fun W hW => by rw [hvc, hve]; exact rcom_ok al A (by omega) _ _ W (HII.out _ hW) (HAA.out _ hW))
    have HR1 : Hid (∀ W, Below X.heap.size X W → Calls Tryd.prog 17 #[.agg #[.slice pa al.length ca], .agg #[.int .i64 A.st, .slice p1 A.fin.length c1, .slice p2 A.ru.length c2]] W fun e w' => (∃ u, e = .returned (.tuple #[u, .int .i64 ve]) ∧ IsMs va w' u A.st.toNat (IsRch A.ru A.st.toNat)) ∧ Below W.heap.size W w') := Lib.hid (fun W hW => by rw [hva, hve]; exact areachable_ok al A _ _ W (HII.out _ hW) (HAA.out _ hW))
    have HR2 : Hid (∀ W, Below X.heap.size X W → Calls Tryd.prog 18 #[.agg #[.slice pa al.length ca], .agg #[.int .i64 A.st, .slice p1 A.fin.length c1, .slice p2 A.ru.length c2]] W fun e w' => (∃ u, e = .returned (.tuple #[u, .int .i64 ve]) ∧ IsMs va w' u A.st.toNat (IsRch A.ru A.st.toNat)) ∧ Below W.heap.size W w') := Lib.hid (fun W hW => by rw [hva, hve]; exact rreachable_ok al A _ _ W (HII.out _ hW) (HAA.out _ hW))
    have HU1 : Hid (∀ W, Below X.heap.size X W → Calls Tryd.prog 19 #[.agg #[.slice pa al.length ca], .agg #[.int .i64 A.st, .slice p1 A.fin.length c1, .slice p2 A.ru.length c2]] W fun e w' => (∃ u, e = .returned (.tuple #[u, .int .i64 ve]) ∧ IsMs va w' u A.st.toNat (IsUsd A.ru A.fin A.st.toNat)) ∧ Below W.heap.size W w') := Lib.hid (fun W hW => by rw [hva, hve]; exact auseful_ok al A _ _ W (HII.out _ hW) (HAA.out _ hW))
    have HU2 : Hid (∀ W, Below X.heap.size X W → Calls Tryd.prog 20 #[.agg #[.slice pa al.length ca], .agg #[.int .i64 A.st, .slice p1 A.fin.length c1, .slice p2 A.ru.length c2]] W fun e w' => (∃ u, e = .returned (.tuple #[u, .int .i64 ve]) ∧ IsMs va w' u A.st.toNat (IsUsd A.ru A.fin A.st.toNat)) ∧ Below W.heap.size W w') := Lib.hid (fun W hW => by rw [hva, hve]; exact ruseful_ok al A _ _ W (HII.out _ hW) (HAA.out _ hW))
    have HT1 : Hid (∀ W, Below X.heap.size X W → Calls Tryd.prog 21 #[.agg #[.slice pa al.length ca], .agg #[.int .i64 A.st, .slice p1 A.fin.length c1, .slice p2 A.ru.length c2]] W fun e w' => (∃ u B, e = .returned (.tuple #[u, .int .i64 ve]) ∧ IsAu w' u B ∧ (va = false → B = ⟨0, [], []⟩) ∧ (va = true → ∃ M, IsUsd A.ru A.fin A.st.toNat M ∧ TrimOf A M B)) ∧ Below W.heap.size W w') := Lib.hid (fun W hW => by
      rw [hva, hve]
      refine (trim_ok al A _ _ W (HII.out _ hW) (HAA.out _ hW)).mono ?_
      rintro e w' ⟨⟨u, B, h1, h2, h3, h4⟩, h5⟩
      exact ⟨⟨u, B, h1, h2.isAu, h3, h4⟩, h5⟩)
    have HT2 : Hid (∀ W, Below X.heap.size X W → Calls Tryd.prog 22 #[.agg #[.slice pa al.length ca], .agg #[.int .i64 A.st, .slice p1 A.fin.length c1, .slice p2 A.ru.length c2]] W fun e w' => (∃ u B, e = .returned (.tuple #[u, .int .i64 ve]) ∧ IsAu w' u B ∧ (va = false → B = ⟨0, [], []⟩) ∧ (va = true → ∃ M, IsUsd A.ru A.fin A.st.toNat M ∧ TrimOf A M B)) ∧ Below W.heap.size W w') := Lib.hid (fun W hW => by
      rw [hva, hve]
      refine (rtrim_ok al A _ _ W (HII.out _ hW) (HAA.out _ hW)).mono ?_
      rintro e w' ⟨⟨u, B, h1, h2, h3, h4⟩, h5⟩
      exact ⟨⟨u, B, h1, h2.isAu, h3, h4⟩, h5⟩)
    clear hva hve hvd hvc
    go_wp2_with fail
    go_region_held3 (fun W => W.cell? ⟨w.heap.size, 0, none⟩ = some (.slice pa al.length ca) ∧ W.cell? ⟨w.heap.size + 1, 0, none⟩ = some (.int .i64 A.st) ∧ W.cell? ⟨w.heap.size + 1, 1, none⟩ = some (.slice p1 A.fin.length c1) ∧ W.cell? ⟨w.heap.size + 1, 2, none⟩ = some (.slice p2 A.ru.length c2) ∧ w.heap.size < W.heap.size ∧ w.heap.size + 1 < W.heap.size)
      (first | exact HS.out _ HCD.out | exact HS.out _ HC2.out | exact HS.out _ HC3.out)
      (first
        | (go_at_call 11; refine (HV1.out _ HCD.out).mono ?_; rintro e w2 ⟨rfl, hb2⟩; have HC2 := Lib.hid (HCD.out.trans (hb2.mono HCD.out.size)); clear hb2)
        | (go_at_call 12; refine (HV2.out _ HC2.out).mono ?_; rintro e w3 ⟨rfl, hb3⟩; have HC3 := Lib.hid (HC2.out.trans (hb3.mono HC2.out.size)); clear hb3))
    clear x0 x1 x2 x3 y0 y1
    obtain ⟨x0, x1, x2, x3, y0, y1⟩ := HS.out w3 HC3.out
    go_wp2_with fail
    refine (HD1.out _ HC3.out).mono ?_
    rintro e w4 ⟨rfl, hb4⟩
    have HC4 := Lib.hid (HC3.out.trans (hb4.mono HC3.out.size))
    clear hb4 x0 x1 x2 x3 y0 y1
    obtain ⟨x0, x1, x2, x3, y0, y1⟩ := HS.out w4 HC4.out
    go_wp2_with fail
    refine (HD2.out _ HC4.out).mono ?_
    rintro e w5 ⟨rfl, hb5⟩
    have HC5 := Lib.hid (HC4.out.trans (hb5.mono HC4.out.size))
    clear hb5 x0 x1 x2 x3 y0 y1
    obtain ⟨x0, x1, x2, x3, y0, y1⟩ := HS.out w5 HC5.out
    go_wp2_with fail
    refine (HE1.out _ HC5.out).mono ?_
    rintro e w6 ⟨rfl, hb6⟩
    have HC6 := Lib.hid (HC5.out.trans (hb6.mono HC5.out.size))
    clear hb6 x0 x1 x2 x3 y0 y1
    obtain ⟨x0, x1, x2, x3, y0, y1⟩ := HS.out w6 HC6.out
    go_wp2_with fail
    refine (HE2.out _ HC6.out).mono ?_
    rintro e w7 ⟨rfl, hb7⟩
    have HC7 := Lib.hid (HC6.out.trans (hb7.mono HC6.out.size))
    clear hb7 x0 x1 x2 x3 y0 y1
    obtain ⟨x0, x1, x2, x3, y0, y1⟩ := HS.out w7 HC7.out
    go_wp2_with fail
    refine (HR1.out _ HC7.out).mono ?_
    rintro e w8 ⟨⟨u1, rfl, hM1⟩, hb8⟩
    have HC8 := Lib.hid (HC7.out.trans (hb8.mono HC7.out.size))
    have HM1 := Lib.hid hM1
    clear hM1
    clear hb8 x0 x1 x2 x3 y0 y1
    obtain ⟨x0, x1, x2, x3, y0, y1⟩ := HS.out w8 HC8.out
    go_wp2_with fail
    refine (HR2.out _ HC8.out).mono ?_
    rintro e w9 ⟨⟨u2, rfl, hM2⟩, hb9⟩
    have HC9 := Lib.hid (HC8.out.trans (hb9.mono HC8.out.size))
    have HM1 := Lib.hid (HM1.out.below hb9)
    have HM2 := Lib.hid hM2
    clear hM2
    clear hb9 x0 x1 x2 x3 y0 y1
    obtain ⟨x0, x1, x2, x3, y0, y1⟩ := HS.out w9 HC9.out
    go_wp2_with fail
    refine (HU1.out _ HC9.out).mono ?_
    rintro e w10 ⟨⟨u3, rfl, hM3⟩, hb10⟩
    have HC10 := Lib.hid (HC9.out.trans (hb10.mono HC9.out.size))
    have HM1 := Lib.hid (HM1.out.below hb10)
    have HM2 := Lib.hid (HM2.out.below hb10)
    have HM3 := Lib.hid hM3
    clear hM3
    clear hb10 x0 x1 x2 x3 y0 y1
    obtain ⟨x0, x1, x2, x3, y0, y1⟩ := HS.out w10 HC10.out
    go_wp2_with fail
    refine (HU2.out _ HC10.out).mono ?_
    rintro e w11 ⟨⟨u4, rfl, hM4⟩, hb11⟩
    have HC11 := Lib.hid (HC10.out.trans (hb11.mono HC10.out.size))
    have HM1 := Lib.hid (HM1.out.below hb11)
    have HM2 := Lib.hid (HM2.out.below hb11)
    have HM3 := Lib.hid (HM3.out.below hb11)
    have HM4 := Lib.hid hM4
    clear hM4
    clear hb11 x0 x1 x2 x3 y0 y1
    obtain ⟨x0, x1, x2, x3, y0, y1⟩ := HS.out w11 HC11.out
    go_wp2_with fail
    refine (HT1.out _ HC11.out).mono ?_
    rintro e w12 ⟨⟨t1, B1, rfl, ha1, h1a, h1b⟩, hb12⟩
    have HC12 := Lib.hid (HC11.out.trans (hb12.mono HC11.out.size))
    have HM1 := Lib.hid (HM1.out.below hb12)
    have HM2 := Lib.hid (HM2.out.below hb12)
    have HM3 := Lib.hid (HM3.out.below hb12)
    have HM4 := Lib.hid (HM4.out.below hb12)
    have HA1 := Lib.hid ha1
    have HB1a := Lib.hid h1a
    have HB1b := Lib.hid h1b
    obtain ⟨_, _, rfl, ⟨pf1, cf1, rfl, _⟩, ⟨pr1, cr1, rfl, _⟩⟩ := ha1
    clear h1a h1b
    clear hb12 x0 x1 x2 x3 y0 y1
    obtain ⟨x0, x1, x2, x3, y0, y1⟩ := HS.out w12 HC12.out
    go_wp2_with fail
    have HY := Lib.hid (Blk.new w12 27 #[.int .i64 B1.st, .slice pf1 B1.fin.length cf1, .slice pr1 B1.ru.length cr1])
    have HCY := Lib.hid (HC12.out.alloc HC12.out.size (.cells #[.int .i64 B1.st, .slice pf1 B1.fin.length cf1, .slice pr1 B1.ru.length cr1] 27))
    have HLY := Lib.hid ((Below.refl w12.heap.size w12).alloc (Nat.le_refl _) (.cells #[.int .i64 B1.st, .slice pf1 B1.fin.length cf1, .slice pr1 B1.ru.length cr1] 27))
    generalize w12.alloc (.cells #[.int .i64 B1.st, .slice pf1 B1.fin.length cf1, .slice pr1 B1.ru.length cr1] 27) = Y at *
    refine (HT2.out _ HCY.out).mono ?_
    rintro e w13 ⟨⟨t2, B2, rfl, ha2, h2a, h2b⟩, hb13⟩
    have HC13 := Lib.hid (HCY.out.trans (hb13.mono HCY.out.size))
    have HY13 := Lib.hid (HY.out.below hb13 HY.out.lt)
    have HL13 := Lib.hid (HLY.out.trans (hb13.mono HLY.out.size))
    have HA2 := Lib.hid ha2
    have HB2a := Lib.hid h2a
    have HB2b := Lib.hid h2b
    obtain ⟨_, _, rfl, ⟨pf2, cf2, rfl, _⟩, ⟨pr2, cr2, rfl, _⟩⟩ := ha2
    clear h2a h2b hb13 x0 x1 x2 x3 y0 y1
    go_wp2_with fail
    have HZ := Lib.hid (Blk.new w13 27 #[.int .i64 B2.st, .slice pf2 B2.fin.length cf2, .slice pr2 B2.ru.length cr2])
    have HCZ := Lib.hid (HC13.out.alloc HC13.out.size (.cells #[.int .i64 B2.st, .slice pf2 B2.fin.length cf2, .slice pr2 B2.ru.length cr2] 27))
    have HYZ := Lib.hid (HY13.out.alloc (.cells #[.int .i64 B2.st, .slice pf2 B2.fin.length cf2, .slice pr2 B2.ru.length cr2] 27))
    have HLZ := Lib.hid (HL13.out.alloc HL13.out.size (.cells #[.int .i64 B2.st, .slice pf2 B2.fin.length cf2, .slice pr2 B2.ru.length cr2] 27))
    have HMZ := Lib.hid ((Below.refl w13.heap.size w13).alloc (Nat.le_refl _) (.cells #[.int .i64 B2.st, .slice pf2 B2.fin.length cf2, .slice pr2 B2.ru.length cr2] 27))
    generalize w13.alloc (.cells #[.int .i64 B2.st, .slice pf2 B2.fin.length cf2, .slice pr2 B2.ru.length cr2] 27) = Z at *
    have HN3 : Hid (va = true → A.st.toNat ≤ 300) := Lib.hid (fun e => by have := (HGD.out e).st; omega)
    refine (bools_any va A.st.toNat _ (fun _ _ h h' => IsRch.uniq h h') (fun _ h => h.len) HN3.out u1 u2 Z (HM1.out.below HLZ.out) (HM2.out.below HLZ.out)).mono ?_
    rintro e z1 ⟨rfl, hz1⟩
    have HZ1 := Lib.hid hz1
    clear hz1
    go_wp2_with fail
    refine (bools_any va A.st.toNat _ (fun _ _ h h' => IsUsd.uniq h h') (fun _ h => h.len) HN3.out u3 u4 z1 (HM3.out.below (HLZ.out.trans (HZ1.out.mono HLZ.out.size))) (HM4.out.below (HLZ.out.trans (HZ1.out.mono HLZ.out.size)))).mono ?_
    rintro e z2 ⟨rfl, hz2⟩
    have HZ2 := Lib.hid (HZ1.out.trans (hz2.mono HZ1.out.size))
    clear hz2
    have t10 := HYZ.out.below HZ2.out HYZ.out.lt
    have t20 := HZ.out.below HZ2.out HZ.out.lt
    have a0 : z2.cell? ⟨w12.heap.size, 0, none⟩ = some (.int .i64 B1.st) := by rw [t10.cell]; rfl
    have a1 : z2.cell? ⟨w12.heap.size, 1, none⟩ = some (.slice pf1 B1.fin.length cf1) := by rw [t10.cell]; rfl
    have a2 : z2.cell? ⟨w12.heap.size, 2, none⟩ = some (.slice pr1 B1.ru.length cr1) := by rw [t10.cell]; rfl
    have al1 := t10.lt
    have c0 : z2.cell? ⟨w13.heap.size, 0, none⟩ = some (.int .i64 B2.st) := by rw [t20.cell]; rfl
    have c1' : z2.cell? ⟨w13.heap.size, 1, none⟩ = some (.slice pf2 B2.fin.length cf2) := by rw [t20.cell]; rfl
    have c2' : z2.cell? ⟨w13.heap.size, 2, none⟩ = some (.slice pr2 B2.ru.length cr2) := by rw [t20.cell]; rfl
    have al2 := t20.lt
    clear t10 t20
    have HEQ : Hid (B1 = B2 ∧ B1.ru.length ≤ 20000) := Lib.hid (by
      cases hv : va with
      | false =>
        rw [HB1a.out hv, HB2a.out hv]
        exact ⟨rfl, Nat.zero_le _⟩
      | true =>
        obtain ⟨M, hM, hT⟩ := HB1b.out hv
        obtain ⟨M', hM', hT'⟩ := HB2b.out hv
        have e := IsUsd.uniq hM hM'
        subst e
        have h1 := strS_len B1.ru (ruK M A.ru) hT.str (fun x hx => (hT.mem x).1 hx)
        have h2 := ruK_len M A.ru
        exact ⟨hT.uniq hT', by omega⟩)
    have HS1 := Lib.hid (HA1.out.below (HLZ.out.trans (HZ2.out.mono HLZ.out.size)))
    have HS2 : Hid (IsAu z2 (.agg #[.int .i64 B2.st, .slice pf2 B2.fin.length cf2, .slice pr2 B2.ru.length cr2]) B1) := Lib.hid (by
      rw [HEQ.out.1]
      exact HA2.out.below (HMZ.out.trans (HZ2.out.mono HMZ.out.size)))
    go_wp2_with fail
    refine (rsame_ok B1 HEQ.out.2 _ _ z2 HS1.out HS2.out).mono ?_
    rintro e z3 ⟨rfl, hz3⟩
    have HZ3 := Lib.hid (HCZ.out.trans ((HZ2.out.trans (hz3.mono HZ2.out.size)).mono HCZ.out.size))
    clear hz3 a0 a1 a2 al1 c0 c1' c2' al2
    go_wp2_with fail
    refine (HAW.out _ (HLL.out _ HZ3.out)).mono ?_
    rintro e wz ⟨rfl, hb⟩
    have HBZ := Lib.hid (HBB.out _ (HZ3.out.trans (hb.mono HZ3.out.size)))
    clear hb
    go_wp2_with fail
    go_ret
    exact ⟨ret_bool rfl, HBZ.out⟩

end Go.Proofs.YtedfldbknjcnlaaDoor
