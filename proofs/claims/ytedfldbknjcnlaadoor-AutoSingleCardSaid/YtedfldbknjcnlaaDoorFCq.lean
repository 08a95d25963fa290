/- slices.CompactFunc over rules of the call's own. -/
import Derived.Test.YtedfldbknjcnlaaDoorFG21
namespace Go.Proofs.YtedfldbknjcnlaaDoor
open Go.RowKit Go.Shelf Go.Maps Go.WideElems

theorem set_cells : ∀ (L : List (Ru × Value)) (i : Nat) (x : Ru × Value), i < L.length → ((((rcells L).set (i * 3) (.int .i64 x.1.sym)).set (i * 3 + 1) x.2).set (i * 3 + 2) (.int .i64 x.1.to)) = rcells (L.set i x)
  | [], i, x, h => by simp at h
  | y :: L, 0, x, _ => rfl
  | y :: L, i + 1, x, h => by
    have ih := set_cells L i x (by simpa using h)
    have hl : (rcell y).length = 3 := rfl
    have e : ∀ (M : List Value) (j : Nat) (u : Value), (rcell y ++ M).set ((i + 1) * 3 + j) u = rcell y ++ M.set (i * 3 + j) u := fun M j u => by
      rw [List.set_append_right _ _ (by rw [hl]; omega), hl]
      congr 2
      omega
    rw [List.set_cons_succ, rcells_cons, rcells_cons, ← ih]
    have e0 : ∀ (M : List Value) (u : Value), (rcell y ++ M).set ((i + 1) * 3) u = rcell y ++ M.set (i * 3) u := fun M u => e M 0 u
    rw [e0, e, e]
theorem set_at (OUT T : List (Ru × Value)) (x : Ru × Value) (k : Nat) (hk : OUT.length = k) (hT : k < T.length) : (OUT ++ T.drop k).set k x = (OUT ++ [x]) ++ T.drop (k + 1) := by
  rw [List.set_append_right _ _ (by omega), hk, Nat.sub_self, List.drop_eq_getElem_cons hT, List.set_cons_zero, List.append_assoc]
  rfl
theorem at_rest (OUT T : List (Ru × Value)) (k i : Nat) (hk : OUT.length = k) (hi : k ≤ i) : (OUT ++ T.drop k)[i]? = T[i]? := by
  rw [List.getElem?_append_right (by omega), hk, List.getElem?_drop]
  congr 1
  omega

set_option maxRecDepth 100000 in
set_option maxHeartbeats 4000000 in
theorem rcompact_ok (E : List (Ru × Value)) (n : Nat) (hlen : E.length = n) (hn0 : 0 < n) (hn : n ≤ 20000) (g cap B : Nat) (w : World) (ho : w.ownsRow B 70 3 (.slice (some ⟨g, 0, none⟩) n cap) n (rcells E))
    (hD : ∀ x ∈ E, ∀ W, Kp (fun c => c ≠ g) w W → IsInts W x.2 x.1.fr) (hR : ∀ x ∈ E, ∀ y ∈ E, x.1.sym = y.1.sym → x.1.fr.length = y.1.fr.length) :
    Calls Tryd.prog 88 #[.slice (some ⟨g, 0, none⟩) n cap, .func (.func 89) #[] #[]] w fun e w' => e = .returned (.slice (some ⟨g, 0, none⟩) (cmpd E n).length cap) ∧
      w'.ownsRow B 70 3 (.slice (some ⟨g, 0, none⟩) (cmpd E n).length cap) (cmpd E n).length (rcells (cmpd E n)) ∧ Kp (fun c => c ≠ g) w w' := by
  have hgb : B ≤ g ∧ n ≤ cap ∧ cap ≤ maxLen ∧ g < w.heap.size := by
    obtain ⟨g', cap', e, h1, h2, h3, h4, _⟩ := row3_shape ho hn0
    simp only [Value.slice.injEq, Option.some.injEq, Addr.mk.injEq] at e
    obtain ⟨⟨rfl, _⟩, _, rfl⟩ := e
    exact ⟨h1, h2, h3, h4⟩
  obtain ⟨hBg, hcap, hcap2, hgl⟩ := hgb
  unfold maxLen at hcap2
  have HL := Lib.hid hlen
  have HO := Lib.hid ho
  have HEQ : Hid (∀ x ∈ E, ∀ y ∈ E, ∀ W, Kp (fun c => c ≠ g) w W → Calls Tryd.prog 89 #[.agg #[.int .i64 x.1.sym, x.2, .int .i64 x.1.to], .agg #[.int .i64 y.1.sym, y.2, .int .i64 y.1.to]] W fun e w' => e = .returned (.bool (decide (x.1 = y.1))) ∧ Kp (fun _ => True) W w') :=
    Lib.hid (fun x hx y hy W hW => ruEq_ok x.1 y.1 x.2 y.2 W (hD x hx W hW) (hD y hy W hW) (hR x hx y hy))
  have HDD := Lib.hid hD
  have hall : ∀ k, k + 1 = n → cmpd E (k + 1) = E.take (k + 1) → cmpd E n = E := fun k hk h => by rw [← hk, h, List.take_of_length_le (by omega)]
  have HALL := Lib.hid hall
  have hone : cmpd E (0 + 1) = E.take (0 + 1) := by
    obtain ⟨x, hx⟩ : ∃ x, E[0]? = some x := ⟨_, List.getElem?_eq_getElem (by omega)⟩
    rw [cmpd_keep hx rfl, List.take_add_one, hx]
    rfl
  have HONE := Lib.hid hone
  clear hlen ho hD hR hall hone
  by_cases h2 : n < 2
  · have hd : decide ((n : Int) < 2) = true := decide_eq_true (by omega)
    have hn1 : 0 + 1 = n := by omega
    have HFI := Lib.hid (HALL.out 0 hn1 HONE.out)
    clear hn1 h2 hn0 hn
    go_enter Tryd.func88, Tryd.ntmps88
    go_wp2_with fail
    go_ret
    rw [HFI.out, HL.out]
    exact ⟨rfl, HO.out, Kp.refl _ _⟩
  · have hd : decide ((n : Int) < 2) = false := decide_eq_false (by omega)
    go_enter Tryd.func88, Tryd.ntmps88
    go_wp2_with fail
    go_loopw [5] (fun kv wr => ∃ k m : Nat, kv = .int .i64 (m : Nat) ∧ Hid (m = k + 1) ∧ m ≤ n ∧ Hid (cmpd E (k + 1) = E.take (k + 1)) ∧ Hid (Kp (fun _ => True) w wr)) (fun kv _ => n - (intOf kv).toNat)
    case atStart => exact ⟨0, 1, rfl, Lib.hid rfl, by omega, HONE, Lib.hid (Kp.refl _ _)⟩
    case round =>
      rename World => wj
      obtain ⟨k, m, rfl, HM, hk, HC, HKj⟩ := hrel
      have HOj : Hid (wj.ownsRow B 70 3 (.slice (some ⟨g, 0, none⟩) n cap) n (rcells E)) := Lib.hid (ownsRow_kp HO.out HKj.out (fun _ _ => trivial))
      by_cases hlt : m < n
      · have hli : (m : Int) < (n : Int) := by omega
        have hki : (k : Int) < (n : Int) := by have := HM.out; omega
        have hw : IntKind.i64.wrap ((m : Int) - 1) = (k : Int) := by rw [IntKind.wrap_i64] <;> (have := HM.out; omega)
        have HMk := HM.out
        have hE := HL.out
        obtain ⟨x, hx⟩ : ∃ x, E[m]? = some x := ⟨_, List.getElem?_eq_getElem (by omega)⟩
        obtain ⟨y, hy⟩ : ∃ y, E[k]? = some y := ⟨_, List.getElem?_eq_getElem (by omega)⟩
        have hxm := List.mem_of_getElem? hx
        have hym := List.mem_of_getElem? hy
        have hxr := rcells_at hx
        have hyr := rcells_at hy
        have x0 := row3_cell HOj.out _ _ hxr.1
        have x1 := row3_cell HOj.out _ _ hxr.2.1
        have x2 := row3_cell HOj.out _ _ hxr.2.2
        have y0 := row3_cell HOj.out _ _ hyr.1
        have y1 := row3_cell HOj.out _ _ hyr.2.1
        have y2 := row3_cell HOj.out _ _ hyr.2.2
        have HX := Lib.hid hx
        have HY := Lib.hid hy
        obtain ⟨q, hq⟩ : ∃ q, q = decide (x.1 = y.1) := ⟨_, rfl⟩
        have HCL : Hid (∀ W, Kp (fun _ => True) wj W → Calls Tryd.prog 89 #[.agg #[.int .i64 x.1.sym, x.2, .int .i64 x.1.to], .agg #[.int .i64 y.1.sym, y.2, .int .i64 y.1.to]] W fun e w' => e = .returned (.bool q) ∧ Kp (fun _ => True) W w') :=
          Lib.hid (fun W hW => by rw [hq]; exact HEQ.out x hxm y hym W ((HKj.out.trans hW).mono (fun _ _ _ => trivial)))
        have HS : Hid (∀ W : World, Kp (fun _ => True) wj W → W.cell? ⟨g, m * 3, none⟩ = some (.int .i64 x.1.sym) ∧ W.cell? ⟨g, m * 3 + 1, none⟩ = some x.2 ∧ W.cell? ⟨g, m * 3 + 2, none⟩ = some (.int .i64 x.1.to) ∧ W.cell? ⟨g, k * 3, none⟩ = some (.int .i64 y.1.sym) ∧ W.cell? ⟨g, k * 3 + 1, none⟩ = some y.2 ∧ W.cell? ⟨g, k * 3 + 2, none⟩ = some (.int .i64 y.1.to)) :=
          Lib.hid (fun W hW => ⟨hW.cell x0 trivial, hW.cell x1 trivial, hW.cell x2 trivial, hW.cell y0 trivial, hW.cell y1 trivial, hW.cell y2 trivial⟩)
        obtain ⟨rx, vx⟩ := x
        obtain ⟨ry, vy⟩ := y
        have HIX := Lib.hid (HDD.out _ hxm wj (HKj.out.mono (fun _ _ _ => trivial)))
        have HIY := Lib.hid (HDD.out _ hym wj (HKj.out.mono (fun _ _ _ => trivial)))
        simp only at x0 x1 x2 y0 y1 y2 HCL HS HIX HIY hq
        obtain ⟨px, cx, rfl, _⟩ := HIX.out
        obtain ⟨py, cy, rfl, _⟩ := HIY.out
        have HQ := Lib.hid hq
        have HDR : Hid (Kp (fun _ => True) wj wj.drew) := Lib.hid (Kp.refl _ wj).drew
        clear HMk hE hxr hyr hxm hym hx hy hq HIX HIY
        cases q with
        | true =>
          have hxy : Hid (rx = ry) := Lib.hid (of_decide_eq_true HQ.out.symm)
          clear HQ
          go_wp2_with fail
          go_region_held3 (fun W => W.cell? ⟨g, m * 3, none⟩ = some (.int .i64 rx.sym) ∧ W.cell? ⟨g, m * 3 + 1, none⟩ = some (.slice px rx.fr.length cx) ∧ W.cell? ⟨g, m * 3 + 2, none⟩ = some (.int .i64 rx.to) ∧ W.cell? ⟨g, k * 3, none⟩ = some (.int .i64 ry.sym) ∧ W.cell? ⟨g, k * 3 + 1, none⟩ = some (.slice py ry.fr.length cy) ∧ W.cell? ⟨g, k * 3 + 2, none⟩ = some (.int .i64 ry.to))
            (first | exact HS.out _ HDR.out | exact HS.out _ HK1.out)
            (first
              | (go_at_call 89; refine (HCL.out _ HDR.out).mono ?_; rintro e w1 ⟨rfl, hk1⟩; have HK1 : Hid (Kp (fun _ => True) wj w1) := Lib.hid (HDR.out.trans hk1); clear hk1))
          clear x0 x1 x2 y0 y1 y2 HS HCL
          go_wp2_with fail
          have hmE := HM.out
          obtain ⟨nm, hnm⟩ : ∃ nm, nm = n - m := ⟨_, rfl⟩
          obtain ⟨cm, hcm⟩ : ∃ cm, cm = cap - m := ⟨_, rfl⟩
          rw [← hnm, ← hcm]
          have HNM : Hid (m + nm = n) := Lib.hid (by omega)
          have hnm1 : 1 ≤ nm := by omega
          have hnm2 : nm ≤ n := by omega
          have hcm2 : cm ≤ cap := by omega
          have hcm3 : nm ≤ cm := by omega
          have HC1 : Hid (cmpd E (m + 1) = E.take m) := Lib.hid (by
            have hx := HX.out
            rw [hmE] at hx ⊢
            rw [cmpd_skip (keepQ_eq hx HY.out hxy.out), HC.out])
          have HOm : Hid (w1.ownsRow B 70 3 (.slice (some ⟨g, 0, none⟩) n cap) n (rcells (cmpd E (m + 1) ++ E.drop m))) := Lib.hid (by rw [HC1.out, List.take_append_drop]; exact ownsRow_kp HOj.out HK1.out (fun _ _ => trivial))
          have HLm : Hid ((cmpd E (m + 1)).length = m) := Lib.hid (by rw [HC1.out, List.length_take, HL.out]; omega)
          have HKm : Hid (Kp (fun c => c ≠ g) w w1) := Lib.hid ((HKj.out.trans HK1.out).mono (fun _ _ _ => trivial))
          have HMK := Lib.hid hmE
          clear hnm hcm hmE HX HY hxy
          go_loopw [5, 7] (fun s5 s7 wl => ∃ kk j l : Nat, s5 = .int .i64 (kk : Nat) ∧ s7 = .int .i64 (l : Nat) ∧ Hid (l = j + 1) ∧ l ≤ nm ∧ kk + 1 ≤ m + l ∧ Hid ((cmpd E (m + l)).length = kk) ∧ Hid (wl.ownsRow B 70 3 (.slice (some ⟨g, 0, none⟩) n cap) n (rcells (cmpd E (m + l) ++ E.drop kk))) ∧ Hid (Kp (fun c => c ≠ g) w wl)) (fun _ s7 _ => nm - (intOf s7).toNat)
          case atStart => exact ⟨m, 0, 1, rfl, rfl, Lib.hid rfl, hnm1, Nat.le_refl _, HLm, HOm, HKm⟩
          case round =>
            rename World => wl
            obtain ⟨kk, j, l, rfl, rfl, HJ, hl, hkl, HLk, HOl, HKl⟩ := hrel
            obtain ⟨_, _, ecap, _, _, _, _, cur, hcur, hcs⟩ := row3_shape HOl.out hn0
            simp only [Value.slice.injEq, Option.some.injEq, Addr.mk.injEq] at ecap
            obtain ⟨⟨rfl, _⟩, _, rfl⟩ := ecap
            have HCU := Lib.hid hcur
            have HCS := Lib.hid hcs
            clear hcur hcs
            by_cases hll : l < nm
            · have hli2 : (l : Int) < (nm : Int) := by omega
              have hlj := HJ.out
              have hlE := HL.out
              have hmn := HNM.out
              have hji : (j : Int) < (nm : Int) := by omega
              have hkn : (kk : Int) < (n : Int) := by omega
              have hw2 : IntKind.i64.wrap ((l : Int) - 1) = (j : Int) := by rw [IntKind.wrap_i64] <;> omega
              obtain ⟨x, hx⟩ : ∃ x, E[m + l]? = some x := ⟨_, List.getElem?_eq_getElem (by omega)⟩
              obtain ⟨y, hy⟩ : ∃ y, E[m + j]? = some y := ⟨_, List.getElem?_eq_getElem (by omega)⟩
              have hxm := List.mem_of_getElem? hx
              have hym := List.mem_of_getElem? hy
              have hxr := rcells_at ((at_rest (cmpd E (m + l)) E kk (m + l) HLk.out (by omega)).trans hx)
              have hyr := rcells_at ((at_rest (cmpd E (m + l)) E kk (m + j) HLk.out (by omega)).trans hy)
              rw [Nat.add_mul] at hxr hyr
              have x0 := row3_cell HOl.out _ _ hxr.1
              have x1 := row3_cell HOl.out _ _ hxr.2.1
              have x2 := row3_cell HOl.out _ _ hxr.2.2
              have y0 := row3_cell HOl.out _ _ hyr.1
              have y1 := row3_cell HOl.out _ _ hyr.2.1
              have y2 := row3_cell HOl.out _ _ hyr.2.2
              have HX := Lib.hid hx
              have HY := Lib.hid hy
              obtain ⟨q, hq⟩ : ∃ q, q = decide (x.1 = y.1) := ⟨_, rfl⟩
              have HCL : Hid (∀ W, Kp (fun _ => True) wl W → Calls Tryd.prog 89 #[.agg #[.int .i64 x.1.sym, x.2, .int .i64 x.1.to], .agg #[.int .i64 y.1.sym, y.2, .int .i64 y.1.to]] W fun e w' => e = .returned (.bool q) ∧ Kp (fun _ => True) W w') :=
                Lib.hid (fun W hW => by rw [hq]; exact HEQ.out x hxm y hym W (HKl.out.trans (hW.mono (fun _ _ _ => trivial))))
              have HS : Hid (∀ W : World, Kp (fun _ => True) wl W → W.cell? ⟨g, m * 3 + l * 3, none⟩ = some (.int .i64 x.1.sym) ∧ W.cell? ⟨g, m * 3 + l * 3 + 1, none⟩ = some x.2 ∧ W.cell? ⟨g, m * 3 + l * 3 + 2, none⟩ = some (.int .i64 x.1.to) ∧ W.cell? ⟨g, m * 3 + j * 3, none⟩ = some (.int .i64 y.1.sym) ∧ W.cell? ⟨g, m * 3 + j * 3 + 1, none⟩ = some y.2 ∧ W.cell? ⟨g, m * 3 + j * 3 + 2, none⟩ = some (.int .i64 y.1.to)) :=
                Lib.hid (fun W hW => ⟨hW.cell x0 trivial, hW.cell x1 trivial, hW.cell x2 trivial, hW.cell y0 trivial, hW.cell y1 trivial, hW.cell y2 trivial⟩)
              obtain ⟨rx, vx⟩ := x
              obtain ⟨ry, vy⟩ := y
              have HIX := Lib.hid (HDD.out _ hxm wl HKl.out)
              have HIY := Lib.hid (HDD.out _ hym wl HKl.out)
              simp only at x0 x1 x2 y0 y1 y2 HCL HS HIX HIY hq
              obtain ⟨px, cx, rfl, _⟩ := HIX.out
              obtain ⟨py, cy, rfl, _⟩ := HIY.out
              have HQ := Lib.hid hq
              have HDR : Hid (Kp (fun _ => True) wl wl.drew) := Lib.hid (Kp.refl _ wl).drew
              have hkE : kk < E.length := by omega
              clear hlj hmn hlE hxr hyr hxm hym hx hy hq HIX HIY
              cases q with
              | true =>
                have hxy : Hid (rx = ry) := Lib.hid (of_decide_eq_true HQ.out.symm)
                clear HQ hkE
                go_wp2_with fail
                go_region_held3 (fun W => W.cell? ⟨g, m * 3 + l * 3, none⟩ = some (.int .i64 rx.sym) ∧ W.cell? ⟨g, m * 3 + l * 3 + 1, none⟩ = some (.slice px rx.fr.length cx) ∧ W.cell? ⟨g, m * 3 + l * 3 + 2, none⟩ = some (.int .i64 rx.to) ∧ W.cell? ⟨g, m * 3 + j * 3, none⟩ = some (.int .i64 ry.sym) ∧ W.cell? ⟨g, m * 3 + j * 3 + 1, none⟩ = some (.slice py ry.fr.length cy) ∧ W.cell? ⟨g, m * 3 + j * 3 + 2, none⟩ = some (.int .i64 ry.to))
                (first | exact HS.out _ HDR.out | exact HS.out _ HK3.out)
                (first
                  | (go_at_call 89; refine (HCL.out _ HDR.out).mono ?_; rintro e w3 ⟨rfl, hk3⟩; have HK3 : Hid (Kp (fun _ => True) wl w3) := Lib.hid (HDR.out.trans hk3); clear hk3))
                have HC2 : Hid (cmpd E (m + (l + 1)) = cmpd E (m + l)) := Lib.hid (by have hx := HX.out; rw [HJ.out] at hx ⊢; exact cmpd_skip (keepQ_eq hx HY.out hxy.out))
                have HO2 : Hid (w3.ownsRow B 70 3 (.slice (some ⟨g, 0, none⟩) n cap) n (rcells (cmpd E (m + (l + 1)) ++ E.drop kk))) := Lib.hid (by rw [HC2.out]; exact ownsRow_kp HOl.out HK3.out (fun _ _ => trivial))
                have HK2 : Hid (Kp (fun c => c ≠ g) w w3) := Lib.hid (HKl.out.trans (HK3.out.mono (fun _ _ _ => trivial)))
                clear x0 x1 x2 y0 y1 y2 HS HCL
                go_wp2_with fail
                go_roundw
                case rel => exact ⟨kk, l, l + 1, rfl, by go_num, Lib.hid rfl, by omega, by omega, Lib.hid (by rw [HC2.out]; exact HLk.out), HO2, HK2⟩
                case measure => simp [intOf]; omega
              | false =>
                have hxy : Hid (rx ≠ ry) := Lib.hid (of_decide_eq_false HQ.out.symm)
                have HKE := Lib.hid hkE
                clear HQ hkE
                go_wp2_with fail
                go_region_held3 (fun W => W.cell? ⟨g, m * 3 + l * 3, none⟩ = some (.int .i64 rx.sym) ∧ W.cell? ⟨g, m * 3 + l * 3 + 1, none⟩ = some (.slice px rx.fr.length cx) ∧ W.cell? ⟨g, m * 3 + l * 3 + 2, none⟩ = some (.int .i64 rx.to) ∧ W.cell? ⟨g, m * 3 + j * 3, none⟩ = some (.int .i64 ry.sym) ∧ W.cell? ⟨g, m * 3 + j * 3 + 1, none⟩ = some (.slice py ry.fr.length cy) ∧ W.cell? ⟨g, m * 3 + j * 3 + 2, none⟩ = some (.int .i64 ry.to))
                (first | exact HS.out _ HDR.out | exact HS.out _ HK3.out)
                (first
                  | (go_at_call 89; refine (HCL.out _ HDR.out).mono ?_; rintro e w3 ⟨rfl, hk3⟩; have HK3 : Hid (Kp (fun _ => True) wl w3) := Lib.hid (HDR.out.trans hk3); clear hk3))
                have HC2 : Hid (cmpd E (m + (l + 1)) = cmpd E (m + l) ++ [(rx, .slice px rx.fr.length cx)]) := Lib.hid (by have hx := HX.out; have hj := HJ.out; rw [show m + (l + 1) = m + l + 1 from rfl]; refine cmpd_keep hx ?_; rw [hj] at hx ⊢; exact keepQ_ne hx HY.out hxy.out)
                have HO3 : Hid (w3.ownsRow B 70 3 (.slice (some ⟨g, 0, none⟩) n cap) n (rcells (cmpd E (m + l) ++ E.drop kk))) := Lib.hid (ownsRow_kp HOl.out HK3.out (fun _ _ => trivial))
                have HC3 : Hid (Blk w3 g 70 cur) := Lib.hid (HCU.out.kp HK3.out trivial)
                have HK2 : Hid (Kp (fun c => c ≠ g) w w3) := Lib.hid (HKl.out.trans (HK3.out.mono (fun _ _ _ => trivial)))
                obtain ⟨u0, z0⟩ : ∃ u, w3.cell? ⟨g, kk * 3, none⟩ = some u := ⟨_, by rw [HC3.out.cell]; exact Array.getElem?_eq_getElem (by have := HCS.out; omega)⟩
                obtain ⟨u1, z1⟩ : ∃ u, w3.cell? ⟨g, kk * 3 + 1, none⟩ = some u := ⟨_, by rw [HC3.out.cell]; exact Array.getElem?_eq_getElem (by have := HCS.out; omega)⟩
                obtain ⟨u2, z2⟩ : ∃ u, w3.cell? ⟨g, kk * 3 + 2, none⟩ = some u := ⟨_, by rw [HC3.out.cell]; exact Array.getElem?_eq_getElem (by have := HCS.out; omega)⟩
                have f0 := HC3.out.frozen (kk * 3)
                have f1 := HC3.out.frozen (kk * 3 + 1)
                have f2 := HC3.out.frozen (kk * 3 + 2)
                obtain ⟨x0, x1, x2, _⟩ := HS.out _ HK3.out
                clear y0 y1 y2 HS HCL
                go_wp2_with fail
                go_roundw
                case rel =>
                  refine ⟨kk + 1, l, l + 1, by go_num, by go_num, Lib.hid rfl, by omega, by omega, Lib.hid ?_, Lib.hid ?_, Lib.hid ?_⟩
                  · rw [HC2.out, List.length_append, HLk.out]; rfl
                  · have h9 := own_set (i := kk * 3 + 2) (own_set (i := kk * 3 + 1) (own_set (i := kk * 3) HO3.out (.int .i64 rx.sym)) (.slice px rx.fr.length cx)) (.int .i64 rx.to)
                    rw [set_cells (cmpd E (m + l) ++ E.drop kk) kk (rx, .slice px rx.fr.length cx) (by rw [List.length_append, HLk.out, List.length_drop]; have := HKE.out; omega), set_at _ _ _ _ HLk.out HKE.out, ← HC2.out] at h9
                    exact h9
                  · exact ((HK2.out.setCell (p := ⟨g, kk * 3, none⟩) (fun h => absurd rfl h) _).setCell (p := ⟨g, kk * 3 + 1, none⟩) (fun h => absurd rfl h) _).setCell (p := ⟨g, kk * 3 + 2, none⟩) (fun h => absurd rfl h) _
                case measure => simp [intOf]; omega
            · have hmn := HNM.out
              have hle : m + l = n := by omega
              have hkn : kk < n := by omega
              have hki2 : (kk : Int) < (n : Int) := by omega
              have hli2 : ¬ (l : Int) < (nm : Int) := by omega
              have hcn : (n - kk) * 3 = n * 3 - kk * 3 := by omega
              obtain ⟨cs, hcsl, hcl⟩ := clear_rules wl g (kk * 3) (n - kk) (cap - kk) cur (by omega) HCU.out (by rw [HCS.out]; omega)
              have hW := own_write HOl.out HCU.out (o := kk * 3) (cs := cs) (by rw [hcsl]; omega)
              have hlk := HLk.out
              rw [hle] at hW hlk
              have hrl : (rcells (cmpd E n)).length = kk * 3 := by rw [rcells_len, hlk]
              rw [rcells_app, ← hrl, List.take_left, hrl] at hW
              simp only [List.append_assoc] at hcl
              have HW := Lib.hid (own_short (k := kk) hW hrl (by omega))
              have HKW : Hid (Kp (fun c => c ≠ g) w (wl.setRow g (cur.toList.take (kk * 3) ++ (cs ++ cur.toList.drop (kk * 3 + cs.length))).toArray)) := Lib.hid (kp_setRow HKl.out (fun h => absurd rfl h))
              have HLK := Lib.hid hlk
              generalize hWW : wl.setRow g (cur.toList.take (kk * 3) ++ (cs ++ cur.toList.drop (kk * 3 + cs.length))).toArray = WW at *
              clear hWW hcsl hlk hrl hW hle hmn hcn
              go_wp2_with fail
              go_ret
              rw [HLK.out]
              exact ⟨rfl, HW.out, HKW.out⟩
        | false =>
          have hxy : Hid (rx ≠ ry) := Lib.hid (of_decide_eq_false HQ.out.symm)
          clear HQ
          go_wp2_with fail
          go_region_held3 (fun W => W.cell? ⟨g, m * 3, none⟩ = some (.int .i64 rx.sym) ∧ W.cell? ⟨g, m * 3 + 1, none⟩ = some (.slice px rx.fr.length cx) ∧ W.cell? ⟨g, m * 3 + 2, none⟩ = some (.int .i64 rx.to) ∧ W.cell? ⟨g, k * 3, none⟩ = some (.int .i64 ry.sym) ∧ W.cell? ⟨g, k * 3 + 1, none⟩ = some (.slice py ry.fr.length cy) ∧ W.cell? ⟨g, k * 3 + 2, none⟩ = some (.int .i64 ry.to))
            (first | exact HS.out _ HDR.out | exact HS.out _ HK1.out)
            (first
              | (go_at_call 89; refine (HCL.out _ HDR.out).mono ?_; rintro e w1 ⟨rfl, hk1⟩; have HK1 : Hid (Kp (fun _ => True) wj w1) := Lib.hid (HDR.out.trans hk1); clear hk1))
          have HC2 : Hid (cmpd E (k + 1 + 1) = E.take (k + 1 + 1)) := Lib.hid (by have hx := HX.out; rw [HM.out] at hx; rw [cmpd_keep hx (keepQ_ne hx HY.out hxy.out), HC.out, List.take_add_one (i := k + 1), hx]; rfl)
          have HK2 : Hid (Kp (fun _ => True) w w1) := Lib.hid (HKj.out.trans HK1.out)
          clear x0 x1 x2 y0 y1 y2 HS HCL
          go_wp2_with fail
          go_roundw
          case rel => exact ⟨k + 1, m + 1, by go_num, Lib.hid (by rw [HM.out]), by omega, HC2, HK2⟩
          case measure => simp [intOf]; omega
      · have hk2 : k + 1 = n := by have := HM.out; omega
        have HFI := Lib.hid (HALL.out k hk2 HC.out)
        have hli : ¬ (m : Int) < (n : Int) := by omega
        clear hk2
        go_wp2_with fail
        go_ret
        rw [HFI.out, HL.out]
        exact ⟨rfl, HOj.out, HKj.out.mono (fun _ _ _ => trivial)⟩

end Go.Proofs.YtedfldbknjcnlaaDoor
