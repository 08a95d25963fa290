/- ref03.Sort. -/
import Derived.Test.YtedfldbknjcnlaaDoorFG19
import Derived.Deep.RegionHeld3
import Derived.Laws.CopyOwn
namespace Go.Proofs.YtedfldbknjcnlaaDoor
open Go.RowKit Go.Shelf Go.Maps Go.WideElems

theorem Tryd.infoRule : (Tryd.prog.info? 70).map (fun i => (i.zero, i.size, i.bytes)) = some (some (.agg #[.int .i64 0, .slice none 0 0, .int .i64 0]), 3, 40) := by kernel_rfl

theorem Tryd.infoRule3 : (Tryd.prog.info? 70).map (·.size) = some 3 := by kernel_rfl
theorem rcells_drop (D : List (Ru × Value)) (p : Nat) : rcells (D.drop p) = (rcells D).drop (p * 3) := by
  rcases Nat.lt_or_ge D.length p with h | h
  · rw [List.drop_of_length_le (by omega), List.drop_of_length_le (by rw [rcells_len]; omega)]; rfl
  · have e : rcells D = rcells (D.take p) ++ rcells (D.drop p) := by rw [← rcells_app, List.take_append_drop]
    have hl : (rcells (D.take p)).length = p * 3 := by rw [rcells_len, List.length_take, Nat.min_eq_left h]
    rw [e, ← hl, List.drop_left]
/-- A zero rule's cells. -/
abbrev zr : List Value := [.int .i64 0, .slice none 0 0, .int .i64 0]
theorem new_three {W : World} {g : Nat} {t : TypeId} {a b c : Value} (hb : Blk W g t #[a, b, c]) : ∀ j x, [a, b, c][j]? = some x → W.cell? ((⟨g, 0, none⟩ : Addr).add j) = some x := fun j x hx => by
  rw [show ((⟨g, 0, none⟩ : Addr).add j) = ⟨g, j, none⟩ by unfold Addr.add; split <;> simp_all, hb.cell]
  simpa using hx
theorem one_three {a b : Int} {u : Value} (hu : u.oneCell' = true) : ∀ x ∈ [Value.int .i64 a, u, .int .i64 b], x.oneCell' = true := fun x hx => by
  simp only [List.mem_cons, List.not_mem_nil, or_false] at hx
  rcases hx with rfl | rfl | rfl
  · rfl
  · exact hu
  · rfl

set_option maxRecDepth 100000 in
set_option maxHeartbeats 8000000 in
theorem rsort_ok (R : List Ru) (v : Value) (w : World) (T : Value → List Int → Prop) (hR : IsRus w v R) (hT : ∀ b o n c, v = .slice (some ⟨b, o, none⟩) n c → ∀ (i : Nat) r u, R[i]? = some r → w.cell? ⟨b, o + i * 3 + 1, none⟩ = some u → T u r.fr) (hlen : R.length ≤ 20000) (h3 : ∀ r ∈ R, r.fr.length ≤ 1000) :
    Calls Tryd.prog 100 #[v] w fun e w' => (∃ u D, e = .returned u ∧ w'.ownsRow w.heap.size 70 3 u D.length (rcells D) ∧ StrS (D.map Prod.fst) ∧ (∀ r, r ∈ D.map Prod.fst ↔ r ∈ R) ∧ (∀ x ∈ D, IsInts w x.2 x.1.fr ∧ T x.2 x.1.fr)) ∧ Below w.heap.size w w' := by
  obtain ⟨p2, c2, rfl, hr3, hr4, hrc⟩ := hR
  unfold maxLen at hr4
  have HRC := Lib.hid hrc
  have HR3 := Lib.hid h3
  have HTT := Lib.hid hT
  obtain ⟨i1, hi1, hy0, hy1, hy2⟩ := info_parts Tryd.infoRule
  have HI1 := Lib.hid hi1
  have HB := Lib.hid (Below.refl w.heap.size w)
  have HOS : Hid (w.ownsRow w.heap.size 70 3 (.slice none 0 0) ([] : List (Ru × Value)).length (rcells [])) := Lib.hid (World.ownsRow_nil w _ _ _)
  clear hrc h3 hi1 hT
  go_enter Tryd.func100, Tryd.ntmps100
  go_wp2_with fail
  go_loopw [3, 11] (fun va iv wr => ∃ (k : Nat) (D : List (Ru × Value)), iv = .int .i64 (k : Nat) ∧ k ≤ R.length ∧ D.length ≤ k ∧ Hid (wr.ownsRow w.heap.size 70 3 va D.length (rcells D)) ∧ Hid (StrS (D.map Prod.fst)) ∧ Hid (∀ r, r ∈ D.map Prod.fst ↔ r ∈ R.take k) ∧ Hid (∀ x ∈ D, IsInts w x.2 x.1.fr ∧ T x.2 x.1.fr) ∧ Hid (Below w.heap.size w wr))
    (fun _ iv _ => R.length - (intOf iv).toNat)
  case atStart => exact ⟨0, [], rfl, by omega, Nat.le_refl _, HOS, Lib.hid List.Pairwise.nil, Lib.hid (fun r => by simp), Lib.hid (fun x hx => by cases hx), HB⟩
  case round =>
    rename World => wr
    obtain ⟨k, D, rfl, hk, hDk, HO, HST, HME, HDI, HBr⟩ := hrel
    by_cases hlt : k < R.length
    · obtain ⟨r, hrk⟩ : ∃ r, R[k]? = some r := ⟨_, List.getElem?_eq_getElem hlt⟩
      obtain ⟨b, o, rfl, hcl⟩ := HRC.out (fun h => by simp [h] at hlt)
      obtain ⟨q0w, ⟨u, q1w, hu⟩, q2w⟩ := hcl k r hrk
      have HTU := Lib.hid (HTT.out b o _ _ rfl k r u hrk q1w)
      have q0 := cell_later HBr.out q0w
      have q1 := cell_later HBr.out q1w
      have q2 := cell_later HBr.out q2w
      clear q0w q1w q2w
      have HU := Lib.hid hu
      have hone : u.oneCell' = true := by
        obtain ⟨_, _, rfl, _⟩ := hu; rfl
      have hbl := World.block_lt_of_cell? _ _ q0
      simp only at hbl
      have hk1 : (k : Int) < (R.length : Int) := by omega
      have HRK := Lib.hid hrk
      have hr1000 := HR3.out r (List.mem_of_getElem? hrk)
      obtain ⟨pu, cu, rfl, hu3, hu4, _⟩ := hu
      obtain ⟨ao, mo, co, rfl⟩ := own_slice HO.out
      have hmo : mo = D.length := by
        rcases HO.out.2 with ⟨e, h0⟩ | ⟨g, cap, cur, e, _⟩
        · simp only [Value.slice.injEq] at e; omega
        · simp only [Value.slice.injEq] at e; omega
      subst hmo
      obtain ⟨wa, hwa⟩ : ∃ wa, wa = wr.alloc (.cells #[.int .i64 r.sym, .slice pu r.fr.length cu, .int .i64 r.to] 70) := ⟨_, rfl⟩
      have HNA : Hid (Blk wa wr.heap.size 70 #[.int .i64 r.sym, .slice pu r.fr.length cu, .int .i64 r.to]) := Lib.hid (hwa ▸ Blk.new wr _ _)
      have HKA : Hid (Kp (fun _ => True) wr wa) := Lib.hid (hwa ▸ (Kp.refl _ wr).alloc _)
      have HOA : Hid (wa.ownsRow w.heap.size 70 3 (.slice ao D.length co) D.length (rcells D)) := Lib.hid (ownsRow_kp HO.out HKA.out (fun _ _ => trivial))
      have HWA := Lib.hid hwa
      have HIU := HU
      clear hcl hrk hwa
      go_wp2_with fail
      have HWA' := HWA.out
      simp only [← HWA'] at *
      clear HWA' HWA
      go_loopw [6, 7] (fun lv hv wj => ∃ (low high : Nat), lv = .int .i64 (low : Nat) ∧ hv = .int .i64 (high : Nat) ∧ low ≤ high ∧ high ≤ D.length ∧ Hid (∀ (i : Nat) x, i < low → (D.map Prod.fst)[i]? = some x → ltR x r) ∧ Hid (∀ (i : Nat) x, high ≤ i → (D.map Prod.fst)[i]? = some x → ¬ ltR x r) ∧ Hid (Kp (fun _ => True) wa wj))
        (fun lv hv _ => (intOf hv).toNat - (intOf lv).toNat)
      case atStart => exact ⟨0, D.length, rfl, rfl, Nat.zero_le _, Nat.le_refl _, Lib.hid (fun i x h => absurd h (by omega)), Lib.hid (fun i x h hx => by
        have := (List.getElem?_eq_some_iff.1 hx).1
        rw [List.length_map] at this
        omega), Lib.hid (Kp.refl _ _)⟩
      case round =>
        rename World => wj
        obtain ⟨low, high, rfl, rfl, hlh, hhd, HLO, HHI, HKj⟩ := hrel
        have HOj : Hid (wj.ownsRow w.heap.size 70 3 (.slice ao D.length co) D.length (rcells D)) := Lib.hid (ownsRow_kp HOA.out HKj.out (fun _ _ => trivial))
        have HNj : Hid (Blk wj wr.heap.size 70 #[.int .i64 r.sym, .slice pu r.fr.length cu, .int .i64 r.to]) := Lib.hid (HNA.out.kp HKj.out trivial)
        have HBj : Hid (Below w.heap.size w wj) := Lib.hid ((HBr.out.trans (HKA.out.below HBr.out.size (fun _ _ => trivial))).trans (HKj.out.below (Nat.le_trans HBr.out.size HKA.out.size) (fun _ _ => trivial)))
        by_cases hlow : low < high
        · obtain ⟨g, cap, e, hgB, hcap1, hcap2, hgl, _⟩ := row3_shape HOj.out (by omega)
          simp only [Value.slice.injEq] at e
          obtain ⟨rfl, _, rfl⟩ := e
          obtain ⟨mid, hmid⟩ : ∃ mid, mid = (low + high) / 2 := ⟨_, rfl⟩
          have hm1 : low ≤ mid ∧ mid < high := by omega
          have hmd : ((low : Int) + (high : Int)) / 2 = (mid : Int) := by rw [hmid]; simp
          have hmi : (mid : Int) < (D.length : Int) := by omega
          obtain ⟨y, hy⟩ : ∃ y, D[mid]? = some y := ⟨_, List.getElem?_eq_getElem (by omega)⟩
          have hyr := rcells_at hy
          have m0 : wj.cell? ⟨g, mid * 3, none⟩ = some (.int .i64 y.1.sym) := row3_cell HOj.out _ _ hyr.1
          have m1 : wj.cell? ⟨g, mid * 3 + 1, none⟩ = some y.2 := row3_cell HOj.out _ _ hyr.2.1
          have m2 : wj.cell? ⟨g, mid * 3 + 2, none⟩ = some (.int .i64 y.1.to) := row3_cell HOj.out _ _ hyr.2.2
          have hym := List.mem_of_getElem? hy
          have HYI := Lib.hid (HDI.out y hym).1
          have HYM : Hid ((D.map Prod.fst)[mid]? = some y.1) := Lib.hid (by rw [List.getElem?_map, hy]; rfl)
          have hyR : y.1.fr.length ≤ 1000 := HR3.out y.1 (List.mem_of_mem_take ((HME.out y.1).1 (List.mem_map_of_mem hym)))
          obtain ⟨ry, vy⟩ := y
          simp only at m0 m1 m2 HYI HYM hyR
          have HYI2 := HYI
          obtain ⟨py, cy, rfl, hpy1, hpy2, _⟩ := HYI.out
          clear HYI
          unfold maxLen at hpy2
          have n0 : wj.cell? ⟨wr.heap.size, 0, none⟩ = some (.int .i64 r.sym) := by rw [HNj.out.cell]; rfl
          have n1 : wj.cell? ⟨wr.heap.size, 1, none⟩ = some (.slice pu r.fr.length cu) := by rw [HNj.out.cell]; rfl
          have n2 : wj.cell? ⟨wr.heap.size, 2, none⟩ = some (.int .i64 r.to) := by rw [HNj.out.cell]; rfl
          have HS : Hid (∀ W : World, Below wj.heap.size wj W → (W.cell? ⟨g, mid * 3, none⟩ = some (.int .i64 ry.sym) ∧ W.cell? ⟨g, mid * 3 + 1, none⟩ = some (.slice py ry.fr.length cy) ∧ W.cell? ⟨g, mid * 3 + 2, none⟩ = some (.int .i64 ry.to)) ∧ W.cell? ⟨wr.heap.size, 0, none⟩ = some (.int .i64 r.sym) ∧ W.cell? ⟨wr.heap.size, 1, none⟩ = some (.slice pu r.fr.length cu) ∧ W.cell? ⟨wr.heap.size, 2, none⟩ = some (.int .i64 r.to)) := Lib.hid (fun W hW => ⟨⟨cell_later hW m0, cell_later hW m1, cell_later hW m2⟩, cell_later hW n0, cell_later hW n1, cell_later hW n2⟩)
          have hli : (low : Int) < (high : Int) := by omega
          have nl := HNj.out.lt
          obtain ⟨ls, hls⟩ : ∃ ls, ls = lessL (keyL ry) (keyL r) := ⟨_, rfl⟩
          have HLE : Hid (∀ (v v' : Value) (W : World), IsInts W v (keyL ry) → IsInts W v' (keyL r) → Calls Tryd.prog 111 #[v, v'] W fun e w' => e = .returned (.int .i64 ls) ∧ Below W.heap.size W w') := Lib.hid (fun v v' W h h' => by rw [hls]; exact rless_ok _ _ v v' W h h')
          have HLS := Lib.hid hls
          have HK1 : Hid (∀ W : World, Below w.heap.size w W → Calls Tryd.prog 112 #[.agg #[.int .i64 ry.sym, .slice py ry.fr.length cy, .int .i64 ry.to]] W fun e w' => (∃ v, e = .returned v ∧ IsInts w' v (keyL ry)) ∧ Below W.heap.size W w') := Lib.hid (fun W hW => key_ok ry (by omega) _ W (HYI2.out.below hW))
          have HK2 : Hid (∀ W : World, Below w.heap.size w W → Calls Tryd.prog 112 #[.agg #[.int .i64 r.sym, .slice pu r.fr.length cu, .int .i64 r.to]] W fun e w' => (∃ v, e = .returned v ∧ IsInts w' v (keyL r)) ∧ Below W.heap.size W w') := Lib.hid (fun W hW => key_ok r (by omega) _ W (HIU.out.below hW))
          have HBD := Lib.hid (HBj.out.drew)
          have HJD := Lib.hid ((Below.refl wj.heap.size wj).drew)
          clear hls hyr hy hym hmid
          by_cases hneg : ls < 0
          · have hn1 : decide (ls < 0) = true := decide_eq_true hneg
            have HLO2 : Hid (∀ (i : Nat) x, i < mid + 1 → (D.map Prod.fst)[i]? = some x → ltR x r) := Lib.hid (fun i x hi hx => by
              have hyr : ltR ry r := by unfold ltR; rw [← HLS.out]; exact hneg
              rcases Nat.lt_or_ge i mid with h | h
              · have h2 := List.pairwise_iff_getElem.1 HST.out i mid (List.getElem?_eq_some_iff.1 hx).1 (List.getElem?_eq_some_iff.1 HYM.out).1 h
                rw [(List.getElem?_eq_some_iff.1 hx).2, (List.getElem?_eq_some_iff.1 HYM.out).2] at h2
                exact ltR_trans h2 hyr
              · have : i = mid := by omega
                subst this
                rw [HYM.out] at hx
                cases hx
                exact hyr)
            go_wp2_with fail
            go_region_held3 (fun W => (W.cell? ⟨g, mid * 3, none⟩ = some (.int .i64 ry.sym) ∧ W.cell? ⟨g, mid * 3 + 1, none⟩ = some (.slice py ry.fr.length cy) ∧ W.cell? ⟨g, mid * 3 + 2, none⟩ = some (.int .i64 ry.to)) ∧ W.cell? ⟨wr.heap.size, 0, none⟩ = some (.int .i64 r.sym) ∧ W.cell? ⟨wr.heap.size, 1, none⟩ = some (.slice pu r.fr.length cu) ∧ W.cell? ⟨wr.heap.size, 2, none⟩ = some (.int .i64 r.to))
              (first | exact HS.out _ HJD.out | exact HS.out _ HJ1.out | exact HS.out _ HJ2.out | exact HS.out _ HJ3.out)
              (first
                | (go_at_call_of 112 (Value.agg #[.int .i64 ry.sym, .slice py ry.fr.length cy, .int .i64 ry.to]); refine (HK1.out _ HBD.out).mono ?_; rintro e w1 ⟨⟨v1, rfl, hv1⟩, hb1⟩; have HV1 := Lib.hid hv1; obtain ⟨p1, c1, rfl, _⟩ := hv1; have HJ1 : Hid (Below wj.heap.size wj w1) := Lib.hid (HJD.out.trans (hb1.mono HJD.out.size)); have HB1 : Hid (Below w.heap.size w w1) := Lib.hid (HBj.out.trans (HJ1.out.mono HBj.out.size)); clear hb1)
                | (go_at_call_of 112 (Value.agg #[.int .i64 r.sym, .slice pu r.fr.length cu, .int .i64 r.to]); refine (HK2.out _ HB1.out).mono ?_; rintro e w2 ⟨⟨v2, rfl, hv2⟩, hb2⟩; have HV2 := Lib.hid hv2; obtain ⟨p3, c3, rfl, _⟩ := hv2; have HJ2 : Hid (Below wj.heap.size wj w2) := Lib.hid (HJ1.out.trans (hb2.mono HJ1.out.size)); have HV12 := Lib.hid (HV1.out.below hb2); clear hb2)
                | (go_at_call 111; refine (HLE.out _ _ _ HV12.out HV2.out).mono ?_; rintro e w3 ⟨rfl, hb3⟩; have HJ3 : Hid (Below wj.heap.size wj w3) := Lib.hid (HJ2.out.trans (hb3.mono HJ2.out.size)); clear hb3))
            have HK3 : Hid (Kp (fun _ => True) wa w3) := Lib.hid (HKj.out.trans (Kp.of_below HJ3.out (fun k hk _ => hk)))
            clear m0 m1 m2 n0 n1 n2
            go_wp2_with fail
            go_roundw
            case rel => exact ⟨mid + 1, high, by go_num, rfl, by omega, hhd, HLO2, HHI, HK3⟩
            case measure => simp [intOf]; omega
          · have hn1 : decide (ls < 0) = false := decide_eq_false hneg
            have HHI2 : Hid (∀ (i : Nat) x, mid ≤ i → (D.map Prod.fst)[i]? = some x → ¬ ltR x r) := Lib.hid (fun i x hi hx hxr => by
              have hyr : ¬ ltR ry r := by unfold ltR; rw [← HLS.out]; exact hneg
              rcases Nat.lt_or_ge mid i with h | h
              · have h2 := List.pairwise_iff_getElem.1 HST.out mid i (List.getElem?_eq_some_iff.1 HYM.out).1 (List.getElem?_eq_some_iff.1 hx).1 h
                rw [(List.getElem?_eq_some_iff.1 hx).2, (List.getElem?_eq_some_iff.1 HYM.out).2] at h2
                exact hyr (ltR_trans h2 hxr)
              · have : i = mid := by omega
                subst this
                rw [HYM.out] at hx
                cases hx
                exact hyr hxr)
            go_wp2_with fail
            go_region_held3 (fun W => (W.cell? ⟨g, mid * 3, none⟩ = some (.int .i64 ry.sym) ∧ W.cell? ⟨g, mid * 3 + 1, none⟩ = some (.slice py ry.fr.length cy) ∧ W.cell? ⟨g, mid * 3 + 2, none⟩ = some (.int .i64 ry.to)) ∧ W.cell? ⟨wr.heap.size, 0, none⟩ = some (.int .i64 r.sym) ∧ W.cell? ⟨wr.heap.size, 1, none⟩ = some (.slice pu r.fr.length cu) ∧ W.cell? ⟨wr.heap.size, 2, none⟩ = some (.int .i64 r.to))
              (first | exact HS.out _ HJD.out | exact HS.out _ HJ1.out | exact HS.out _ HJ2.out | exact HS.out _ HJ3.out)
              (first
                | (go_at_call_of 112 (Value.agg #[.int .i64 ry.sym, .slice py ry.fr.length cy, .int .i64 ry.to]); refine (HK1.out _ HBD.out).mono ?_; rintro e w1 ⟨⟨v1, rfl, hv1⟩, hb1⟩; have HV1 := Lib.hid hv1; obtain ⟨p1, c1, rfl, _⟩ := hv1; have HJ1 : Hid (Below wj.heap.size wj w1) := Lib.hid (HJD.out.trans (hb1.mono HJD.out.size)); have HB1 : Hid (Below w.heap.size w w1) := Lib.hid (HBj.out.trans (HJ1.out.mono HBj.out.size)); clear hb1)
                | (go_at_call_of 112 (Value.agg #[.int .i64 r.sym, .slice pu r.fr.length cu, .int .i64 r.to]); refine (HK2.out _ HB1.out).mono ?_; rintro e w2 ⟨⟨v2, rfl, hv2⟩, hb2⟩; have HV2 := Lib.hid hv2; obtain ⟨p3, c3, rfl, _⟩ := hv2; have HJ2 : Hid (Below wj.heap.size wj w2) := Lib.hid (HJ1.out.trans (hb2.mono HJ1.out.size)); have HV12 := Lib.hid (HV1.out.below hb2); clear hb2)
                | (go_at_call 111; refine (HLE.out _ _ _ HV12.out HV2.out).mono ?_; rintro e w3 ⟨rfl, hb3⟩; have HJ3 : Hid (Below wj.heap.size wj w3) := Lib.hid (HJ2.out.trans (hb3.mono HJ2.out.size)); clear hb3))
            have HK3 : Hid (Kp (fun _ => True) wa w3) := Lib.hid (HKj.out.trans (Kp.of_below HJ3.out (fun k hk _ => hk)))
            clear m0 m1 m2 n0 n1 n2
            go_wp2_with fail
            go_roundw
            case rel => exact ⟨low, mid, rfl, by go_num, by omega, by omega, HLO, HHI2, HK3⟩
            case measure => simp [intOf]; omega
        · have hlh2 : low = high := by omega
          subst hlh2
          have HAT : Hid (At (D.map Prod.fst) r low) := Lib.hid ⟨by rw [List.length_map]; exact hhd, HLO.out, HHI.out⟩
          have hld : decide ((low : Int) < (low : Int)) = false := by simp
          rcases Nat.lt_or_ge low D.length with hp | hp
          · obtain ⟨g, cap, e, hgB, hcap1, hcap2, hgl, _⟩ := row3_shape HOj.out (by omega)
            simp only [Value.slice.injEq] at e
            obtain ⟨rfl, _, rfl⟩ := e
            have hmi : (low : Int) < (D.length : Int) := by omega
            obtain ⟨y, hy⟩ : ∃ y, D[low]? = some y := ⟨_, List.getElem?_eq_getElem (by omega)⟩
            have hyr := rcells_at hy
            have m0 : wj.cell? ⟨g, low * 3, none⟩ = some (.int .i64 y.1.sym) := row3_cell HOj.out _ _ hyr.1
            have m1 : wj.cell? ⟨g, low * 3 + 1, none⟩ = some y.2 := row3_cell HOj.out _ _ hyr.2.1
            have m2 : wj.cell? ⟨g, low * 3 + 2, none⟩ = some (.int .i64 y.1.to) := row3_cell HOj.out _ _ hyr.2.2
            have hym := List.mem_of_getElem? hy
            have HYI := Lib.hid (HDI.out y hym).1
            have HYM : Hid ((D.map Prod.fst)[low]? = some y.1) := Lib.hid (by rw [List.getElem?_map, hy]; rfl)
            have hyR : y.1.fr.length ≤ 1000 := HR3.out y.1 (List.mem_of_mem_take ((HME.out y.1).1 (List.mem_map_of_mem hym)))
            obtain ⟨ry, vy⟩ := y
            simp only at m0 m1 m2 HYI HYM hyR
            have HYI2 := HYI
            obtain ⟨py, cy, rfl, hpy1, hpy2, _⟩ := HYI.out
            clear HYI
            unfold maxLen at hpy2
            have n0 : wj.cell? ⟨wr.heap.size, 0, none⟩ = some (.int .i64 r.sym) := by rw [HNj.out.cell]; rfl
            have n1 : wj.cell? ⟨wr.heap.size, 1, none⟩ = some (.slice pu r.fr.length cu) := by rw [HNj.out.cell]; rfl
            have n2 : wj.cell? ⟨wr.heap.size, 2, none⟩ = some (.int .i64 r.to) := by rw [HNj.out.cell]; rfl
            have HS : Hid (∀ W : World, Below wj.heap.size wj W → (W.cell? ⟨g, low * 3, none⟩ = some (.int .i64 ry.sym) ∧ W.cell? ⟨g, low * 3 + 1, none⟩ = some (.slice py ry.fr.length cy) ∧ W.cell? ⟨g, low * 3 + 2, none⟩ = some (.int .i64 ry.to)) ∧ W.cell? ⟨wr.heap.size, 0, none⟩ = some (.int .i64 r.sym) ∧ W.cell? ⟨wr.heap.size, 1, none⟩ = some (.slice pu r.fr.length cu) ∧ W.cell? ⟨wr.heap.size, 2, none⟩ = some (.int .i64 r.to)) := Lib.hid (fun W hW => ⟨⟨cell_later hW m0, cell_later hW m1, cell_later hW m2⟩, cell_later hW n0, cell_later hW n1, cell_later hW n2⟩)
            have nl := HNj.out.lt
            obtain ⟨ls, hls⟩ : ∃ ls, ls = lessL (keyL ry) (keyL r) := ⟨_, rfl⟩
            have HLE : Hid (∀ (v v' : Value) (W : World), IsInts W v (keyL ry) → IsInts W v' (keyL r) → Calls Tryd.prog 111 #[v, v'] W fun e w' => e = .returned (.int .i64 ls) ∧ Below W.heap.size W w') := Lib.hid (fun v v' W h h' => by rw [hls]; exact rless_ok _ _ v v' W h h')
            have HLS := Lib.hid hls
            have HK1 : Hid (∀ W : World, Below w.heap.size w W → Calls Tryd.prog 112 #[.agg #[.int .i64 ry.sym, .slice py ry.fr.length cy, .int .i64 ry.to]] W fun e w' => (∃ v, e = .returned v ∧ IsInts w' v (keyL ry)) ∧ Below W.heap.size W w') := Lib.hid (fun W hW => key_ok ry (by omega) _ W (HYI2.out.below hW))
            have HK2 : Hid (∀ W : World, Below w.heap.size w W → Calls Tryd.prog 112 #[.agg #[.int .i64 r.sym, .slice pu r.fr.length cu, .int .i64 r.to]] W fun e w' => (∃ v, e = .returned v ∧ IsInts w' v (keyL r)) ∧ Below W.heap.size W w') := Lib.hid (fun W hW => key_ok r (by omega) _ W (HIU.out.below hW))
            have HBD := Lib.hid (HBj.out.drew)
            have HJD := Lib.hid ((Below.refl wj.heap.size wj).drew)
            clear hls hyr hy hym
            have hle2 : ((low : Int) == (D.length : Int)) = false := beq_eq_false_iff_ne.2 (by omega)
            by_cases hzr : ls = 0
            · have hn1 : (ls != 0) = false := by simp [hzr]
              have HIN : Hid (r ∈ D.map Prod.fst) := Lib.hid ((HAT.out.mem HST.out).2 (by rw [HYM.out, ← keyL_inj (lessL_eq (HLS.out.symm.trans hzr))]))
              clear hzr hld
              go_wp2_with fail
              go_region_held3 (fun W => (W.cell? ⟨g, low * 3, none⟩ = some (.int .i64 ry.sym) ∧ W.cell? ⟨g, low * 3 + 1, none⟩ = some (.slice py ry.fr.length cy) ∧ W.cell? ⟨g, low * 3 + 2, none⟩ = some (.int .i64 ry.to)) ∧ W.cell? ⟨wr.heap.size, 0, none⟩ = some (.int .i64 r.sym) ∧ W.cell? ⟨wr.heap.size, 1, none⟩ = some (.slice pu r.fr.length cu) ∧ W.cell? ⟨wr.heap.size, 2, none⟩ = some (.int .i64 r.to))
                (first | exact HS.out _ HJD.out | exact HS.out _ HJ1.out | exact HS.out _ HJ2.out | exact HS.out _ HJ3.out)
                (first
                  | (go_at_call_of 112 (Value.agg #[.int .i64 ry.sym, .slice py ry.fr.length cy, .int .i64 ry.to]); refine (HK1.out _ HBD.out).mono ?_; rintro e w1 ⟨⟨v1, rfl, hv1⟩, hb1⟩; have HV1 := Lib.hid hv1; obtain ⟨p1, c1, rfl, _⟩ := hv1; have HJ1 : Hid (Below wj.heap.size wj w1) := Lib.hid (HJD.out.trans (hb1.mono HJD.out.size)); have HB1 : Hid (Below w.heap.size w w1) := Lib.hid (HBj.out.trans (HJ1.out.mono HBj.out.size)); clear hb1)
                  | (go_at_call_of 112 (Value.agg #[.int .i64 r.sym, .slice pu r.fr.length cu, .int .i64 r.to]); refine (HK2.out _ HB1.out).mono ?_; rintro e w2 ⟨⟨v2, rfl, hv2⟩, hb2⟩; have HV2 := Lib.hid hv2; obtain ⟨p3, c3, rfl, _⟩ := hv2; have HJ2 : Hid (Below wj.heap.size wj w2) := Lib.hid (HJ1.out.trans (hb2.mono HJ1.out.size)); have HV12 := Lib.hid (HV1.out.below hb2); clear hb2)
                  | (go_at_call 111; refine (HLE.out _ _ _ HV12.out HV2.out).mono ?_; rintro e w3 ⟨rfl, hb3⟩; have HJ3 : Hid (Below wj.heap.size wj w3) := Lib.hid (HJ2.out.trans (hb3.mono HJ2.out.size)); clear hb3))
              have HO3 : Hid (w3.ownsRow w.heap.size 70 3 (.slice (some ⟨g, 0, none⟩) D.length co) D.length (rcells D)) := Lib.hid (ownsRow_kp HOj.out (Kp.of_below (S := fun _ => True) HJ3.out (fun k hk _ => hk)) (fun _ _ => trivial))
              have HB3 : Hid (Below w.heap.size w w3) := Lib.hid (HBj.out.trans (HJ3.out.mono HBj.out.size))
              have HME3 : Hid (∀ x, x ∈ D.map Prod.fst ↔ x ∈ R.take (k + 1)) := Lib.hid (fun x => by
                rw [HME.out, List.take_add_one, HRK.out, List.mem_append]
                simp only [Option.toList_some, List.mem_singleton]
                exact ⟨.inl, fun h => h.elim id (fun e => by subst e; exact (HME.out _).1 HIN.out)⟩)
              clear m0 m1 m2 n0 n1 n2
              go_wp2_with fail
              refine ⟨⟨k + 1, D, by go_num, by omega, by omega, HO3, HST, HME3, HDI, HB3⟩, by simp [intOf]; omega⟩
            · have hn1 : (ls != 0) = true := by simp [hzr]
              have HNI : Hid (¬ r ∈ D.map Prod.fst) := Lib.hid (fun h => by
                have h1 := (HAT.out.mem HST.out).1 h
                rw [HYM.out] at h1
                cases h1
                exact hzr (by rw [HLS.out, lessL_refl]))
              clear hld
              go_wp2_with fail
              go_region_held3 (fun W => (W.cell? ⟨g, low * 3, none⟩ = some (.int .i64 ry.sym) ∧ W.cell? ⟨g, low * 3 + 1, none⟩ = some (.slice py ry.fr.length cy) ∧ W.cell? ⟨g, low * 3 + 2, none⟩ = some (.int .i64 ry.to)) ∧ W.cell? ⟨wr.heap.size, 0, none⟩ = some (.int .i64 r.sym) ∧ W.cell? ⟨wr.heap.size, 1, none⟩ = some (.slice pu r.fr.length cu) ∧ W.cell? ⟨wr.heap.size, 2, none⟩ = some (.int .i64 r.to))
                (first | exact HS.out _ HJD.out | exact HS.out _ HJ1.out | exact HS.out _ HJ2.out | exact HS.out _ HJ3.out)
                (first
                  | (go_at_call_of 112 (Value.agg #[.int .i64 ry.sym, .slice py ry.fr.length cy, .int .i64 ry.to]); refine (HK1.out _ HBD.out).mono ?_; rintro e w1 ⟨⟨v1, rfl, hv1⟩, hb1⟩; have HV1 := Lib.hid hv1; obtain ⟨p1, c1, rfl, _⟩ := hv1; have HJ1 : Hid (Below wj.heap.size wj w1) := Lib.hid (HJD.out.trans (hb1.mono HJD.out.size)); have HB1 : Hid (Below w.heap.size w w1) := Lib.hid (HBj.out.trans (HJ1.out.mono HBj.out.size)); clear hb1)
                  | (go_at_call_of 112 (Value.agg #[.int .i64 r.sym, .slice pu r.fr.length cu, .int .i64 r.to]); refine (HK2.out _ HB1.out).mono ?_; rintro e w2 ⟨⟨v2, rfl, hv2⟩, hb2⟩; have HV2 := Lib.hid hv2; obtain ⟨p3, c3, rfl, _⟩ := hv2; have HJ2 : Hid (Below wj.heap.size wj w2) := Lib.hid (HJ1.out.trans (hb2.mono HJ1.out.size)); have HV12 := Lib.hid (HV1.out.below hb2); clear hb2)
                  | (go_at_call 111; refine (HLE.out _ _ _ HV12.out HV2.out).mono ?_; rintro e w3 ⟨rfl, hb3⟩; have HJ3 : Hid (Below wj.heap.size wj w3) := Lib.hid (HJ2.out.trans (hb3.mono HJ2.out.size)); clear hb3))
              have HKW : Hid (Kp (fun _ => True) wa w3) := Lib.hid (HKj.out.trans (Kp.of_below HJ3.out (fun k hk _ => hk)))
              clear m0 m1 m2 n0 n1 n2 HV1 HV2 HV12 HB1 HJ1 HJ2 HJ3 HS HLE HK1 HK2 HBD HJD HYI2 HYM HLS
              generalize w3 = WW at *
              generalize (some (⟨g, 0, none⟩ : Addr)) = ao at *
              have HOw : Hid (WW.ownsRow w.heap.size 70 3 (.slice ao D.length co) D.length (rcells D)) := Lib.hid (ownsRow_kp HOA.out HKW.out (fun _ _ => trivial))
              have HNw : Hid (Blk WW wr.heap.size 70 #[.int .i64 r.sym, .slice pu r.fr.length cu, .int .i64 r.to]) := Lib.hid (HNA.out.kp HKW.out trivial)
              have HBw : Hid (Below w.heap.size w WW) := Lib.hid ((HBr.out.trans (HKA.out.below HBr.out.size (fun _ _ => trivial))).trans (HKW.out.below (Nat.le_trans HBr.out.size HKA.out.size) (fun _ _ => trivial)))
              have hws : wr.heap.size < WW.heap.size := HNw.out.lt
              have hwB := HBw.out.size
              have hDl : D.length ≤ 20000 := by omega
              clear HLO HHI HKj HOj HNj HBj
              go_wp2_with (at_builtin; refine wpList_append_own_at _ rfl (.tmp 51) (.tmp 53) 25 rfl w.heap.size 70 i1 _ 3 40 Tryd.underlying25 HI1.out hy0 hy1 hy2 rfl (by decide) (.slice ao D.length co) D.length (rcells D) rfl (ownsRow_kp HOw.out ((Kp.refl (fun _ => True) WW).alloc _) (fun _ _ => trivial)) _ 1 1 [.int .i64 0, .slice none 0 0, .int .i64 0] rfl rfl (new_three (Blk.new WW _ _)) (one_three rfl) (by simp only [maxLen]; omega) (by omega) (by simp; omega) ?_)
              intro v9 w9 ho9 hg9 _ hat9
              obtain ⟨g9, cap9, rfl, hgB9, hcap9, hcap9m, hgl9, cur9, hcur9, hcs9⟩ := row3_shape ho9 (by omega)
              have hne9 : g9 ≠ wr.heap.size := by
                rcases hat9 with e | e
                · intro e2
                  obtain ⟨cur, hc, _⟩ := own_cells HO.out (e.symm : (Value.slice ao D.length co).ownBlock = some g9)
                  have : g9 < wr.heap.size := hc.lt
                  omega
                · simp only [Value.ownBlock, Option.some.injEq, World.size_alloc] at e
                  omega
              have HO9 := Lib.hid ho9
              have HN9 : Hid (Blk w9 wr.heap.size 70 #[.int .i64 r.sym, .slice pu r.fr.length cu, .int .i64 r.to]) := Lib.hid ((hg9.block _ (by rw [World.size_alloc]; omega) (fun e => by
                obtain ⟨cur, hc, _⟩ := own_cells HO.out e.symm
                exact absurd hc.lt (Nat.lt_irrefl _))).trans (HNw.out.alloc _))
              have HB9 : Hid (Below w.heap.size w w9) := Lib.hid ((HBw.out.alloc hwB _).grown hg9 (by simp; omega) (fun j e => by
                obtain ⟨cur, hc, hb⟩ := own_cells HO.out e
                exact hb))
              have HC9 := Lib.hid hcur9
              clear ho9 hg9 hat9 hcur9
              unfold maxLen at hcap9m
              have hl1 : (low : Int) + 1 ≤ (D.length : Int) + 1 := by omega
              have hl2 : (low : Int) ≤ (D.length : Int) + 1 := by omega
              have hl3 : (0 : Int) ≤ (low : Int) + 1 := by omega
              have hl4 : (low : Int) + 1 ≤ (cap9 : Int) := by omega
              have hwl : IntKind.i64.wrap ((low : Int) + 1) = (low : Int) + 1 := by rw [IntKind.wrap_i64]; omega
              have hcp2 : ¬ cap9 - low = 0 := by omega
              have hcp3 : ¬ cap9 = low := by omega
              have HSRC : Hid (∀ j v, (rcells (D.drop low))[j]? = some v → w9.drew.cell? ((⟨g9, low * 3, none⟩ : Addr).add j) = some v) := Lib.hid (fun j v hj => by
                rw [add_q]
                refine row3_cell (w := w9.drew) HO9.out _ _ ?_
                rw [rcells_drop, List.getElem?_drop] at hj
                rw [List.getElem?_append_left (List.getElem?_eq_some_iff.1 hj).1]
                exact hj)
              have HFIT : Hid ((low + 1) * 3 + (rcells (D.drop low)).length ≤ (D.length + 1) * 3) := Lib.hid (by rw [rcells_len, List.length_drop]; omega)
              have HONE : Hid (∀ v ∈ rcells (D.drop low), v.oneCell' = true) := Lib.hid (rcells_one _ (fun x hx => by
                obtain ⟨_, _, e, _⟩ := (HDI.out x (List.mem_of_mem_drop hx)).1
                rw [e]; rfl))
              have HW : Hid ((w9.drew.setRow g9 (cur9.toList.take ((low + 1) * 3) ++ (rcells (D.drop low) ++ cur9.toList.drop ((low + 1) * 3 + (rcells (D.drop low)).length))).toArray).ownsRow w.heap.size 70 3 (.slice (some ⟨g9, 0, none⟩) (D.length + 1) cap9) (D.length + 1) ((rcells D ++ zr).take ((low + 1) * 3) ++ (rcells (D.drop low) ++ (rcells D ++ zr).drop ((low + 1) * 3 + (rcells (D.drop low)).length)))) := Lib.hid (own_write (w := w9.drew) HO9.out HC9.out HFIT.out)
              have HBW : Hid (Below w.heap.size w (w9.drew.setRow g9 (cur9.toList.take ((low + 1) * 3) ++ (rcells (D.drop low) ++ cur9.toList.drop ((low + 1) * 3 + (rcells (D.drop low)).length))).toArray)) := Lib.hid (below_setRow HB9.out.drew hgB9 _)
              have HNW : Hid (Blk (w9.drew.setRow g9 (cur9.toList.take ((low + 1) * 3) ++ (rcells (D.drop low) ++ cur9.toList.drop ((low + 1) * 3 + (rcells (D.drop low)).length))).toArray) wr.heap.size 70 #[.int .i64 r.sym, .slice pu r.fr.length cu, .int .i64 r.to]) := Lib.hid ((setRow_other w9.drew g9 _ _ (fun e => hne9 e.symm)).trans HN9.out)
              by_cases hcp : cap9 = low + 1
              · exfalso; omega
              · have hcp1 : ¬ cap9 - (low + 1) = 0 := by omega
                go_wp2_with fail
                refine wp_region_held_drew (S := (fun _ => True)) (by kernel_rfl) trivial (fun hHeld => ?_)
                refine wpAnyH_take (i := 0) (oi := ⟨some 55, _, _, _, _, _⟩) (v := ?v0qs) rfl (by kernel_rfl) (by kernel_rfl) (by kernel_rfl) (fun _ _ _ h => h) (Or.inl ⟨by rfl, ?y0qs⟩) (by assumption) ?r0qs
                case y0qs => (intro w hSw; (try dsimp only at hSw); go_simp); (try with_reducible rfl)
                (try simp only [Act.put, List.setIfInBounds_toArray, List.set_cons_zero, List.set_cons_succ])
                refine wpAnyH_take (i := 1) (oi := ⟨some 56, _, _, _, _, _⟩) (v := ?v1qs) rfl (by kernel_rfl) (by kernel_rfl) (by kernel_rfl) (fun _ _ _ h => h) (Or.inl ⟨by rfl, ?y1qs⟩) (by assumption) ?r1qs
                case y1qs => (intro w hSw; (try dsimp only at hSw); go_simp); (try with_reducible rfl)
                (try simp only [Act.put, List.setIfInBounds_toArray, List.set_cons_zero, List.set_cons_succ])
                refine wpAnyH_take (i := 2) (oi := ⟨some 57, _, _, _, _, _⟩) (v := ?v2qs) rfl (by kernel_rfl) (by kernel_rfl) (by kernel_rfl) (fun _ _ _ h => h) (Or.inl ⟨by rfl, ?y2qs⟩) (by assumption) ?r2qs
                case y2qs => (intro w hSw; (try dsimp only at hSw); go_simp); (try with_reducible rfl)
                (try simp only [Act.put, List.setIfInBounds_toArray, List.set_cons_zero, List.set_cons_succ])
                refine wpAnyH_take (i := 3) (oi := ⟨some 58, _, _, _, _, _⟩) (v := ?v3qs) rfl (by kernel_rfl) (by kernel_rfl) (by kernel_rfl) (fun _ _ _ h => h) (Or.inl ⟨by rfl, ?y3qs⟩) (by assumption) ?r3qs
                case y3qs => (intro w hSw; (try dsimp only at hSw); go_simp); (try with_reducible rfl)
                (try simp only [Act.put, List.setIfInBounds_toArray, List.set_cons_zero, List.set_cons_succ])
                refine wpAnyH_take (i := 4) (oi := ⟨some 59, _, _, _, _, _⟩) (v := ?v4qs) rfl (by kernel_rfl) (by kernel_rfl) (by kernel_rfl) (fun _ _ _ h => h) (Or.inl ⟨by rfl, ?y4qs⟩) (by assumption) ?r4qs
                case y4qs => (intro w hSw; (try dsimp only at hSw); go_simp); (try with_reducible rfl)
                (try simp only [Act.put, List.setIfInBounds_toArray, List.set_cons_zero, List.set_cons_succ])
                refine wpAnyH_take (i := 5) (oi := ⟨some 60, _, _, _, _, _⟩) (v := ?v5qs) rfl (by kernel_rfl) (by kernel_rfl) (by kernel_rfl) (fun _ _ _ h => h) (Or.inl ⟨by rfl, ?y5qs⟩) (by assumption) ?r5qs
                case y5qs => (intro w hSw; (try dsimp only at hSw); go_simp); (try with_reducible rfl)
                (try simp only [Act.put, List.setIfInBounds_toArray, List.set_cons_zero, List.set_cons_succ])
                refine wpAnyH_take (i := 6) (oi := ⟨some 61, _, _, _, _, _⟩) (v := ?v6qs) rfl (by kernel_rfl) (by kernel_rfl) (by kernel_rfl) (fun _ _ _ h => h) (Or.inl ⟨by rfl, ?y6qs⟩) (by assumption) ?r6qs
                case y6qs => (intro w hSw; (try dsimp only at hSw); go_simp); (try with_reducible rfl)
                (try simp only [Act.put, List.setIfInBounds_toArray, List.set_cons_zero, List.set_cons_succ])
                refine wpAnyH_ready (rs := [7]) (by kernel_rfl) (by simp) ?_
                refine AllReadyH.cons rfl (fun K hK => ?_) AllReadyH.nil
                refine step_copy_k rfl (.tmp 58) (.tmp 61) 25 25 rfl 70 3 Tryd.underlying25 Tryd.infoRule3 _ _ _ _ _ _ rfl rfl g9 ((low + 1) * 3) cur9 70 HC9.out (rcells (D.drop low)) (by rw [rcells_len, List.length_drop]; show _ = min _ _ * 3; omega) (by decide) (fun h0 => by have h0' : 0 < min _ _ := h0; first | exact absurd h0' (by omega) | exact ⟨rfl, ⟨g9, low * 3, none⟩, rfl, HSRC.out⟩) (by have := HFIT.out; rw [hcs9]; omega) HONE.out ?_
                intro u10
                refine hK.out _ _ trivial (fun hHeld => ?_)
                clear hK K
                (try simp only [Act.put, List.setIfInBounds_toArray, List.set_cons_zero, List.set_cons_succ])
                refine wpAnyH_done (by kernel_rfl) ?_ _
                generalize w9.drew.setRow g9 (cur9.toList.take ((low + 1) * 3) ++ (rcells (D.drop low) ++ cur9.toList.drop ((low + 1) * 3 + (rcells (D.drop low)).length))).toArray = W0 at *
                obtain ⟨_, _, e10, _, _, _, hgl10, cur10, hc10, hcz10⟩ := row3_shape HW.out (by omega)
                simp only [Value.slice.injEq, Option.some.injEq, Addr.mk.injEq] at e10
                obtain ⟨⟨rfl, _⟩, _, rfl⟩ := e10
                have HC10 := Lib.hid hc10
                have n0 : W0.cell? ⟨wr.heap.size, 0, none⟩ = some (.int .i64 r.sym) := by rw [HNW.out.cell]; rfl
                have n1 : W0.cell? ⟨wr.heap.size, 1, none⟩ = some (.slice pu r.fr.length cu) := by rw [HNW.out.cell]; rfl
                have n2 : W0.cell? ⟨wr.heap.size, 2, none⟩ = some (.int .i64 r.to) := by rw [HNW.out.cell]; rfl
                have nl := HNW.out.lt
                obtain ⟨u0, z0⟩ : ∃ u, W0.cell? ⟨g9, low * 3, none⟩ = some u := ⟨_, by rw [HC10.out.cell]; exact Array.getElem?_eq_getElem (by omega)⟩
                obtain ⟨u1, z1⟩ : ∃ u, W0.cell? ⟨g9, low * 3 + 1, none⟩ = some u := ⟨_, by rw [HC10.out.cell]; exact Array.getElem?_eq_getElem (by omega)⟩
                obtain ⟨u2, z2⟩ : ∃ u, W0.cell? ⟨g9, low * 3 + 2, none⟩ = some u := ⟨_, by rw [HC10.out.cell]; exact Array.getElem?_eq_getElem (by omega)⟩
                have f0 := HC10.out.frozen (low * 3)
                have f1 := HC10.out.frozen (low * 3 + 1)
                have f2 := HC10.out.frozen (low * 3 + 2)
                have hli : (low : Int) < (D.length : Int) + 1 := by omega
                clear hc10
                go_wp2_with fail
                have hlen' : (D.take low ++ (r, Value.slice pu r.fr.length cu) :: D.drop low).length = D.length + 1 := by simp only [List.length_append, List.length_cons, List.length_take, List.length_drop]; omega
                have hmap : (D.take low ++ (r, Value.slice pu r.fr.length cu) :: D.drop low).map Prod.fst = (D.map Prod.fst).take low ++ r :: (D.map Prod.fst).drop low := by rw [List.map_append, List.map_cons, List.map_take, List.map_drop]
                refine ⟨⟨k + 1, D.take low ++ (r, .slice pu r.fr.length cu) :: D.drop low, by go_num, by omega, by omega, Lib.hid ?_, Lib.hid ?_, Lib.hid ?_, Lib.hid ?_, Lib.hid ?_⟩, by simp [intOf]; omega⟩
                · have h9 := own_set (i := low * 3 + 2) (own_set (i := low * 3 + 1) (own_set (i := low * 3) HW.out (.int .i64 r.sym)) (.slice pu r.fr.length cu)) (.int .i64 r.to)
                  rw [ins_cells D (r, .slice pu r.fr.length cu) low hhd zr rfl] at h9
                  rw [hlen']
                  exact h9
                · rw [hmap]
                  exact HAT.out.ins HST.out HNI.out
                · intro x
                  rw [hmap, mem_ins, HME.out, List.take_add_one, HRK.out, List.mem_append]
                  simp only [Option.toList_some, List.mem_singleton]
                  exact ⟨fun h => h.elim .inr .inl, fun h => h.elim .inr .inl⟩
                · intro x hx
                  rcases List.mem_append.1 hx with h | h
                  · exact HDI.out x (List.mem_of_mem_take h)
                  · rcases List.mem_cons.1 h with h | h
                    · subst h; exact ⟨HIU.out, HTU.out⟩
                    · exact HDI.out x (List.mem_of_mem_drop h)
                · exact ((HBW.out.setCell (p := ⟨g9, low * 3, none⟩) hgB9 _).setCell (p := ⟨g9, low * 3 + 1, none⟩) hgB9 _).setCell (p := ⟨g9, low * 3 + 2, none⟩) hgB9 _
          · have hpe : low = D.length := by omega
            have HNI : Hid (¬ r ∈ D.map Prod.fst) := Lib.hid (fun h => by
              have := (List.getElem?_eq_some_iff.1 ((HAT.out.mem HST.out).1 h)).1
              rw [List.length_map] at this
              omega)
            have heq : ((low : Int) == (D.length : Int)) = true := by simp [hpe]
            clear hpe
            go_wp2_with fail
            go_quiet (fail)
            have HKW : Hid (Kp (fun _ => True) wa (wj.drewN nq)) := Lib.hid (HKj.out.drewN nq)
            generalize wj.drewN nq = WW at *
            have HOw : Hid (WW.ownsRow w.heap.size 70 3 (.slice ao D.length co) D.length (rcells D)) := Lib.hid (ownsRow_kp HOA.out HKW.out (fun _ _ => trivial))
            have HNw : Hid (Blk WW wr.heap.size 70 #[.int .i64 r.sym, .slice pu r.fr.length cu, .int .i64 r.to]) := Lib.hid (HNA.out.kp HKW.out trivial)
            have HBw : Hid (Below w.heap.size w WW) := Lib.hid ((HBr.out.trans (HKA.out.below HBr.out.size (fun _ _ => trivial))).trans (HKW.out.below (Nat.le_trans HBr.out.size HKA.out.size) (fun _ _ => trivial)))
            have hws : wr.heap.size < WW.heap.size := HNw.out.lt
            have hwB := HBw.out.size
            have hDl : D.length ≤ 20000 := by omega
            clear HLO HHI HKj HOj HNj HBj
            go_wp2_with (at_builtin; refine wpList_append_own_at _ rfl (.tmp 51) (.tmp 53) 25 rfl w.heap.size 70 i1 _ 3 40 Tryd.underlying25 HI1.out hy0 hy1 hy2 rfl (by decide) (.slice ao D.length co) D.length (rcells D) rfl (ownsRow_kp HOw.out ((Kp.refl (fun _ => True) WW).alloc _) (fun _ _ => trivial)) _ 1 1 [.int .i64 0, .slice none 0 0, .int .i64 0] rfl rfl (new_three (Blk.new WW _ _)) (one_three rfl) (by simp only [maxLen]; omega) (by omega) (by simp; omega) ?_)
            intro v9 w9 ho9 hg9 _ hat9
            obtain ⟨g9, cap9, rfl, hgB9, hcap9, hcap9m, hgl9, cur9, hcur9, hcs9⟩ := row3_shape ho9 (by omega)
            have hne9 : g9 ≠ wr.heap.size := by
              rcases hat9 with e | e
              · intro e2
                obtain ⟨cur, hc, _⟩ := own_cells HO.out (e.symm : (Value.slice ao D.length co).ownBlock = some g9)
                have : g9 < wr.heap.size := hc.lt
                omega
              · simp only [Value.ownBlock, Option.some.injEq, World.size_alloc] at e
                omega
            have HO9 := Lib.hid ho9
            have HN9 : Hid (Blk w9 wr.heap.size 70 #[.int .i64 r.sym, .slice pu r.fr.length cu, .int .i64 r.to]) := Lib.hid ((hg9.block _ (by rw [World.size_alloc]; omega) (fun e => by
              obtain ⟨cur, hc, _⟩ := own_cells HO.out e.symm
              exact absurd hc.lt (Nat.lt_irrefl _))).trans (HNw.out.alloc _))
            have HB9 : Hid (Below w.heap.size w w9) := Lib.hid ((HBw.out.alloc hwB _).grown hg9 (by simp; omega) (fun j e => by
              obtain ⟨cur, hc, hb⟩ := own_cells HO.out e
              exact hb))
            have HC9 := Lib.hid hcur9
            clear ho9 hg9 hat9 hcur9
            unfold maxLen at hcap9m
            have hl1 : (low : Int) + 1 ≤ (D.length : Int) + 1 := by omega
            have hl2 : (low : Int) ≤ (D.length : Int) + 1 := by omega
            have hl3 : (0 : Int) ≤ (low : Int) + 1 := by omega
            have hl4 : (low : Int) + 1 ≤ (cap9 : Int) := by omega
            have hwl : IntKind.i64.wrap ((low : Int) + 1) = (low : Int) + 1 := by rw [IntKind.wrap_i64]; omega
            have hcp2 : ¬ cap9 - low = 0 := by omega
            have hcp3 : ¬ cap9 = low := by omega
            have HSRC : Hid (∀ j v, (rcells (D.drop low))[j]? = some v → w9.drew.cell? ((⟨g9, low * 3, none⟩ : Addr).add j) = some v) := Lib.hid (fun j v hj => by
              rw [add_q]
              refine row3_cell (w := w9.drew) HO9.out _ _ ?_
              rw [rcells_drop, List.getElem?_drop] at hj
              rw [List.getElem?_append_left (List.getElem?_eq_some_iff.1 hj).1]
              exact hj)
            have HFIT : Hid ((low + 1) * 3 + (rcells (D.drop low)).length ≤ (D.length + 1) * 3) := Lib.hid (by rw [rcells_len, List.length_drop]; omega)
            have HONE : Hid (∀ v ∈ rcells (D.drop low), v.oneCell' = true) := Lib.hid (rcells_one _ (fun x hx => by
              obtain ⟨_, _, e, _⟩ := (HDI.out x (List.mem_of_mem_drop hx)).1
              rw [e]; rfl))
            have HW : Hid ((w9.drew.setRow g9 (cur9.toList.take ((low + 1) * 3) ++ (rcells (D.drop low) ++ cur9.toList.drop ((low + 1) * 3 + (rcells (D.drop low)).length))).toArray).ownsRow w.heap.size 70 3 (.slice (some ⟨g9, 0, none⟩) (D.length + 1) cap9) (D.length + 1) ((rcells D ++ zr).take ((low + 1) * 3) ++ (rcells (D.drop low) ++ (rcells D ++ zr).drop ((low + 1) * 3 + (rcells (D.drop low)).length)))) := Lib.hid (own_write (w := w9.drew) HO9.out HC9.out HFIT.out)
            have HBW : Hid (Below w.heap.size w (w9.drew.setRow g9 (cur9.toList.take ((low + 1) * 3) ++ (rcells (D.drop low) ++ cur9.toList.drop ((low + 1) * 3 + (rcells (D.drop low)).length))).toArray)) := Lib.hid (below_setRow HB9.out.drew hgB9 _)
            have HNW : Hid (Blk (w9.drew.setRow g9 (cur9.toList.take ((low + 1) * 3) ++ (rcells (D.drop low) ++ cur9.toList.drop ((low + 1) * 3 + (rcells (D.drop low)).length))).toArray) wr.heap.size 70 #[.int .i64 r.sym, .slice pu r.fr.length cu, .int .i64 r.to]) := Lib.hid ((setRow_other w9.drew g9 _ _ (fun e => hne9 e.symm)).trans HN9.out)
            by_cases hcp : cap9 = low + 1
            · subst hcp
              have hcp1 : low + 1 - (low + 1) = 0 := by omega
              go_wp2_with fail
              refine wp_region_held_drew (S := (fun _ => True)) (by kernel_rfl) trivial (fun hHeld => ?_)
              refine wpAnyH_take (i := 0) (oi := ⟨some 55, _, _, _, _, _⟩) (v := ?v0) rfl (by kernel_rfl) (by kernel_rfl) (by kernel_rfl) (fun _ _ _ h => h) (Or.inl ⟨by rfl, ?y0⟩) (by assumption) ?r0
              case y0 => (intro w hSw; (try dsimp only at hSw); go_simp); (try with_reducible rfl)
              (try simp only [Act.put, List.setIfInBounds_toArray, List.set_cons_zero, List.set_cons_succ])
              refine wpAnyH_take (i := 1) (oi := ⟨some 56, _, _, _, _, _⟩) (v := ?v1) rfl (by kernel_rfl) (by kernel_rfl) (by kernel_rfl) (fun _ _ _ h => h) (Or.inl ⟨by rfl, ?y1⟩) (by assumption) ?r1
              case y1 => (intro w hSw; (try dsimp only at hSw); go_simp); (try with_reducible rfl)
              (try simp only [Act.put, List.setIfInBounds_toArray, List.set_cons_zero, List.set_cons_succ])
              refine wpAnyH_take (i := 2) (oi := ⟨some 57, _, _, _, _, _⟩) (v := ?v2) rfl (by kernel_rfl) (by kernel_rfl) (by kernel_rfl) (fun _ _ _ h => h) (Or.inl ⟨by rfl, ?y2⟩) (by assumption) ?r2
              case y2 => (intro w hSw; (try dsimp only at hSw); go_simp); (try with_reducible rfl)
              (try simp only [Act.put, List.setIfInBounds_toArray, List.set_cons_zero, List.set_cons_succ])
              refine wpAnyH_take (i := 3) (oi := ⟨some 58, _, _, _, _, _⟩) (v := ?v3) rfl (by kernel_rfl) (by kernel_rfl) (by kernel_rfl) (fun _ _ _ h => h) (Or.inl ⟨by rfl, ?y3⟩) (by assumption) ?r3
              case y3 => (intro w hSw; (try dsimp only at hSw); go_simp); (try with_reducible rfl)
              (try simp only [Act.put, List.setIfInBounds_toArray, List.set_cons_zero, List.set_cons_succ])
              refine wpAnyH_take (i := 4) (oi := ⟨some 59, _, _, _, _, _⟩) (v := ?v4) rfl (by kernel_rfl) (by kernel_rfl) (by kernel_rfl) (fun _ _ _ h => h) (Or.inl ⟨by rfl, ?y4⟩) (by assumption) ?r4
              case y4 => (intro w hSw; (try dsimp only at hSw); go_simp); (try with_reducible rfl)
              (try simp only [Act.put, List.setIfInBounds_toArray, List.set_cons_zero, List.set_cons_succ])
              refine wpAnyH_take (i := 5) (oi := ⟨some 60, _, _, _, _, _⟩) (v := ?v5) rfl (by kernel_rfl) (by kernel_rfl) (by kernel_rfl) (fun _ _ _ h => h) (Or.inl ⟨by rfl, ?y5⟩) (by assumption) ?r5
              case y5 => (intro w hSw; (try dsimp only at hSw); go_simp); (try with_reducible rfl)
              (try simp only [Act.put, List.setIfInBounds_toArray, List.set_cons_zero, List.set_cons_succ])
              refine wpAnyH_take (i := 6) (oi := ⟨some 61, _, _, _, _, _⟩) (v := ?v6) rfl (by kernel_rfl) (by kernel_rfl) (by kernel_rfl) (fun _ _ _ h => h) (Or.inl ⟨by rfl, ?y6⟩) (by assumption) ?r6
              case y6 => (intro w hSw; (try dsimp only at hSw); go_simp); (try with_reducible rfl)
              (try simp only [Act.put, List.setIfInBounds_toArray, List.set_cons_zero, List.set_cons_succ])
              refine wpAnyH_ready (rs := [7]) (by kernel_rfl) (by simp) ?_
              refine AllReadyH.cons rfl (fun K hK => ?_) AllReadyH.nil
              refine step_copy_k rfl (.tmp 58) (.tmp 61) 25 25 rfl 70 3 Tryd.underlying25 Tryd.infoRule3 _ _ _ _ _ _ rfl rfl g9 ((low + 1) * 3) cur9 70 HC9.out (rcells (D.drop low)) (by rw [rcells_len, List.length_drop]; show _ = min _ _ * 3; omega) (by decide) (fun h0 => by have h0' : 0 < min _ _ := h0; first | exact absurd h0' (by omega) | exact ⟨rfl, ⟨g9, low * 3, none⟩, rfl, HSRC.out⟩) (by have := HFIT.out; rw [hcs9]; omega) HONE.out ?_
              intro u10
              refine hK.out _ _ trivial (fun hHeld => ?_)
              clear hK K
              (try simp only [Act.put, List.setIfInBounds_toArray, List.set_cons_zero, List.set_cons_succ])
              refine wpAnyH_done (by kernel_rfl) ?_ _
              generalize w9.drew.setRow g9 (cur9.toList.take ((low + 1) * 3) ++ (rcells (D.drop low) ++ cur9.toList.drop ((low + 1) * 3 + (rcells (D.drop low)).length))).toArray = W0 at *
              obtain ⟨_, _, e10, _, _, _, hgl10, cur10, hc10, hcz10⟩ := row3_shape HW.out (by omega)
              simp only [Value.slice.injEq, Option.some.injEq, Addr.mk.injEq] at e10
              obtain ⟨⟨rfl, _⟩, _, rfl⟩ := e10
              have HC10 := Lib.hid hc10
              have n0 : W0.cell? ⟨wr.heap.size, 0, none⟩ = some (.int .i64 r.sym) := by rw [HNW.out.cell]; rfl
              have n1 : W0.cell? ⟨wr.heap.size, 1, none⟩ = some (.slice pu r.fr.length cu) := by rw [HNW.out.cell]; rfl
              have n2 : W0.cell? ⟨wr.heap.size, 2, none⟩ = some (.int .i64 r.to) := by rw [HNW.out.cell]; rfl
              have nl := HNW.out.lt
              obtain ⟨u0, z0⟩ : ∃ u, W0.cell? ⟨g9, low * 3, none⟩ = some u := ⟨_, by rw [HC10.out.cell]; exact Array.getElem?_eq_getElem (by omega)⟩
              obtain ⟨u1, z1⟩ : ∃ u, W0.cell? ⟨g9, low * 3 + 1, none⟩ = some u := ⟨_, by rw [HC10.out.cell]; exact Array.getElem?_eq_getElem (by omega)⟩
              obtain ⟨u2, z2⟩ : ∃ u, W0.cell? ⟨g9, low * 3 + 2, none⟩ = some u := ⟨_, by rw [HC10.out.cell]; exact Array.getElem?_eq_getElem (by omega)⟩
              have f0 := HC10.out.frozen (low * 3)
              have f1 := HC10.out.frozen (low * 3 + 1)
              have f2 := HC10.out.frozen (low * 3 + 2)
              have hli : (low : Int) < (D.length : Int) + 1 := by omega
              clear hc10
              go_wp2_with fail
              have hlen' : (D.take low ++ (r, Value.slice pu r.fr.length cu) :: D.drop low).length = D.length + 1 := by simp only [List.length_append, List.length_cons, List.length_take, List.length_drop]; omega
              have hmap : (D.take low ++ (r, Value.slice pu r.fr.length cu) :: D.drop low).map Prod.fst = (D.map Prod.fst).take low ++ r :: (D.map Prod.fst).drop low := by rw [List.map_append, List.map_cons, List.map_take, List.map_drop]
              refine ⟨⟨k + 1, D.take low ++ (r, .slice pu r.fr.length cu) :: D.drop low, by go_num, by omega, by omega, Lib.hid ?_, Lib.hid ?_, Lib.hid ?_, Lib.hid ?_, Lib.hid ?_⟩, by simp [intOf]; omega⟩
              · have h9 := own_set (i := low * 3 + 2) (own_set (i := low * 3 + 1) (own_set (i := low * 3) HW.out (.int .i64 r.sym)) (.slice pu r.fr.length cu)) (.int .i64 r.to)
                rw [ins_cells D (r, .slice pu r.fr.length cu) low hhd zr rfl] at h9
                rw [hlen']
                exact h9
              · rw [hmap]
                exact HAT.out.ins HST.out HNI.out
              · intro x
                rw [hmap, mem_ins, HME.out, List.take_add_one, HRK.out, List.mem_append]
                simp only [Option.toList_some, List.mem_singleton]
                exact ⟨fun h => h.elim .inr .inl, fun h => h.elim .inr .inl⟩
              · intro x hx
                rcases List.mem_append.1 hx with h | h
                · exact HDI.out x (List.mem_of_mem_take h)
                · rcases List.mem_cons.1 h with h | h
                  · subst h; exact ⟨HIU.out, HTU.out⟩
                  · exact HDI.out x (List.mem_of_mem_drop h)
              · exact ((HBW.out.setCell (p := ⟨g9, low * 3, none⟩) hgB9 _).setCell (p := ⟨g9, low * 3 + 1, none⟩) hgB9 _).setCell (p := ⟨g9, low * 3 + 2, none⟩) hgB9 _
            · have hcp1 : ¬ cap9 - (low + 1) = 0 := by omega
              go_wp2_with fail
              refine wp_region_held_drew (S := (fun _ => True)) (by kernel_rfl) trivial (fun hHeld => ?_)
              refine wpAnyH_take (i := 0) (oi := ⟨some 55, _, _, _, _, _⟩) (v := ?v0q) rfl (by kernel_rfl) (by kernel_rfl) (by kernel_rfl) (fun _ _ _ h => h) (Or.inl ⟨by rfl, ?y0q⟩) (by assumption) ?r0q
              case y0q => (intro w hSw; (try dsimp only at hSw); go_simp); (try with_reducible rfl)
              (try simp only [Act.put, List.setIfInBounds_toArray, List.set_cons_zero, List.set_cons_succ])
              refine wpAnyH_take (i := 1) (oi := ⟨some 56, _, _, _, _, _⟩) (v := ?v1q) rfl (by kernel_rfl) (by kernel_rfl) (by kernel_rfl) (fun _ _ _ h => h) (Or.inl ⟨by rfl, ?y1q⟩) (by assumption) ?r1q
              case y1q => (intro w hSw; (try dsimp only at hSw); go_simp); (try with_reducible rfl)
              (try simp only [Act.put, List.setIfInBounds_toArray, List.set_cons_zero, List.set_cons_succ])
              refine wpAnyH_take (i := 2) (oi := ⟨some 57, _, _, _, _, _⟩) (v := ?v2q) rfl (by kernel_rfl) (by kernel_rfl) (by kernel_rfl) (fun _ _ _ h => h) (Or.inl ⟨by rfl, ?y2q⟩) (by assumption) ?r2q
              case y2q => (intro w hSw; (try dsimp only at hSw); go_simp); (try with_reducible rfl)
              (try simp only [Act.put, List.setIfInBounds_toArray, List.set_cons_zero, List.set_cons_succ])
              refine wpAnyH_take (i := 3) (oi := ⟨some 58, _, _, _, _, _⟩) (v := ?v3q) rfl (by kernel_rfl) (by kernel_rfl) (by kernel_rfl) (fun _ _ _ h => h) (Or.inl ⟨by rfl, ?y3q⟩) (by assumption) ?r3q
              case y3q => (intro w hSw; (try dsimp only at hSw); go_simp); (try with_reducible rfl)
              (try simp only [Act.put, List.setIfInBounds_toArray, List.set_cons_zero, List.set_cons_succ])
              refine wpAnyH_take (i := 4) (oi := ⟨some 59, _, _, _, _, _⟩) (v := ?v4q) rfl (by kernel_rfl) (by kernel_rfl) (by kernel_rfl) (fun _ _ _ h => h) (Or.inl ⟨by rfl, ?y4q⟩) (by assumption) ?r4q
              case y4q => (intro w hSw; (try dsimp only at hSw); go_simp); (try with_reducible rfl)
              (try simp only [Act.put, List.setIfInBounds_toArray, List.set_cons_zero, List.set_cons_succ])
              refine wpAnyH_take (i := 5) (oi := ⟨some 60, _, _, _, _, _⟩) (v := ?v5q) rfl (by kernel_rfl) (by kernel_rfl) (by kernel_rfl) (fun _ _ _ h => h) (Or.inl ⟨by rfl, ?y5q⟩) (by assumption) ?r5q
              case y5q => (intro w hSw; (try dsimp only at hSw); go_simp); (try with_reducible rfl)
              (try simp only [Act.put, List.setIfInBounds_toArray, List.set_cons_zero, List.set_cons_succ])
              refine wpAnyH_take (i := 6) (oi := ⟨some 61, _, _, _, _, _⟩) (v := ?v6q) rfl (by kernel_rfl) (by kernel_rfl) (by kernel_rfl) (fun _ _ _ h => h) (Or.inl ⟨by rfl, ?y6q⟩) (by assumption) ?r6q
              case y6q => (intro w hSw; (try dsimp only at hSw); go_simp); (try with_reducible rfl)
              (try simp only [Act.put, List.setIfInBounds_toArray, List.set_cons_zero, List.set_cons_succ])
              refine wpAnyH_ready (rs := [7]) (by kernel_rfl) (by simp) ?_
              refine AllReadyH.cons rfl (fun K hK => ?_) AllReadyH.nil
              refine step_copy_k rfl (.tmp 58) (.tmp 61) 25 25 rfl 70 3 Tryd.underlying25 Tryd.infoRule3 _ _ _ _ _ _ rfl rfl g9 ((low + 1) * 3) cur9 70 HC9.out (rcells (D.drop low)) (by rw [rcells_len, List.length_drop]; show _ = min _ _ * 3; omega) (by decide) (fun h0 => by have h0' : 0 < min _ _ := h0; first | exact absurd h0' (by omega) | exact ⟨rfl, ⟨g9, low * 3, none⟩, rfl, HSRC.out⟩) (by have := HFIT.out; rw [hcs9]; omega) HONE.out ?_
              intro u10
              refine hK.out _ _ trivial (fun hHeld => ?_)
              clear hK K
              (try simp only [Act.put, List.setIfInBounds_toArray, List.set_cons_zero, List.set_cons_succ])
              refine wpAnyH_done (by kernel_rfl) ?_ _
              generalize w9.drew.setRow g9 (cur9.toList.take ((low + 1) * 3) ++ (rcells (D.drop low) ++ cur9.toList.drop ((low + 1) * 3 + (rcells (D.drop low)).length))).toArray = W0 at *
              obtain ⟨_, _, e10, _, _, _, hgl10, cur10, hc10, hcz10⟩ := row3_shape HW.out (by omega)
              simp only [Value.slice.injEq, Option.some.injEq, Addr.mk.injEq] at e10
              obtain ⟨⟨rfl, _⟩, _, rfl⟩ := e10
              have HC10 := Lib.hid hc10
              have n0 : W0.cell? ⟨wr.heap.size, 0, none⟩ = some (.int .i64 r.sym) := by rw [HNW.out.cell]; rfl
              have n1 : W0.cell? ⟨wr.heap.size, 1, none⟩ = some (.slice pu r.fr.length cu) := by rw [HNW.out.cell]; rfl
              have n2 : W0.cell? ⟨wr.heap.size, 2, none⟩ = some (.int .i64 r.to) := by rw [HNW.out.cell]; rfl
              have nl := HNW.out.lt
              obtain ⟨u0, z0⟩ : ∃ u, W0.cell? ⟨g9, low * 3, none⟩ = some u := ⟨_, by rw [HC10.out.cell]; exact Array.getElem?_eq_getElem (by omega)⟩
              obtain ⟨u1, z1⟩ : ∃ u, W0.cell? ⟨g9, low * 3 + 1, none⟩ = some u := ⟨_, by rw [HC10.out.cell]; exact Array.getElem?_eq_getElem (by omega)⟩
              obtain ⟨u2, z2⟩ : ∃ u, W0.cell? ⟨g9, low * 3 + 2, none⟩ = some u := ⟨_, by rw [HC10.out.cell]; exact Array.getElem?_eq_getElem (by omega)⟩
              have f0 := HC10.out.frozen (low * 3)
              have f1 := HC10.out.frozen (low * 3 + 1)
              have f2 := HC10.out.frozen (low * 3 + 2)
              have hli : (low : Int) < (D.length : Int) + 1 := by omega
              clear hc10
              go_wp2_with fail
              have hlen' : (D.take low ++ (r, Value.slice pu r.fr.length cu) :: D.drop low).length = D.length + 1 := by simp only [List.length_append, List.length_cons, List.length_take, List.length_drop]; omega
              have hmap : (D.take low ++ (r, Value.slice pu r.fr.length cu) :: D.drop low).map Prod.fst = (D.map Prod.fst).take low ++ r :: (D.map Prod.fst).drop low := by rw [List.map_append, List.map_cons, List.map_take, List.map_drop]
              refine ⟨⟨k + 1, D.take low ++ (r, .slice pu r.fr.length cu) :: D.drop low, by go_num, by omega, by omega, Lib.hid ?_, Lib.hid ?_, Lib.hid ?_, Lib.hid ?_, Lib.hid ?_⟩, by simp [intOf]; omega⟩
              · have h9 := own_set (i := low * 3 + 2) (own_set (i := low * 3 + 1) (own_set (i := low * 3) HW.out (.int .i64 r.sym)) (.slice pu r.fr.length cu)) (.int .i64 r.to)
                rw [ins_cells D (r, .slice pu r.fr.length cu) low hhd zr rfl] at h9
                rw [hlen']
                exact h9
              · rw [hmap]
                exact HAT.out.ins HST.out HNI.out
              · intro x
                rw [hmap, mem_ins, HME.out, List.take_add_one, HRK.out, List.mem_append]
                simp only [Option.toList_some, List.mem_singleton]
                exact ⟨fun h => h.elim .inr .inl, fun h => h.elim .inr .inl⟩
              · intro x hx
                rcases List.mem_append.1 hx with h | h
                · exact HDI.out x (List.mem_of_mem_take h)
                · rcases List.mem_cons.1 h with h | h
                  · subst h; exact ⟨HIU.out, HTU.out⟩
                  · exact HDI.out x (List.mem_of_mem_drop h)
              · exact ((HBW.out.setCell (p := ⟨g9, low * 3, none⟩) hgB9 _).setCell (p := ⟨g9, low * 3 + 1, none⟩) hgB9 _).setCell (p := ⟨g9, low * 3 + 2, none⟩) hgB9 _
    · have hge : R.length ≤ k := by omega
      have hkd : decide (k < R.length) = false := decide_eq_false hlt
      have hkd2 : decide ((k : Int) < (R.length : Int)) = false := decide_eq_false (by omega)
      have HMF : Hid (∀ r, r ∈ D.map Prod.fst ↔ r ∈ R) := Lib.hid (by
        have h := HME.out
        rw [List.take_of_length_le hge] at h
        exact h)
      go_wp2_with fail
      go_ret
      exact ⟨⟨_, D, rfl, HO.out, HST.out, HMF.out, HDI.out⟩, HBr.out⟩

end Go.Proofs.YtedfldbknjcnlaaDoor
