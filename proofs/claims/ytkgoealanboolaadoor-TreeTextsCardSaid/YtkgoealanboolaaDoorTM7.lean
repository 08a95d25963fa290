/- ref01.Parse. law01.TreeTexts, the walk. -/
import Derived.Test.YtkgoealanboolaaDoorTRRead
import Derived.Test.YtkgoealanboolaaDoorTM6
import Derived.Test.YtkgoealanboolaaDoorShaped
import Derived.Test.YtkgoealanboolaaDoorTAt
import Derived.Test.YtkgoealanboolaaDoorTAwakeOk
import Derived.Test.YtkgoealanboolaaDoorTSame
import Derived.Test.YtkgoealanboolaaDoorTM4
namespace Go.Proofs.YtkgoealanboolaaDoor
open Go.RowKit Go.Shelf

set_option maxRecDepth 100000 in
set_option maxHeartbeats 1000000 in
theorem rtparse_ok (al : List Int) (av : Value) (names : List ByteArray) (vn : Value) (s : ByteArray) (w : World) (ha : IsInts w av al) (hn : IsStrs w vn names) (hs : s.size ≤ 1000000) :
    Calls Tryd.prog 37 #[.agg #[av], vn, .string s] w fun e w' => ∃ r, e = .returned (.tuple #[r, .int .i64 (paE al names s)]) ∧ IsT w' r (paT al names s) ∧ Below w.heap.size w w' := by
  have HNS := Lib.hid hn
  have HAS := Lib.hid ha
  have HNM := fun W (hb : Below w.heap.size w W) => rnames_ok names (al.length : Int) vn W (hn.below hb)
  have HVA := fun W (hb : Below w.heap.size w W) => rvalidAlphabet_ok al av W (ha.below hb)
  obtain ⟨pn, cn, rfl, _, _, hnc, _⟩ := hn
  obtain ⟨pa, ca, rfl, _, _, hac⟩ := ha
  have hnb0 : names ≠ [] → ∀ b' o n c, Value.slice pn names.length cn = .slice (some ⟨b', o, none⟩) n c → b' < w.heap.size := by
    intro hne b' o' n' c' e
    obtain ⟨b, o2, hp, hcl⟩ := hnc hne
    obtain ⟨x, hx⟩ : ∃ x, names[0]? = some x := by cases names with
      | nil => exact absurd rfl hne
      | cons x l => exact ⟨x, rfl⟩
    have := World.block_lt_of_cell? _ _ (hcl 0 x hx)
    simp only [Value.slice.injEq, hp, Option.some.injEq, Addr.mk.injEq] at e
    simp only at this
    omega
  have hab0 : al ≠ [] → ∀ b' o n c, Value.slice pa al.length ca = .slice (some ⟨b', o, none⟩) n c → b' < w.heap.size := by
    intro hne b' o' n' c' e
    obtain ⟨b, o2, hp, hcl⟩ := hac hne
    obtain ⟨x, hx⟩ : ∃ x, al[0]? = some x := by cases al with
      | nil => exact absurd rfl hne
      | cons x l => exact ⟨x, rfl⟩
    have := World.block_lt_of_cell? _ _ (hcl 0 x hx)
    simp only [Value.slice.injEq, hp, Option.some.injEq, Addr.mk.injEq] at e
    simp only at this
    omega
  have HNB0 := Lib.hid hnb0
  have HAB0 := Lib.hid hab0
  clear hnc hac hnb0 hab0
  have hb0 : Below w.heap.size w ((w.alloc (.cells #[.slice pa al.length ca] 24)).alloc (.cells #[.int .i64 0, .slice none 0 0] 27)) := ((Below.refl _ w).alloc (Nat.le_refl _) _).alloc (by simp) _
  have HBA := Lib.hid ((Blk.new w 24 #[.slice pa al.length ca]).alloc (.cells #[.int .i64 0, .slice none 0 0] 27))
  have HBT := Lib.hid (blk2_1 w (.cells #[.slice pa al.length ca] 24) 27 #[.int .i64 0, .slice none 0 0])
  have HB0 := Lib.hid hb0
  have HST := Lib.hid (show ∀ W, Below ((w.alloc (.cells #[.slice pa al.length ca] 24)).alloc (.cells #[.int .i64 0, .slice none 0 0] 27)).heap.size ((w.alloc (.cells #[.slice pa al.length ca] 24)).alloc (.cells #[.int .i64 0, .slice none 0 0] 27)) W →
      (Blk W w.heap.size 24 #[.slice pa al.length ca] ∧ Blk W (w.heap.size + 1) 27 #[.int .i64 0, .slice none 0 0]) ∧ Below w.heap.size w W ∧
      (W.cell? ⟨w.heap.size, 0, none⟩ = some (.slice pa al.length ca) ∧ W.cell? ⟨w.heap.size + 1, 0, none⟩ = some (.int .i64 0) ∧ W.cell? ⟨w.heap.size + 1, 1, none⟩ = some (.slice none 0 0)) ∧
      (W.frozen? ⟨w.heap.size + 1, 0, none⟩ = false ∧ W.frozen? ⟨w.heap.size + 1, 1, none⟩ = false) ∧ (w.heap.size < W.heap.size ∧ w.heap.size + 1 < W.heap.size) from fun W hW => by
    have h0 := HBA.out.below hW (by simp; omega)
    have h1 := HBT.out.below hW (by simp)
    exact ⟨⟨h0, h1⟩, HB0.out.trans (hW.mono (by simp; omega)), ⟨by rw [h0.cell]; rfl, by rw [h1.cell]; rfl, by rw [h1.cell]; rfl⟩, ⟨h1.frozen 0, h1.frozen 1⟩, h0.lt, h1.lt⟩)
  have HVA0 := HVA _ hb0
  clear hb0 HVA
  by_cases hv : validAl al = true
  rotate_left
  · have HE : Hid (paE al names s = 1) := Lib.hid (by rw [paE, if_neg hv])
    have hv2 : validAl al = false := by simpa using hv
    rw [hv2] at HVA0
    have HVA0 := Lib.hid HVA0
    clear hv hv2 HNM
    go_enter Tryd.func37, Tryd.ntmps37
    go_wp2_with fail
    refine HVA0.out.mono ?_
    rintro e w1 ⟨rfl, hb1⟩
    obtain ⟨⟨_, k1⟩, kb, ⟨z0, z1, z2⟩, ⟨f1, f2⟩, l0, l1⟩ := HST.out w1 hb1
    have H1 := Lib.hid hb1
    have K1 := Lib.hid k1
    have KB := Lib.hid kb
    clear hb1 k1 kb
    go_wp2_with fail
    refine bodyPost_ret (results_row_tmp rfl _ _ (w.heap.size + 1) 27 _ rfl ((K1.out.set_ 0 (.int .i64 0)).set_ 1 (.slice none 0 0)) Tryd.underlying27 Tryd.infoTreeS) rfl ?_
    exact ⟨_, by rw [HE.out]; rfl, by rw [paT_bad HE.out (by decide)]; exact isT_nil _, (KB.out.setCell (p := ⟨w.heap.size + 1, 0, none⟩) (by simp) _).setCell (p := ⟨w.heap.size + 1, 1, none⟩) (by simp) _⟩
  · rw [hv] at HVA0
    have HVA0 := Lib.hid HVA0
    have HVV := Lib.hid hv
    clear hv
    by_cases hb : namesB names (al.length : Int) = true
    rotate_left
    · have HE : Hid (paE al names s = 4) := Lib.hid (by rw [paE, if_pos HVV.out, if_neg hb])
      have hb2 : namesB names (al.length : Int) = false := by simpa using hb
      rw [hb2] at HNM
      have HNM := Lib.hid HNM
      clear hb hb2
      go_enter Tryd.func37, Tryd.ntmps37
      go_wp2_with fail
      refine HVA0.out.mono ?_
      rintro e w1 ⟨rfl, hb1⟩
      obtain ⟨⟨_, k1⟩, kb, ⟨z0, z1, z2⟩, ⟨f1, f2⟩, l0, l1⟩ := HST.out w1 hb1
      have H1 := Lib.hid hb1
      have K1 := Lib.hid k1
      have KB := Lib.hid kb
      clear hb1 k1 kb
      go_wp2_with fail
      refine (HNM.out _ KB.out).mono ?_
      rintro e w2 ⟨rfl, rfl⟩
      go_wp2_with fail
      refine bodyPost_ret (results_row_tmp rfl _ _ (w.heap.size + 1) 27 _ rfl ((K1.out.set_ 0 (.int .i64 0)).set_ 1 (.slice none 0 0)) Tryd.underlying27 Tryd.infoTreeS) rfl ?_
      exact ⟨_, by rw [HE.out]; rfl, by rw [paT_bad HE.out (by decide)]; exact isT_nil _, (KB.out.setCell (p := ⟨w.heap.size + 1, 0, none⟩) (by simp) _).setCell (p := ⟨w.heap.size + 1, 1, none⟩) (by simp) _⟩
    · have HNB := Lib.hid hb
      rw [hb] at HNM
      have HNM := Lib.hid HNM
      clear hb
      by_cases h16 : s.size ≤ 16384
      rotate_left
      · have HE : Hid (paE al names s = 3) := Lib.hid (by rw [paE, if_pos HVV.out, if_pos HNB.out, if_neg h16])
        have h16' : 16384 < s.size := by omega
        clear h16
        go_enter Tryd.func37, Tryd.ntmps37
        go_wp2_with fail
        refine HVA0.out.mono ?_
        rintro e w1 ⟨rfl, hb1⟩
        obtain ⟨⟨_, k1⟩, kb, ⟨z0, z1, z2⟩, ⟨f1, f2⟩, l0, l1⟩ := HST.out w1 hb1
        have H1 := Lib.hid hb1
        have K1 := Lib.hid k1
        have KB := Lib.hid kb
        clear hb1 k1 kb
        go_wp2_with fail
        refine (HNM.out _ KB.out).mono ?_
        rintro e w2 ⟨rfl, rfl⟩
        go_wp2_with fail
        refine bodyPost_ret (results_row_tmp rfl _ _ (w.heap.size + 1) 27 _ rfl ((K1.out.set_ 0 (.int .i64 0)).set_ 1 (.slice none 0 0)) Tryd.underlying27 Tryd.infoTreeS) rfl ?_
        exact ⟨_, by rw [HE.out]; rfl, by rw [paT_bad HE.out (by decide)]; exact isT_nil _, (KB.out.setCell (p := ⟨w.heap.size + 1, 0, none⟩) (by simp) _).setCell (p := ⟨w.heap.size + 1, 1, none⟩) (by simp) _⟩
      · have HE0 : Hid (paE al names s = tpE (tps names al s)) := Lib.hid (by rw [paE, if_pos HVV.out, if_pos HNB.out, if_pos h16])
        have hsm := namesB_small HNB.out
        have HNL : Hid (names.length = al.length) := Lib.hid (by omega)
        have HNN : Hid (∀ x ∈ names, nameB x = true) := Lib.hid hsm.2
        have HNE : Hid (∀ x ∈ names, 0 < x.size) := Lib.hid (fun x hx => by have := hsm.2 x hx; rw [nameB_eq] at this; simp at this; omega)
        have HRT := Lib.hid (fun W (hW : Below w.heap.size w W) => rtree_any s names al W.heap.size (.slice pn names.length cn) (.slice pa al.length ca) hs HNL.out HNN.out HVV.out (fun h b o n c e => by have := HNB0.out h b o n c e; have := hW.size; omega) (fun h b o n c e => by have := HAB0.out h b o n c e; have := hW.size; omega) (s.size + 2) (s.size + 1) 0 (W.alloc (.cells #[.slice pa al.length ca, .slice pn names.length cn, .string s, .bool false] 112)) (by omega) (by omega) (by omega) (by rw [suf_zero]; exact Blk.new W _ _) (HNS.out.below (hW.alloc hW.size _)) (HAS.out.below (hW.alloc hW.size _)))
        clear hsm
        go_enter Tryd.func37, Tryd.ntmps37
        go_wp2_with fail
        refine HVA0.out.mono ?_
        rintro e w1 ⟨rfl, hb1⟩
        obtain ⟨⟨_, k1⟩, kb, ⟨z0, z1, z2⟩, ⟨f1, f2⟩, l0, l1⟩ := HST.out w1 hb1
        have H1 := Lib.hid hb1
        have K1 := Lib.hid k1
        have KB := Lib.hid kb
        clear hb1 k1 kb
        go_wp2_with fail
        refine (HNM.out _ KB.out).mono ?_
        rintro e w2 ⟨rfl, rfl⟩
        go_wp2_with fail
        refine (HRT.out w1 KB.out).mono ?_
        rintro e w3 ⟨l3, q3, n3, c3, β, tx, rfl, hk3, hb3, hc3⟩
        have hw1 := KB.out.size
        have hkw := (((Kp.refl (fun c => c ≠ w1.heap.size) w1).alloc (.cells #[.slice pa al.length ca, .slice pn names.length cn, .string s, .bool false] 112)).trans hk3)
        have hz3 := hkw.size
        have hR3 := K1.out.kp hkw (by omega)
        have hB3 := KB.out.trans (hkw.below (B := w.heap.size) (by omega) (fun k hk => by omega))
        have HR4 := Lib.hid (hR3.alloc (.cells #[.int .i64 l3, .slice q3 n3 c3] 27))
        have HW4 := Lib.hid (hB3.alloc hB3.size (.cells #[.int .i64 l3, .slice q3 n3 c3] 27))
        have HX4 := Lib.hid (Blk.new w3 27 #[.int .i64 l3, .slice q3 n3 c3])
        have hbl3 := hb3.lt
        have HC3 := Lib.hid hc3
        have HB4 := Lib.hid (hb3.alloc (.cells #[.int .i64 l3, .slice q3 n3 c3] 27))
        clear hk3 hc3 hb3 hkw hR3 hB3 z0 z1 z2 f1 f2
        rcases HC3.out with ⟨rfl, t, e', ht, rfl, rfl, hw3, hq3⟩ | ⟨rfl, ht⟩
        rotate_left
        · have HE : Hid (paE al names s = 4) := Lib.hid (by rw [HE0.out, tps_none ht]; rfl)
          have HBk := Lib.hid (rblanks_ok tx 0 w1.heap.size (.slice pa al.length ca) (.slice pn names.length cn) true _ (by rw [suf_zero]; exact HB4.out) (Nat.zero_le _))
          clear ht
          go_wp2_with fail
          refine HBk.out.mono ?_
          rintro e w5 ⟨rfl, hb5, hk5⟩
          have hR5 := HR4.out.kp hk5 (by omega)
          have HR5 := Lib.hid hR5
          have hz5 := hk5.size
          have HW5 := Lib.hid (HW4.out.trans (hk5.below (B := w.heap.size) (by have := HW4.out.size; omega) (fun k hk => by omega)))
          have z3 : w5.cell? ⟨w1.heap.size, 3, none⟩ = some (.bool true) := by rw [hb5.cell]; rfl
          have z4 := hb5.lt
          have y1 : w5.cell? ⟨w.heap.size + 1, 0, none⟩ = some (.int .i64 0) := by rw [hR5.cell]; rfl
          have y2 : w5.cell? ⟨w.heap.size + 1, 1, none⟩ = some (.slice none 0 0) := by rw [hR5.cell]; rfl
          have y3 := hR5.frozen 0
          have y4 := hR5.frozen 1
          have y5 := hR5.lt
          clear hb5 hk5 hR5
          go_wp2_with fail
          refine bodyPost_ret (results_row_tmp rfl _ _ (w.heap.size + 1) 27 _ rfl ((HR5.out.set_ 0 (.int .i64 0)).set_ 1 (.slice none 0 0)) Tryd.underlying27 Tryd.infoTreeS) rfl ?_
          exact ⟨_, by rw [HE.out]; rfl, by rw [paT_bad HE.out (by decide)]; exact isT_nil _, (HW5.out.setCell (p := ⟨w.heap.size + 1, 0, none⟩) (by simp) _).setCell (p := ⟨w.heap.size + 1, 1, none⟩) (by simp) _⟩
        · obtain ⟨hre1, hre2, _, _⟩ := rt_end HNL.out HNE.out HVV.out _ _ t e' (by omega) ht
          have hsk := skB_le (s := s) hre2
          have HP := Lib.hid (tps_some ht)
          have HBk := Lib.hid (rblanks_ok s e' w1.heap.size (.slice pa al.length ca) (.slice pn names.length cn) false _ HB4.out hre2)
          have HQ4 := Lib.hid ((hq3.mono (S' := fun c => c ≠ w1.heap.size ∧ c ≠ w.heap.size + 1) (fun c _ h => by simp at h; omega)).kp ((Kp.refl _ w3).alloc (.cells #[.int .i64 t.1, .slice q3 n3 c3] 27)))
          have HWF := Lib.hid hw3
          have hH : t.2.size ≤ 1000000 := by omega
          have hlen := hq3.isH
          have hn3 : n3 = t.2.len := by
            obtain ⟨_, _, e, _⟩ := hq3
            simp only [Value.slice.injEq] at e
            exact e.2.1
          subst hn3
          clear ht hw3 hlen
          go_wp2_with fail
          refine HBk.out.mono ?_
          rintro e w5 ⟨rfl, hb5, hk5⟩
          have hR5 := HR4.out.kp hk5 (by omega)
          have hX5 := HX4.out.kp hk5 (by omega)
          have HR5 := Lib.hid hR5
          have HX5 := Lib.hid hX5
          have HQ5 := Lib.hid (HQ4.out.kp (hk5.mono (fun c _ h => h.1)))
          have HW5 := Lib.hid (HW4.out.trans (hk5.below (B := w.heap.size) (by have := HW4.out.size; omega) (fun k hk => by omega)))
          have z2 : w5.cell? ⟨w1.heap.size, 2, none⟩ = some (.string (suf s (skB s e'))) := by rw [hb5.cell]; rfl
          have z3 : w5.cell? ⟨w1.heap.size, 3, none⟩ = some (.bool false) := by rw [hb5.cell]; rfl
          have z4 := hb5.lt
          have y1 : w5.cell? ⟨w.heap.size + 1, 0, none⟩ = some (.int .i64 0) := by rw [hR5.cell]; rfl
          have y2 : w5.cell? ⟨w.heap.size + 1, 1, none⟩ = some (.slice none 0 0) := by rw [hR5.cell]; rfl
          have y3 := hR5.frozen 0
          have y4 := hR5.frozen 1
          have y5 := hR5.lt
          have x0 : w5.cell? ⟨w3.heap.size, 0, none⟩ = some (.int .i64 t.1) := by rw [hX5.cell]; rfl
          have x1 : w5.cell? ⟨w3.heap.size, 1, none⟩ = some (.slice q3 t.2.len c3) := by rw [hX5.cell]; rfl
          have x2 := hX5.lt
          clear hb5 hk5 hR5 hX5
          by_cases hes : skB s e' = s.size
          rotate_left
          · have HE : Hid (paE al names s = 4) := Lib.hid (by rw [HE0.out, HP.out, if_neg hes]; rfl)
            obtain ⟨m1, m2, m3, m4⟩ := suf_more (s := s) (k := skB s e') (by omega)
            have m5 : ((suf s (skB s e')).toList != []) = true := by simpa using m1
            clear hes
            go_wp2_with fail
            refine bodyPost_ret (results_row_tmp rfl _ _ (w.heap.size + 1) 27 _ rfl ((HR5.out.set_ 0 (.int .i64 0)).set_ 1 (.slice none 0 0)) Tryd.underlying27 Tryd.infoTreeS) rfl ?_
            exact ⟨_, by rw [HE.out]; rfl, by rw [paT_bad HE.out (by decide)]; exact isT_nil _, (HW5.out.setCell (p := ⟨w.heap.size + 1, 0, none⟩) (by simp) _).setCell (p := ⟨w.heap.size + 1, 1, none⟩) (by simp) _⟩
          · have HP2 : Hid (tps names al s = some t) := Lib.hid (by rw [HP.out, if_pos hes])
            obtain ⟨m1, m2, m3⟩ := suf_at_end hes
            have m5 : ((suf s (skB s e')).toList != []) = false := by simpa using m1
            have HF := Lib.hid (few01_ok t.1 t.2 (.slice q3 t.2.len c3) 300 w5 HQ5.out.isH (by omega) (by omega))
            clear hes HP
            go_wp2_with fail
            refine HF.out.mono ?_
            rintro e w6 ⟨rfl, hb6⟩
            have hR6 := HR5.out.below hb6 HR5.out.lt
            have hX6 := HX5.out.below hb6 HX5.out.lt
            have HR6 := Lib.hid hR6
            have HQ6 := Lib.hid (HQ5.out.kp (Kp.of_below hb6 (fun c hc _ => hc)))
            have HW6 := Lib.hid (HW5.out.trans (hb6.mono HW5.out.size))
            have y1 : w6.cell? ⟨w.heap.size + 1, 0, none⟩ = some (.int .i64 0) := by rw [hR6.cell]; rfl
            have y2 : w6.cell? ⟨w.heap.size + 1, 1, none⟩ = some (.slice none 0 0) := by rw [hR6.cell]; rfl
            have y3 := hR6.frozen 0
            have y4 := hR6.frozen 1
            have y5 := hR6.lt
            have x0 : w6.cell? ⟨w3.heap.size, 0, none⟩ = some (.int .i64 t.1) := by rw [hX6.cell]; rfl
            have x1 : w6.cell? ⟨w3.heap.size, 1, none⟩ = some (.slice q3 t.2.len c3) := by rw [hX6.cell]; rfl
            have x2 := hX6.lt
            clear hb6 hR6 hX6
            by_cases h300 : t.2.size + 1 ≤ 300
            rotate_left
            · have HE : Hid (paE al names s = 3) := Lib.hid (by rw [HE0.out, HP2.out, tpE, if_neg h300])
              have hd : decide ((t.2.size : Int) + 1 ≤ 300) = false := decide_eq_false (by omega)
              rw [hd]
              clear h300 hd
              go_wp2_with fail
              refine bodyPost_ret (results_row_tmp rfl _ _ (w.heap.size + 1) 27 _ rfl ((HR6.out.set_ 0 (.int .i64 0)).set_ 1 (.slice none 0 0)) Tryd.underlying27 Tryd.infoTreeS) rfl ?_
              exact ⟨_, by rw [HE.out]; rfl, by rw [paT_bad HE.out (by decide)]; exact isT_nil _, (HW6.out.setCell (p := ⟨w.heap.size + 1, 0, none⟩) (by simp) _).setCell (p := ⟨w.heap.size + 1, 1, none⟩) (by simp) _⟩
            · have HE : Hid (paE al names s = 0) := Lib.hid (by rw [HE0.out, HP2.out, tpE, if_pos h300])
              have HHH : Hid (paT al names s = t) := Lib.hid (by rw [paT, if_pos HE.out, HP2.out]; rfl)
              have hd : decide ((t.2.size : Int) + 1 ≤ 300) = true := decide_eq_true (by omega)
              rw [hd]
              clear h300 hd
              go_wp2_with fail
              refine bodyPost_ret (results_row_tmp rfl _ _ (w.heap.size + 1) 27 _ rfl ((HR6.out.set_ 0 _).set_ 1 _) Tryd.underlying27 Tryd.infoTreeS) rfl ?_
              refine ⟨_, by rw [HE.out]; rfl, ?_, (HW6.out.setCell (p := ⟨w.heap.size + 1, 0, none⟩) (by simp) _).setCell (p := ⟨w.heap.size + 1, 1, none⟩) (by simp) _⟩
              rw [HHH.out]
              exact ⟨_, rfl, HWF.out, (HQ6.out.kp (((Kp.refl _ _).setCell (p := ⟨w.heap.size + 1, 0, none⟩) (fun h => absurd rfl h.2) _).setCell (p := ⟨w.heap.size + 1, 1, none⟩) (fun h => absurd rfl h.2) _)).isH⟩

end Go.Proofs.YtkgoealanboolaaDoor

namespace Go.Proofs.YtkgoealanboolaaDoor
open Go.RowKit Go.Shelf

def XSt (w : World) (av : Value) (lt : Int) (vt : Value) (W : World) : Prop := Below w.heap.size w W ∧ Blk W w.heap.size 24 #[av] ∧ Blk W (w.heap.size + 1) 27 #[.int .i64 lt, vt]
theorem XSt.more {w W W' : World} {av : Value} {lt : Int} {vt : Value} (h : XSt w av lt vt W) (hb : Below W.heap.size W W') : XSt w av lt vt W' := ⟨h.1.trans (hb.mono h.1.size), h.2.1.below hb h.2.1.lt, h.2.2.below hb h.2.2.lt⟩
theorem XSt.alloc {w W : World} {av : Value} {lt : Int} {vt : Value} (h : XSt w av lt vt W) (o : Obj) : XSt w av lt vt (W.alloc o) := ⟨h.1.alloc h.1.size _, h.2.1.alloc _, h.2.2.alloc _⟩
theorem XSt.facts {w W : World} {av : Value} {lt : Int} {vt : Value} (h : XSt w av lt vt W) : W.cell? ⟨w.heap.size, 0, none⟩ = some av ∧ W.cell? ⟨w.heap.size + 1, 0, none⟩ = some (.int .i64 lt) ∧ W.cell? ⟨w.heap.size + 1, 1, none⟩ = some vt ∧ w.heap.size < W.heap.size ∧ w.heap.size + 1 < W.heap.size :=
  ⟨by rw [h.2.1.cell]; rfl, by rw [h.2.2.cell]; rfl, by rw [h.2.2.cell]; rfl, h.2.1.lt, h.2.2.lt⟩
theorem xst_new (w : World) (av : Value) (lt : Int) (vt : Value) : XSt w av lt vt ((w.alloc (.cells #[av] 24)).alloc (.cells #[.int .i64 lt, vt] 27)) :=
  ⟨((Below.refl _ w).alloc (Nat.le_refl _) _).alloc (by simp) _, (Blk.new w _ _).alloc _, blk2_1 w _ _ _⟩
theorem below_alx2 {w : World} (o : Obj) : Below w.heap.size w (w.alloc o) := (Below.refl _ w).alloc (Nat.le_refl _) _
theorem isH_one {w : World} {g : Nat} {t : TypeId} {l : Int} {v : Value} {K : Hg} (h : Blk w g t #[.int .i64 l, v]) (hl : (Lit.int .i64 l).wf = true) (hv : IsH w v K) : IsH w (.slice (some ⟨g, 0, none⟩) 1 1) (.cons l K .nil) := by
  refine ⟨some ⟨g, 0, none⟩, 1, rfl, Nat.le_refl _, by decide, fun _ => ⟨g, 0, rfl, ?_⟩⟩
  rw [Row.cons_iff]
  exact ⟨by rw [h.cell]; rfl, hl, ⟨v, by rw [h.cell]; rfl, hv⟩, trivial⟩

set_option maxRecDepth 100000 in
set_option maxHeartbeats 4000000 in
theorem texts_walk (al : List Int) (lt : Int) (T : Hg) (av vt vn : Value) (names : List ByteArray) (t : ByteArray) (w : World) (hal : AlIs w) (ha : IsInts w av al) (hlt : (Lit.int .i64 lt).wf = true) (ht : IsH w vt T) (hn : IsStrs w vn names) :
    Calls Tryd.prog 8 #[.agg #[av], vn, .agg #[.int .i64 lt, vt], .string t] w fun e w' => e = .returned (.bool true) ∧ Below w.heap.size w w' := by
  have HLT := Lib.hid hlt
  have HA := Lib.hid ha
  have HT := Lib.hid ht
  have HN := Lib.hid hn
  have HAL := Lib.hid hal
  have ST0 := Lib.hid (xst_new w av lt vt)
  have hF := (few_ok al av (.cons lt T .nil) _ _ (ha.below (ST0.out.alloc (.cells #[.int .i64 lt, vt] 27)).1) (isH_one (Blk.new _ _ _) hlt (ht.below (ST0.out.alloc _).1)))
  have e3 : ((w.alloc (.cells #[av] 24)).alloc (.cells #[.int .i64 lt, vt] 27)).heap.size = w.heap.size + 1 + 1 := by simp
  rw [e3] at hF
  have HF := Lib.hid hF
  clear hF e3
  obtain ⟨pa, ca, rfl, ha1, ha2, _⟩ := ha
  obtain ⟨pt, ct, rfl, ht1, ht2, _⟩ := ht
  obtain ⟨pn, cn, rfl, hn1, hn2, _, _⟩ := hn
  clear hlt
  have HAW := Lib.hid (fun W (h : Below w.heap.size w W) => awake_ok W (HAL.out.below h))
  go_enter Tryd.func8, Tryd.ntmps8
  go_wp2_with fail
  refine HF.out.mono ?_
  rintro e w1 ⟨rfl, hb⟩
  have ST1 := Lib.hid ((ST0.out.alloc _).more hb)
  obtain ⟨z0, z1, z2, z3, z4⟩ := ST1.out.facts
  clear hb HF ST0
  by_cases hfew : (fewH (.cons lt T .nil) && decide ((al.length : Int) ≤ 40)) = true
  rotate_left
  · have hd : (fewH (.cons lt T .nil) && decide ((al.length : Int) ≤ 40)) = false := by simpa using hfew
    rw [hd]
    clear hd hfew
    go_wp2_with fail
    refine (HAW.out _ ST1.out.1).mono ?_
    rintro e w2 ⟨rfl, hb2⟩
    have HB2 := Lib.hid hb2
    clear hb2
    go_wp2_with fail
    go_ret
    exact ⟨rfl, (ST1.out.more HB2.out).1⟩
  rw [hfew]
  have hsz : T.size + 1 ≤ 2000 ∧ al.length ≤ 40 := by
    rw [fewH_cons] at hfew
    simp only [Bool.and_eq_true, decide_eq_true_eq] at hfew
    omega
  clear hfew
  by_cases h40 : 40 < names.length
  · have hd : decide ((40 : Int) < (names.length : Int)) = true := decide_eq_true (by omega)
    have hd' : (40 : Int) < (names.length : Int) := by omega
    clear h40
    go_wp2_with fail
    refine (HAW.out _ ST1.out.1).mono ?_
    rintro e w2 ⟨rfl, hb2⟩
    have HB2 := Lib.hid hb2
    clear hb2
    go_wp2_with fail
    go_ret
    exact ⟨rfl, (ST1.out.more HB2.out).1⟩
  have hd : decide ((40 : Int) < (names.length : Int)) = false := decide_eq_false (by omega)
  have hd' : ¬ (40 : Int) < (names.length : Int) := by omega
  clear h40
  by_cases h20 : 20000 < t.size
  · have he : decide ((20000 : Int) < (t.size : Int)) = true := decide_eq_true (by omega)
    have he' : (20000 : Int) < (t.size : Int) := by omega
    clear h20
    go_wp2_with fail
    refine (HAW.out _ ST1.out.1).mono ?_
    rintro e w2 ⟨rfl, hb2⟩
    have HB2 := Lib.hid hb2
    clear hb2
    go_wp2_with fail
    go_ret
    exact ⟨rfl, (ST1.out.more HB2.out).1⟩
  have he : decide ((20000 : Int) < (t.size : Int)) = false := decide_eq_false (by omega)
  have he' : ¬ (20000 : Int) < (t.size : Int) := by omega
  have hts : t.size ≤ 1000000 := by omega
  clear h20
  have C1 := Lib.hid (fun W (hW : Below w.heap.size w W) => tprint_ok al (.slice pa al.length ca) names (.slice pn names.length cn) lt T (.slice pt T.len ct) W (HA.out.below hW) (HN.out.below hW) HLT.out (HT.out.below hW) (by omega))
  have C2 := Lib.hid (fun W (hW : Below w.heap.size w W) => rtprint_ok al (.slice pa al.length ca) names (.slice pn names.length cn) lt T (.slice pt T.len ct) W (HA.out.below hW) (HN.out.below hW) (HT.out.below hW))
  have C3 := Lib.hid (fun s W (hW : Below w.heap.size w W) (hs : s.size ≤ 1000000) => tparse_ok al (.slice pa al.length ca) names (.slice pn names.length cn) s W (HA.out.below hW) (HN.out.below hW) hs)
  have C4 := Lib.hid (fun s W (hW : Below w.heap.size w W) (hs : s.size ≤ 1000000) => rtparse_ok al (.slice pa al.length ca) names (.slice pn names.length cn) s W (HA.out.below hW) (HN.out.below hW) hs)
  go_wp2_with fail
  refine (C1.out _ ST1.out.1).mono ?_
  rintro e w2 ⟨s1, rfl, hs1, hb2⟩
  have ST2 := Lib.hid (ST1.out.more hb2)
  obtain ⟨y0, y1, y2, y3, y4⟩ := ST2.out.facts
  have HS1 := Lib.hid hs1
  clear hb2 ST1 z0 z1 z2 z3 z4 C1 hs1
  go_wp2_with fail
  refine (C2.out _ ST2.out.1).mono ?_
  rintro e w3 ⟨s2, rfl, hs2, hb3⟩
  have hss : s2 = s1 := bytes_ext (hs2.trans HS1.out.symm)
  subst hss
  have ST3 := Lib.hid (ST2.out.more hb3)
  obtain ⟨z0, z1, z2, z3, z4⟩ := ST3.out.facts
  clear hb3 ST2 y0 y1 y2 y3 y4 C2 hs2
  go_wp2_with fail
  refine (C3.out t _ ST3.out.1 hts).mono ?_
  rintro e w4 ⟨r4, rfl, hr4, hb4⟩
  obtain ⟨R, hR⟩ : ∃ R, R = paT al names t := ⟨_, rfl⟩
  have C4' := Lib.hid (fun W hW => C4.out t W hW hts)
  rw [← hR] at hr4 C4'
  clear hR
  obtain ⟨v4, rfl, hw4, hk4⟩ := hr4
  have HK4 := Lib.hid (hk4.below (below_alx2 (.cells #[.int .i64 R.1, v4] 27)))
  obtain ⟨p4, c4, rfl, _, _, _⟩ := hk4
  have HW4 := Lib.hid hw4
  have HB4 := Lib.hid (Blk.new w4 27 #[.int .i64 R.1, .slice p4 R.2.len c4])
  have hbb4 := hb4.alloc hb4.size (.cells #[.int .i64 R.1, .slice p4 R.2.len c4] 27)
  have ST4 := Lib.hid (ST3.out.more hbb4)
  obtain ⟨y0, y1, y2, y3, y4⟩ := ((ST3.out.more hb4)).facts
  have hz4 : w4.heap.size < (w4.alloc (.cells #[.int .i64 R.1, .slice p4 R.2.len c4] 27)).heap.size := by simp
  clear hb4 hbb4 hw4 ST3 z0 z1 z2 z3 z4
  go_wp2_with fail
  refine (C4'.out _ ST4.out.1).mono ?_
  rintro e w5 ⟨r5, rfl, ⟨v5, rfl, hw5, hk5⟩, hb5⟩
  have HK5 := Lib.hid (hk5.below (below_alx2 (.cells #[.int .i64 R.1, v5] 27)))
  obtain ⟨p5, c5, rfl, _, _, _⟩ := hk5
  have hbb5 := hb5.alloc hb5.size (.cells #[.int .i64 R.1, .slice p5 R.2.len c5] 27)
  have ST5 := Lib.hid (ST4.out.more hbb5)
  have HK4 := Lib.hid (HK4.out.below hbb5)
  have hB4 := HB4.out.below hbb5 hz4
  have hB5 := Blk.new w5 27 #[.int .i64 R.1, .slice p5 R.2.len c5]
  have a0 : (w5.alloc (.cells #[.int .i64 R.1, .slice p5 R.2.len c5] 27)).cell? ⟨w4.heap.size, 0, none⟩ = some (.int .i64 R.1) := by rw [hB4.cell]; rfl
  have a1 : (w5.alloc (.cells #[.int .i64 R.1, .slice p5 R.2.len c5] 27)).cell? ⟨w4.heap.size, 1, none⟩ = some (.slice p4 R.2.len c4) := by rw [hB4.cell]; rfl
  have a2 : (w5.alloc (.cells #[.int .i64 R.1, .slice p5 R.2.len c5] 27)).cell? ⟨w5.heap.size, 0, none⟩ = some (.int .i64 R.1) := by rw [hB5.cell]; rfl
  have a3 : (w5.alloc (.cells #[.int .i64 R.1, .slice p5 R.2.len c5] 27)).cell? ⟨w5.heap.size, 1, none⟩ = some (.slice p5 R.2.len c5) := by rw [hB5.cell]; rfl
  have a4 := hB4.lt
  have a5 := hB5.lt
  have HSM := Lib.hid (same_eq R (.agg #[.int .i64 R.1, .slice p4 R.2.len c4]) (.agg #[.int .i64 R.1, .slice p5 R.2.len c5]) _ ⟨_, rfl, HW4.out, HK4.out⟩ ⟨_, rfl, HW4.out, HK5.out⟩)
  obtain ⟨x0, x1, x2, x3, x4⟩ := ((ST4.out.more hb5)).facts
  have a4' : w4.heap.size < w5.heap.size := by simpa using (Nat.lt_of_lt_of_le hz4 hb5.size)
  have b0 : w5.cell? ⟨w4.heap.size, 0, none⟩ = some (.int .i64 R.1) := cell_later hb5 (by rw [HB4.out.cell]; rfl)
  have b1 : w5.cell? ⟨w4.heap.size, 1, none⟩ = some (.slice p4 R.2.len c4) := cell_later hb5 (by rw [HB4.out.cell]; rfl)
  clear hb5 hbb5 hw5 ST4 y0 y1 y2 y3 y4 hz4 hB4 hB5
  generalize paE al names t = EP at *
  obtain ⟨pe, hpe⟩ : ∃ pe, pe = ptE al names lt T := ⟨_, rfl⟩
  rw [← hpe]
  have HPE := Lib.hid hpe
  clear hpe
  go_wp2_with fail
  refine HSM.out.mono ?_
  rintro e w6 ⟨rfl, hb6⟩
  have ST6 := Lib.hid (ST5.out.more hb6)
  obtain ⟨y0, y1, y2, y3, y4⟩ := ST6.out.facts
  clear hb6 HSM a0 a1 a2 a3 a4 a5 x0 x1 x2 x3 x4 ST5 a4' b0 b1
  have AW := Lib.hid (fun W (hW : Below w.heap.size w W) => HAW.out W hW)
  by_cases hp0 : pe = 0
  · by_cases h16 : s2.size ≤ 16384
    · subst hp0
      obtain ⟨e1, e2⟩ := pa_back HPE.out.symm HS1.out h16
      have CB := C3.out s2 w6 ST6.out.1 (by omega)
      rw [e1, e2] at CB
      have CB := Lib.hid CB
      have h16d : decide ((s2.size : Int) ≤ 16384) = true := decide_eq_true (by omega)
      have h16i : (s2.size : Int) ≤ 16384 := by omega
      clear e1 e2 h16
      go_wp2_with fail
      refine CB.out.mono ?_
      rintro e w7 ⟨r7, rfl, ⟨v7, rfl, hw7, hk7⟩, hb7⟩
      simp only at hw7
      have HK7 := Lib.hid (hk7.below (below_alx2 (.cells #[.int .i64 lt, v7] 27)))
      obtain ⟨p7, c7, rfl, _, _, _⟩ := hk7
      have ST7 := Lib.hid ((ST6.out.more hb7).alloc (.cells #[.int .i64 lt, .slice p7 T.len c7] 27))
      have hB7 := Blk.new w7 27 #[.int .i64 lt, .slice p7 T.len c7]
      have a0 : (w7.alloc (.cells #[.int .i64 lt, .slice p7 T.len c7] 27)).cell? ⟨w7.heap.size, 0, none⟩ = some (.int .i64 lt) := by rw [hB7.cell]; rfl
      have a1 : (w7.alloc (.cells #[.int .i64 lt, .slice p7 T.len c7] 27)).cell? ⟨w7.heap.size, 1, none⟩ = some (.slice p7 T.len c7) := by rw [hB7.cell]; rfl
      have a4 := hB7.lt
      obtain ⟨z0, z1, z2, z3, z4⟩ := ((ST6.out.more hb7)).facts
      obtain ⟨x0, x1, x2, x3, x4⟩ := ST7.out.facts
      have HSN := Lib.hid (same_eq (lt, T) (.agg #[.int .i64 lt, .slice p7 T.len c7]) (.agg #[.int .i64 lt, .slice pt T.len ct]) _ ⟨_, rfl, hw7, HK7.out⟩ ⟨_, rfl, hw7, HT.out.below ST7.out.1⟩)
      clear hb7 hw7 hB7 CB ST6 y0 y1 y2 y3 y4
      go_wp2_with fail
      refine HSN.out.mono ?_
      rintro e w8 ⟨rfl, hb8⟩
      have ST8 := Lib.hid (ST7.out.more hb8)
      clear hb8 HSN ST7 a0 a1 a4 z0 z1 z2 z3 z4 x0 x1 x2 x3 x4
      go_wp2_with fail
      refine (AW.out _ ST8.out.1).mono ?_
      rintro e w9 ⟨rfl, hb9⟩
      have HB9 := Lib.hid hb9
      clear hb9
      go_wp2_with fail
      go_ret
      exact ⟨rfl, (ST8.out.more HB9.out).1⟩
    · subst hp0
      have h16d : decide ((s2.size : Int) ≤ 16384) = false := decide_eq_false (by omega)
      have h16i : ¬ (s2.size : Int) ≤ 16384 := by omega
      clear h16
      go_wp2_with fail
      refine (AW.out _ ST6.out.1).mono ?_
      rintro e w9 ⟨rfl, hb9⟩
      have HB9 := Lib.hid hb9
      clear hb9
      go_wp2_with fail
      go_ret
      exact ⟨rfl, (ST6.out.more HB9.out).1⟩
  · have hpb : (pe == 0) = false := by simpa using hp0
    have hpd : decide (pe = 0) = false := decide_eq_false hp0
    go_wp2_with fail
    refine (AW.out _ ST6.out.1).mono ?_
    rintro e w9 ⟨rfl, hb9⟩
    have HB9 := Lib.hid hb9
    clear hb9
    go_wp2_with fail
    go_ret
    exact ⟨rfl, (ST6.out.more HB9.out).1⟩

end Go.Proofs.YtkgoealanboolaaDoor

