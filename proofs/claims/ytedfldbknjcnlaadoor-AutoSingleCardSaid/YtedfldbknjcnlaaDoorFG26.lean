/- math/bits.TrailingZeros64, bitset.List. auto.States, auto.Accepts. -/
import Derived.Test.YtedfldbknjcnlaaDoorFG7
import Derived.Test.YtedfldbknjcnlaaDoorIns
import Derived.Test.YtedfldbknjcnlaaDoorTab
import Derived.Test.YtedfldbknjcnlaaDoorFG10
import Derived.Test.YtedfldbknjcnlaaDoorFG3
import Derived.Test.YtedfldbknjcnlaaDoorFG8
namespace Go.Proofs.YtedfldbknjcnlaaDoor
section
open Go.RowKit Go.Shelf

set_option maxRecDepth 100000 in
set_option maxHeartbeats 1000000 in
theorem tz_core (x k idx : Nat) (w : World) (hx0 : ((x : Int) == 0) = false)
    (key : IntKind.u64.wrap (bits BinOp.and IntKind.u64 (x : Int) (IntKind.u64.wrap (-(x : Int))) * 285870213051353865) / 288230376151711744 = (idx : Int))
    (hi : idx < 64) (hk : k < 64) (hcell : w.cell? ⟨1, idx, none⟩ = some (.int .u8 k)) :
    Calls Tryd.prog 95 #[.int .u64 x] w fun e w' => e = .returned (.int .i64 k) ∧ w = w' := by
  have hb := World.block_lt_of_cell? _ _ hcell
  simp only at hb
  go_enter Tryd.func95, Tryd.ntmps95
  go_wp2_with (simp only [key])
  go_ret
  exact ⟨rfl, rfl⟩
theorem tz_ok (x : Nat) (hx : x < 18446744073709551616) (hx0 : x ≠ 0) (w : World) (hT : TabAt 1 Lib.deBruijn64tab w) :
    Calls Tryd.prog 95 #[.int .u64 x] w fun e w' => e = .returned (.int .i64 (Lib.ctz 64 x : Nat)) ∧ w = w' := by
  obtain ⟨hlow, hk⟩ := Lib.lowest_bit 64 x hx0 hx
  obtain ⟨hi, htab⟩ := Lib.deBruijn64_at _ hk
  have hcell := hT _ hi
  rw [htab] at hcell
  exact tz_core x _ _ w (by simp; omega) (tz64_key x _ hx hx0 hlow) hi hk hcell

theorem own_slice' {w : World} {B : Nat} {e : TypeId} {size n : Nat} {v : Value} {xs : List Value} (h : w.ownsRow B e size v n xs) : ∃ a m c, v = .slice a m c := by
  rcases h.2 with ⟨e2, _⟩ | ⟨g, cap, cur, e2, _⟩
  · exact ⟨_, _, _, e2⟩
  · exact ⟨_, _, _, e2⟩

set_option maxRecDepth 100000 in
set_option maxHeartbeats 2000000 in
theorem list_ok (w : World) (b o : Nat) (W : Nat → Nat) (h : SetAt w b o W) (hW : W64 W) (hT : TabAt 1 Lib.deBruijn64tab w) :
    Calls Tryd.prog 64 #[.pointer (some ⟨b, o, none⟩)] w fun e w' => (∃ u, e = .returned u ∧ IsInts w' u (listI W 5)) ∧ Below w.heap.size w w' := by
  obtain ⟨i0, hi, hz0, hz1, hz2⟩ := info_parts Tryd.infoInt
  have HI := Lib.hid hi
  have HS := Lib.hid h
  have HW := Lib.hid hW
  have HT := Lib.hid hT
  have hbl := World.block_lt_of_cell? _ _ (h 0 (by omega))
  simp only at hbl
  clear h hW hT hi
  go_enter Tryd.func64, Tryd.ntmps64
  go_wp2_with fail
  go_loopw [3, 7] (fun lv iv wr => ∃ (i : Nat), iv = .int .i64 (i : Nat) ∧ i ≤ 5 ∧ Hid (wr.ownsRow w.heap.size 3 1 lv (listI W i).length ((listI W i).map (Value.int .i64))) ∧ Hid ((listI W i).length ≤ 64 * i) ∧ Hid (Below w.heap.size w wr)) (fun _ iv _ => 5 - (intOf iv).toNat)
  case atStart => exact ⟨0, rfl, by omega, Lib.hid (World.ownsRow_nil _ _ _ _), Lib.hid (Nat.le_refl _), Lib.hid (Below.refl _ _)⟩
  case round =>
    rename World => wr
    obtain ⟨i, rfl, hi5, HO, HL, HB⟩ := hrel
    by_cases hlt : i < 5
    · have c0 := cell_later HB.out (HS.out i hlt)
      have hbw := World.block_lt_of_cell? _ _ c0
      simp only at hbw
      have hi5i : (i : Int) < 5 := by omega
      clear hi5
      go_wp2_with fail
      go_quiet (fail)
      go_wp2_with fail
      have HBQ : Hid (Below w.heap.size w (wr.drewN nq)) := Lib.hid (below_drewN HB.out nq)
      have HOQ : Hid ((wr.drewN nq).ownsRow w.heap.size 3 1 u3 (listI W i).length ((listI W i).map (Value.int .i64))) := Lib.hid (ownsRow_kp HO.out ((Kp.refl (fun _ => True) wr).drewN nq) (fun _ _ => trivial))
      have HWI := Lib.hid (HW.out i)
      clear c0 hbw HO HB
      go_loopw [3, 5] (fun lv yv wj => ∃ (cur : List Int) (y : Nat), yv = .int .u64 (y : Nat) ∧ Hid (y < 18446744073709551616) ∧ Hid (listI W i ++ bitsI i (W i) = cur ++ bitsI i y) ∧ Hid (wj.ownsRow w.heap.size 3 1 lv cur.length (cur.map (Value.int .i64))) ∧ Hid (Below w.heap.size w wj)) (fun _ yv _ => (intOf yv).toNat)
      case atStart => exact ⟨listI W i, W i, rfl, HWI, Lib.hid rfl, HOQ, HBQ⟩
      case round =>
        rename World => wj
        obtain ⟨cur, y, rfl, HY, HE, HOj, HBj⟩ := hrel
        by_cases h0 : y = 0
        · subst h0
          have HFIN : Hid (cur = listI W (i + 1)) := Lib.hid (by have := HE.out; rw [bitsI_zero, List.append_nil] at this; rw [listI]; exact this.symm)
          have HLEN : Hid ((listI W (i + 1)).length ≤ 64 * (i + 1)) := Lib.hid (by
            rw [listI, List.length_append]
            have h1 : (bitsI i (W i)).length ≤ 64 := by unfold bitsI; rw [List.length_map]; exact Nat.le_trans (List.length_filter_le _ _) (by simp)
            have := HL.out
            omega)
          rw [HFIN.out] at HOj
          go_wp2_with fail
          refine ⟨⟨i + 1, by go_num, by omega, HOj, HLEN, HBj⟩, ?_⟩
          simp [intOf]; omega
        · have h0i : ((y : Int) != 0) = true := by simp; omega
          have h0n : (y != 0) = true := by simpa using h0
          have h0p : ¬ (y : Int) = 0 := by omega
          have HTZ := Lib.hid (tz_ok y HY.out h0 wj (fun j hj => cell_later HBj.out (HT.out j hj)))
          have HCK := Lib.hid (low_bit h0 HY.out).2.1
          have HST := Lib.hid (bitsI_step (i := i) h0 HY.out)
          have hck : Lib.ctz 64 y < 64 := HCK.out
          have HSUB : Hid (IntKind.u64.wrap ((y : Int) - 1) = ((y - 1 : Nat) : Int)) := Lib.hid (by rw [IntKind.wrap_u64]; have := HY.out; omega)
          generalize Lib.ctz 64 y = t at HTZ HCK HST hck
          have HCL : Hid (cur.length ≤ 64 * i + 64) := Lib.hid (by
            have h1 : (bitsI i (W i)).length ≤ 64 := by unfold bitsI; rw [List.length_map]; exact Nat.le_trans (List.length_filter_le _ _) (by simp)
            have h2 := congrArg List.length HE.out
            rw [List.length_append, List.length_append] at h2
            have := HL.out
            omega)
          have HAND : Hid (bits .and .u64 (y : Int) ((y - 1 : Nat) : Int) = ((y &&& (y - 1) : Nat) : Int)) := Lib.hid (bits_and_u64_nat y (y - 1) HY.out (by have := HY.out; omega))
          have HY2 : Hid (y &&& (y - 1) < 18446744073709551616) := Lib.hid (Nat.lt_of_le_of_lt Nat.and_le_left HY.out)
          have HMS : Hid (y &&& (y - 1) < y) := Lib.hid (Nat.lt_of_le_of_lt Nat.and_le_right (by omega))
          have hcl := HCL.out
          go_wp2_with fail
          refine HTZ.out.mono ?_
          rintro e w9 ⟨rfl, rfl⟩
          have hbs := HBj.out.size
          have HO9 := Lib.hid (ownsRow_kp HOj.out ((Kp.refl (fun _ => True) wj).alloc (.cells #[.int .i64 (64 * (i : Int) + (t : Int))] 3)) (fun _ _ => trivial))
          have HN9 := Lib.hid (Blk.new wj 3 #[.int .i64 (64 * (i : Int) + (t : Int))])
          have HAL : Hid (Below w.heap.size w (wj.alloc (.cells #[.int .i64 (64 * (i : Int) + (t : Int))] 3))) := Lib.hid (HBj.out.alloc hbs _)
          go_wp2_with (at_builtin; refine wpList_append_own_at _ rfl (.tmp 15) (.tmp 21) 22 rfl w.heap.size 3 i0 _ 1 8 Tryd.underlying22 HI.out hz0 hz1 hz2 rfl (by decide) u3 cur.length (cur.map (Value.int .i64)) rfl HO9.out ⟨wj.heap.size, 0, none⟩ 1 1 [.int .i64 (64 * (i : Int) + (t : Int))] rfl rfl ?c1 ?c2 ?c3 ?c4 ?c5 ?_)
          case c1 => exact new_one HN9.out
          case c2 =>
            intro x hx
            rw [List.mem_singleton] at hx; subst hx; rfl
          case c3 => simp only [maxLen]; omega
          case c4 => omega
          case c5 => simp; omega
          intro v' w4 hown hgr _ _
          have HB4 : Hid (Below w.heap.size w w4) := Lib.hid (bgo HAL.out hgr HAL.out.size HO9.out)
          have HO4 : Hid (w4.ownsRow w.heap.size 3 1 v' (cur ++ [((64 * i + t : Nat) : Int)]).length ((cur ++ [((64 * i + t : Nat) : Int)]).map (Value.int .i64))) := Lib.hid (by simpa using hown)
          obtain ⟨a4, m4, k4, rfl⟩ := own_slice' hown
          clear hown hgr
          have hsub := HSUB.out
          have hand := HAND.out
          go_wp2_with fail
          refine ⟨⟨cur ++ [((64 * i + t : Nat) : Int)], y &&& (y - 1), rfl, HY2, Lib.hid (by rw [HE.out, HST.out, List.append_assoc]; rfl), HO4, HB4⟩, ?_⟩
          have := HMS.out
          simpa [intOf] using this
    · have h5 : i = 5 := by omega
      subst h5
      clear hlt hi5
      go_wp2_with fail
      go_ret
      exact ⟨⟨_, rfl, (isIntsS_of_own HO.out).isInts⟩, HB.out⟩
end

section
open Go.RowKit Go.Shelf

set_option maxRecDepth 100000 in
set_option maxHeartbeats 2000000 in
theorem accepts_ok (al : List Int) (A : Au) (l : Int) (K : Hg) (av v vk : Value) (w : World) (hsz : K.size ≤ 100000) (hwf : (Lit.int .i64 l).wf = true) (ha : IsInts w av al) (hA : IsAu w v A) (hK : IsH w vk K) :
    Calls Tryd.prog 27 #[.agg #[av], v, .agg #[.int .i64 l, vk]] w fun e w' => e = .returned (.tuple #[.bool (askB al A l K && hasB A l K), .int .i64 (askE al A l K)]) ∧ Below w.heap.size w w' := by
  have HA := Lib.hid hA
  have HAL := Lib.hid ha
  have HK := Lib.hid hK
  obtain ⟨fv, rv, rfl, hf, hr⟩ := hA
  have H3 := Lib.hid (three_boxes w #[av] #[.int .i64 A.st, fv, rv] #[.int .i64 l, vk] 24 27 43)
  obtain ⟨p1, c1, rfl, _⟩ := hf
  obtain ⟨p2, c2, rfl, _⟩ := hr
  obtain ⟨p, c, rfl, _⟩ := hK
  obtain ⟨pa, ca, rfl, _⟩ := ha
  have h0 := H3.out _ (Below.refl _ _)
  have HV := Lib.hid (valid_ok al A _ _ _ (HAL.out.below h0.2.2.2) (HA.out.below h0.2.2.2))
  clear h0
  go_enter Tryd.func27, Tryd.ntmps27
  go_wp2_with fail
  refine HV.out.mono ?_
  rintro e w1 ⟨rfl, hb1⟩
  have h1 := H3.out w1 hb1
  have HB1 := Lib.hid h1.2.2.2
  by_cases hva : validA al A = true
  · have x0 : w1.cell? ⟨w.heap.size, 0, none⟩ = some (.slice pa al.length ca) := by rw [h1.1.cell]; rfl
    have x1 : w1.cell? ⟨w.heap.size + 1 + 1, 0, none⟩ = some (.int .i64 l) := by rw [h1.2.2.1.cell]; rfl
    have x2 : w1.cell? ⟨w.heap.size + 1 + 1, 1, none⟩ = some (.slice p K.len c) := by rw [h1.2.2.1.cell]; rfl
    have s1 := h1.2.2.1.lt
    have s0 := h1.1.lt
    have HT := Lib.hid (tvalid_ok al _ l _ K w1 (HAL.out.below h1.2.2.2) hwf (HK.out.below h1.2.2.2) (by omega))
    have HVA := Lib.hid hva
    have HBX := Lib.hid hb1
    clear h1 hb1 hva
    rw [HVA.out]
    cases htv : tvalid al l K with
    | true =>
      have HTV := Lib.hid htv
      have HQ : Hid (askB al A l K = true) := Lib.hid (by unfold askB; rw [HVA.out, htv]; rfl)
      rw [htv] at HT
      clear htv
      go_wp2_with fail
      refine HT.out.mono ?_
      rintro e w2 ⟨rfl, hb2⟩
      have HB2 := Lib.hid (HBX.out.trans (hb2.mono HBX.out.size))
      clear hb2 x0 x1 x2 s1 s0
      obtain ⟨s, hs, hgood⟩ := good_of HQ.out
      subst hs
      have HGD := Lib.hid hgood
      go_wp2_with fail
      have HW2 : Hid (Below w.heap.size w w2) := Lib.hid (H3.out w2 HB2.out).2.2.2
      have HSS : Hid (∀ W : World, Below w2.heap.size w2 W → (fun W => W.cell? ⟨w.heap.size, 0, none⟩ = some (.slice pa al.length ca) ∧ W.cell? ⟨w.heap.size + 1, 0, none⟩ = some (.int .i64 A.st) ∧ W.cell? ⟨w.heap.size + 1, 1, none⟩ = some (.slice p1 A.fin.length c1) ∧ W.cell? ⟨w.heap.size + 1, 2, none⟩ = some (.slice p2 A.ru.length c2) ∧ W.cell? ⟨w.heap.size + 1 + 1, 0, none⟩ = some (.int .i64 (s : Int)) ∧ W.cell? ⟨w.heap.size + 1 + 1, 1, none⟩ = some (.slice p K.len c)) W) := Lib.hid (fun W hW => by
        have h := H3.out W (HB2.out.trans (hW.mono HB2.out.size))
        exact ⟨by rw [h.1.cell]; rfl, by rw [h.2.1.cell]; rfl, by rw [h.2.1.cell]; rfl, by rw [h.2.1.cell]; rfl, by rw [h.2.2.1.cell]; rfl, by rw [h.2.2.1.cell]; rfl⟩)
      have HLT3 : Hid (w.heap.size + 1 + 1 < w2.heap.size) := Lib.hid (H3.out w2 HB2.out).2.2.1.lt
      have hlt3 := HLT3.out
      have HD0 : Hid (Below w2.heap.size w2 w2.drew) := Lib.hid (Below.refl _ _).drew
      clear hlt3
      refine wp_region_held_drew (S := (fun W => W.cell? ⟨w.heap.size, 0, none⟩ = some (.slice pa al.length ca) ∧ W.cell? ⟨w.heap.size + 1, 0, none⟩ = some (.int .i64 A.st) ∧ W.cell? ⟨w.heap.size + 1, 1, none⟩ = some (.slice p1 A.fin.length c1) ∧ W.cell? ⟨w.heap.size + 1, 2, none⟩ = some (.slice p2 A.ru.length c2) ∧ W.cell? ⟨w.heap.size + 1 + 1, 0, none⟩ = some (.int .i64 (s : Int)) ∧ W.cell? ⟨w.heap.size + 1 + 1, 1, none⟩ = some (.slice p K.len c))) (by kernel_rfl) (by (try dsimp only); exact HSS.out _ HD0.out) (fun hHeld => ?_)
      refine wpAnyH_take (i := 0) (v := ?v_1) rfl (by kernel_rfl) (by kernel_rfl) (by kernel_rfl) (fun _ _ _ h => h) (Or.inl ⟨by rfl, ?y_1⟩) (by assumption) ?r_1
      case y_1 => (intro w hSw; (try dsimp only at hSw); go_simp); (try with_reducible rfl)
      (try simp only [Act.put, List.setIfInBounds_toArray, List.set_cons_zero, List.set_cons_succ])
      refine wpAnyH_take (i := 1) (v := ?v_2) rfl (by kernel_rfl) (by kernel_rfl) (by kernel_rfl) (fun _ _ _ h => h) (Or.inl ⟨by rfl, ?y_2⟩) (by assumption) ?r_2
      case y_2 => (intro w hSw; (try dsimp only at hSw); go_simp); (try with_reducible rfl)
      (try simp only [Act.put, List.setIfInBounds_toArray, List.set_cons_zero, List.set_cons_succ])
      refine wpAnyH_take (i := 3) (v := ?v_3) rfl (by kernel_rfl) (by kernel_rfl) (by kernel_rfl) (fun _ _ _ h => h) (Or.inl ⟨by rfl, ?y_3⟩) (by assumption) ?r_3
      case y_3 => (intro w hSw; (try dsimp only at hSw); go_simp); (try with_reducible rfl)
      (try simp only [Act.put, List.setIfInBounds_toArray, List.set_cons_zero, List.set_cons_succ])
      refine wpAnyH_ready (rs := [2, 5]) (by kernel_rfl) (by simp) ?_
      refine AllReadyH.cons rfl (fun KK hK => ?_) (AllReadyH.cons rfl (fun KK hK => ?_) AllReadyH.nil)
      · skip
        go_simp
        refine (newTable_ok al A _ _ _ (HAL.out.below (HW2.out.trans (HD0.out.mono HW2.out.size))) (HA.out.below (HW2.out.trans (HD0.out.mono HW2.out.size))) HGD.out.alen HGD.out.rlen HGD.out.rus).mono ?_
        rintro e w3 ⟨⟨T, G, M, GL, rows, f, rfl, ht, hm, hgl⟩, hb3⟩
        have HTB := Lib.hid ht
        have HMN := Lib.hid hm
        have HGLL : Hid (GL.length ≤ 20000) := Lib.hid (Nat.le_trans hgl HGD.out.rlen)
        have HE1 : Hid (Below w2.heap.size w2 w3) := Lib.hid (HD0.out.trans (hb3.mono HD0.out.size))
        clear ht hm hgl hb3
        (try go_wp2_with fail)
        refine hK.out _ _ (by (try dsimp only); exact HSS.out _ HE1.out) (fun hHeld => ?_)
        clear hK KK
        (try simp only [Act.put, List.setIfInBounds_toArray, List.set_cons_zero, List.set_cons_succ])
        refine wpAnyH_ready (rs := [4, 5]) (by kernel_rfl) (by simp) ?_
        refine AllReadyH.cons rfl (fun KK hK => ?_) (AllReadyH.cons rfl (fun KK hK => ?_) AllReadyH.nil)
        · skip
          go_simp
          refine (annotate_ok A HMN.out HGD.out.rus HGD.out.alen HGLL.out (K.size + 1) s K _ _ (Nat.lt_succ_self _) (by have := HGD.out.size; omega) (HTB.out) (HK.out.below (HW2.out.trans (HE1.out.mono HW2.out.size))) HGD.out.slt HGD.out.k3 HGD.out.oks HGD.out.fits HGD.out.okh).mono ?_
          rintro e w4 ⟨⟨Wn, pk, nk, ck, rfl, hw, hme⟩, hb4⟩
          unfold nodeV
          have HWN := Lib.hid hw
          have HME := Lib.hid hme
          have HE2 : Hid (Below w2.heap.size w2 w4) := Lib.hid (HE1.out.trans (hb4.mono HE1.out.size))
          clear hw hme hb4
          (try go_wp2_with fail)
          refine hK.out _ _ (by (try dsimp only); exact HSS.out _ HE2.out) (fun hHeld => ?_)
          clear hK KK
          (try simp only [Act.put, List.setIfInBounds_toArray, List.set_cons_zero, List.set_cons_succ])
          refine wpAnyH_ready (rs := [5]) (by kernel_rfl) (by simp) ?_
          refine AllReadyH.cons rfl (fun KK hK => ?_) AllReadyH.nil
          · skip
            have HE3 : Hid (Below w2.heap.size w2 (w4.alloc (.cells #[.int .i64 0, .int .u64 0, .int .u64 0, .int .u64 0, .int .u64 0, .int .u64 0, .slice none 0 0] 82))) := Lib.hid (HE2.out.alloc HE2.out.size _)
            have HZ0 := Lib.hid (Blk.new w4 82 #[.int .i64 0, .int .u64 0, .int .u64 0, .int .u64 0, .int .u64 0, .int .u64 0, .slice none 0 0])
            have HZB : Hid (w2.heap.size ≤ w4.heap.size) := Lib.hid (HE2.out.size)
            go_simp
            refine hK.out _ _ (by (try dsimp only); exact HSS.out _ HE3.out) (fun hHeld => ?_)
            clear hK KK
            (try simp only [Act.put, List.setIfInBounds_toArray, List.set_cons_zero, List.set_cons_succ])
            refine wpAnyH_ready (rs := [6]) (by kernel_rfl) (by simp) ?_
            refine AllReadyH.cons rfl (fun KK hK => ?_) AllReadyH.nil
            have z0 : (w4.alloc (.cells #[.int .i64 0, .int .u64 0, .int .u64 0, .int .u64 0, .int .u64 0, .int .u64 0, .slice none 0 0] 82)).cell? ⟨w4.heap.size, 0, none⟩ = some (.int .i64 0) := by rw [(HZ0.out).cell]; rfl
            have y0 : (w4.alloc (.cells #[.int .i64 0, .int .u64 0, .int .u64 0, .int .u64 0, .int .u64 0, .int .u64 0, .slice none 0 0] 82)).frozen? ⟨w4.heap.size, 0, none⟩ = false := (HZ0.out).frozen _
            have z1 : (w4.alloc (.cells #[.int .i64 0, .int .u64 0, .int .u64 0, .int .u64 0, .int .u64 0, .int .u64 0, .slice none 0 0] 82)).cell? ⟨w4.heap.size, 1, none⟩ = some (.int .u64 0) := by rw [(HZ0.out).cell]; rfl
            have y1 : (w4.alloc (.cells #[.int .i64 0, .int .u64 0, .int .u64 0, .int .u64 0, .int .u64 0, .int .u64 0, .slice none 0 0] 82)).frozen? ⟨w4.heap.size, 1, none⟩ = false := (HZ0.out).frozen _
            have z2 : (w4.alloc (.cells #[.int .i64 0, .int .u64 0, .int .u64 0, .int .u64 0, .int .u64 0, .int .u64 0, .slice none 0 0] 82)).cell? ⟨w4.heap.size, 2, none⟩ = some (.int .u64 0) := by rw [(HZ0.out).cell]; rfl
            have y2 : (w4.alloc (.cells #[.int .i64 0, .int .u64 0, .int .u64 0, .int .u64 0, .int .u64 0, .int .u64 0, .slice none 0 0] 82)).frozen? ⟨w4.heap.size, 2, none⟩ = false := (HZ0.out).frozen _
            have z3 : (w4.alloc (.cells #[.int .i64 0, .int .u64 0, .int .u64 0, .int .u64 0, .int .u64 0, .int .u64 0, .slice none 0 0] 82)).cell? ⟨w4.heap.size, 3, none⟩ = some (.int .u64 0) := by rw [(HZ0.out).cell]; rfl
            have y3 : (w4.alloc (.cells #[.int .i64 0, .int .u64 0, .int .u64 0, .int .u64 0, .int .u64 0, .int .u64 0, .slice none 0 0] 82)).frozen? ⟨w4.heap.size, 3, none⟩ = false := (HZ0.out).frozen _
            have z4 : (w4.alloc (.cells #[.int .i64 0, .int .u64 0, .int .u64 0, .int .u64 0, .int .u64 0, .int .u64 0, .slice none 0 0] 82)).cell? ⟨w4.heap.size, 4, none⟩ = some (.int .u64 0) := by rw [(HZ0.out).cell]; rfl
            have y4 : (w4.alloc (.cells #[.int .i64 0, .int .u64 0, .int .u64 0, .int .u64 0, .int .u64 0, .int .u64 0, .slice none 0 0] 82)).frozen? ⟨w4.heap.size, 4, none⟩ = false := (HZ0.out).frozen _
            have z5 : (w4.alloc (.cells #[.int .i64 0, .int .u64 0, .int .u64 0, .int .u64 0, .int .u64 0, .int .u64 0, .slice none 0 0] 82)).cell? ⟨w4.heap.size, 5, none⟩ = some (.int .u64 0) := by rw [(HZ0.out).cell]; rfl
            have y5 : (w4.alloc (.cells #[.int .i64 0, .int .u64 0, .int .u64 0, .int .u64 0, .int .u64 0, .int .u64 0, .slice none 0 0] 82)).frozen? ⟨w4.heap.size, 5, none⟩ = false := (HZ0.out).frozen _
            have z6 : (w4.alloc (.cells #[.int .i64 0, .int .u64 0, .int .u64 0, .int .u64 0, .int .u64 0, .int .u64 0, .slice none 0 0] 82)).cell? ⟨w4.heap.size, 6, none⟩ = some (.slice none 0 0) := by rw [(HZ0.out).cell]; rfl
            have y6 : (w4.alloc (.cells #[.int .i64 0, .int .u64 0, .int .u64 0, .int .u64 0, .int .u64 0, .int .u64 0, .slice none 0 0] 82)).frozen? ⟨w4.heap.size, 6, none⟩ = false := (HZ0.out).frozen _
            have hzl := (HZ0.out).lt
            have HN5 := Lib.hid (Blk.new w4 82 #[.int .i64 (s : Int), .int .u64 (Wn 0 : Nat), .int .u64 (Wn 1 : Nat), .int .u64 (Wn 2 : Nat), .int .u64 (Wn 3 : Nat), .int .u64 (Wn 4 : Nat), .slice pk nk ck])
            have HB5 : Hid (Below w2.heap.size w2 (w4.alloc (.cells #[.int .i64 (s : Int), .int .u64 (Wn 0 : Nat), .int .u64 (Wn 1 : Nat), .int .u64 (Wn 2 : Nat), .int .u64 (Wn 3 : Nat), .int .u64 (Wn 4 : Nat), .slice pk nk ck] 82))) := Lib.hid (HE2.out.alloc HE2.out.size _)
            go_simp
            (try go_wp2_with fail)
            refine hK.out _ _ (by (try dsimp only); exact HSS.out _ HB5.out) (fun hHeld => ?_)
            clear hK KK
            (try simp only [Act.put, List.setIfInBounds_toArray, List.set_cons_zero, List.set_cons_succ])
            clear hzl z0 y0 z1 y1 z2 y2 z3 y3 z4 y4 z5 y5 z6 y6
            refine wpAnyH_done (by kernel_rfl) ?_ _
            skip
            obtain ⟨-, a0, a1, a2, -, -⟩ := HSS.out _ HB5.out
            have nl := HN5.out.lt
            have al5 := Nat.lt_of_lt_of_le (Nat.lt_of_succ_lt HLT3.out) HB5.out.size
            have n0 := HN5.out.cell 0
            have n1 := HN5.out.cell 1
            have n2 := HN5.out.cell 2
            have n3 := HN5.out.cell 3
            have n4 := HN5.out.cell 4
            have n5 := HN5.out.cell 5
            have n6 := HN5.out.cell 6
            change _ = some (Value.int .i64 (s : Int)) at n0
            change _ = some (Value.int .u64 (Wn 0 : Nat)) at n1
            change _ = some (Value.int .u64 (Wn 1 : Nat)) at n2
            change _ = some (Value.int .u64 (Wn 2 : Nat)) at n3
            change _ = some (Value.int .u64 (Wn 3 : Nat)) at n4
            change _ = some (Value.int .u64 (Wn 4 : Nat)) at n5
            change _ = some (Value.slice pk nk ck) at n6
            obtain ⟨F, hF, hF2⟩ := HGD.out.fin
            have HACC := Lib.hid (accepted_ok A _ (s : Int) Wn pk nk ck F _ (HA.out.below (HW2.out.trans (HB5.out.mono HW2.out.size))) hF hF2 HWN.out)
            unfold nodeV at HACC
            have HEQ : Hid (decide (0 ≤ accI Wn F) = hasB A (s : Int) K) := Lib.hid (by unfold hasB stsL; rw [acc_eq HME.out (fun r hr => (HGD.out.rus r hr).to), hF])
            clear hF hF2
            generalize accI Wn F = z at HACC HEQ
            go_wp2_with fail
            refine HACC.out.mono ?_
            rintro e w6 ⟨rfl, hb6⟩
            have HB6 := Lib.hid ((HW2.out.trans (HB5.out.mono HW2.out.size)).trans (hb6.mono (HW2.out.trans (HB5.out.mono HW2.out.size)).size))
            clear hb6
            go_wp2_with fail
            go_ret2
            exact ⟨by unfold askE; rw [HQ.out, ← HEQ.out]; rfl, HB6.out⟩
        · skip
          have HE4 : Hid (Below w2.heap.size w2 (w3.alloc (.cells #[.int .i64 0, .int .u64 0, .int .u64 0, .int .u64 0, .int .u64 0, .int .u64 0, .slice none 0 0] 82))) := Lib.hid (HE1.out.alloc HE1.out.size _)
          have HZ0 := Lib.hid (Blk.new w3 82 #[.int .i64 0, .int .u64 0, .int .u64 0, .int .u64 0, .int .u64 0, .int .u64 0, .slice none 0 0])
          have HZB : Hid (w2.heap.size ≤ w3.heap.size) := Lib.hid (HE1.out.size)
          go_simp
          refine hK.out _ _ (by (try dsimp only); exact HSS.out _ HE4.out) (fun hHeld => ?_)
          clear hK KK
          (try simp only [Act.put, List.setIfInBounds_toArray, List.set_cons_zero, List.set_cons_succ])
          refine wpAnyH_ready (rs := [4]) (by kernel_rfl) (by simp) ?_
          refine AllReadyH.cons rfl (fun KK hK => ?_) AllReadyH.nil
          · skip
            go_simp
            refine (annotate_ok A HMN.out HGD.out.rus HGD.out.alen HGLL.out (K.size + 1) s K _ _ (Nat.lt_succ_self _) (by have := HGD.out.size; omega) (HTB.out.below ((Below.refl _ _).alloc (Nat.le_refl _) _)) (HK.out.below (HW2.out.trans (HE4.out.mono HW2.out.size))) HGD.out.slt HGD.out.k3 HGD.out.oks HGD.out.fits HGD.out.okh).mono ?_
            rintro e w4 ⟨⟨Wn, pk, nk, ck, rfl, hw, hme⟩, hb4⟩
            unfold nodeV
            have HWN := Lib.hid hw
            have HME := Lib.hid hme
            have HE5 : Hid (Below w2.heap.size w2 w4) := Lib.hid (HE4.out.trans (hb4.mono HE4.out.size))
            have HZ4 := Lib.hid ((HZ0.out).below hb4 (HZ0.out).lt)
            clear hw hme hb4
            (try go_wp2_with fail)
            refine hK.out _ _ (by (try dsimp only); exact HSS.out _ HE5.out) (fun hHeld => ?_)
            clear hK KK
            (try simp only [Act.put, List.setIfInBounds_toArray, List.set_cons_zero, List.set_cons_succ])
            refine wpAnyH_ready (rs := [6]) (by kernel_rfl) (by simp) ?_
            refine AllReadyH.cons rfl (fun KK hK => ?_) AllReadyH.nil
            have z0 : w4.cell? ⟨w3.heap.size, 0, none⟩ = some (.int .i64 0) := by rw [(HZ4.out).cell]; rfl
            have y0 : w4.frozen? ⟨w3.heap.size, 0, none⟩ = false := (HZ4.out).frozen _
            have z1 : w4.cell? ⟨w3.heap.size, 1, none⟩ = some (.int .u64 0) := by rw [(HZ4.out).cell]; rfl
            have y1 : w4.frozen? ⟨w3.heap.size, 1, none⟩ = false := (HZ4.out).frozen _
            have z2 : w4.cell? ⟨w3.heap.size, 2, none⟩ = some (.int .u64 0) := by rw [(HZ4.out).cell]; rfl
            have y2 : w4.frozen? ⟨w3.heap.size, 2, none⟩ = false := (HZ4.out).frozen _
            have z3 : w4.cell? ⟨w3.heap.size, 3, none⟩ = some (.int .u64 0) := by rw [(HZ4.out).cell]; rfl
            have y3 : w4.frozen? ⟨w3.heap.size, 3, none⟩ = false := (HZ4.out).frozen _
            have z4 : w4.cell? ⟨w3.heap.size, 4, none⟩ = some (.int .u64 0) := by rw [(HZ4.out).cell]; rfl
            have y4 : w4.frozen? ⟨w3.heap.size, 4, none⟩ = false := (HZ4.out).frozen _
            have z5 : w4.cell? ⟨w3.heap.size, 5, none⟩ = some (.int .u64 0) := by rw [(HZ4.out).cell]; rfl
            have y5 : w4.frozen? ⟨w3.heap.size, 5, none⟩ = false := (HZ4.out).frozen _
            have z6 : w4.cell? ⟨w3.heap.size, 6, none⟩ = some (.slice none 0 0) := by rw [(HZ4.out).cell]; rfl
            have y6 : w4.frozen? ⟨w3.heap.size, 6, none⟩ = false := (HZ4.out).frozen _
            have hzl := (HZ4.out).lt
            have hn5 := ((((((((HZ4.out).set_ 0 (.int .i64 (s : Int))).set_ 1 (.int .u64 (Wn 0 : Nat))).set_ 2 (.int .u64 (Wn 1 : Nat))).set_ 3 (.int .u64 (Wn 2 : Nat))).set_ 4 (.int .u64 (Wn 3 : Nat))).set_ 5 (.int .u64 (Wn 4 : Nat))).set_ 6 (.slice pk nk ck))
            simp only [List.setIfInBounds_toArray, List.set_cons_zero, List.set_cons_succ] at hn5
            have HN5 := Lib.hid hn5
            clear hn5
            have HB5 := Lib.hid (((((((HE5.out.setCell (p := ⟨w3.heap.size, 0, none⟩) HZB.out (.int .i64 (s : Int))).setCell (p := ⟨w3.heap.size, 1, none⟩) HZB.out (.int .u64 (Wn 0 : Nat))).setCell (p := ⟨w3.heap.size, 2, none⟩) HZB.out (.int .u64 (Wn 1 : Nat))).setCell (p := ⟨w3.heap.size, 3, none⟩) HZB.out (.int .u64 (Wn 2 : Nat))).setCell (p := ⟨w3.heap.size, 4, none⟩) HZB.out (.int .u64 (Wn 3 : Nat))).setCell (p := ⟨w3.heap.size, 5, none⟩) HZB.out (.int .u64 (Wn 4 : Nat))).setCell (p := ⟨w3.heap.size, 6, none⟩) HZB.out (.slice pk nk ck))
            go_simp
            (try go_wp2_with fail)
            refine hK.out _ _ (by (try dsimp only); exact HSS.out _ HB5.out) (fun hHeld => ?_)
            clear hK KK
            (try simp only [Act.put, List.setIfInBounds_toArray, List.set_cons_zero, List.set_cons_succ])
            clear hzl z0 y0 z1 y1 z2 y2 z3 y3 z4 y4 z5 y5 z6 y6
            refine wpAnyH_done (by kernel_rfl) ?_ _
            skip
            obtain ⟨-, a0, a1, a2, -, -⟩ := HSS.out _ HB5.out
            have nl := HN5.out.lt
            have al5 := Nat.lt_of_lt_of_le (Nat.lt_of_succ_lt HLT3.out) HB5.out.size
            have n0 := HN5.out.cell 0
            have n1 := HN5.out.cell 1
            have n2 := HN5.out.cell 2
            have n3 := HN5.out.cell 3
            have n4 := HN5.out.cell 4
            have n5 := HN5.out.cell 5
            have n6 := HN5.out.cell 6
            change _ = some (Value.int .i64 (s : Int)) at n0
            change _ = some (Value.int .u64 (Wn 0 : Nat)) at n1
            change _ = some (Value.int .u64 (Wn 1 : Nat)) at n2
            change _ = some (Value.int .u64 (Wn 2 : Nat)) at n3
            change _ = some (Value.int .u64 (Wn 3 : Nat)) at n4
            change _ = some (Value.int .u64 (Wn 4 : Nat)) at n5
            change _ = some (Value.slice pk nk ck) at n6
            obtain ⟨F, hF, hF2⟩ := HGD.out.fin
            have HACC := Lib.hid (accepted_ok A _ (s : Int) Wn pk nk ck F _ (HA.out.below (HW2.out.trans (HB5.out.mono HW2.out.size))) hF hF2 HWN.out)
            unfold nodeV at HACC
            have HEQ : Hid (decide (0 ≤ accI Wn F) = hasB A (s : Int) K) := Lib.hid (by unfold hasB stsL; rw [acc_eq HME.out (fun r hr => (HGD.out.rus r hr).to), hF])
            clear hF hF2
            generalize accI Wn F = z at HACC HEQ
            go_wp2_with fail
            refine HACC.out.mono ?_
            rintro e w6 ⟨rfl, hb6⟩
            have HB6 := Lib.hid ((HW2.out.trans (HB5.out.mono HW2.out.size)).trans (hb6.mono (HW2.out.trans (HB5.out.mono HW2.out.size)).size))
            clear hb6
            go_wp2_with fail
            go_ret2
            exact ⟨by unfold askE; rw [HQ.out, ← HEQ.out]; rfl, HB6.out⟩
      · skip
        have HE6 : Hid (Below w2.heap.size w2 (w2.alloc (.cells #[.int .i64 0, .int .u64 0, .int .u64 0, .int .u64 0, .int .u64 0, .int .u64 0, .slice none 0 0] 82)).drew) := Lib.hid ((Below.refl _ _).alloc (Nat.le_refl _) _).drew
        have HZ0 := Lib.hid ((Blk.new w2 82 #[.int .i64 0, .int .u64 0, .int .u64 0, .int .u64 0, .int .u64 0, .int .u64 0, .slice none 0 0]).drew)
        have HZB : Hid (w2.heap.size ≤ w2.heap.size) := Lib.hid (Nat.le_refl _)
        go_simp
        refine hK.out _ _ (by (try dsimp only); exact HSS.out _ HE6.out) (fun hHeld => ?_)
        clear hK KK
        (try simp only [Act.put, List.setIfInBounds_toArray, List.set_cons_zero, List.set_cons_succ])
        refine wpAnyH_ready (rs := [2]) (by kernel_rfl) (by simp) ?_
        refine AllReadyH.cons rfl (fun KK hK => ?_) AllReadyH.nil
        · skip
          go_simp
          refine (newTable_ok al A _ _ _ (HAL.out.below (HW2.out.trans (HE6.out.mono HW2.out.size))) (HA.out.below (HW2.out.trans (HE6.out.mono HW2.out.size))) HGD.out.alen HGD.out.rlen HGD.out.rus).mono ?_
          rintro e w3 ⟨⟨T, G, M, GL, rows, f, rfl, ht, hm, hgl⟩, hb3⟩
          have HTB := Lib.hid ht
          have HMN := Lib.hid hm
          have HGLL : Hid (GL.length ≤ 20000) := Lib.hid (Nat.le_trans hgl HGD.out.rlen)
          have HE7 : Hid (Below w2.heap.size w2 w3) := Lib.hid (HE6.out.trans (hb3.mono HE6.out.size))
          have HZ3 := Lib.hid ((HZ0.out).below hb3 (HZ0.out).lt)
          clear ht hm hgl hb3
          (try go_wp2_with fail)
          refine hK.out _ _ (by (try dsimp only); exact HSS.out _ HE7.out) (fun hHeld => ?_)
          clear hK KK
          (try simp only [Act.put, List.setIfInBounds_toArray, List.set_cons_zero, List.set_cons_succ])
          refine wpAnyH_ready (rs := [4]) (by kernel_rfl) (by simp) ?_
          refine AllReadyH.cons rfl (fun KK hK => ?_) AllReadyH.nil
          · skip
            go_simp
            refine (annotate_ok A HMN.out HGD.out.rus HGD.out.alen HGLL.out (K.size + 1) s K _ _ (Nat.lt_succ_self _) (by have := HGD.out.size; omega) (HTB.out) (HK.out.below (HW2.out.trans (HE7.out.mono HW2.out.size))) HGD.out.slt HGD.out.k3 HGD.out.oks HGD.out.fits HGD.out.okh).mono ?_
            rintro e w4 ⟨⟨Wn, pk, nk, ck, rfl, hw, hme⟩, hb4⟩
            unfold nodeV
            have HWN := Lib.hid hw
            have HME := Lib.hid hme
            have HE8 : Hid (Below w2.heap.size w2 w4) := Lib.hid (HE7.out.trans (hb4.mono HE7.out.size))
            have HZ4 := Lib.hid ((HZ3.out).below hb4 (HZ3.out).lt)
            clear hw hme hb4
            (try go_wp2_with fail)
            refine hK.out _ _ (by (try dsimp only); exact HSS.out _ HE8.out) (fun hHeld => ?_)
            clear hK KK
            (try simp only [Act.put, List.setIfInBounds_toArray, List.set_cons_zero, List.set_cons_succ])
            refine wpAnyH_ready (rs := [6]) (by kernel_rfl) (by simp) ?_
            refine AllReadyH.cons rfl (fun KK hK => ?_) AllReadyH.nil
            have z0 : w4.cell? ⟨w2.heap.size, 0, none⟩ = some (.int .i64 0) := by rw [(HZ4.out).cell]; rfl
            have y0 : w4.frozen? ⟨w2.heap.size, 0, none⟩ = false := (HZ4.out).frozen _
            have z1 : w4.cell? ⟨w2.heap.size, 1, none⟩ = some (.int .u64 0) := by rw [(HZ4.out).cell]; rfl
            have y1 : w4.frozen? ⟨w2.heap.size, 1, none⟩ = false := (HZ4.out).frozen _
            have z2 : w4.cell? ⟨w2.heap.size, 2, none⟩ = some (.int .u64 0) := by rw [(HZ4.out).cell]; rfl
            have y2 : w4.frozen? ⟨w2.heap.size, 2, none⟩ = false := (HZ4.out).frozen _
            have z3 : w4.cell? ⟨w2.heap.size, 3, none⟩ = some (.int .u64 0) := by rw [(HZ4.out).cell]; rfl
            have y3 : w4.frozen? ⟨w2.heap.size, 3, none⟩ = false := (HZ4.out).frozen _
            have z4 : w4.cell? ⟨w2.heap.size, 4, none⟩ = some (.int .u64 0) := by rw [(HZ4.out).cell]; rfl
            have y4 : w4.frozen? ⟨w2.heap.size, 4, none⟩ = false := (HZ4.out).frozen _
            have z5 : w4.cell? ⟨w2.heap.size, 5, none⟩ = some (.int .u64 0) := by rw [(HZ4.out).cell]; rfl
            have y5 : w4.frozen? ⟨w2.heap.size, 5, none⟩ = false := (HZ4.out).frozen _
            have z6 : w4.cell? ⟨w2.heap.size, 6, none⟩ = some (.slice none 0 0) := by rw [(HZ4.out).cell]; rfl
            have y6 : w4.frozen? ⟨w2.heap.size, 6, none⟩ = false := (HZ4.out).frozen _
            have hzl := (HZ4.out).lt
            have hn5 := ((((((((HZ4.out).set_ 0 (.int .i64 (s : Int))).set_ 1 (.int .u64 (Wn 0 : Nat))).set_ 2 (.int .u64 (Wn 1 : Nat))).set_ 3 (.int .u64 (Wn 2 : Nat))).set_ 4 (.int .u64 (Wn 3 : Nat))).set_ 5 (.int .u64 (Wn 4 : Nat))).set_ 6 (.slice pk nk ck))
            simp only [List.setIfInBounds_toArray, List.set_cons_zero, List.set_cons_succ] at hn5
            have HN5 := Lib.hid hn5
            clear hn5
            have HB5 := Lib.hid (((((((HE8.out.setCell (p := ⟨w2.heap.size, 0, none⟩) HZB.out (.int .i64 (s : Int))).setCell (p := ⟨w2.heap.size, 1, none⟩) HZB.out (.int .u64 (Wn 0 : Nat))).setCell (p := ⟨w2.heap.size, 2, none⟩) HZB.out (.int .u64 (Wn 1 : Nat))).setCell (p := ⟨w2.heap.size, 3, none⟩) HZB.out (.int .u64 (Wn 2 : Nat))).setCell (p := ⟨w2.heap.size, 4, none⟩) HZB.out (.int .u64 (Wn 3 : Nat))).setCell (p := ⟨w2.heap.size, 5, none⟩) HZB.out (.int .u64 (Wn 4 : Nat))).setCell (p := ⟨w2.heap.size, 6, none⟩) HZB.out (.slice pk nk ck))
            go_simp
            (try go_wp2_with fail)
            refine hK.out _ _ (by (try dsimp only); exact HSS.out _ HB5.out) (fun hHeld => ?_)
            clear hK KK
            (try simp only [Act.put, List.setIfInBounds_toArray, List.set_cons_zero, List.set_cons_succ])
            clear hzl z0 y0 z1 y1 z2 y2 z3 y3 z4 y4 z5 y5 z6 y6
            refine wpAnyH_done (by kernel_rfl) ?_ _
            skip
            obtain ⟨-, a0, a1, a2, -, -⟩ := HSS.out _ HB5.out
            have nl := HN5.out.lt
            have al5 := Nat.lt_of_lt_of_le (Nat.lt_of_succ_lt HLT3.out) HB5.out.size
            have n0 := HN5.out.cell 0
            have n1 := HN5.out.cell 1
            have n2 := HN5.out.cell 2
            have n3 := HN5.out.cell 3
            have n4 := HN5.out.cell 4
            have n5 := HN5.out.cell 5
            have n6 := HN5.out.cell 6
            change _ = some (Value.int .i64 (s : Int)) at n0
            change _ = some (Value.int .u64 (Wn 0 : Nat)) at n1
            change _ = some (Value.int .u64 (Wn 1 : Nat)) at n2
            change _ = some (Value.int .u64 (Wn 2 : Nat)) at n3
            change _ = some (Value.int .u64 (Wn 3 : Nat)) at n4
            change _ = some (Value.int .u64 (Wn 4 : Nat)) at n5
            change _ = some (Value.slice pk nk ck) at n6
            obtain ⟨F, hF, hF2⟩ := HGD.out.fin
            have HACC := Lib.hid (accepted_ok A _ (s : Int) Wn pk nk ck F _ (HA.out.below (HW2.out.trans (HB5.out.mono HW2.out.size))) hF hF2 HWN.out)
            unfold nodeV at HACC
            have HEQ : Hid (decide (0 ≤ accI Wn F) = hasB A (s : Int) K) := Lib.hid (by unfold hasB stsL; rw [acc_eq HME.out (fun r hr => (HGD.out.rus r hr).to), hF])
            clear hF hF2
            generalize accI Wn F = z at HACC HEQ
            go_wp2_with fail
            refine HACC.out.mono ?_
            rintro e w6 ⟨rfl, hb6⟩
            have HB6 := Lib.hid ((HW2.out.trans (HB5.out.mono HW2.out.size)).trans (hb6.mono (HW2.out.trans (HB5.out.mono HW2.out.size)).size))
            clear hb6
            go_wp2_with fail
            go_ret2
            exact ⟨by unfold askE; rw [HQ.out, ← HEQ.out]; rfl, HB6.out⟩
    | false =>
      have HTV := Lib.hid htv
      rw [htv] at HT
      clear htv
      go_wp2_with fail
      refine HT.out.mono ?_
      rintro e w2 ⟨rfl, hb2⟩
      have HB2 := Lib.hid (HB1.out.trans (hb2.mono HB1.out.size))
      clear hb2
      go_wp2_with fail
      go_ret2
      exact ⟨by unfold askE askB; rw [HVA.out, HTV.out]; rfl, HB2.out⟩
  · have hva' : validA al A = false := by simpa using hva
    have HVA := Lib.hid hva'
    clear h1 hb1 hva hva'
    rw [HVA.out]
    go_wp2_with fail
    go_ret2
    exact ⟨by unfold askE askB; rw [HVA.out]; rfl, HB1.out⟩
end

end Go.Proofs.YtedfldbknjcnlaaDoor
