/- math/bits.TrailingZeros64, bitset.List. -/
import Derived.Test.YtopineheelkcmaaDoorBLm
import Derived.Test.YtopineheelkcmaaDoorIns
import Derived.Test.YtopineheelkcmaaDoorTab
namespace Go.Proofs.YtopineheelkcmaaDoor
open Go.RowKit Go.Shelf

set_option maxRecDepth 100000 in
set_option maxHeartbeats 1000000 in
theorem tz_core (x k idx : Nat) (w : World) (hx0 : ((x : Int) == 0) = false)
    (key : IntKind.u64.wrap (bits BinOp.and IntKind.u64 (x : Int) (IntKind.u64.wrap (-(x : Int))) * 285870213051353865) / 288230376151711744 = (idx : Int))
    (hi : idx < 64) (hk : k < 64) (hcell : w.cell? ⟨1, idx, none⟩ = some (.int .u8 k)) :
    Calls Tryd.prog 95 #[.int .u64 x] w fun e w' => e = .returned (.int .i64 k) ∧ w = w' := by
  have hb := World.block_lt_of_cell? _ _ hcell
  simp only at hb
  go_enter Tryd.func95, Tryd.ntmps95
  go_wp2_with (simp only [key])
  go_ret
  exact ⟨rfl, rfl⟩
theorem tz_ok (x : Nat) (hx : x < 18446744073709551616) (hx0 : x ≠ 0) (w : World) (hT : TabAt 1 Lib.deBruijn64tab w) :
    Calls Tryd.prog 95 #[.int .u64 x] w fun e w' => e = .returned (.int .i64 (Lib.ctz 64 x : Nat)) ∧ w = w' := by
  obtain ⟨hlow, hk⟩ := Lib.lowest_bit 64 x hx0 hx
  obtain ⟨hi, htab⟩ := Lib.deBruijn64_at _ hk
  have hcell := hT _ hi
  rw [htab] at hcell
  exact tz_core x _ _ w (by simp; omega) (tz64_key x _ hx hx0 hlow) hi hk hcell

theorem own_slice' {w : World} {B : Nat} {e : TypeId} {size n : Nat} {v : Value} {xs : List Value} (h : w.ownsRow B e size v n xs) : ∃ a m c, v = .slice a m c := by
  rcases h.2 with ⟨e2, _⟩ | ⟨g, cap, cur, e2, _⟩
  · exact ⟨_, _, _, e2⟩
  · exact ⟨_, _, _, e2⟩

set_option maxRecDepth 100000 in
set_option maxHeartbeats 2000000 in
theorem list_ok (w : World) (b o : Nat) (W : Nat → Nat) (h : SetAt w b o W) (hW : W64 W) (hT : TabAt 1 Lib.deBruijn64tab w) :
    Calls Tryd.prog 64 #[.pointer (some ⟨b, o, none⟩)] w fun e w' => (∃ u, e = .returned u ∧ IsInts w' u (listI W 5)) ∧ Below w.heap.size w w' := by
  obtain ⟨i0, hi, hz0, hz1, hz2⟩ := info_parts Tryd.infoInt
  have HI := Lib.hid hi
  have HS := Lib.hid h
  have HW := Lib.hid hW
  have HT := Lib.hid hT
  have hbl := World.block_lt_of_cell? _ _ (h 0 (by omega))
  simp only at hbl
  clear h hW hT hi
  go_enter Tryd.func64, Tryd.ntmps64
  go_wp2_with fail
  go_loopw [3, 7] (fun lv iv wr => ∃ (i : Nat), iv = .int .i64 (i : Nat) ∧ i ≤ 5 ∧ Hid (wr.ownsRow w.heap.size 3 1 lv (listI W i).length ((listI W i).map (Value.int .i64))) ∧ Hid ((listI W i).length ≤ 64 * i) ∧ Hid (Below w.heap.size w wr)) (fun _ iv _ => 5 - (intOf iv).toNat)
  case atStart => exact ⟨0, rfl, by omega, Lib.hid (World.ownsRow_nil _ _ _ _), Lib.hid (Nat.le_refl _), Lib.hid (Below.refl _ _)⟩
  case round =>
    rename World => wr
    obtain ⟨i, rfl, hi5, HO, HL, HB⟩ := hrel
    by_cases hlt : i < 5
    · have c0 := cell_later HB.out (HS.out i hlt)
      have hbw := World.block_lt_of_cell? _ _ c0
      simp only at hbw
      have hi5i : (i : Int) < 5 := by omega
      clear hi5
      go_wp2_with fail
      go_quiet (fail)
      go_wp2_with fail
      have HBQ : Hid (Below w.heap.size w (wr.drewN nq)) := Lib.hid (below_drewN HB.out nq)
      have HOQ : Hid ((wr.drewN nq).ownsRow w.heap.size 3 1 u3 (listI W i).length ((listI W i).map (Value.int .i64))) := Lib.hid (ownsRow_kp HO.out ((Kp.refl (fun _ => True) wr).drewN nq) (fun _ _ => trivial))
      have HWI := Lib.hid (HW.out i)
      clear c0 hbw HO HB
      go_loopw [3, 5] (fun lv yv wj => ∃ (cur : List Int) (y : Nat), yv = .int .u64 (y : Nat) ∧ Hid (y < 18446744073709551616) ∧ Hid (listI W i ++ bitsI i (W i) = cur ++ bitsI i y) ∧ Hid (wj.ownsRow w.heap.size 3 1 lv cur.length (cur.map (Value.int .i64))) ∧ Hid (Below w.heap.size w wj)) (fun _ yv _ => (intOf yv).toNat)
      case atStart => exact ⟨listI W i, W i, rfl, HWI, Lib.hid rfl, HOQ, HBQ⟩
      case round =>
        rename World => wj
        obtain ⟨cur, y, rfl, HY, HE, HOj, HBj⟩ := hrel
        by_cases h0 : y = 0
        · subst h0
          have HFIN : Hid (cur = listI W (i + 1)) := Lib.hid (by have := HE.out; rw [bitsI_zero, List.append_nil] at this; rw [listI]; exact this.symm)
          have HLEN : Hid ((listI W (i + 1)).length ≤ 64 * (i + 1)) := Lib.hid (by
            rw [listI, List.length_append]
            have h1 : (bitsI i (W i)).length ≤ 64 := by unfold bitsI; rw [List.length_map]; exact Nat.le_trans (List.length_filter_le _ _) (by simp)
            have := HL.out
            omega)
          rw [HFIN.out] at HOj
          go_wp2_with fail
          refine ⟨⟨i + 1, by go_num, by omega, HOj, HLEN, HBj⟩, ?_⟩
          simp [intOf]; omega
        · have h0i : ((y : Int) != 0) = true := by simp; omega
          have h0n : (y != 0) = true := by simpa using h0
          have h0p : ¬ (y : Int) = 0 := by omega
          have HTZ := Lib.hid (tz_ok y HY.out h0 wj (fun j hj => cell_later HBj.out (HT.out j hj)))
          have HCK := Lib.hid (low_bit h0 HY.out).2.1
          have HST := Lib.hid (bitsI_step (i := i) h0 HY.out)
          have hck : Lib.ctz 64 y < 64 := HCK.out
          have HSUB : Hid (IntKind.u64.wrap ((y : Int) - 1) = ((y - 1 : Nat) : Int)) := Lib.hid (by rw [IntKind.wrap_u64]; have := HY.out; omega)
          generalize Lib.ctz 64 y = t at HTZ HCK HST hck
          have HCL : Hid (cur.length ≤ 64 * i + 64) := Lib.hid (by
            have h1 : (bitsI i (W i)).length ≤ 64 := by unfold bitsI; rw [List.length_map]; exact Nat.le_trans (List.length_filter_le _ _) (by simp)
            have h2 := congrArg List.length HE.out
            rw [List.length_append, List.length_append] at h2
            have := HL.out
            omega)
          have HAND : Hid (bits .and .u64 (y : Int) ((y - 1 : Nat) : Int) = ((y &&& (y - 1) : Nat) : Int)) := Lib.hid (bits_and_u64_nat y (y - 1) HY.out (by have := HY.out; omega))
          have HY2 : Hid (y &&& (y - 1) < 18446744073709551616) := Lib.hid (Nat.lt_of_le_of_lt Nat.and_le_left HY.out)
          have HMS : Hid (y &&& (y - 1) < y) := Lib.hid (Nat.lt_of_le_of_lt Nat.and_le_right (by omega))
          have hcl := HCL.out
          go_wp2_with fail
          refine HTZ.out.mono ?_
          rintro e w9 ⟨rfl, rfl⟩
          have hbs := HBj.out.size
          have HO9 := Lib.hid (ownsRow_kp HOj.out ((Kp.refl (fun _ => True) wj).alloc (.cells #[.int .i64 (64 * (i : Int) + (t : Int))] 3)) (fun _ _ => trivial))
          have HN9 := Lib.hid (Blk.new wj 3 #[.int .i64 (64 * (i : Int) + (t : Int))])
          have HAL : Hid (Below w.heap.size w (wj.alloc (.cells #[.int .i64 (64 * (i : Int) + (t : Int))] 3))) := Lib.hid (HBj.out.alloc hbs _)
          go_wp2_with (at_builtin; refine wpList_append_own_at _ rfl (.tmp 15) (.tmp 21) 22 rfl w.heap.size 3 i0 _ 1 8 Tryd.underlying22 HI.out hz0 hz1 hz2 rfl (by decide) u3 cur.length (cur.map (Value.int .i64)) rfl HO9.out ⟨wj.heap.size, 0, none⟩ 1 1 [.int .i64 (64 * (i : Int) + (t : Int))] rfl rfl ?c1 ?c2 ?c3 ?c4 ?c5 ?_)
          case c1 => exact new_one HN9.out
          case c2 =>
            intro x hx
            rw [List.mem_singleton] at hx; subst hx; rfl
          case c3 => simp only [maxLen]; omega
          case c4 => omega
          case c5 => simp; omega
          intro v' w4 hown hgr _ _
          have HB4 : Hid (Below w.heap.size w w4) := Lib.hid (bgo HAL.out hgr HAL.out.size HO9.out)
          have HO4 : Hid (w4.ownsRow w.heap.size 3 1 v' (cur ++ [((64 * i + t : Nat) : Int)]).length ((cur ++ [((64 * i + t : Nat) : Int)]).map (Value.int .i64))) := Lib.hid (by simpa using hown)
          obtain ⟨a4, m4, k4, rfl⟩ := own_slice' hown
          clear hown hgr
          have hsub := HSUB.out
          have hand := HAND.out
          go_wp2_with fail
          refine ⟨⟨cur ++ [((64 * i + t : Nat) : Int)], y &&& (y - 1), rfl, HY2, Lib.hid (by rw [HE.out, HST.out, List.append_assoc]; rfl), HO4, HB4⟩, ?_⟩
          have := HMS.out
          simpa [intOf] using this
    · have h5 : i = 5 := by omega
      subst h5
      clear hlt hi5
      go_wp2_with fail
      go_ret
      exact ⟨⟨_, rfl, (isIntsS_of_own HO.out).isInts⟩, HB.out⟩

end Go.Proofs.YtopineheelkcmaaDoor
