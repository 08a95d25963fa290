/- The reference's maker: lists. -/
import Derived.Test.YthhliogcafmnfaaDoorTrees
import Derived.Test.YthhliogcafmnfaaDoorAllSize
namespace Go.Proofs.YthhliogcafmnfaaDoor
open Go.RowKit Go.Shelf

theorem ways_at (ranks : List Nat) (v : Value) (k n : Nat) (w : World) (x y : Int) (hx : x = (k : Int)) (hy : y = (n : Int)) (hv : IsInts w v (ranks.map (fun r : Nat => (r : Int)))) (hr : ∀ r ∈ ranks, r ≤ 3) (hlen : ranks.length ≤ 12) (hk : k ≤ 3) (hn : n ≤ 12) :
    Calls Tryd.prog 122 #[.agg #[v], .int .i64 x, .int .i64 y] w fun e w' => e = .returned (.int .i64 (c30 (Wn ranks k n) : Nat)) ∧ Below w.heap.size w w' := by
  subst hx; subst hy; exact ways_ok ranks v k n w hv hr hlen hk hn
theorem many_at (ranks : List Nat) (v : Value) (n : Nat) (w : World) (y : Int) (hy : y = (n : Int)) (hv : IsInts w v (ranks.map (fun r : Nat => (r : Int)))) (hr : ∀ r ∈ ranks, r ≤ 3) (hlen : ranks.length ≤ 12) (hn : n ≤ 12) :
    Calls Tryd.prog 78 #[.agg #[v], .int .i64 y] w fun e w' => e = .returned (.int .i64 (c30 (Wn ranks 1 n) : Nat)) ∧ Below w.heap.size w w' := by
  subst hy; exact many_ok ranks v n w hv hr hlen hn

set_option maxRecDepth 100000 in
set_option maxHeartbeats 2000000 in
theorem lists_zero (ranks : List Nat) (N0 : Nat) (p : Option Addr) (c M Bk n : Nat) : CL ranks N0 p c M Bk 0 n := by
  intro S w x y hx hy hN hS hmk
  subst hx; subst hy
  have HM := Lib.hid hmk
  have HSS := Lib.hid hS
  clear hmk hS
  by_cases hn : n = 0
  · subst hn
    go_enter Tryd.func123, Tryd.ntmps123
    go_wp2_with fail
    go_ret
    have ka : ∀ (T : Nat → Prop), Kp T w (w.alloc (.cells #[.slice none 0 0] 25)) := fun T => (Kp.refl T w).alloc _
    refine ⟨_, rfl, ?_, HM.out.move (ka (fun _ => True)) (fun _ _ => trivial) (fun c _ h => ⟨trivial, .inl h⟩), ka _⟩
    rw [LL_zero, if_pos rfl]
    refine ⟨some ⟨w.heap.size, 0, none⟩, 1, rfl, by simp, by decide, fun _ => ⟨w.heap.size, rfl, .inr (Nat.le_refl _), fun i x hx => ?_⟩⟩
    match i, hx with
    | 0, hx =>
      simp at hx; subst hx
      exact ⟨.slice none 0 0, by rw [(Blk.new w _ _).cell]; rfl, none, 0, rfl, Nat.le_refl _, by decide, fun h => absurd rfl h⟩
    | i + 1, hx => simp at hx
  · have h0 : ((n : Int) == 0) = false := by simp; omega
    have h1 : ¬ ((n : Int) = 0) := by omega
    have HNN := Lib.hid hn
    clear hn
    go_enter Tryd.func123, Tryd.ntmps123
    go_wp2_with fail
    go_ret
    refine ⟨_, rfl, ?_, HM.out.mono (fun c _ h => .inl h), Kp.refl _ _⟩
    rw [LL_zero, if_neg HNN.out]
    exact ⟨none, 0, rfl, Nat.le_refl _, by decide, fun h => absurd rfl h⟩

set_option maxRecDepth 100000 in
set_option maxHeartbeats 2000000 in
theorem lists_ok (ranks : List Nat) (N0 : Nat) (p : Option Addr) (c M Bk k n : Nat) (hr : ∀ r ∈ ranks, r ≤ 3) (hlen : ranks.length ≤ 12) (hk : k + 1 ≤ 3) (hn : n ≤ 12) (hbig : (LL ranks (k + 1) n).length ≤ 4096)
    (HL : ∀ i, i < n → (LL ranks k (n - (i + 1))).length ≤ 4096 → CL ranks N0 p c M Bk k (n - (i + 1))) (HT : ∀ i, i < n → (TT ranks (i + 1)).length ≤ 4096 → CT ranks N0 p c M Bk i) : CL ranks N0 p c M Bk (k + 1) n := by
  intro S w x y hx hy hN hS hmk
  have hx' : x = (k : Int) + 1 := by rw [hx]; simp
  clear hx
  subst hx'; subst hy
  have hnb : ∀ i, i < n → (LLp ranks k n i).length ≤ 4096 := fun i hi => by
    have := LLp_le ranks k n (show i ≤ n by omega)
    rw [LLp_all hr] at this; omega
  obtain ⟨i0, hi, hz0, hz1, hz2⟩ := info_parts Tryd.infoTrees
  have HM := Lib.hid hmk
  have HSS := Lib.hid hS
  have HLL := Lib.hid HL
  have HTT := Lib.hid HT
  have HR := Lib.hid hr
  have HI := Lib.hid hi
  have HNB := Lib.hid hnb
  have hk0 : ((k : Int) + 1 == 0) = false := by simp; omega
  have hk1 : ¬ ((k : Int) + 1 = 0) := by omega
  clear hmk hS HL HT hr hi hnb
  go_enter Tryd.func123, Tryd.ntmps123
  go_wp2_with fail
  clear hk0 hk1
  go_loopw [7, 8] (fun ov iv wi => ∃ (i : Nat) (D : List (Hg × Value)), iv = .int .i64 ((i : Nat) + 1) ∧ i ≤ n ∧ Hid (OL S w.heap.size (LLp ranks k n i) wi D ov) ∧ Hid (Mk ranks N0 p c M Bk (Gs S w.heap.size ov) wi) ∧ Hid (Kp (fun c => c ≠ Bk) w wi))
    (fun _ iv _ => n + 1 - (intOf iv).toNat)
  case atStart => exact ⟨0, [], by simp, by omega, Lib.hid ⟨rfl, World.ownsRow_nil _ _ _ _, fun x hx => by cases hx⟩, Lib.hid (HM.out.mono (fun c _ h => ⟨.inl h, by simp [Value.ownBlock]⟩)), Lib.hid (Kp.refl _ _)⟩
  case round =>
    rename World => wi
    obtain ⟨i, D, rfl, hin, HO, HMi, HK⟩ := hrel
    have hsz := HK.out.size
    have hBk := HM.out.lB
    by_cases hlt : i < n
    · have hdd : decide ((i : Int) + 1 ≤ (n : Int)) = true := decide_eq_true (by omega)
      have hle : (i : Int) + 1 ≤ (n : Int) := by omega
      have hBlk := HMi.out.blk
      have m0 : wi.cell? ⟨M, 0, none⟩ = some (.slice p ranks.length c) := by rw [hBlk.cell]; rfl
      have m2 := hBlk.lt
      have HA : Hid (IsInts wi (.slice p ranks.length c) (ranks.map (fun r : Nat => (r : Int)))) := Lib.hid HMi.out.al.isInts
      have HC := Lib.hid (many_at ranks _ (i + 1) wi ((i : Int) + 1) (by simp) HA.out HR.out hlen (by omega))
      clear hBlk
      have hGB : ∀ c, Gs S w.heap.size u7 c → c ≠ Bk := fun c h => h.1.elim (HSS.out c) (fun h => by omega)
      have hown : ∀ g, u7.ownBlock = some g → w.heap.size ≤ g ∧ g < wi.heap.size := fun g hg => HO.out.own.lt g hg
      have HGB := Lib.hid hGB
      have HOW := Lib.hid hown
      clear hGB hown
      by_cases hA : Wn ranks 1 (i + 1) = 0
      · have hT0 : TT ranks (i + 1) = [] := by
          rw [Wn, LL_one HR.out (i + 1) (by omega)] at hA; exact List.eq_nil_of_length_eq_zero hA
        have HP : Hid (LLp ranks k n (i + 1) = LLp ranks k n i) := Lib.hid (by rw [LLp_succ, hT0, conL_nil, List.append_nil])
        have hc0 : c30 (Wn ranks 1 (i + 1)) = 0 := by rw [hA]; rfl
        rw [hc0] at HC
        clear hc0 hA hT0
        go_wp2_with fail
        refine HC.out.mono ?_
        rintro e w1 ⟨rfl, hb⟩
        have kb : ∀ (T : Nat → Prop), Kp T wi w1 := fun T => Kp.of_below hb (fun c hc _ => hc)
        have HO1 := Lib.hid (HO.out.kp (kb (fun _ => True)) (fun _ _ _ => trivial))
        rw [← HP.out] at HO1
        have HM1 := Lib.hid (HMi.out.move (S' := Gs S w.heap.size u7) (kb (fun _ => True)) (fun _ _ => trivial) (fun c _ h => ⟨trivial, h⟩))
        have HK1 := Lib.hid (HK.out.trans (kb _))
        clear hb kb HO HMi HK HC
        go_wp2_with fail
        go_roundw
        case rel => exact ⟨i + 1, _, by go_num, by omega, HO1, HM1, HK1⟩
        case measure => simp [intOf]; omega
      · have hca0 : ¬ ((c30 (Wn ranks 1 (i + 1)) : Nat) : Int) = 0 := by have := (c30_zero (n := Wn ranks 1 (i + 1))); omega
        have hca1 : (((c30 (Wn ranks 1 (i + 1)) : Nat) : Int) == 0) = false := by simpa using hca0
        go_wp2_with fail
        refine HC.out.mono ?_
        rintro e w1 ⟨rfl, hb⟩
        have kb : ∀ (T : Nat → Prop), Kp T wi w1 := fun T => Kp.of_below hb (fun c hc _ => hc)
        have HO1 := Lib.hid (HO.out.kp (kb (fun _ => True)) (fun _ _ _ => trivial))
        have HM1 := Lib.hid (HMi.out.move (S' := Gs S w.heap.size u7) (kb (fun _ => True)) (fun _ _ => trivial) (fun c _ h => ⟨trivial, h⟩))
        have HK1 := Lib.hid (HK.out.trans (kb _))
        have hs1 := hb.size
        have m1 : w1.cell? ⟨M, 0, none⟩ = some (.slice p ranks.length c) := by rw [HM1.out.blk.cell]; rfl
        have m3 : M < w1.heap.size := by omega
        have HC2 := Lib.hid (ways_at ranks _ k (n - (i + 1)) w1 (k : Int) ((n : Int) - ((i : Int) + 1)) rfl (by omega) HM1.out.al.isInts HR.out hlen (by omega) (by omega))
        clear hb kb HO HMi HK HC HA m0
        go_wp2_with fail
        by_cases hB : Wn ranks k (n - (i + 1)) = 0
        · have hR0 : LL ranks k (n - (i + 1)) = [] := List.eq_nil_of_length_eq_zero hB
          have HP : Hid (LLp ranks k n (i + 1) = LLp ranks k n i) := Lib.hid (by rw [LLp_succ, hR0, show conL (TT ranks (i + 1)) [] = [] from List.eq_nil_of_length_eq_zero (by rw [conL_len]; rfl), List.append_nil])
          have hc0 : c30 (Wn ranks k (n - (i + 1))) = 0 := by rw [hB]; rfl
          rw [hc0] at HC2
          clear hc0 hB hR0 hA
          refine HC2.out.mono ?_
          rintro e w2 ⟨rfl, hb⟩
          have kb : ∀ (T : Nat → Prop), Kp T w1 w2 := fun T => Kp.of_below hb (fun c hc _ => hc)
          have HO2 := Lib.hid (HO1.out.kp (kb (fun _ => True)) (fun _ _ _ => trivial))
          rw [← HP.out] at HO2
          have HM2 := Lib.hid (HM1.out.move (S' := Gs S w.heap.size u7) (kb (fun _ => True)) (fun _ _ => trivial) (fun c _ h => ⟨trivial, h⟩))
          have HK2 := Lib.hid (HK1.out.trans (kb _))
          clear hb kb HO1 HM1 HK1 HC2
          go_wp2_with fail
          go_roundw
          case rel => exact ⟨i + 1, _, by go_num, by omega, HO2, HM2, HK2⟩
          case measure => simp [intOf]; omega
        · have hcb0 : ¬ ((c30 (Wn ranks k (n - (i + 1))) : Nat) : Int) = 0 := by have := (c30_zero (n := Wn ranks k (n - (i + 1)))); omega
          have hcb1 : (((c30 (Wn ranks k (n - (i + 1))) : Nat) : Int) == 0) = false := by simpa using hcb0
          have hpart := LLp_part HR.out (k := k) hlt
          rw [Wn, LL_one HR.out (i + 1) (by omega)] at hA
          rw [Wn] at hB
          have hTle : (TT ranks (i + 1)).length ≤ 4096 := by
            have := Nat.le_mul_of_pos_right (TT ranks (i + 1)).length (Nat.pos_of_ne_zero hB); omega
          have hRle : (LL ranks k (n - (i + 1))).length ≤ 4096 := by
            have := Nat.le_mul_of_pos_left (LL ranks k (n - (i + 1))).length (Nat.pos_of_ne_zero hA); omega
          refine HC2.out.mono ?_
          rintro e w2 ⟨rfl, hb⟩
          have kb : ∀ (T : Nat → Prop), Kp T w1 w2 := fun T => Kp.of_below hb (fun c hc _ => hc)
          have HO2 := Lib.hid (HO1.out.kp (kb (fun _ => True)) (fun _ _ _ => trivial))
          have HM2 := Lib.hid (HM1.out.move (S' := Gs S w.heap.size u7) (kb (fun _ => True)) (fun _ _ => trivial) (fun c _ h => ⟨trivial, h⟩))
          have HK2 := Lib.hid (HK1.out.trans (kb _))
          have hs2 := hb.size
          have HC3 := Lib.hid (HLL.out i hlt hRle (Gs S w.heap.size u7) w2 (k : Int) ((n : Int) - ((i : Int) + 1)) rfl (by omega) (by omega) HGB.out HM2.out)
          have HPART := Lib.hid hpart
          have HA := Lib.hid hA
          have HB := Lib.hid hB
          clear hb kb HO1 HM1 HK1 HC2 m1 m3 hA hB hpart
          go_wp2_with fail
          refine HC3.out.mono ?_
          rintro e w3 ⟨u, rfl, hu, hmk3, hk3⟩
          have hG3 : ∀ c, Gs S w.heap.size u7 c ∨ w2.heap.size ≤ c → Gs S w.heap.size u7 c := fun c h => h.elim id (fun h => ⟨.inr (by omega), fun e => by have := (HOW.out c e).2; omega⟩)
          have HU3 := Lib.hid (hu.mono (fun c _ h => hG3 c h))
          have HM3 := Lib.hid (hmk3.mono (fun c _ h => hG3 c h))
          have HO3 := Lib.hid (HO2.out.kp hk3 (fun c _ h => h.elim (HGB.out c) (fun e => by have := (HOW.out c e).1; omega)))
          have HK3 := Lib.hid (HK2.out.trans hk3)
          have hs3 := hk3.size
          obtain ⟨pu, cu, rfl, hu1, hu2, _⟩ := hu
          have HC4 := Lib.hid (HTT.out i hlt hTle (Gs S w.heap.size u7) w3 ((i : Int) + 1) rfl (by omega) HGB.out HM3.out)
          clear hmk3 hk3 HO2 HM2 HK2 HC3 hG3 hcb0 hcb1 hca0 hca1
          go_wp2_with fail
          refine HC4.out.mono ?_
          rintro e w4 ⟨v4, rfl, hv4, hmk4, hk4⟩
          have hG4 : ∀ c, Gs S w.heap.size u7 c ∨ w3.heap.size ≤ c → Gs S w.heap.size u7 c := fun c h => h.elim id (fun h => ⟨.inr (by omega), fun e => by have := (HOW.out c e).2; omega⟩)
          have HV4 := Lib.hid (hv4.mono (fun c _ h => hG4 c h))
          have HM4 := Lib.hid (hmk4.mono (fun c _ h => hG4 c h))
          have HU4 := Lib.hid (HU3.out.kp (hk4.mono (fun c _ h => HGB.out c h)))
          have HO4 := Lib.hid (HO3.out.kp hk4 (fun c _ h => h.elim (HGB.out c) (fun e => by have := (HOW.out c e).1; omega)))
          have HK4 := Lib.hid (HK3.out.trans hk4)
          have hs4 := hk4.size
          obtain ⟨pt, ct, rfl, ht1, ht2, _⟩ := hv4
          have HLS : Hid (LLp ranks k n (i + 1) = LLp ranks k n i ++ conL (TT ranks (i + 1)) (LL ranks k (n - (i + 1)))) := Lib.hid (LLp_succ ranks k n i)
          have HRL : Hid (∀ r, r ∈ LL ranks k (n - (i + 1)) → r.len ≤ 12) := Lib.hid (fun r hr => by
            have h1 := LL_nodes HR.out _ _ _ hr
            have h2 := Hg.len_le_size r
            omega)
          clear hmk4 hk4 HO3 HM3 HK3 HU3 HC4 hG4
          generalize hTd : TT ranks (i + 1) = T at *
          generalize hRd : LL ranks k (n - (i + 1)) = R at *
          rw [toH_len] at ht1 HV4
          rw [toH_len]
          clear hTd hRd
          go_wp2_with fail
          go_loopw [7, 55] (fun ov av wa => ∃ (a : Nat) (D : List (Hg × Value)), av = .int .i64 (a : Nat) ∧ a ≤ T.length ∧ Hid (OL S w.heap.size (LLp ranks k n i ++ conL (T.take a) R) wa D ov) ∧ Hid (Mk ranks N0 p c M Bk (Gs S w.heap.size ov) wa) ∧ Hid (IsHS (Gs S w.heap.size ov) wa (.slice pt T.length ct) (toH T)) ∧ Hid (IsHL (Gs S w.heap.size ov) wa (.slice pu R.length cu) R) ∧ Hid (Kp (fun c => c ≠ Bk) w wa))
            (fun _ av _ => T.length - (intOf av).toNat)
          case atStart => exact ⟨0, D, rfl, by omega, Lib.hid (by simpa [conL_nil] using HO4.out), HM4, HV4, HU4, HK4⟩
          case round =>
            rename World => wa
            obtain ⟨a, D', rfl, ha, HO, HMa, HV, HU, HK⟩ := hrel
            clear HO4 HM4 HV4 HU4 HK4 HGB HOW
            have hsza := HK.out.size
            by_cases hat : a < T.length
            · obtain ⟨t, htT⟩ : ∃ t, T[a]? = some t := ⟨_, List.getElem?_eq_getElem hat⟩
              obtain ⟨pt', ct', e1, -, -, hrow⟩ := HV.out
              simp only [Value.slice.injEq] at e1
              obtain ⟨rfl, -, rfl⟩ := e1
              obtain ⟨bt, ot, e2, hrow2⟩ := hrow (by cases T with
                | nil => simp at hat
                | cons x T => simp [toH])
              subst e2
              obtain ⟨c0, hwf, vk, c1, hvk⟩ := RowS_toH T ot hrow2 a t htT
              have HVK := Lib.hid hvk
              have HWF := Lib.hid hwf
              obtain ⟨pk, ck, rfl, hk1, hk2, _⟩ := hvk
              obtain ⟨tl, tk⟩ := t
              simp only at c0 c1 hk1 HVK HWF
              have b5 := World.block_lt_of_cell? _ _ c0
              simp only at b5
              have ha0 : (0 : Int) ≤ (a : Int) := by omega
              have ha1 : (a : Int) < (T.length : Int) := by omega
              have HP2 : Hid (conL (T.take (a + 1)) R = conL (T.take a) R ++ R.map fun r => Hg.cons tl tk r) := Lib.hid (by rw [List.take_add_one, htT]; exact conL_snoc _ _ _)
              have hown : ∀ g, u7.ownBlock = some g → w.heap.size ≤ g ∧ g < wa.heap.size := fun g hg => HO.out.own.lt g hg
              have HOW := Lib.hid hown
              clear hrow hrow2 htT hwf hown
              go_wp2_with fail
              have ka : ∀ (T : Nat → Prop), Kp T wa (wa.alloc (.cells #[.int .i64 tl, .slice pk tk.len ck] 27)) := fun T => (Kp.refl T wa).alloc _
              have HO5 : Hid (OL S w.heap.size (LLp ranks k n i ++ conL (T.take a) R ++ (R.take 0).map fun r => Hg.cons tl tk r) (wa.alloc (.cells #[.int .i64 tl, .slice pk tk.len ck] 27)) D' u7) := Lib.hid (by simpa using HO.out.kp (ka (fun _ => True)) (fun _ _ _ => trivial))
              have HM5 := Lib.hid (HMa.out.move (S' := Gs S w.heap.size u7) (ka (fun _ => True)) (fun _ _ => trivial) (fun c _ h => ⟨trivial, h⟩))
              have HV5 := Lib.hid (HV.out.kp (ka _))
              have HU5 := Lib.hid (HU.out.kp (ka _))
              have HVK5 := Lib.hid (HVK.out.kp (ka _))
              have HK5 := Lib.hid (HK.out.alloc (.cells #[.int .i64 tl, .slice pk tk.len ck] 27))
              have HBt := Lib.hid (Blk.new wa 27 #[.int .i64 tl, .slice pk tk.len ck])
              have HNE : Hid (u7.ownBlock ≠ some wa.heap.size) := Lib.hid (fun e => by have := (HOW.out _ e).2; omega)
              clear ka HO HMa HV HU HVK HK HOW c0 c1
              go_loopw [7, 61] (fun ov qv wq => ∃ (q : Nat) (D : List (Hg × Value)), qv = .int .i64 (q : Nat) ∧ q ≤ R.length ∧ Hid (OL S w.heap.size (LLp ranks k n i ++ conL (T.take a) R ++ (R.take q).map fun r => Hg.cons tl tk r) wq D ov) ∧ Hid (Mk ranks N0 p c M Bk (Gs S w.heap.size ov) wq) ∧ Hid (IsHS (Gs S w.heap.size ov) wq (.slice (some ⟨bt, ot, none⟩) T.length ct) (toH T)) ∧ Hid (IsHL (Gs S w.heap.size ov) wq (.slice pu R.length cu) R) ∧ Hid (Kp (fun c => c ≠ Bk) w wq) ∧
                  Hid (IsHS (Gs S w.heap.size ov) wq (.slice pk tk.len ck) tk) ∧ Hid (Blk wq wa.heap.size 27 #[.int .i64 tl, .slice pk tk.len ck]) ∧ Hid (ov.ownBlock ≠ some wa.heap.size))
                (fun _ qv _ => R.length - (intOf qv).toNat)
              case atStart => exact ⟨0, D', rfl, by omega, HO5, HM5, HV5, HU5, HK5, HVK5, HBt, HNE⟩
              case round =>
                rename World => wq
                obtain ⟨q, D2, rfl, hq, HO, HMq, HV, HU, HK, HVK, HB, HN⟩ := hrel
                clear HO5 HM5 HV5 HU5 HK5 HVK5 HBt HNE
                have hszq := HK.out.size
                by_cases hql : q < R.length
                · obtain ⟨r, hrR⟩ : ∃ r, R[q]? = some r := ⟨_, List.getElem?_eq_getElem hql⟩
                  obtain ⟨pu', cu', e1, -, -, hcl⟩ := HU.out
                  simp only [Value.slice.injEq] at e1
                  obtain ⟨rfl, -, rfl⟩ := e1
                  obtain ⟨bu, e2, hbu, hcl2⟩ := hcl (fun h => by rw [h] at hql; simp at hql)
                  subst e2
                  obtain ⟨ur, b1, hur⟩ := hcl2 q r hrR
                  have HUR := Lib.hid hur
                  obtain ⟨pr, cr, rfl, hr1, hr2, _⟩ := hur
                  have b2 := World.block_lt_of_cell? _ _ b1
                  simp only at b2
                  have hq0 : (0 : Int) ≤ (q : Int) := by omega
                  have hq1 : (q : Int) < (R.length : Int) := by omega
                  have HP3 : Hid ((LLp ranks k n i ++ conL (T.take a) R ++ (R.take (q + 1)).map fun r => Hg.cons tl tk r) = (LLp ranks k n i ++ conL (T.take a) R ++ (R.take q).map fun r => Hg.cons tl tk r) ++ [Hg.cons tl tk r]) := Lib.hid (by rw [List.take_add_one, hrR]; simp)
                  have hown : ∀ g, u7.ownBlock = some g → w.heap.size ≤ g ∧ g < wq.heap.size := fun g hg => HO.out.own.lt g hg
                  have HOW := Lib.hid hown
                  have hDl : D2.length ≤ 4096 := by
                    have e1 := congrArg List.length HO.out.eq
                    have e3 := HPART.out
                    simp only [List.length_map, List.length_append, List.length_take, conL_len] at e1
                    have e4 : (a + 1) * R.length ≤ T.length * R.length := Nat.mul_le_mul_right _ (by omega)
                    rw [Nat.add_mul] at e4
                    rw [Nat.min_eq_left (by omega : a ≤ T.length)] at e1
                    omega
                  have hrl : r.len ≤ 12 := HRL.out r (List.mem_of_getElem? hrR)
                  have z0 : wq.cell? ⟨wa.heap.size, 0, none⟩ = some (.int .i64 tl) := by rw [HB.out.cell]; rfl
                  have z1 : wq.cell? ⟨wa.heap.size, 1, none⟩ = some (.slice pk tk.len ck) := by rw [HB.out.cell]; rfl
                  have z2 := HB.out.lt
                  have ka : ∀ (T : Nat → Prop), Kp T wq (wq.alloc (.cells #[.int .i64 tl, .slice pk tk.len ck] 27)) := fun T => (Kp.refl T wq).alloc _
                  have hGc : ∀ (c : Nat), c < wq.heap.size → Gs S w.heap.size u7 c → Gs S w.heap.size u7 c ∧ c < wq.heap.size := fun c hc h => ⟨h, hc⟩
                  have HVK2 := Lib.hid ((HVK.out.mono hGc).kp (ka _))
                  have HUR2 := Lib.hid ((HUR.out.mono hGc).kp (ka _))
                  have HKA := Lib.hid (ka (fun c => c ≠ wq.heap.size))
                  have HN2 := Lib.hid (Blk.new wq 27 #[.int .i64 tl, .slice pk tk.len ck])
                  clear hcl hcl2 hrR hbu hown ka hGc HUR
                  go_wp2_with (at_builtin; refine wpList_tree_append _ rfl (.tmp 67) (.tmp 68) rfl (fun c => Gs S w.heap.size u7 c ∧ c < wq.heap.size) wq.heap.size tl tk r (.slice pk tk.len ck) (.slice pr r.len cr) rfl rfl HN2.out HWF.out HVK2.out HUR2.out (fun c h => by omega) (by omega) ?_)
                  intro v1 w2 hv1 hk2
                  have hG1 : ∀ c, (Gs S w.heap.size u7 c ∧ c < wq.heap.size) ∨ wq.heap.size ≤ c → Gs S w.heap.size u7 c := fun c h => h.elim (fun h => h.1) (fun h => ⟨.inr (by omega), fun e => by have := (HOW.out c e).2; omega⟩)
                  have hk12 : Kp (fun _ => True) wq w2 := (HKA.out.trans hk2).mono (fun c hc _ => by omega)
                  have hv1' := hv1.mono (fun c _ h => hG1 c h)
                  obtain ⟨p1, c1, rfl, hv11, hv12, _⟩ := hv1
                  have hk13 : Kp (fun _ => True) wq (w2.alloc (.cells #[.slice p1 (Hg.cons tl tk r).len c1] 25)) := hk12.alloc _
                  have HV1 := Lib.hid (hv1'.kp ((Kp.refl _ w2).alloc (.cells #[.slice p1 (Hg.cons tl tk r).len c1] 25)))
                  have HO3 := Lib.hid (HO.out.kp hk13 (fun _ _ _ => trivial))
                  have HM3 := Lib.hid (HMq.out.move (S' := Gs S w.heap.size u7) hk13 (fun _ _ => trivial) (fun c _ h => ⟨trivial, h⟩))
                  have HV3 := Lib.hid (HV.out.kp (hk13.mono fun _ _ _ => trivial))
                  have HU3 := Lib.hid (HU.out.kp (hk13.mono fun _ _ _ => trivial))
                  have HVK3 := Lib.hid (HVK.out.kp (hk13.mono fun _ _ _ => trivial))
                  have HK3 := Lib.hid (HK.out.trans (hk13.mono fun _ _ _ => trivial))
                  have HB3 := Lib.hid (HB.out.kp hk13 trivial)
                  have HN3 := Lib.hid (Blk.new w2 25 #[.slice p1 (Hg.cons tl tk r).len c1])
                  have hsz2 := hk12.size
                  have HVN : Hid (Hg.cons tl tk r = Hg.cons tl tk r) := Lib.hid rfl
                  generalize hX : Hg.cons tl tk r = X at *
                  clear HVN hX
                  clear hv1' hk12 hk13 hk2 hG1 HO HMq HV HU HVK HK HB HKA HN2 HVK2 HUR2 z0 z1 b1
                  go_wp2_with (at_builtin; refine wpList_append_own_at _ rfl (.tmp 65) (.tmp 70) 152 rfl w.heap.size 25 i0 _ 1 24 Tryd.underlying152 HI.out hz0 hz1 hz2 rfl (by decide) u7 D2.length (D2.map (·.2)) rfl HO3.out.own ⟨w2.heap.size, 0, none⟩ 1 1 [.slice p1 X.len c1] rfl rfl ?c1 ?c2 ?c3 ?c4 ?c5 ?_)
                  case c1 =>
                    intro a u hu
                    rw [show ((⟨w2.heap.size, 0, none⟩ : Addr).add a) = ⟨w2.heap.size, a, none⟩ by unfold Addr.add; split <;> simp_all, HN3.out.cell]
                    simpa using hu
                  case c2 =>
                    intro u hu
                    simp only [List.mem_cons, List.not_mem_nil, or_false] at hu
                    rcases hu with rfl; rfl
                  case c3 => simp only [maxLen]; omega
                  case c4 => omega
                  case c5 => simp; omega
                  intro v' w4 hown hgr _ hat'
                  have hk4 : Kp (fun c => u7.ownBlock ≠ some c) (w2.alloc (.cells #[.slice p1 X.len c1] 25)) w4 := (Kp.refl _ _).grown hgr (fun k e hs => absurd e hs)
                  have hat2 : v'.ownBlock = u7.ownBlock ∨ v'.ownBlock = some (w2.alloc (.cells #[.slice p1 X.len c1] 25)).heap.size := by simpa using hat'
                  have HO4 := Lib.hid (HO3.out.step HV1.out hk4 hat2 hown)
                  rw [← HP3.out] at HO4
                  have HM4 : Hid (Mk ranks N0 p c M Bk (Gs S w.heap.size v') w4) := Lib.hid (HM3.out.move (T := fun c => u7.ownBlock ≠ some c) hk4 (fun c hc e => by have := (HOW.out c e).1; omega) (fun c hc h => ⟨h.2, (Gs.step hat2 c hc h).2⟩))
                  have HV4 := Lib.hid (((HV3.out.mono (Gs.step hat2)).kp (hk4.mono fun c _ g => g.1.2)).mono (fun c _ g => g.2))
                  have HU4 := Lib.hid (((HU3.out.mono (Gs.step hat2)).kp (hk4.mono fun c _ g => g.1.2)).mono (fun c _ g => g.2))
                  have HVK4 := Lib.hid (((HVK3.out.mono (Gs.step hat2)).kp (hk4.mono fun c _ g => g.1.2)).mono (fun c _ g => g.2))
                  have HK4 : Hid (Kp (fun c => c ≠ Bk) w w4) := Lib.hid (HK3.out.grown hgr (fun k e _ => (HOW.out k e).1))
                  have HB4 := Lib.hid (HB3.out.kp hk4 HN.out)
                  have HN4 : Hid (v'.ownBlock ≠ some wa.heap.size) := Lib.hid (fun e => by
                    rcases hat2 with h | h
                    · exact HN.out (h ▸ e)
                    · rw [h] at e; simp at e; omega)
                  clear hown hgr hat' hat2 hk4 HO3 HM3 HV3 HU3 HVK3 HK3 HB3 HN3 HV1 HOW HN
                  go_wp2_with fail
                  go_roundw
                  case rel => exact ⟨q + 1, _, by go_num, by omega, HO4, HM4, HV4, HU4, HK4, HVK4, HB4, HN4⟩
                  case measure => simp [intOf]; omega
                · have hqe : q = R.length := by omega
                  subst hqe
                  rw [List.take_length, List.append_assoc, ← HP2.out] at HO
                  go_wp2_with fail
                  go_roundw
                  case rel => exact ⟨a + 1, _, by go_num, by omega, HO, HMq, HV, HU, HK⟩
                  case measure => simp [intOf]; omega
            · have hae : a = T.length := by omega
              subst hae
              rw [List.take_length, ← HLS.out] at HO
              go_wp2_with fail
              go_roundw
              case rel => exact ⟨i + 1, _, by go_num, by omega, HO, HMa, HK⟩
              case measure => simp [intOf]; omega
    · have hie : i = n := by omega
      subst hie
      rw [LLp_all HR.out] at HO
      have hdm : decide ((i : Int) + 1 ≤ (i : Int)) = false := decide_eq_false (by omega)
      have hnle : ¬ ((i : Int) + 1 ≤ (i : Int)) := by omega
      go_wp2_with fail
      go_ret
      exact ⟨u7, rfl, HO.out.isHL, HMi.out.mono (fun c _ h => h.1), HK.out⟩

end Go.Proofs.YthhliogcafmnfaaDoor
