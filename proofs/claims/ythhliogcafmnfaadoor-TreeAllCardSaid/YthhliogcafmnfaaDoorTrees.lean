/- The reference's maker: trees. -/
import Derived.Test.YthhliogcafmnfaaDoorMk
import Derived.OwnWalk
namespace Go.Proofs.YthhliogcafmnfaaDoor
open Go.RowKit Go.Shelf

theorem Tryd.infoTrees : (Tryd.prog.info? 25).map (fun i => (i.zero, i.size, i.bytes)) = some (some (.slice none 0 0), 1, 24) := by kernel_rfl
theorem intKeyed : Maps.Keyed Tryd.prog 3 := Maps.int_keyed Tryd.underlying3
theorem zeroTs (w : World) : (zeroValue 25).run Tryd.prog w = .ok (.slice none 0 0) w := by kernel_rfl

set_option maxRecDepth 100000 in
set_option maxHeartbeats 2000000 in
theorem trees_ok (ranks : List Nat) (N0 : Nat) (p : Option Addr) (c M Bk m : Nat) (hlen : ranks.length ≤ 12) (hm : m < 12) (hbig : (TT ranks (m + 1)).length ≤ 4096) (HL : ∀ r ∈ ranks, CL ranks N0 p c M Bk r m) : CT ranks N0 p c M Bk m := by
  intro S w x hx hN hS hmk
  subst hx
  obtain ⟨i0, hi, hz0, hz1, hz2⟩ := info_parts Tryd.infoTree
  obtain ⟨f, hmp, hf⟩ := hmk.map
  have hkey : keyOf Tryd.prog 3 (.int .i64 ((m : Int) + 1)) = some (.int .i64 ((m : Int) + 1)) := Maps.keyOf_int_mk Tryd.underlying3 (by simp [Lit.wf, IntKind.min, IntKind.max, IntKind.bits, IntKind.signed]; omega)
  have hlook := hmp.look_ok intKeyed Tryd.underlying105 (zeroTs w) hkey
  have hBlk := hmk.blk
  have m0 : w.cell? ⟨M, 0, none⟩ = some (.slice p ranks.length c) := by rw [hBlk.cell]; rfl
  have m1 : w.cell? ⟨M, 1, none⟩ = some (.map (some Bk)) := by rw [hBlk.cell]; rfl
  have m2 := hBlk.lt
  have HM := Lib.hid hmk
  have HSS := Lib.hid hS
  have HLL := Lib.hid HL
  have HI := Lib.hid hi
  clear hmk hS HL hBlk hi
  cases hfm : f (.int .i64 ((m : Int) + 1)) with
  | some v =>
    rw [hfm] at hlook
    simp only [Option.getD_some, Option.isSome_some] at hlook
    have hv := Lib.hid (hf m v hfm)
    clear hf hfm hmp hkey
    go_enter Tryd.func79, Tryd.ntmps79
    go_wp2_with fail
    go_ret
    exact ⟨v, rfl, hv.out.mono (fun c _ h => .inl h), HM.out.mono (fun c _ h => .inl h), Kp.refl _ _⟩
  | none =>
    rw [hfm] at hlook
    simp only [Option.getD_none, Option.isSome_none] at hlook
    clear hf hfm hmp hkey
    go_enter Tryd.func79, Tryd.ntmps79
    go_wp2_with fail
    clear hlook
    go_loopw [7, 29] (fun ov jv wr => ∃ (j : Nat) (D : DL), jv = .int .i64 (j : Nat) ∧ j ≤ ranks.length ∧ Hid (OT S w.heap.size (TTp ranks m j) wr D ov) ∧ Hid (Mk ranks N0 p c M Bk (Gs S w.heap.size ov) wr) ∧ Hid (Kp (fun c => c ≠ Bk) w wr))
      (fun _ jv _ => ranks.length - (intOf jv).toNat)
    case atStart => exact ⟨0, [], rfl, by omega, Lib.hid ⟨rfl, World.ownsRow_nil _ _ _ _, fun x hx => by cases hx⟩, Lib.hid (HM.out.mono (fun c _ h => ⟨.inl h, by simp [Value.ownBlock]⟩)), Lib.hid (Kp.refl _ _)⟩
    case round =>
      rename World => wr
      obtain ⟨j, D, rfl, hj, HO, HMr, HK⟩ := hrel
      have hsz := HK.out.size
      have hBk := HM.out.lB
      by_cases hlt : j < ranks.length
      · obtain ⟨r, hr⟩ : ∃ r, ranks[j]? = some r := ⟨_, List.getElem?_eq_getElem hlt⟩
        obtain ⟨p', c', e1, -, -, hcl⟩ := HMr.out.al
        obtain ⟨b, o, e2, hbS, hcl2⟩ := hcl (fun h => by simp [List.map_eq_nil_iff] at h; subst h; simp at hlt)
        simp only [Value.slice.injEq] at e1
        obtain ⟨rfl, -, rfl⟩ := e1
        subst e2
        have b1 := hcl2 j r (by simp [hr])
        have b5 := World.block_lt_of_cell? _ _ b1
        simp only at b5
        have hmem : r ∈ ranks := List.mem_of_getElem? hr
        have HP : Hid (TTp ranks m (j + 1) = TTp ranks m j ++ (LL ranks r m).map fun K => ((j : Int), K)) := Lib.hid (TTp_succ hr)
        have hGB : ∀ c, Gs S w.heap.size u7 c → c ≠ Bk := fun c h => h.1.elim (HSS.out c) (fun h => by omega)
        have hown : ∀ g, u7.ownBlock = some g → w.heap.size ≤ g ∧ g < wr.heap.size := fun g hg => HO.out.own.lt g hg
        have HC := Lib.hid (HLL.out r hmem (Gs S w.heap.size u7) wr (r : Int) (m : Int) rfl rfl (by omega) hGB HMr.out)
        have hLr := LL_le_TT (m := m) hmem
        have HGB := Lib.hid hGB
        have HOW := Lib.hid hown
        clear hcl hcl2 hr hGB hown hbS
        go_wp2_with fail
        refine HC.out.mono ?_
        rintro e w1 ⟨u, rfl, hu, hmk1, hk1⟩
        have hG1 : ∀ c, Gs S w.heap.size u7 c ∨ wr.heap.size ≤ c → Gs S w.heap.size u7 c := fun c h => h.elim id (fun h => ⟨.inr (by omega), fun e => by have := (HOW.out c e).2; omega⟩)
        have HU := Lib.hid (hu.mono (fun c _ h => hG1 c h))
        have HM1 := Lib.hid (hmk1.mono (fun c _ h => hG1 c h))
        have HO1 := Lib.hid (HO.out.kp hk1 (fun c _ h => h.elim (HGB.out c) (fun e => by have := (HOW.out c e).1; omega)))
        have HK1 := Lib.hid (HK.out.trans hk1)
        have hs1 := hk1.size
        obtain ⟨pu, cu, rfl, hu1, hu2, _⟩ := hu
        clear hmk1 hk1 HO HMr HK HC b1 hG1
        generalize hLd : LL ranks r m = L at *
        go_wp2_with fail
        clear m0 m1
        go_loopw [7, 40] (fun ov qv wq => ∃ (q : Nat) (D : DL), qv = .int .i64 (q : Nat) ∧ q ≤ L.length ∧ Hid (OT S w.heap.size (TTp ranks m j ++ (L.take q).map (fun K => ((j : Int), K))) wq D ov) ∧ Hid (Mk ranks N0 (some ⟨b, o, none⟩) c M Bk (Gs S w.heap.size ov) wq) ∧ Hid (IsHL (Gs S w.heap.size ov) wq (.slice pu L.length cu) L) ∧ Hid (Kp (fun c => c ≠ Bk) w wq))
          (fun _ qv _ => L.length - (intOf qv).toNat)
        case atStart => exact ⟨0, D, rfl, by omega, Lib.hid (by simpa using HO1.out), HM1, HU, HK1⟩
        case round =>
          rename World => wq
          obtain ⟨q, D', rfl, hq, HO, HMq, HUq, HK⟩ := hrel
          clear HO1 HM1 HU HK1 HGB HOW
          have hszq := HK.out.size
          by_cases hql : q < L.length
          · obtain ⟨K, hKL⟩ : ∃ K, L[q]? = some K := ⟨_, List.getElem?_eq_getElem hql⟩
            obtain ⟨pu', cu', e1, -, -, hcl⟩ := HUq.out
            simp only [Value.slice.injEq] at e1
            obtain ⟨rfl, -, rfl⟩ := e1
            obtain ⟨bu, e2, hbu, hcl2⟩ := hcl (fun h => by rw [h] at hql; simp at hql)
            subst e2
            obtain ⟨ukv, b1, hukv⟩ := hcl2 q K hKL
            have HKV := Lib.hid hukv
            obtain ⟨pk, ck, rfl, hk1, hk2, _⟩ := hukv
            have b5 := World.block_lt_of_cell? _ _ b1
            simp only at b5
            have hq0 : (0 : Int) ≤ (q : Int) := by omega
            have hq1 : (q : Int) < (L.length : Int) := by omega
            have HP2 : Hid (TTp ranks m j ++ (L.take (q + 1)).map (fun K => ((j : Int), K)) = (TTp ranks m j ++ (L.take q).map (fun K => ((j : Int), K))) ++ [((j : Int), K)]) := Lib.hid (by rw [List.take_add_one, hKL]; simp)
            have hown : ∀ g, u7.ownBlock = some g → w.heap.size ≤ g ∧ g < wq.heap.size := fun g hg => HO.out.own.lt g hg
            have HOW := Lib.hid hown
            have hDl : D'.length ≤ 4096 := by
              have e1 := congrArg List.length HO.out.eq
              have e2 := congrArg List.length HP.out
              have e3 := TTp_le ranks m (j + 1)
              simp only [List.length_map, List.length_append, List.length_take] at e1 e2
              omega
            have hwf : (Lit.int .i64 (j : Int)).wf = true := by simp [Lit.wf, IntKind.min, IntKind.max, IntKind.bits, IntKind.signed]; omega
            have HWF := Lib.hid hwf
            have ka : ∀ (T : Nat → Prop), Kp T wq (wq.alloc (.cells #[.int .i64 (j : Int), .slice pk K.len ck] 27)) := fun T => (Kp.refl T wq).alloc _
            have HO2 := Lib.hid (HO.out.kp (ka (fun _ => True)) (fun _ _ _ => trivial))
            have HM2 := Lib.hid (HMq.out.move (S' := Gs S w.heap.size u7) (ka (fun _ => True)) (fun _ _ => trivial) (fun c _ h => ⟨trivial, h⟩))
            have HU2 := Lib.hid (HUq.out.kp (ka _))
            have HKV2 := Lib.hid (HKV.out.kp (ka _))
            have HK2 := Lib.hid (HK.out.alloc (.cells #[.int .i64 (j : Int), .slice pk K.len ck] 27))
            have HN2 := Lib.hid (Blk.new wq 27 #[.int .i64 (j : Int), .slice pk K.len ck])
            clear hcl hcl2 hKL hbu hown hwf ka HO HMq HUq HK HKV
            go_wp2_with (at_builtin; refine wpList_append_own_at _ rfl (.tmp 44) (.tmp 48) 25 rfl w.heap.size 27 i0 _ 2 32 Tryd.underlying25 HI.out hz0 hz1 hz2 rfl (by decide) u7 D'.length (dcells D') rfl HO2.out.own ⟨wq.heap.size, 0, none⟩ 1 1 [.int .i64 (j : Int), .slice pk K.len ck] rfl rfl ?c1 ?c2 ?c3 ?c4 ?c5 ?_)
            case c1 =>
              intro a u hu
              rw [show ((⟨wq.heap.size, 0, none⟩ : Addr).add a) = ⟨wq.heap.size, a, none⟩ by unfold Addr.add; split <;> simp_all, HN2.out.cell]
              simpa using hu
            case c2 =>
              intro u hu
              simp only [List.mem_cons, List.not_mem_nil, or_false] at hu
              rcases hu with rfl | rfl <;> rfl
            case c3 => simp only [maxLen]; omega
            case c4 => omega
            case c5 => simp; omega
            intro v' w2 hown hgr _ hat
            have hk2 : Kp (fun c => u7.ownBlock ≠ some c) (wq.alloc (.cells #[.int .i64 (j : Int), .slice pk K.len ck] 27)) w2 := (Kp.refl _ _).grown hgr (fun k e hs => absurd e hs)
            have hat' : v'.ownBlock = u7.ownBlock ∨ v'.ownBlock = some (wq.alloc (.cells #[.int .i64 (j : Int), .slice pk K.len ck] 27)).heap.size := by simpa using hat
            have HO3 := Lib.hid (HO2.out.step HWF.out HKV2.out hk2 hat' hown)
            rw [← HP2.out] at HO3
            have HM3 : Hid (Mk ranks N0 (some ⟨b, o, none⟩) c M Bk (Gs S w.heap.size v') w2) := Lib.hid (HM2.out.move (T := fun c => u7.ownBlock ≠ some c) hk2 (fun c hc e => by have := (HOW.out c e).1; omega) (fun c hc h => ⟨h.2, (Gs.step hat' c hc h).2⟩))
            have HU3 : Hid (IsHL (Gs S w.heap.size v') w2 (.slice (some ⟨bu, 0, none⟩) L.length cu) L) := Lib.hid (((HU2.out.mono (Gs.step hat')).kp (hk2.mono fun c _ g => g.1.2)).mono (fun c _ g => g.2))
            have HK3 : Hid (Kp (fun c => c ≠ Bk) w w2) := Lib.hid (HK2.out.grown hgr (fun k e _ => (HOW.out k e).1))
            clear hown hgr hat hk2 hat' HO2 HM2 HU2 HKV2 HK2 HN2 HOW HWF
            go_wp2_with fail
            go_roundw
            case rel => exact ⟨q + 1, _, by go_num, by omega, HO3, HM3, HU3, HK3⟩
            case measure => simp [intOf]; omega
          · have hqe : q = L.length := by omega
            subst hqe
            rw [List.take_length, ← HP.out] at HO
            go_wp2_with fail
            go_roundw
            case rel => exact ⟨j + 1, _, by go_num, by omega, HO, HMq, HK⟩
            case measure => simp [intOf]; omega
      · have hje : j = ranks.length := by omega
        subst hje
        rw [TTp_all] at HO
        obtain ⟨f, hmp, hf⟩ := HMr.out.map
        have hkey : keyOf Tryd.prog 3 (.int .i64 ((m : Int) + 1)) = some (.int .i64 ((m : Int) + 1)) := Maps.keyOf_int_mk Tryd.underlying3 (by simp [Lit.wf, IntKind.min, IntKind.max, IntKind.bits, IntKind.signed]; omega)
        have hBlk := HMr.out.blk
        have m0 : wr.cell? ⟨M, 0, none⟩ = some (.slice p ranks.length c) := by rw [hBlk.cell]; rfl
        have m1 : wr.cell? ⟨M, 1, none⟩ = some (.map (some Bk)) := by rw [hBlk.cell]; rfl
        have m2 := hBlk.lt
        have HMP := Lib.hid hmp
        have HF := Lib.hid hf
        have HKEY := Lib.hid hkey
        clear hmp hf hkey hBlk
        go_wp2_with (at_mapUpdate; refine wpList_mp_put _ rfl _ _ _ 105 rfl 3 25 intKeyed Tryd.underlying105 keysM Bk f rfl HMP.out (by decide) _ _ _ rfl rfl HKEY.out (keysM_mem hm) ?_)
        intro w2 hmp2 hgr
        have hGB : ∀ c, Gs S w.heap.size u7 c → c ≠ Bk := fun c h => h.1.elim (HSS.out c) (fun h => by omega)
        have hk2 : Kp (fun c => c ≠ Bk) wr w2 := (Kp.refl _ _).grown hgr (fun k e hs => by cases e; exact absurd rfl hs)
        have hO2 := HO.out.kp hk2 (fun c _ h => h.elim (hGB c) (fun e => by have := (HO.out.own.lt c e).1; omega))
        have hM2 : Mk ranks N0 p c M Bk (fun c => S c ∨ w.heap.size ≤ c) w2 := by
          refine ⟨HMr.out.lM, HMr.out.lB, HMr.out.ne, HMr.out.blk.kp hk2 HMr.out.ne, ⟨_, hmp2, fun m' v hv => ?_⟩, HMr.out.al.kp (hk2.mono fun c _ h => h.2)⟩
          by_cases e : Lit.int .i64 ((m' : Int) + 1) = Lit.int .i64 ((m : Int) + 1)
          · have e' : m' = m := by simp only [Lit.int.injEq, true_and] at e; omega
            subst e'
            rw [putF_same] at hv
            cases hv
            exact hO2.isHS
          · rw [putF_other f u7 e] at hv
            exact ((HF.out m' v hv).kp (hk2.mono fun c _ h => hGB c h)).mono (fun c _ h => h.1)
        have HO2 := Lib.hid hO2
        have HM2 := Lib.hid hM2
        have HK2 := Lib.hid (HK.out.trans hk2)
        clear hmp2 hgr hGB hk2 hO2 hM2 HO HMr HK HF HMP
        go_wp2_with fail
        go_ret
        exact ⟨u7, rfl, HO2.out.isHS, HM2.out, HK2.out⟩

end Go.Proofs.YthhliogcafmnfaaDoor
