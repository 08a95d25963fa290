/- tree.All where it gives the trees. -/
import Derived.Test.YthhliogcafmnfaaDoorAllSize
import Derived.Shelf.RegionOpen
namespace Go.Proofs.YthhliogcafmnfaaDoor
open Go.RowKit Go.Shelf
attribute [local go_sem] Oper.semAt_some fwd fwf

set_option maxRecDepth 100000 in
set_option maxHeartbeats 2000000 in
theorem all_ok (ranks : List Nat) (v : Value) (n : Nat) (w : World) (hv : IsInts w v (ranks.map (fun r : Nat => (r : Int)))) (hr : ∀ r ∈ ranks, r ≤ 3) (hlen : ranks.length ≤ 12) (hn1 : 1 ≤ n) (hn2 : n ≤ 12) (hfull : tgt ranks 1 n ≤ 4096) :
    Calls Tryd.prog 32 #[.agg #[v], .int .i64 (n : Nat)] w fun e w' => (∃ vr, e = .returned (.tuple #[vr, .int .i64 0]) ∧ IsHS (fun c => w.heap.size ≤ c) w' vr (toH (TT ranks n))) ∧ Below w.heap.size w w' := by
  have hbw : Below w.heap.size w (w.alloc (.cells #[v] 24)) := (Below.refl _ w).alloc (Nat.le_refl _) _
  have HV := Lib.hid (validAlphabet_ok _ v _ (hv.below hbw))
  have HBW := Lib.hid hbw
  have HIV := Lib.hid hv
  have HR := Lib.hid hr
  have HLN := Lib.hid hlen
  have HB := Lib.hid (valid_ranks hr hlen)
  have HA0 := Lib.hid (Blk.new w 24 #[v])
  obtain ⟨p, c, rfl, hc1, hc2, hcell⟩ := hv
  rw [List.length_map] at hc1 HA0 HV HIV HBW
  have hlm : (ranks.map (fun r : Nat => (r : Int))).length = ranks.length := List.length_map ..
  clear hbw hcell
  have e1 : ¬ (n : Int) < 1 := by omega
  have e2 : decide ((n : Int) < 1) = false := decide_eq_false e1
  have e3 : ¬ (12 : Int) < (n : Int) := by omega
  have e4 : decide ((12 : Int) < (n : Int)) = false := decide_eq_false e3
  have e5 : n < 13 := by omega
  have e6 : (0 : Int) ≤ (n : Int) := by omega
  have e7 : (n : Int) < 13 := by omega
  obtain ⟨Z, hZ53, hZ⟩ := zero_census
  have HZ := Lib.hid hZ
  clear hZ hr hlen
  refine Calls.of_callsIn (ro := none) (m := 0) ?_
  refine callsIn_of_wp_marks Tryd.func32 rfl trivial ?_ rfl
  simp only [Tryd.ntmps32, List.size_toArray, List.length_cons, List.length_nil, Nat.reduceAdd, Nat.reduceSub, Array.replicate_succ, Array.replicate_zero, List.push_toArray, List.append_toArray, List.nil_append, List.cons_append, hlm]
  refine wpIn_wide.2 ?_
  go_wp2_with fail
  refine HV.out.mono ?_
  rintro e w1 ⟨rfl, hb1⟩
  rw [HB.out]
  have hb2 : Below w.heap.size w w1 := HBW.out.trans (hb1.mono (by simp))
  have hA1 : Blk w1 w.heap.size 24 #[.slice p ranks.length c] := HA0.out.below hb1 (by simp)
  have x1 : w1.cell? ⟨w.heap.size, 0, none⟩ = some (.slice p ranks.length c) := by rw [hA1.cell]; rfl
  have x2 := hA1.lt
  have HB2 := Lib.hid hb2
  have hT := takeCensus_ok ranks _ w1 (HIV.out.below hb2) HR.out HLN.out
  have HT := Lib.hid hT
  clear hb1 hb2 hA1 hT
  go_wp2_with fail
  refine HT.out.mono ?_
  rintro e w2 ⟨cs, rfl, hs53, hcs0, hcc, hb3⟩
  have hone : cs.all (·.oneCell') = true := by
    rw [Array.all_eq_true_iff_forall_mem]
    intro u hu
    obtain ⟨i, hi, rfl⟩ := Array.getElem_of_mem hu
    rcases Nat.eq_zero_or_pos i with rfl | hp
    · have := Array.getElem?_eq_getElem hi
      rw [hcs0] at this
      simp only [Option.some.injEq] at this
      rw [← this]; rfl
    · have h1 := hcc ((i - 1) / 13) ((i - 1) % 13) (by omega) (by omega)
      rw [show 1 + (i - 1) / 13 * 13 + (i - 1) % 13 = i by omega, Array.getElem?_eq_getElem hi] at h1
      simp only [Option.some.injEq] at h1
      rw [h1]; rfl
  have HI2 := Lib.hid (show (Tryd.prog.info? 98).map (·.size) = some cs.size by rw [hs53]; exact Tryd.infoCensus)
  have HB3 := Lib.hid (HB2.out.trans (hb3.mono HB2.out.size))
  have HCC := Lib.hid hcc
  have HC0 := Lib.hid hcs0
  have hbc : Blk (w2.alloc (.cells cs 98)) w2.heap.size 98 cs := Blk.new w2 _ _
  have x3 : (w2.alloc (.cells cs 98)).cell? ⟨w2.heap.size, 14 + n, none⟩ = some (.int .i64 (tgt ranks 1 n : Nat)) := by
    rw [hbc.cell, show 14 + n = 1 + 1 * 13 + n by omega]; exact hcc 1 n (by omega) (by omega)
  have x4 := hbc.lt
  have f1 : ¬ (4096 : Int) < ((tgt ranks 1 n : Nat) : Int) := by omega
  have f2 : decide ((4096 : Int) < ((tgt ranks 1 n : Nat) : Int)) = false := decide_eq_false f1
  have HBC := Lib.hid hbc
  have HRN := Lib.hid (HIV.out.below (HB2.out.trans (hb3.mono HB2.out.size)))
  clear hb3 hcc hcs0 hbc
  dsimp only
  repeat (first
    | (refine wp_alloc_as 98 rfl Z HZ.out ?_; simp [go_sem])
    | (refine wp_store_row 98 (.tmp 6) (.tmp 19) rfl w2.heap.size cs rfl rfl 98 Z (heap_alloc_last w2 _) HI2.out (by rw [hZ53, hs53]) hone ?_; rw [setRow_new _ _ _ _ _ rfl]; simp [go_sem])
    | go_step)
  refine (trees_any w2.heap.size n _).mono ?_
  rintro e w8 ⟨rfl, rfl⟩
  dsimp only
  simp only [World.size_alloc]
  have g7 : Boxed ((((w2.alloc (.cells cs 98)).alloc (.cells #[.slice none 0 0] 25)).alloc (.cells #[.pointer (some ⟨w2.heap.size, 0, none⟩)] 146)).alloc (.cells #[.int .i64 (n : Nat)] 3)) (w2.heap.size + 1) 25 (.slice none 0 0) := by
    have := ((Boxed.new (w2.alloc (.cells cs 98)) 25 (.slice none 0 0)).alloc (.cells #[.pointer (some ⟨w2.heap.size, 0, none⟩)] 146)).alloc (.cells #[.int .i64 (n : Nat)] 3); simpa using this
  have g8 : Boxed ((((w2.alloc (.cells cs 98)).alloc (.cells #[.slice none 0 0] 25)).alloc (.cells #[.pointer (some ⟨w2.heap.size, 0, none⟩)] 146)).alloc (.cells #[.int .i64 (n : Nat)] 3)) (w2.heap.size + 1 + 1) 146 (.pointer (some ⟨w2.heap.size, 0, none⟩)) := by
    have := (Boxed.new ((w2.alloc (.cells cs 98)).alloc (.cells #[.slice none 0 0] 25)) 146 (.pointer (some ⟨w2.heap.size, 0, none⟩))).alloc (.cells #[.int .i64 (n : Nat)] 3); simpa using this
  have g9 : Boxed ((((w2.alloc (.cells cs 98)).alloc (.cells #[.slice none 0 0] 25)).alloc (.cells #[.pointer (some ⟨w2.heap.size, 0, none⟩)] 146)).alloc (.cells #[.int .i64 (n : Nat)] 3)) (w2.heap.size + 1 + 1 + 1) 3 (.int .i64 (n : Nat)) := by
    have := Boxed.new (((w2.alloc (.cells cs 98)).alloc (.cells #[.slice none 0 0] 25)).alloc (.cells #[.pointer (some ⟨w2.heap.size, 0, none⟩)] 146)) 3 (.int .i64 (n : Nat)); simpa using this
  have hk3 : Kp (fun _ => True) (w2.alloc (.cells cs 98)) ((((w2.alloc (.cells cs 98)).alloc (.cells #[.slice none 0 0] 25)).alloc (.cells #[.pointer (some ⟨w2.heap.size, 0, none⟩)] 146)).alloc (.cells #[.int .i64 (n : Nat)] 3)) := (((Kp.refl _ _).alloc (.cells #[.slice none 0 0] 25)).alloc (.cells #[.pointer (some ⟨w2.heap.size, 0, none⟩)] 146)).alloc (.cells #[.int .i64 (n : Nat)] 3)
  have hz8 : w2.heap.size + 1 + 1 + 1 + 1 = ((((w2.alloc (.cells cs 98)).alloc (.cells #[.slice none 0 0] 25)).alloc (.cells #[.pointer (some ⟨w2.heap.size, 0, none⟩)] 146)).alloc (.cells #[.int .i64 (n : Nat)] 3)).heap.size := by simp
  have hz3 : w2.heap.size + 1 = (w2.alloc (.cells cs 98)).heap.size := by simp
  have hC3 : Cens (w2.alloc (.cells cs 98)) w2.heap.size (.slice p ranks.length c) ranks :=
    ⟨⟨cs, HBC.out, hs53, HC0.out, HCC.out⟩, by have := HRN.out; exact this.below ((Below.refl _ _).alloc (Nat.le_refl _) _), HR.out, HLN.out⟩
  have hb38 : Below w.heap.size w ((((w2.alloc (.cells cs 98)).alloc (.cells #[.slice none 0 0] 25)).alloc (.cells #[.pointer (some ⟨w2.heap.size, 0, none⟩)] 146)).alloc (.cells #[.int .i64 (n : Nat)] 3)) := (HB3.out.alloc (by have := HB3.out.size; omega) (.cells cs 98)).trans (hk3.below (by have := HB3.out.size; simp; omega) (fun _ _ => trivial))
  go_wp2_with fail
  generalize ((((w2.alloc (.cells cs 98)).alloc (.cells #[.slice none 0 0] 25)).alloc (.cells #[.pointer (some ⟨w2.heap.size, 0, none⟩)] 146)).alloc (.cells #[.int .i64 (n : Nat)] 3)) = w8 at g7 g8 g9 hk3 hz8 hb38 ⊢
  refine (wpIn_wide (n := 0)).1 ?_
  have hbsz := HB3.out.size
  have hIter := all_trees _ _ _ _ hC3 n hn1 hn2 (w2.heap.size + 1 + 1) (w2.heap.size + 1 + 1 + 1) (fun c => c = (w2.heap.size + 1)) w8 (hk3.below (by omega) (fun _ _ => trivial)) (fun c hc => by omega) (fun c hc => by omega) g8 g9 (by omega) (by omega)
  refine rd_outer (gf := 120) (lb := #[.pointer (some ⟨(w2.heap.size + 1 + 1), 0, none⟩), .pointer (some ⟨(w2.heap.size + 1 + 1 + 1), 0, none⟩)]) (Enc := QEnc) rfl (enters_of Tryd.func120 (by kernel_rfl) rfl) ?_ (fun k x vals C C' W h e => e.mono h) (TT ranks n) (fun c => c = (w2.heap.size + 1)) (fun c hc => by omega)
    (fun j C' W' => ∃ D va, AJ (TT ranks n) w.heap.size (w2.heap.size + 1) j C' W' D va) (fun c' C' W' => False)
    (fun L2 j a' C2 W2 => (∃ D va, AJ (TT ranks n) w.heap.size (w2.heap.size + 1) j C2 W2 D va) ∧ ∃ (t : Int × Hg) (vk : Value) (Bf : Nat), (TT ranks n)[j]? = some t ∧ (Lit.int .i64 t.1).wf = true ∧ IsHS (fun c => ¬ (C2 c ∨ c = L2)) W2 vk t.2 ∧ Blk W2 Bf 27 #[.int .i64 t.1, vk] ∧ ¬ C2 Bf ∧ Bf ≠ L2 ∧ a' = { tmps := #[.agg #[.slice p ranks.length c], .int .i64 (n : Nat), .pointer (some ⟨w.heap.size, 0, none⟩), undef, .slice none 0 0, .int .i64 0, .pointer (some ⟨w2.heap.size, 0, none⟩), .pointer (some ⟨(w2.heap.size + 1), 0, none⟩), .pointer (some ⟨Bf, 0, none⟩), .agg #[.slice p ranks.length c], .bool true, .bool false, .int .i64 (n : Nat), .bool false, .bool false, .int .i64 (n : Nat), .bool false, .bool false, .agg #[.slice p ranks.length c], .agg cs, .int .i64 (n : Nat), .pointer (some ⟨w2.heap.size, 1, none⟩), .pointer (some ⟨w2.heap.size, 14, none⟩), .pointer (some ⟨w2.heap.size, 14 + n, none⟩), .int .i64 (tgt ranks 1 n : Nat), .bool false, .int .i64 (n : Nat), .func (.func 120) #[] #[.pointer (some ⟨(w2.heap.size + 1 + 1), 0, none⟩), .pointer (some ⟨(w2.heap.size + 1 + 1 + 1), 0, none⟩)], .agg #[.int .i64 t.1, vk], undef, undef, undef, undef, undef, undef, undef, undef], defers := [] })
    (fun j C' W' W'' h hk => by obtain ⟨D, va, h⟩ := h; exact ⟨D, va, h.kp hk⟩) (fun c' C' W' W'' h hk => h) ?_ hIter ?_ ?_ ?_ ?_ ?_
  · rintro j x vals C' W' ⟨vk, rfl, _⟩; rfl
  · rintro L2 j a' C' W' W'' hL hn ⟨⟨D, va, h1⟩, t, vk, Bf, h2, h3, h4, h5, h6, h7, h8⟩ hk
    exact ⟨⟨D, va, h1.kp (hk.mono (fun c _ hc e => hn (e ▸ hc)))⟩, t, vk, Bf, h2, h3, h4.kp (hk.mono (fun c _ hc e => hc (.inr e))), h5.kp hk h7, h6, h7, h8⟩
  · exact ⟨[], .slice none 0 0, rfl, rfl, by simp, g7, ⟨rfl, .inl ⟨rfl, rfl⟩⟩, fun g hg => by simp [Value.ownBlock] at hg, fun x hx => by cases hx⟩
  · rintro L2 j x vals C' W' K' hx ⟨vk, rfl, hwf, hks⟩ hj2 hg hn hr hK
    obtain ⟨r, hr⟩ := hr
    have hr2 := (Array.getElem?_eq_some_iff.1 hr).1
    have hks' := hks
    obtain ⟨pk, ck, rfl, _⟩ := hks'
    have HJ2 := Lib.hid hj2
    have HH := Lib.hid hIter
    clear g7 g8 g9 hIter hr hj2 HH x1 x2 x3 x4 hz3 hC3 hk3 hone e1 e2 e3 e4 e5 e6 e7 f1 f2 hfull hb38 HBC HC0 HCC HI2 HZ hZ53 hs53 hlm hbsz hz8
    gi_wp2
    obtain ⟨D, va, hj2⟩ := HJ2.out
    refine hK _ C' _ ((Grow.refl hg.lt).alloc_ (.cells #[.int .i64 x.1, .slice pk x.2.len ck] 27)) ⟨⟨D, va, hj2.kp ((Kp.refl _ _).alloc _)⟩, x, _, W'.heap.size, hx, hwf, hks.kp ((Kp.refl _ _).alloc _), Blk.new _ _ _, fun h => by have := hg.lt _ h; omega, by omega, rfl⟩
  · rintro L2 j a' C' W' hlt2 ⟨⟨D, va, haj⟩, t, vk, Bf, htt, hwf, hks, hBf, hnf, hne, rfl⟩ hg hn hr
    obtain ⟨pa, ca, rfl⟩ := ownsRow_shape haj.own
    have hks' := hks.isH
    have htn := TT_nodes HR.out n hn1 t (List.mem_of_getElem? htt)
    obtain ⟨pk, ck, rfl, _⟩ := hks
    have hj5 : j ≤ 5000 := by have := TT_few HR.out n hn1 hfull; omega
    have HAJ := Lib.hid haj
    have HG := Lib.hid hg
    have HNB : Hid (Value.ownBlock (.slice pa j ca) ≠ some (w2.heap.size + 1)) := Lib.hid (fun e => (haj.blk _ e).2 rfl)
    have HBX := Lib.hid (fun (X : World) (h : Below W'.heap.size W' X) => (show Boxed X (w2.heap.size + 1) 25 (.slice pa j ca) from (h.block _ haj.box.lt).trans haj.box))
    have HST : Hid (∀ X, Below W'.heap.size W' X → X.cell? ⟨w2.heap.size + 1, 0, none⟩ = some (.slice pa j ca) ∧ X.cell? ⟨Bf, 0, none⟩ = some (.int .i64 t.1) ∧ X.cell? ⟨Bf, 1, none⟩ = some (.slice pk t.2.len ck) ∧ w2.heap.size + 1 < X.heap.size ∧ Bf < X.heap.size) := Lib.hid (fun X h => ⟨(HBX.out X h).cell, by rw [(hBf.below h hBf.lt).cell]; rfl, by rw [(hBf.below h hBf.lt).cell]; rfl, (HBX.out X h).lt, (hBf.below h hBf.lt).lt⟩)
    have HCL := Lib.hid (fun (X : World) (h : Below W'.heap.size W' X) => clone_any (t.2.size + 1) t.1 t.2 (.slice pk t.2.len ck) X (by omega) (by omega) hwf (hks'.below h))
    have hB7 := haj.box.lt
    have HNE : Hid (∀ (g6 cap6 : Nat) (X : World), Below W'.heap.size W' X → (Value.ownBlock (.slice (some ⟨g6, 0, none⟩) (j + 1) cap6) = Value.ownBlock (.slice pa j ca) ∨ Value.ownBlock (.slice (some ⟨g6, 0, none⟩) (j + 1) cap6) = some X.heap.size) → ¬ g6 = w2.heap.size + 1) := Lib.hid (fun g6 cap6 X hX h e => by
      subst e
      rcases h with h | h
      · exact HNB.out h.symm
      · simp [Value.ownBlock] at h
        have := hX.size
        omega)
    have hwsz := hb38.size
    have hgsz := hg.kp.size
    have hwW : w.heap.size ≤ W'.heap.size := by omega
    have i1 : (j : Int) < (j : Int) + 1 := by omega
    obtain ⟨z1, z3, z4, z2, z5⟩ := HST.out W' (Below.refl _ _)
    clear g7 g8 g9 hIter x1 x2 x3 x4 hz3 hC3 hk3 hone e1 e2 e3 e4 e5 e6 e7 f1 f2 hfull hb38 HBC HC0 HCC HI2 HZ hZ53 hs53 hlm hbsz hz8 haj hg hBf hks' hr htn
    gi_wp2_with fail
    refine wpIn_region_any (by kernel_rfl) ?_
    change wpAnyIn _ _ _ _ _ _ _ _ _ (World.drew _)
    refine wpAnyIn_ready (rs := [0, 1, 4]) (by kernel_rfl) (by simp) ?_
    refine AllReadyIn.cons rfl (fun K hK => ?_) ?_
    · go_simp
      refine hK _ _ ?_
      clear hK K
      refine wpAnyIn_ready (rs := [1, 3, 4]) (by kernel_rfl) (by simp) ?_
      refine AllReadyIn.cons rfl (fun K hK => ?_) ?_
      · go_simp
        refine hK _ _ ?_
        clear hK K
        refine wpAnyIn_ready (rs := [2, 3, 4]) (by kernel_rfl) (by simp) ?_
        refine AllReadyIn.cons rfl (fun K hK => ?_) ?_
        · refine step_call _ rfl 72 (.tmp 30) #[27] rfl (.agg #[.int .i64 t.1, .slice pk t.2.len ck]) rfl _ (enters_of Tryd.func72 (by kernel_rfl) rfl) (HCL.out _ ((Below.refl W'.heap.size W').drew)) ?_
          rintro e w4 ⟨r4, rfl, ⟨kv4, e4, hwf4, hkv4⟩, hb4⟩
          dsimp only at e4 hkv4
          subst e4
          have hkv4' := hkv4
          obtain ⟨pk4, ck4, rfl, _⟩ := hkv4'
          have hbw4 : Below W'.heap.size W' w4 := (((Below.refl W'.heap.size W').drew)).trans (hb4.mono (((Below.refl W'.heap.size W').drew)).size)
          have HBW4 := Lib.hid hbw4
          have HKV4 := Lib.hid (hkv4.mono (S' := fun c => W'.heap.size ≤ c ∧ c < w4.heap.size) (fun c hc h => ⟨Nat.le_trans (((Below.refl W'.heap.size W').drew)).size h, hc⟩))
          obtain ⟨z1, z3, z4, z2, z5⟩ := HST.out w4 hbw4
          refine ⟨_, rfl, ?_⟩
          clear hkv4 hb4 hbw4
          refine hK _ _ ?_
          clear hK K
          refine wpAnyIn_ready (rs := [3, 4]) (by kernel_rfl) (by simp) ?_
          refine AllReadyIn.cons rfl (fun K hK => ?_) ?_
          · go_simp
            refine hK _ _ ?_
            clear hK K
            refine wpAnyIn_ready (rs := [4]) (by kernel_rfl) (by simp) ?_
            refine AllReadyIn.cons rfl (fun K hK => ?_) AllReadyIn.nil
            go_simp
            refine hK _ _ ?_
            clear hK K
            have HZB := Lib.hid (Blk.new w4 27 #[.int .i64 0, .slice none 0 0])
            refine wpAnyIn_ready (rs := [5]) (by kernel_rfl) (by simp) ?_
            refine AllReadyIn.cons rfl (fun K hK => ?_) AllReadyIn.nil
            have h4 : Below W'.heap.size W' (w4.alloc (.cells #[.int .i64 0, .slice none 0 0] 27)) := (HBW4.out.alloc HBW4.out.size (.cells #[.int .i64 0, .slice none 0 0] 27))
            refine step_zero_append (w4.alloc (.cells #[.int .i64 0, .slice none 0 0] 27)) rfl (.tmp 29) (.tmp 33) rfl w.heap.size (.slice pa j ca) j (dcells D) rfl (ownsRow_heap HAJ.out.own (fun g hg => h4.block g ((HAJ.out.own.lt g hg).2))) _ rfl HZB.out hj5 (by have := h4.size; omega) ?_
            intro v6 w6 ho6 hk6 hat6
            have HKF := Lib.hid (show IsHS (fun c => W'.heap.size ≤ c ∧ c < ((w4.alloc (.cells #[.int .i64 0, .slice none 0 0] 27))).heap.size) (w4.alloc (.cells #[.int .i64 0, .slice none 0 0] 27)) (.slice pk4 t.2.len ck4) t.2 from ((HKV4.out.kp ((Kp.refl _ _).alloc (.cells #[.int .i64 0, .slice none 0 0] 27))).mono (fun c hc h => ⟨h.1, by simp; omega⟩)))
            have H4 := Lib.hid h4
            have HK6 := Lib.hid hk6
            have HAT := Lib.hid hat6
            have HO6 := Lib.hid ho6
            rcases ho6.2 with ⟨_, hz⟩ | ⟨g6, cap6, cur6, rfl, hbg6, hg6, hcap6, hmax6, _, _⟩
            · omega
            have hb6 : Boxed w6 (w2.heap.size + 1) 25 (.slice pa j ca) := hk6.boxed (HBX.out _ h4) HNB.out
            have z1 := hb6.cell
            have z2 := hb6.lt
            have z7 := hb6.frozen
            have y0 : w6.cell? ⟨g6, j * 2, none⟩ = some (.int .i64 0) := by rw [ho6.cellAt _ (by omega)]; exact (za_at D j HAJ.out.len).1
            have y1 : w6.cell? ⟨g6, j * 2 + 1, none⟩ = some (.slice none 0 0) := by rw [ho6.cellAt _ (by omega)]; exact (za_at D j HAJ.out.len).2
            have y2 := ho6.frozenAt (j * 2)
            have y3 := ho6.frozenAt (j * 2 + 1)
            have y4 := (ho6.lt g6 rfl).2
            have hne6 : ¬ g6 = w2.heap.size + 1 := HNE.out g6 cap6 _ h4 hat6
            have hne7 : ¬ w2.heap.size + 1 = g6 := fun e => hne6 e.symm
            have HB6 := Lib.hid hb6
            have HLF : Hid (∀ w7, Kp (fun c => c ≠ w2.heap.size + 1 ∧ Value.ownBlock (.slice (some ⟨g6, 0, none⟩) (j + 1) cap6) ≠ some c) w6 w7 → Boxed w7 (w2.heap.size + 1) 25 (.slice (some ⟨g6, 0, none⟩) (j + 1) cap6) → w7.ownsRow w.heap.size 27 2 (.slice (some ⟨g6, 0, none⟩) (j + 1) cap6) (j + 1) (dcells (D ++ [(t.1, t.2, .slice pk4 t.2.len ck4)])) → ∃ C'', Grow C' W' C'' w7 ∧ ∃ D' va', AJ (TT ranks n) w.heap.size (w2.heap.size + 1) (j + 1) C'' w7 D' va') := Lib.hid (fun w7 ha hb hc => by
              obtain ⟨C'', h1, h2⟩ := HAJ.out.step htt HG.out.lt (Kp.of_below h4 (fun k hk _ => hk)) hwf HKF.out hk6 hat6 ha hb hc
              exact ⟨C'', h1, _, _, h2⟩)
            unfold maxLen at hmax6
            clear h4 hk6 hat6 ho6 hg6 hb6 z3 z4 z5
            refine hK _ _ ?_
            clear hK K
            refine wpAnyIn_ready (rs := [6, 8]) (by kernel_rfl) (by simp) ?_
            refine AllReadyIn.cons rfl (fun K hK => ?_) ?_
            · go_simp
              refine hK _ _ ?_
              clear hK K
              refine wpAnyIn_ready (rs := [7, 8]) (by kernel_rfl) (by simp) ?_
              refine AllReadyIn.cons rfl (fun K hK => ?_) ?_
              · go_simp
                refine hK _ _ ?_
                clear hK K
                refine wpAnyIn_ready (rs := [8]) (by kernel_rfl) (by simp) ?_
                refine AllReadyIn.cons rfl (fun K hK => ?_) AllReadyIn.nil
                go_simp
                refine hK _ _ ?_
                clear hK K
                refine wpAnyIn_done (by kernel_rfl) ?_ _
                gi_wp2
                exact HLF.out _ ((((Kp.refl _ _).setCell (fun h => absurd rfl h.2) _).setCell (fun h => absurd rfl h.2) _).setCell (fun h => absurd rfl h.1) _) ((boxed_far (boxed_far HB6.out (p := ⟨g6, j * 2, none⟩) hne7 _) (p := ⟨g6, j * 2 + 1, none⟩) hne7 _).set _) (ownsRow_heap (by rw [← za_set D j HAJ.out.len t.1 t.2 (.slice pk4 t.2.len ck4)]; exact (((HO6.out.stored (j * 2) (.int .i64 t.1)).1).stored (j * 2 + 1) (.slice pk4 t.2.len ck4)).1) (fun g hg => Below.heap_setCell _ _ _ _ (fun e => hne6 ((Option.some.inj (show some g6 = some g from hg)).trans e))))
              refine AllReadyIn.cons rfl (fun K hK => ?_) AllReadyIn.nil
              go_simp
              refine hK _ _ ?_
              clear hK K
              refine wpAnyIn_ready (rs := [7]) (by kernel_rfl) (by simp) ?_
              refine AllReadyIn.cons rfl (fun K hK => ?_) AllReadyIn.nil
              go_simp
              refine hK _ _ ?_
              clear hK K
              refine wpAnyIn_done (by kernel_rfl) ?_ _
              gi_wp2
              exact HLF.out _ ((((Kp.refl _ _).setCell (fun h => absurd rfl h.1) _).setCell (fun h => absurd rfl h.2) _).setCell (fun h => absurd rfl h.2) _) (boxed_far (boxed_far (HB6.out.set _) (p := ⟨g6, j * 2, none⟩) hne7 _) (p := ⟨g6, j * 2 + 1, none⟩) hne7 _) (by rw [← za_set D j HAJ.out.len t.1 t.2 (.slice pk4 t.2.len ck4)]; exact ((((ownsRow_heap HO6.out (fun g hg => Below.heap_setCell _ _ _ _ (fun e => hne6 ((Option.some.inj (show some g6 = some g from hg)).trans e)))).stored (j * 2) (.int .i64 t.1)).1).stored (j * 2 + 1) (.slice pk4 t.2.len ck4)).1)
            refine AllReadyIn.cons rfl (fun K hK => ?_) AllReadyIn.nil
            go_simp
            refine hK _ _ ?_
            clear hK K
            refine wpAnyIn_ready (rs := [6]) (by kernel_rfl) (by simp) ?_
            refine AllReadyIn.cons rfl (fun K hK => ?_) AllReadyIn.nil
            go_simp
            refine hK _ _ ?_
            clear hK K
            refine wpAnyIn_ready (rs := [7]) (by kernel_rfl) (by simp) ?_
            refine AllReadyIn.cons rfl (fun K hK => ?_) AllReadyIn.nil
            go_simp
            refine hK _ _ ?_
            clear hK K
            refine wpAnyIn_done (by kernel_rfl) ?_ _
            gi_wp2
            exact HLF.out _ ((((Kp.refl _ _).setCell (fun h => absurd rfl h.1) _).setCell (fun h => absurd rfl h.2) _).setCell (fun h => absurd rfl h.2) _) (boxed_far (boxed_far (HB6.out.set _) (p := ⟨g6, j * 2, none⟩) hne7 _) (p := ⟨g6, j * 2 + 1, none⟩) hne7 _) (by rw [← za_set D j HAJ.out.len t.1 t.2 (.slice pk4 t.2.len ck4)]; exact ((((ownsRow_heap HO6.out (fun g hg => Below.heap_setCell _ _ _ _ (fun e => hne6 ((Option.some.inj (show some g6 = some g from hg)).trans e)))).stored (j * 2) (.int .i64 t.1)).1).stored (j * 2 + 1) (.slice pk4 t.2.len ck4)).1)
          refine AllReadyIn.cons rfl (fun K hK => ?_) AllReadyIn.nil
          go_simp
          refine hK _ _ ?_
          clear hK K
          have HZB := Lib.hid (Blk.new w4 27 #[.int .i64 0, .slice none 0 0])
          refine wpAnyIn_ready (rs := [3]) (by kernel_rfl) (by simp) ?_
          refine AllReadyIn.cons rfl (fun K hK => ?_) AllReadyIn.nil
          go_simp
          refine hK _ _ ?_
          clear hK K
          refine wpAnyIn_ready (rs := [5]) (by kernel_rfl) (by simp) ?_
          refine AllReadyIn.cons rfl (fun K hK => ?_) AllReadyIn.nil
          have h4 : Below W'.heap.size W' (w4.alloc (.cells #[.int .i64 0, .slice none 0 0] 27)) := (HBW4.out.alloc HBW4.out.size (.cells #[.int .i64 0, .slice none 0 0] 27))
          refine step_zero_append (w4.alloc (.cells #[.int .i64 0, .slice none 0 0] 27)) rfl (.tmp 29) (.tmp 33) rfl w.heap.size (.slice pa j ca) j (dcells D) rfl (ownsRow_heap HAJ.out.own (fun g hg => h4.block g ((HAJ.out.own.lt g hg).2))) _ rfl HZB.out hj5 (by have := h4.size; omega) ?_
          intro v6 w6 ho6 hk6 hat6
          have HKF := Lib.hid (show IsHS (fun c => W'.heap.size ≤ c ∧ c < ((w4.alloc (.cells #[.int .i64 0, .slice none 0 0] 27))).heap.size) (w4.alloc (.cells #[.int .i64 0, .slice none 0 0] 27)) (.slice pk4 t.2.len ck4) t.2 from ((HKV4.out.kp ((Kp.refl _ _).alloc (.cells #[.int .i64 0, .slice none 0 0] 27))).mono (fun c hc h => ⟨h.1, by simp; omega⟩)))
          have H4 := Lib.hid h4
          have HK6 := Lib.hid hk6
          have HAT := Lib.hid hat6
          have HO6 := Lib.hid ho6
          rcases ho6.2 with ⟨_, hz⟩ | ⟨g6, cap6, cur6, rfl, hbg6, hg6, hcap6, hmax6, _, _⟩
          · omega
          have hb6 : Boxed w6 (w2.heap.size + 1) 25 (.slice pa j ca) := hk6.boxed (HBX.out _ h4) HNB.out
          have z1 := hb6.cell
          have z2 := hb6.lt
          have z7 := hb6.frozen
          have y0 : w6.cell? ⟨g6, j * 2, none⟩ = some (.int .i64 0) := by rw [ho6.cellAt _ (by omega)]; exact (za_at D j HAJ.out.len).1
          have y1 : w6.cell? ⟨g6, j * 2 + 1, none⟩ = some (.slice none 0 0) := by rw [ho6.cellAt _ (by omega)]; exact (za_at D j HAJ.out.len).2
          have y2 := ho6.frozenAt (j * 2)
          have y3 := ho6.frozenAt (j * 2 + 1)
          have y4 := (ho6.lt g6 rfl).2
          have hne6 : ¬ g6 = w2.heap.size + 1 := HNE.out g6 cap6 _ h4 hat6
          have hne7 : ¬ w2.heap.size + 1 = g6 := fun e => hne6 e.symm
          have HB6 := Lib.hid hb6
          have HLF : Hid (∀ w7, Kp (fun c => c ≠ w2.heap.size + 1 ∧ Value.ownBlock (.slice (some ⟨g6, 0, none⟩) (j + 1) cap6) ≠ some c) w6 w7 → Boxed w7 (w2.heap.size + 1) 25 (.slice (some ⟨g6, 0, none⟩) (j + 1) cap6) → w7.ownsRow w.heap.size 27 2 (.slice (some ⟨g6, 0, none⟩) (j + 1) cap6) (j + 1) (dcells (D ++ [(t.1, t.2, .slice pk4 t.2.len ck4)])) → ∃ C'', Grow C' W' C'' w7 ∧ ∃ D' va', AJ (TT ranks n) w.heap.size (w2.heap.size + 1) (j + 1) C'' w7 D' va') := Lib.hid (fun w7 ha hb hc => by
            obtain ⟨C'', h1, h2⟩ := HAJ.out.step htt HG.out.lt (Kp.of_below h4 (fun k hk _ => hk)) hwf HKF.out hk6 hat6 ha hb hc
            exact ⟨C'', h1, _, _, h2⟩)
          unfold maxLen at hmax6
          clear h4 hk6 hat6 ho6 hg6 hb6 z3 z4 z5
          refine hK _ _ ?_
          clear hK K
          refine wpAnyIn_ready (rs := [6, 8]) (by kernel_rfl) (by simp) ?_
          refine AllReadyIn.cons rfl (fun K hK => ?_) ?_
          · go_simp
            refine hK _ _ ?_
            clear hK K
            refine wpAnyIn_ready (rs := [7, 8]) (by kernel_rfl) (by simp) ?_
            refine AllReadyIn.cons rfl (fun K hK => ?_) ?_
            · go_simp
              refine hK _ _ ?_
              clear hK K
              refine wpAnyIn_ready (rs := [8]) (by kernel_rfl) (by simp) ?_
              refine AllReadyIn.cons rfl (fun K hK => ?_) AllReadyIn.nil
              go_simp
              refine hK _ _ ?_
              clear hK K
              refine wpAnyIn_done (by kernel_rfl) ?_ _
              gi_wp2
              exact HLF.out _ ((((Kp.refl _ _).setCell (fun h => absurd rfl h.2) _).setCell (fun h => absurd rfl h.2) _).setCell (fun h => absurd rfl h.1) _) ((boxed_far (boxed_far HB6.out (p := ⟨g6, j * 2, none⟩) hne7 _) (p := ⟨g6, j * 2 + 1, none⟩) hne7 _).set _) (ownsRow_heap (by rw [← za_set D j HAJ.out.len t.1 t.2 (.slice pk4 t.2.len ck4)]; exact (((HO6.out.stored (j * 2) (.int .i64 t.1)).1).stored (j * 2 + 1) (.slice pk4 t.2.len ck4)).1) (fun g hg => Below.heap_setCell _ _ _ _ (fun e => hne6 ((Option.some.inj (show some g6 = some g from hg)).trans e))))
            refine AllReadyIn.cons rfl (fun K hK => ?_) AllReadyIn.nil
            go_simp
            refine hK _ _ ?_
            clear hK K
            refine wpAnyIn_ready (rs := [7]) (by kernel_rfl) (by simp) ?_
            refine AllReadyIn.cons rfl (fun K hK => ?_) AllReadyIn.nil
            go_simp
            refine hK _ _ ?_
            clear hK K
            refine wpAnyIn_done (by kernel_rfl) ?_ _
            gi_wp2
            exact HLF.out _ ((((Kp.refl _ _).setCell (fun h => absurd rfl h.1) _).setCell (fun h => absurd rfl h.2) _).setCell (fun h => absurd rfl h.2) _) (boxed_far (boxed_far (HB6.out.set _) (p := ⟨g6, j * 2, none⟩) hne7 _) (p := ⟨g6, j * 2 + 1, none⟩) hne7 _) (by rw [← za_set D j HAJ.out.len t.1 t.2 (.slice pk4 t.2.len ck4)]; exact ((((ownsRow_heap HO6.out (fun g hg => Below.heap_setCell _ _ _ _ (fun e => hne6 ((Option.some.inj (show some g6 = some g from hg)).trans e)))).stored (j * 2) (.int .i64 t.1)).1).stored (j * 2 + 1) (.slice pk4 t.2.len ck4)).1)
          refine AllReadyIn.cons rfl (fun K hK => ?_) AllReadyIn.nil
          go_simp
          refine hK _ _ ?_
          clear hK K
          refine wpAnyIn_ready (rs := [6]) (by kernel_rfl) (by simp) ?_
          refine AllReadyIn.cons rfl (fun K hK => ?_) AllReadyIn.nil
          go_simp
          refine hK _ _ ?_
          clear hK K
          refine wpAnyIn_ready (rs := [7]) (by kernel_rfl) (by simp) ?_
          refine AllReadyIn.cons rfl (fun K hK => ?_) AllReadyIn.nil
          go_simp
          refine hK _ _ ?_
          clear hK K
          refine wpAnyIn_done (by kernel_rfl) ?_ _
          gi_wp2
          exact HLF.out _ ((((Kp.refl _ _).setCell (fun h => absurd rfl h.1) _).setCell (fun h => absurd rfl h.2) _).setCell (fun h => absurd rfl h.2) _) (boxed_far (boxed_far (HB6.out.set _) (p := ⟨g6, j * 2, none⟩) hne7 _) (p := ⟨g6, j * 2 + 1, none⟩) hne7 _) (by rw [← za_set D j HAJ.out.len t.1 t.2 (.slice pk4 t.2.len ck4)]; exact ((((ownsRow_heap HO6.out (fun g hg => Below.heap_setCell _ _ _ _ (fun e => hne6 ((Option.some.inj (show some g6 = some g from hg)).trans e)))).stored (j * 2) (.int .i64 t.1)).1).stored (j * 2 + 1) (.slice pk4 t.2.len ck4)).1)
        refine AllReadyIn.cons rfl (fun K hK => ?_) ?_
        · go_simp
          refine hK _ _ ?_
          clear hK K
          refine wpAnyIn_ready (rs := [2, 4]) (by kernel_rfl) (by simp) ?_
          refine AllReadyIn.cons rfl (fun K hK => ?_) ?_
          · refine step_call _ rfl 72 (.tmp 30) #[27] rfl (.agg #[.int .i64 t.1, .slice pk t.2.len ck]) rfl _ (enters_of Tryd.func72 (by kernel_rfl) rfl) (HCL.out _ ((Below.refl W'.heap.size W').drew)) ?_
            rintro e w4 ⟨r4, rfl, ⟨kv4, e4, hwf4, hkv4⟩, hb4⟩
            dsimp only at e4 hkv4
            subst e4
            have hkv4' := hkv4
            obtain ⟨pk4, ck4, rfl, _⟩ := hkv4'
            have hbw4 : Below W'.heap.size W' w4 := (((Below.refl W'.heap.size W').drew)).trans (hb4.mono (((Below.refl W'.heap.size W').drew)).size)
            have HBW4 := Lib.hid hbw4
            have HKV4 := Lib.hid (hkv4.mono (S' := fun c => W'.heap.size ≤ c ∧ c < w4.heap.size) (fun c hc h => ⟨Nat.le_trans (((Below.refl W'.heap.size W').drew)).size h, hc⟩))
            obtain ⟨z1, z3, z4, z2, z5⟩ := HST.out w4 hbw4
            refine ⟨_, rfl, ?_⟩
            clear hkv4 hb4 hbw4
            refine hK _ _ ?_
            clear hK K
            refine wpAnyIn_ready (rs := [4]) (by kernel_rfl) (by simp) ?_
            refine AllReadyIn.cons rfl (fun K hK => ?_) AllReadyIn.nil
            go_simp
            refine hK _ _ ?_
            clear hK K
            have HZB := Lib.hid (Blk.new w4 27 #[.int .i64 0, .slice none 0 0])
            refine wpAnyIn_ready (rs := [5]) (by kernel_rfl) (by simp) ?_
            refine AllReadyIn.cons rfl (fun K hK => ?_) AllReadyIn.nil
            have h4 : Below W'.heap.size W' (w4.alloc (.cells #[.int .i64 0, .slice none 0 0] 27)) := (HBW4.out.alloc HBW4.out.size (.cells #[.int .i64 0, .slice none 0 0] 27))
            refine step_zero_append (w4.alloc (.cells #[.int .i64 0, .slice none 0 0] 27)) rfl (.tmp 29) (.tmp 33) rfl w.heap.size (.slice pa j ca) j (dcells D) rfl (ownsRow_heap HAJ.out.own (fun g hg => h4.block g ((HAJ.out.own.lt g hg).2))) _ rfl HZB.out hj5 (by have := h4.size; omega) ?_
            intro v6 w6 ho6 hk6 hat6
            have HKF := Lib.hid (show IsHS (fun c => W'.heap.size ≤ c ∧ c < ((w4.alloc (.cells #[.int .i64 0, .slice none 0 0] 27))).heap.size) (w4.alloc (.cells #[.int .i64 0, .slice none 0 0] 27)) (.slice pk4 t.2.len ck4) t.2 from ((HKV4.out.kp ((Kp.refl _ _).alloc (.cells #[.int .i64 0, .slice none 0 0] 27))).mono (fun c hc h => ⟨h.1, by simp; omega⟩)))
            have H4 := Lib.hid h4
            have HK6 := Lib.hid hk6
            have HAT := Lib.hid hat6
            have HO6 := Lib.hid ho6
            rcases ho6.2 with ⟨_, hz⟩ | ⟨g6, cap6, cur6, rfl, hbg6, hg6, hcap6, hmax6, _, _⟩
            · omega
            have hb6 : Boxed w6 (w2.heap.size + 1) 25 (.slice pa j ca) := hk6.boxed (HBX.out _ h4) HNB.out
            have z1 := hb6.cell
            have z2 := hb6.lt
            have z7 := hb6.frozen
            have y0 : w6.cell? ⟨g6, j * 2, none⟩ = some (.int .i64 0) := by rw [ho6.cellAt _ (by omega)]; exact (za_at D j HAJ.out.len).1
            have y1 : w6.cell? ⟨g6, j * 2 + 1, none⟩ = some (.slice none 0 0) := by rw [ho6.cellAt _ (by omega)]; exact (za_at D j HAJ.out.len).2
            have y2 := ho6.frozenAt (j * 2)
            have y3 := ho6.frozenAt (j * 2 + 1)
            have y4 := (ho6.lt g6 rfl).2
            have hne6 : ¬ g6 = w2.heap.size + 1 := HNE.out g6 cap6 _ h4 hat6
            have hne7 : ¬ w2.heap.size + 1 = g6 := fun e => hne6 e.symm
            have HB6 := Lib.hid hb6
            have HLF : Hid (∀ w7, Kp (fun c => c ≠ w2.heap.size + 1 ∧ Value.ownBlock (.slice (some ⟨g6, 0, none⟩) (j + 1) cap6) ≠ some c) w6 w7 → Boxed w7 (w2.heap.size + 1) 25 (.slice (some ⟨g6, 0, none⟩) (j + 1) cap6) → w7.ownsRow w.heap.size 27 2 (.slice (some ⟨g6, 0, none⟩) (j + 1) cap6) (j + 1) (dcells (D ++ [(t.1, t.2, .slice pk4 t.2.len ck4)])) → ∃ C'', Grow C' W' C'' w7 ∧ ∃ D' va', AJ (TT ranks n) w.heap.size (w2.heap.size + 1) (j + 1) C'' w7 D' va') := Lib.hid (fun w7 ha hb hc => by
              obtain ⟨C'', h1, h2⟩ := HAJ.out.step htt HG.out.lt (Kp.of_below h4 (fun k hk _ => hk)) hwf HKF.out hk6 hat6 ha hb hc
              exact ⟨C'', h1, _, _, h2⟩)
            unfold maxLen at hmax6
            clear h4 hk6 hat6 ho6 hg6 hb6 z3 z4 z5
            refine hK _ _ ?_
            clear hK K
            refine wpAnyIn_ready (rs := [6, 8]) (by kernel_rfl) (by simp) ?_
            refine AllReadyIn.cons rfl (fun K hK => ?_) ?_
            · go_simp
              refine hK _ _ ?_
              clear hK K
              refine wpAnyIn_ready (rs := [7, 8]) (by kernel_rfl) (by simp) ?_
              refine AllReadyIn.cons rfl (fun K hK => ?_) ?_
              · go_simp
                refine hK _ _ ?_
                clear hK K
                refine wpAnyIn_ready (rs := [8]) (by kernel_rfl) (by simp) ?_
                refine AllReadyIn.cons rfl (fun K hK => ?_) AllReadyIn.nil
                go_simp
                refine hK _ _ ?_
                clear hK K
                refine wpAnyIn_done (by kernel_rfl) ?_ _
                gi_wp2
                exact HLF.out _ ((((Kp.refl _ _).setCell (fun h => absurd rfl h.2) _).setCell (fun h => absurd rfl h.2) _).setCell (fun h => absurd rfl h.1) _) ((boxed_far (boxed_far HB6.out (p := ⟨g6, j * 2, none⟩) hne7 _) (p := ⟨g6, j * 2 + 1, none⟩) hne7 _).set _) (ownsRow_heap (by rw [← za_set D j HAJ.out.len t.1 t.2 (.slice pk4 t.2.len ck4)]; exact (((HO6.out.stored (j * 2) (.int .i64 t.1)).1).stored (j * 2 + 1) (.slice pk4 t.2.len ck4)).1) (fun g hg => Below.heap_setCell _ _ _ _ (fun e => hne6 ((Option.some.inj (show some g6 = some g from hg)).trans e))))
              refine AllReadyIn.cons rfl (fun K hK => ?_) AllReadyIn.nil
              go_simp
              refine hK _ _ ?_
              clear hK K
              refine wpAnyIn_ready (rs := [7]) (by kernel_rfl) (by simp) ?_
              refine AllReadyIn.cons rfl (fun K hK => ?_) AllReadyIn.nil
              go_simp
              refine hK _ _ ?_
              clear hK K
              refine wpAnyIn_done (by kernel_rfl) ?_ _
              gi_wp2
              exact HLF.out _ ((((Kp.refl _ _).setCell (fun h => absurd rfl h.1) _).setCell (fun h => absurd rfl h.2) _).setCell (fun h => absurd rfl h.2) _) (boxed_far (boxed_far (HB6.out.set _) (p := ⟨g6, j * 2, none⟩) hne7 _) (p := ⟨g6, j * 2 + 1, none⟩) hne7 _) (by rw [← za_set D j HAJ.out.len t.1 t.2 (.slice pk4 t.2.len ck4)]; exact ((((ownsRow_heap HO6.out (fun g hg => Below.heap_setCell _ _ _ _ (fun e => hne6 ((Option.some.inj (show some g6 = some g from hg)).trans e)))).stored (j * 2) (.int .i64 t.1)).1).stored (j * 2 + 1) (.slice pk4 t.2.len ck4)).1)
            refine AllReadyIn.cons rfl (fun K hK => ?_) AllReadyIn.nil
            go_simp
            refine hK _ _ ?_
            clear hK K
            refine wpAnyIn_ready (rs := [6]) (by kernel_rfl) (by simp) ?_
            refine AllReadyIn.cons rfl (fun K hK => ?_) AllReadyIn.nil
            go_simp
            refine hK _ _ ?_
            clear hK K
            refine wpAnyIn_ready (rs := [7]) (by kernel_rfl) (by simp) ?_
            refine AllReadyIn.cons rfl (fun K hK => ?_) AllReadyIn.nil
            go_simp
            refine hK _ _ ?_
            clear hK K
            refine wpAnyIn_done (by kernel_rfl) ?_ _
            gi_wp2
            exact HLF.out _ ((((Kp.refl _ _).setCell (fun h => absurd rfl h.1) _).setCell (fun h => absurd rfl h.2) _).setCell (fun h => absurd rfl h.2) _) (boxed_far (boxed_far (HB6.out.set _) (p := ⟨g6, j * 2, none⟩) hne7 _) (p := ⟨g6, j * 2 + 1, none⟩) hne7 _) (by rw [← za_set D j HAJ.out.len t.1 t.2 (.slice pk4 t.2.len ck4)]; exact ((((ownsRow_heap HO6.out (fun g hg => Below.heap_setCell _ _ _ _ (fun e => hne6 ((Option.some.inj (show some g6 = some g from hg)).trans e)))).stored (j * 2) (.int .i64 t.1)).1).stored (j * 2 + 1) (.slice pk4 t.2.len ck4)).1)
          refine AllReadyIn.cons rfl (fun K hK => ?_) AllReadyIn.nil
          go_simp
          refine hK _ _ ?_
          clear hK K
          refine wpAnyIn_ready (rs := [2]) (by kernel_rfl) (by simp) ?_
          refine AllReadyIn.cons rfl (fun K hK => ?_) AllReadyIn.nil
          refine step_call _ rfl 72 (.tmp 30) #[27] rfl (.agg #[.int .i64 t.1, .slice pk t.2.len ck]) rfl _ (enters_of Tryd.func72 (by kernel_rfl) rfl) (HCL.out _ ((Below.refl W'.heap.size W').drew.alloc (Nat.le_refl _) (.cells #[.int .i64 0, .slice none 0 0] 27))) ?_
          rintro e w4 ⟨r4, rfl, ⟨kv4, e4, hwf4, hkv4⟩, hb4⟩
          dsimp only at e4 hkv4
          subst e4
          have hkv4' := hkv4
          obtain ⟨pk4, ck4, rfl, _⟩ := hkv4'
          have hbw4 : Below W'.heap.size W' w4 := (((Below.refl W'.heap.size W').drew.alloc (Nat.le_refl _) (.cells #[.int .i64 0, .slice none 0 0] 27))).trans (hb4.mono (((Below.refl W'.heap.size W').drew.alloc (Nat.le_refl _) (.cells #[.int .i64 0, .slice none 0 0] 27))).size)
          have HBW4 := Lib.hid hbw4
          have HKV4 := Lib.hid (hkv4.mono (S' := fun c => W'.heap.size ≤ c ∧ c < w4.heap.size) (fun c hc h => ⟨Nat.le_trans (((Below.refl W'.heap.size W').drew.alloc (Nat.le_refl _) (.cells #[.int .i64 0, .slice none 0 0] 27))).size h, hc⟩))
          obtain ⟨z1, z3, z4, z2, z5⟩ := HST.out w4 hbw4
          refine ⟨_, rfl, ?_⟩
          have HZB := Lib.hid ((Blk.new W'.drew 27 #[.int .i64 0, .slice none 0 0]).below hb4 (by simp))
          clear hkv4 hb4 hbw4
          refine hK _ _ ?_
          clear hK K
          refine wpAnyIn_ready (rs := [5]) (by kernel_rfl) (by simp) ?_
          refine AllReadyIn.cons rfl (fun K hK => ?_) AllReadyIn.nil
          have h4 : Below W'.heap.size W' w4 := HBW4.out
          refine step_zero_append w4 rfl (.tmp 29) (.tmp 33) rfl w.heap.size (.slice pa j ca) j (dcells D) rfl (ownsRow_heap HAJ.out.own (fun g hg => h4.block g ((HAJ.out.own.lt g hg).2))) _ rfl HZB.out hj5 (by have := h4.size; omega) ?_
          intro v6 w6 ho6 hk6 hat6
          have HKF := Lib.hid (show IsHS (fun c => W'.heap.size ≤ c ∧ c < (w4).heap.size) w4 (.slice pk4 t.2.len ck4) t.2 from HKV4.out)
          have H4 := Lib.hid h4
          have HK6 := Lib.hid hk6
          have HAT := Lib.hid hat6
          have HO6 := Lib.hid ho6
          rcases ho6.2 with ⟨_, hz⟩ | ⟨g6, cap6, cur6, rfl, hbg6, hg6, hcap6, hmax6, _, _⟩
          · omega
          have hb6 : Boxed w6 (w2.heap.size + 1) 25 (.slice pa j ca) := hk6.boxed (HBX.out _ h4) HNB.out
          have z1 := hb6.cell
          have z2 := hb6.lt
          have z7 := hb6.frozen
          have y0 : w6.cell? ⟨g6, j * 2, none⟩ = some (.int .i64 0) := by rw [ho6.cellAt _ (by omega)]; exact (za_at D j HAJ.out.len).1
          have y1 : w6.cell? ⟨g6, j * 2 + 1, none⟩ = some (.slice none 0 0) := by rw [ho6.cellAt _ (by omega)]; exact (za_at D j HAJ.out.len).2
          have y2 := ho6.frozenAt (j * 2)
          have y3 := ho6.frozenAt (j * 2 + 1)
          have y4 := (ho6.lt g6 rfl).2
          have hne6 : ¬ g6 = w2.heap.size + 1 := HNE.out g6 cap6 _ h4 hat6
          have hne7 : ¬ w2.heap.size + 1 = g6 := fun e => hne6 e.symm
          have HB6 := Lib.hid hb6
          have HLF : Hid (∀ w7, Kp (fun c => c ≠ w2.heap.size + 1 ∧ Value.ownBlock (.slice (some ⟨g6, 0, none⟩) (j + 1) cap6) ≠ some c) w6 w7 → Boxed w7 (w2.heap.size + 1) 25 (.slice (some ⟨g6, 0, none⟩) (j + 1) cap6) → w7.ownsRow w.heap.size 27 2 (.slice (some ⟨g6, 0, none⟩) (j + 1) cap6) (j + 1) (dcells (D ++ [(t.1, t.2, .slice pk4 t.2.len ck4)])) → ∃ C'', Grow C' W' C'' w7 ∧ ∃ D' va', AJ (TT ranks n) w.heap.size (w2.heap.size + 1) (j + 1) C'' w7 D' va') := Lib.hid (fun w7 ha hb hc => by
            obtain ⟨C'', h1, h2⟩ := HAJ.out.step htt HG.out.lt (Kp.of_below h4 (fun k hk _ => hk)) hwf HKF.out hk6 hat6 ha hb hc
            exact ⟨C'', h1, _, _, h2⟩)
          unfold maxLen at hmax6
          clear h4 hk6 hat6 ho6 hg6 hb6 z3 z4 z5
          refine hK _ _ ?_
          clear hK K
          refine wpAnyIn_ready (rs := [6, 8]) (by kernel_rfl) (by simp) ?_
          refine AllReadyIn.cons rfl (fun K hK => ?_) ?_
          · go_simp
            refine hK _ _ ?_
            clear hK K
            refine wpAnyIn_ready (rs := [7, 8]) (by kernel_rfl) (by simp) ?_
            refine AllReadyIn.cons rfl (fun K hK => ?_) ?_
            · go_simp
              refine hK _ _ ?_
              clear hK K
              refine wpAnyIn_ready (rs := [8]) (by kernel_rfl) (by simp) ?_
              refine AllReadyIn.cons rfl (fun K hK => ?_) AllReadyIn.nil
              go_simp
              refine hK _ _ ?_
              clear hK K
              refine wpAnyIn_done (by kernel_rfl) ?_ _
              gi_wp2
              exact HLF.out _ ((((Kp.refl _ _).setCell (fun h => absurd rfl h.2) _).setCell (fun h => absurd rfl h.2) _).setCell (fun h => absurd rfl h.1) _) ((boxed_far (boxed_far HB6.out (p := ⟨g6, j * 2, none⟩) hne7 _) (p := ⟨g6, j * 2 + 1, none⟩) hne7 _).set _) (ownsRow_heap (by rw [← za_set D j HAJ.out.len t.1 t.2 (.slice pk4 t.2.len ck4)]; exact (((HO6.out.stored (j * 2) (.int .i64 t.1)).1).stored (j * 2 + 1) (.slice pk4 t.2.len ck4)).1) (fun g hg => Below.heap_setCell _ _ _ _ (fun e => hne6 ((Option.some.inj (show some g6 = some g from hg)).trans e))))
            refine AllReadyIn.cons rfl (fun K hK => ?_) AllReadyIn.nil
            go_simp
            refine hK _ _ ?_
            clear hK K
            refine wpAnyIn_ready (rs := [7]) (by kernel_rfl) (by simp) ?_
            refine AllReadyIn.cons rfl (fun K hK => ?_) AllReadyIn.nil
            go_simp
            refine hK _ _ ?_
            clear hK K
            refine wpAnyIn_done (by kernel_rfl) ?_ _
            gi_wp2
            exact HLF.out _ ((((Kp.refl _ _).setCell (fun h => absurd rfl h.1) _).setCell (fun h => absurd rfl h.2) _).setCell (fun h => absurd rfl h.2) _) (boxed_far (boxed_far (HB6.out.set _) (p := ⟨g6, j * 2, none⟩) hne7 _) (p := ⟨g6, j * 2 + 1, none⟩) hne7 _) (by rw [← za_set D j HAJ.out.len t.1 t.2 (.slice pk4 t.2.len ck4)]; exact ((((ownsRow_heap HO6.out (fun g hg => Below.heap_setCell _ _ _ _ (fun e => hne6 ((Option.some.inj (show some g6 = some g from hg)).trans e)))).stored (j * 2) (.int .i64 t.1)).1).stored (j * 2 + 1) (.slice pk4 t.2.len ck4)).1)
          refine AllReadyIn.cons rfl (fun K hK => ?_) AllReadyIn.nil
          go_simp
          refine hK _ _ ?_
          clear hK K
          refine wpAnyIn_ready (rs := [6]) (by kernel_rfl) (by simp) ?_
          refine AllReadyIn.cons rfl (fun K hK => ?_) AllReadyIn.nil
          go_simp
          refine hK _ _ ?_
          clear hK K
          refine wpAnyIn_ready (rs := [7]) (by kernel_rfl) (by simp) ?_
          refine AllReadyIn.cons rfl (fun K hK => ?_) AllReadyIn.nil
          go_simp
          refine hK _ _ ?_
          clear hK K
          refine wpAnyIn_done (by kernel_rfl) ?_ _
          gi_wp2
          exact HLF.out _ ((((Kp.refl _ _).setCell (fun h => absurd rfl h.1) _).setCell (fun h => absurd rfl h.2) _).setCell (fun h => absurd rfl h.2) _) (boxed_far (boxed_far (HB6.out.set _) (p := ⟨g6, j * 2, none⟩) hne7 _) (p := ⟨g6, j * 2 + 1, none⟩) hne7 _) (by rw [← za_set D j HAJ.out.len t.1 t.2 (.slice pk4 t.2.len ck4)]; exact ((((ownsRow_heap HO6.out (fun g hg => Below.heap_setCell _ _ _ _ (fun e => hne6 ((Option.some.inj (show some g6 = some g from hg)).trans e)))).stored (j * 2) (.int .i64 t.1)).1).stored (j * 2 + 1) (.slice pk4 t.2.len ck4)).1)
        refine AllReadyIn.cons rfl (fun K hK => ?_) AllReadyIn.nil
        go_simp
        refine hK _ _ ?_
        clear hK K
        refine wpAnyIn_ready (rs := [2, 3]) (by kernel_rfl) (by simp) ?_
        refine AllReadyIn.cons rfl (fun K hK => ?_) ?_
        · refine step_call _ rfl 72 (.tmp 30) #[27] rfl (.agg #[.int .i64 t.1, .slice pk t.2.len ck]) rfl _ (enters_of Tryd.func72 (by kernel_rfl) rfl) (HCL.out _ ((Below.refl W'.heap.size W').drew.alloc (Nat.le_refl _) (.cells #[.int .i64 0, .slice none 0 0] 27))) ?_
          rintro e w4 ⟨r4, rfl, ⟨kv4, e4, hwf4, hkv4⟩, hb4⟩
          dsimp only at e4 hkv4
          subst e4
          have hkv4' := hkv4
          obtain ⟨pk4, ck4, rfl, _⟩ := hkv4'
          have hbw4 : Below W'.heap.size W' w4 := (((Below.refl W'.heap.size W').drew.alloc (Nat.le_refl _) (.cells #[.int .i64 0, .slice none 0 0] 27))).trans (hb4.mono (((Below.refl W'.heap.size W').drew.alloc (Nat.le_refl _) (.cells #[.int .i64 0, .slice none 0 0] 27))).size)
          have HBW4 := Lib.hid hbw4
          have HKV4 := Lib.hid (hkv4.mono (S' := fun c => W'.heap.size ≤ c ∧ c < w4.heap.size) (fun c hc h => ⟨Nat.le_trans (((Below.refl W'.heap.size W').drew.alloc (Nat.le_refl _) (.cells #[.int .i64 0, .slice none 0 0] 27))).size h, hc⟩))
          obtain ⟨z1, z3, z4, z2, z5⟩ := HST.out w4 hbw4
          refine ⟨_, rfl, ?_⟩
          have HZB := Lib.hid ((Blk.new W'.drew 27 #[.int .i64 0, .slice none 0 0]).below hb4 (by simp))
          clear hkv4 hb4 hbw4
          refine hK _ _ ?_
          clear hK K
          refine wpAnyIn_ready (rs := [3]) (by kernel_rfl) (by simp) ?_
          refine AllReadyIn.cons rfl (fun K hK => ?_) AllReadyIn.nil
          go_simp
          refine hK _ _ ?_
          clear hK K
          refine wpAnyIn_ready (rs := [5]) (by kernel_rfl) (by simp) ?_
          refine AllReadyIn.cons rfl (fun K hK => ?_) AllReadyIn.nil
          have h4 : Below W'.heap.size W' w4 := HBW4.out
          refine step_zero_append w4 rfl (.tmp 29) (.tmp 33) rfl w.heap.size (.slice pa j ca) j (dcells D) rfl (ownsRow_heap HAJ.out.own (fun g hg => h4.block g ((HAJ.out.own.lt g hg).2))) _ rfl HZB.out hj5 (by have := h4.size; omega) ?_
          intro v6 w6 ho6 hk6 hat6
          have HKF := Lib.hid (show IsHS (fun c => W'.heap.size ≤ c ∧ c < (w4).heap.size) w4 (.slice pk4 t.2.len ck4) t.2 from HKV4.out)
          have H4 := Lib.hid h4
          have HK6 := Lib.hid hk6
          have HAT := Lib.hid hat6
          have HO6 := Lib.hid ho6
          rcases ho6.2 with ⟨_, hz⟩ | ⟨g6, cap6, cur6, rfl, hbg6, hg6, hcap6, hmax6, _, _⟩
          · omega
          have hb6 : Boxed w6 (w2.heap.size + 1) 25 (.slice pa j ca) := hk6.boxed (HBX.out _ h4) HNB.out
          have z1 := hb6.cell
          have z2 := hb6.lt
          have z7 := hb6.frozen
          have y0 : w6.cell? ⟨g6, j * 2, none⟩ = some (.int .i64 0) := by rw [ho6.cellAt _ (by omega)]; exact (za_at D j HAJ.out.len).1
          have y1 : w6.cell? ⟨g6, j * 2 + 1, none⟩ = some (.slice none 0 0) := by rw [ho6.cellAt _ (by omega)]; exact (za_at D j HAJ.out.len).2
          have y2 := ho6.frozenAt (j * 2)
          have y3 := ho6.frozenAt (j * 2 + 1)
          have y4 := (ho6.lt g6 rfl).2
          have hne6 : ¬ g6 = w2.heap.size + 1 := HNE.out g6 cap6 _ h4 hat6
          have hne7 : ¬ w2.heap.size + 1 = g6 := fun e => hne6 e.symm
          have HB6 := Lib.hid hb6
          have HLF : Hid (∀ w7, Kp (fun c => c ≠ w2.heap.size + 1 ∧ Value.ownBlock (.slice (some ⟨g6, 0, none⟩) (j + 1) cap6) ≠ some c) w6 w7 → Boxed w7 (w2.heap.size + 1) 25 (.slice (some ⟨g6, 0, none⟩) (j + 1) cap6) → w7.ownsRow w.heap.size 27 2 (.slice (some ⟨g6, 0, none⟩) (j + 1) cap6) (j + 1) (dcells (D ++ [(t.1, t.2, .slice pk4 t.2.len ck4)])) → ∃ C'', Grow C' W' C'' w7 ∧ ∃ D' va', AJ (TT ranks n) w.heap.size (w2.heap.size + 1) (j + 1) C'' w7 D' va') := Lib.hid (fun w7 ha hb hc => by
            obtain ⟨C'', h1, h2⟩ := HAJ.out.step htt HG.out.lt (Kp.of_below h4 (fun k hk _ => hk)) hwf HKF.out hk6 hat6 ha hb hc
            exact ⟨C'', h1, _, _, h2⟩)
          unfold maxLen at hmax6
          clear h4 hk6 hat6 ho6 hg6 hb6 z3 z4 z5
          refine hK _ _ ?_
          clear hK K
          refine wpAnyIn_ready (rs := [6, 8]) (by kernel_rfl) (by simp) ?_
          refine AllReadyIn.cons rfl (fun K hK => ?_) ?_
          · go_simp
            refine hK _ _ ?_
            clear hK K
            refine wpAnyIn_ready (rs := [7, 8]) (by kernel_rfl) (by simp) ?_
            refine AllReadyIn.cons rfl (fun K hK => ?_) ?_
            · go_simp
              refine hK _ _ ?_
              clear hK K
              refine wpAnyIn_ready (rs := [8]) (by kernel_rfl) (by simp) ?_
              refine AllReadyIn.cons rfl (fun K hK => ?_) AllReadyIn.nil
              go_simp
              refine hK _ _ ?_
              clear hK K
              refine wpAnyIn_done (by kernel_rfl) ?_ _
              gi_wp2
              exact HLF.out _ ((((Kp.refl _ _).setCell (fun h => absurd rfl h.2) _).setCell (fun h => absurd rfl h.2) _).setCell (fun h => absurd rfl h.1) _) ((boxed_far (boxed_far HB6.out (p := ⟨g6, j * 2, none⟩) hne7 _) (p := ⟨g6, j * 2 + 1, none⟩) hne7 _).set _) (ownsRow_heap (by rw [← za_set D j HAJ.out.len t.1 t.2 (.slice pk4 t.2.len ck4)]; exact (((HO6.out.stored (j * 2) (.int .i64 t.1)).1).stored (j * 2 + 1) (.slice pk4 t.2.len ck4)).1) (fun g hg => Below.heap_setCell _ _ _ _ (fun e => hne6 ((Option.some.inj (show some g6 = some g from hg)).trans e))))
            refine AllReadyIn.cons rfl (fun K hK => ?_) AllReadyIn.nil
            go_simp
            refine hK _ _ ?_
            clear hK K
            refine wpAnyIn_ready (rs := [7]) (by kernel_rfl) (by simp) ?_
            refine AllReadyIn.cons rfl (fun K hK => ?_) AllReadyIn.nil
            go_simp
            refine hK _ _ ?_
            clear hK K
            refine wpAnyIn_done (by kernel_rfl) ?_ _
            gi_wp2
            exact HLF.out _ ((((Kp.refl _ _).setCell (fun h => absurd rfl h.1) _).setCell (fun h => absurd rfl h.2) _).setCell (fun h => absurd rfl h.2) _) (boxed_far (boxed_far (HB6.out.set _) (p := ⟨g6, j * 2, none⟩) hne7 _) (p := ⟨g6, j * 2 + 1, none⟩) hne7 _) (by rw [← za_set D j HAJ.out.len t.1 t.2 (.slice pk4 t.2.len ck4)]; exact ((((ownsRow_heap HO6.out (fun g hg => Below.heap_setCell _ _ _ _ (fun e => hne6 ((Option.some.inj (show some g6 = some g from hg)).trans e)))).stored (j * 2) (.int .i64 t.1)).1).stored (j * 2 + 1) (.slice pk4 t.2.len ck4)).1)
          refine AllReadyIn.cons rfl (fun K hK => ?_) AllReadyIn.nil
          go_simp
          refine hK _ _ ?_
          clear hK K
          refine wpAnyIn_ready (rs := [6]) (by kernel_rfl) (by simp) ?_
          refine AllReadyIn.cons rfl (fun K hK => ?_) AllReadyIn.nil
          go_simp
          refine hK _ _ ?_
          clear hK K
          refine wpAnyIn_ready (rs := [7]) (by kernel_rfl) (by simp) ?_
          refine AllReadyIn.cons rfl (fun K hK => ?_) AllReadyIn.nil
          go_simp
          refine hK _ _ ?_
          clear hK K
          refine wpAnyIn_done (by kernel_rfl) ?_ _
          gi_wp2
          exact HLF.out _ ((((Kp.refl _ _).setCell (fun h => absurd rfl h.1) _).setCell (fun h => absurd rfl h.2) _).setCell (fun h => absurd rfl h.2) _) (boxed_far (boxed_far (HB6.out.set _) (p := ⟨g6, j * 2, none⟩) hne7 _) (p := ⟨g6, j * 2 + 1, none⟩) hne7 _) (by rw [← za_set D j HAJ.out.len t.1 t.2 (.slice pk4 t.2.len ck4)]; exact ((((ownsRow_heap HO6.out (fun g hg => Below.heap_setCell _ _ _ _ (fun e => hne6 ((Option.some.inj (show some g6 = some g from hg)).trans e)))).stored (j * 2) (.int .i64 t.1)).1).stored (j * 2 + 1) (.slice pk4 t.2.len ck4)).1)
        refine AllReadyIn.cons rfl (fun K hK => ?_) AllReadyIn.nil
        go_simp
        refine hK _ _ ?_
        clear hK K
        refine wpAnyIn_ready (rs := [2]) (by kernel_rfl) (by simp) ?_
        refine AllReadyIn.cons rfl (fun K hK => ?_) AllReadyIn.nil
        refine step_call _ rfl 72 (.tmp 30) #[27] rfl (.agg #[.int .i64 t.1, .slice pk t.2.len ck]) rfl _ (enters_of Tryd.func72 (by kernel_rfl) rfl) (HCL.out _ ((Below.refl W'.heap.size W').drew.alloc (Nat.le_refl _) (.cells #[.int .i64 0, .slice none 0 0] 27))) ?_
        rintro e w4 ⟨r4, rfl, ⟨kv4, e4, hwf4, hkv4⟩, hb4⟩
        dsimp only at e4 hkv4
        subst e4
        have hkv4' := hkv4
        obtain ⟨pk4, ck4, rfl, _⟩ := hkv4'
        have hbw4 : Below W'.heap.size W' w4 := (((Below.refl W'.heap.size W').drew.alloc (Nat.le_refl _) (.cells #[.int .i64 0, .slice none 0 0] 27))).trans (hb4.mono (((Below.refl W'.heap.size W').drew.alloc (Nat.le_refl _) (.cells #[.int .i64 0, .slice none 0 0] 27))).size)
        have HBW4 := Lib.hid hbw4
        have HKV4 := Lib.hid (hkv4.mono (S' := fun c => W'.heap.size ≤ c ∧ c < w4.heap.size) (fun c hc h => ⟨Nat.le_trans (((Below.refl W'.heap.size W').drew.alloc (Nat.le_refl _) (.cells #[.int .i64 0, .slice none 0 0] 27))).size h, hc⟩))
        obtain ⟨z1, z3, z4, z2, z5⟩ := HST.out w4 hbw4
        refine ⟨_, rfl, ?_⟩
        have HZB := Lib.hid ((Blk.new W'.drew 27 #[.int .i64 0, .slice none 0 0]).below hb4 (by simp))
        clear hkv4 hb4 hbw4
        refine hK _ _ ?_
        clear hK K
        refine wpAnyIn_ready (rs := [5]) (by kernel_rfl) (by simp) ?_
        refine AllReadyIn.cons rfl (fun K hK => ?_) AllReadyIn.nil
        have h4 : Below W'.heap.size W' w4 := HBW4.out
        refine step_zero_append w4 rfl (.tmp 29) (.tmp 33) rfl w.heap.size (.slice pa j ca) j (dcells D) rfl (ownsRow_heap HAJ.out.own (fun g hg => h4.block g ((HAJ.out.own.lt g hg).2))) _ rfl HZB.out hj5 (by have := h4.size; omega) ?_
        intro v6 w6 ho6 hk6 hat6
        have HKF := Lib.hid (show IsHS (fun c => W'.heap.size ≤ c ∧ c < (w4).heap.size) w4 (.slice pk4 t.2.len ck4) t.2 from HKV4.out)
        have H4 := Lib.hid h4
        have HK6 := Lib.hid hk6
        have HAT := Lib.hid hat6
        have HO6 := Lib.hid ho6
        rcases ho6.2 with ⟨_, hz⟩ | ⟨g6, cap6, cur6, rfl, hbg6, hg6, hcap6, hmax6, _, _⟩
        · omega
        have hb6 : Boxed w6 (w2.heap.size + 1) 25 (.slice pa j ca) := hk6.boxed (HBX.out _ h4) HNB.out
        have z1 := hb6.cell
        have z2 := hb6.lt
        have z7 := hb6.frozen
        have y0 : w6.cell? ⟨g6, j * 2, none⟩ = some (.int .i64 0) := by rw [ho6.cellAt _ (by omega)]; exact (za_at D j HAJ.out.len).1
        have y1 : w6.cell? ⟨g6, j * 2 + 1, none⟩ = some (.slice none 0 0) := by rw [ho6.cellAt _ (by omega)]; exact (za_at D j HAJ.out.len).2
        have y2 := ho6.frozenAt (j * 2)
        have y3 := ho6.frozenAt (j * 2 + 1)
        have y4 := (ho6.lt g6 rfl).2
        have hne6 : ¬ g6 = w2.heap.size + 1 := HNE.out g6 cap6 _ h4 hat6
        have hne7 : ¬ w2.heap.size + 1 = g6 := fun e => hne6 e.symm
        have HB6 := Lib.hid hb6
        have HLF : Hid (∀ w7, Kp (fun c => c ≠ w2.heap.size + 1 ∧ Value.ownBlock (.slice (some ⟨g6, 0, none⟩) (j + 1) cap6) ≠ some c) w6 w7 → Boxed w7 (w2.heap.size + 1) 25 (.slice (some ⟨g6, 0, none⟩) (j + 1) cap6) → w7.ownsRow w.heap.size 27 2 (.slice (some ⟨g6, 0, none⟩) (j + 1) cap6) (j + 1) (dcells (D ++ [(t.1, t.2, .slice pk4 t.2.len ck4)])) → ∃ C'', Grow C' W' C'' w7 ∧ ∃ D' va', AJ (TT ranks n) w.heap.size (w2.heap.size + 1) (j + 1) C'' w7 D' va') := Lib.hid (fun w7 ha hb hc => by
          obtain ⟨C'', h1, h2⟩ := HAJ.out.step htt HG.out.lt (Kp.of_below h4 (fun k hk _ => hk)) hwf HKF.out hk6 hat6 ha hb hc
          exact ⟨C'', h1, _, _, h2⟩)
        unfold maxLen at hmax6
        clear h4 hk6 hat6 ho6 hg6 hb6 z3 z4 z5
        refine hK _ _ ?_
        clear hK K
        refine wpAnyIn_ready (rs := [6, 8]) (by kernel_rfl) (by simp) ?_
        refine AllReadyIn.cons rfl (fun K hK => ?_) ?_
        · go_simp
          refine hK _ _ ?_
          clear hK K
          refine wpAnyIn_ready (rs := [7, 8]) (by kernel_rfl) (by simp) ?_
          refine AllReadyIn.cons rfl (fun K hK => ?_) ?_
          · go_simp
            refine hK _ _ ?_
            clear hK K
            refine wpAnyIn_ready (rs := [8]) (by kernel_rfl) (by simp) ?_
            refine AllReadyIn.cons rfl (fun K hK => ?_) AllReadyIn.nil
            go_simp
            refine hK _ _ ?_
            clear hK K
            refine wpAnyIn_done (by kernel_rfl) ?_ _
            gi_wp2
            exact HLF.out _ ((((Kp.refl _ _).setCell (fun h => absurd rfl h.2) _).setCell (fun h => absurd rfl h.2) _).setCell (fun h => absurd rfl h.1) _) ((boxed_far (boxed_far HB6.out (p := ⟨g6, j * 2, none⟩) hne7 _) (p := ⟨g6, j * 2 + 1, none⟩) hne7 _).set _) (ownsRow_heap (by rw [← za_set D j HAJ.out.len t.1 t.2 (.slice pk4 t.2.len ck4)]; exact (((HO6.out.stored (j * 2) (.int .i64 t.1)).1).stored (j * 2 + 1) (.slice pk4 t.2.len ck4)).1) (fun g hg => Below.heap_setCell _ _ _ _ (fun e => hne6 ((Option.some.inj (show some g6 = some g from hg)).trans e))))
          refine AllReadyIn.cons rfl (fun K hK => ?_) AllReadyIn.nil
          go_simp
          refine hK _ _ ?_
          clear hK K
          refine wpAnyIn_ready (rs := [7]) (by kernel_rfl) (by simp) ?_
          refine AllReadyIn.cons rfl (fun K hK => ?_) AllReadyIn.nil
          go_simp
          refine hK _ _ ?_
          clear hK K
          refine wpAnyIn_done (by kernel_rfl) ?_ _
          gi_wp2
          exact HLF.out _ ((((Kp.refl _ _).setCell (fun h => absurd rfl h.1) _).setCell (fun h => absurd rfl h.2) _).setCell (fun h => absurd rfl h.2) _) (boxed_far (boxed_far (HB6.out.set _) (p := ⟨g6, j * 2, none⟩) hne7 _) (p := ⟨g6, j * 2 + 1, none⟩) hne7 _) (by rw [← za_set D j HAJ.out.len t.1 t.2 (.slice pk4 t.2.len ck4)]; exact ((((ownsRow_heap HO6.out (fun g hg => Below.heap_setCell _ _ _ _ (fun e => hne6 ((Option.some.inj (show some g6 = some g from hg)).trans e)))).stored (j * 2) (.int .i64 t.1)).1).stored (j * 2 + 1) (.slice pk4 t.2.len ck4)).1)
        refine AllReadyIn.cons rfl (fun K hK => ?_) AllReadyIn.nil
        go_simp
        refine hK _ _ ?_
        clear hK K
        refine wpAnyIn_ready (rs := [6]) (by kernel_rfl) (by simp) ?_
        refine AllReadyIn.cons rfl (fun K hK => ?_) AllReadyIn.nil
        go_simp
        refine hK _ _ ?_
        clear hK K
        refine wpAnyIn_ready (rs := [7]) (by kernel_rfl) (by simp) ?_
        refine AllReadyIn.cons rfl (fun K hK => ?_) AllReadyIn.nil
        go_simp
        refine hK _ _ ?_
        clear hK K
        refine wpAnyIn_done (by kernel_rfl) ?_ _
        gi_wp2
        exact HLF.out _ ((((Kp.refl _ _).setCell (fun h => absurd rfl h.1) _).setCell (fun h => absurd rfl h.2) _).setCell (fun h => absurd rfl h.2) _) (boxed_far (boxed_far (HB6.out.set _) (p := ⟨g6, j * 2, none⟩) hne7 _) (p := ⟨g6, j * 2 + 1, none⟩) hne7 _) (by rw [← za_set D j HAJ.out.len t.1 t.2 (.slice pk4 t.2.len ck4)]; exact ((((ownsRow_heap HO6.out (fun g hg => Below.heap_setCell _ _ _ _ (fun e => hne6 ((Option.some.inj (show some g6 = some g from hg)).trans e)))).stored (j * 2) (.int .i64 t.1)).1).stored (j * 2 + 1) (.slice pk4 t.2.len ck4)).1)
      refine AllReadyIn.cons rfl (fun K hK => ?_) ?_
      · go_simp
        refine hK _ _ ?_
        clear hK K
        refine wpAnyIn_ready (rs := [1, 4]) (by kernel_rfl) (by simp) ?_
        refine AllReadyIn.cons rfl (fun K hK => ?_) ?_
        · go_simp
          refine hK _ _ ?_
          clear hK K
          refine wpAnyIn_ready (rs := [2, 4]) (by kernel_rfl) (by simp) ?_
          refine AllReadyIn.cons rfl (fun K hK => ?_) ?_
          · refine step_call _ rfl 72 (.tmp 30) #[27] rfl (.agg #[.int .i64 t.1, .slice pk t.2.len ck]) rfl _ (enters_of Tryd.func72 (by kernel_rfl) rfl) (HCL.out _ ((Below.refl W'.heap.size W').drew)) ?_
            rintro e w4 ⟨r4, rfl, ⟨kv4, e4, hwf4, hkv4⟩, hb4⟩
            dsimp only at e4 hkv4
            subst e4
            have hkv4' := hkv4
            obtain ⟨pk4, ck4, rfl, _⟩ := hkv4'
            have hbw4 : Below W'.heap.size W' w4 := (((Below.refl W'.heap.size W').drew)).trans (hb4.mono (((Below.refl W'.heap.size W').drew)).size)
            have HBW4 := Lib.hid hbw4
            have HKV4 := Lib.hid (hkv4.mono (S' := fun c => W'.heap.size ≤ c ∧ c < w4.heap.size) (fun c hc h => ⟨Nat.le_trans (((Below.refl W'.heap.size W').drew)).size h, hc⟩))
            obtain ⟨z1, z3, z4, z2, z5⟩ := HST.out w4 hbw4
            refine ⟨_, rfl, ?_⟩
            clear hkv4 hb4 hbw4
            refine hK _ _ ?_
            clear hK K
            refine wpAnyIn_ready (rs := [4]) (by kernel_rfl) (by simp) ?_
            refine AllReadyIn.cons rfl (fun K hK => ?_) AllReadyIn.nil
            go_simp
            refine hK _ _ ?_
            clear hK K
            have HZB := Lib.hid (Blk.new w4 27 #[.int .i64 0, .slice none 0 0])
            refine wpAnyIn_ready (rs := [5]) (by kernel_rfl) (by simp) ?_
            refine AllReadyIn.cons rfl (fun K hK => ?_) AllReadyIn.nil
            have h4 : Below W'.heap.size W' (w4.alloc (.cells #[.int .i64 0, .slice none 0 0] 27)) := (HBW4.out.alloc HBW4.out.size (.cells #[.int .i64 0, .slice none 0 0] 27))
            refine step_zero_append (w4.alloc (.cells #[.int .i64 0, .slice none 0 0] 27)) rfl (.tmp 29) (.tmp 33) rfl w.heap.size (.slice pa j ca) j (dcells D) rfl (ownsRow_heap HAJ.out.own (fun g hg => h4.block g ((HAJ.out.own.lt g hg).2))) _ rfl HZB.out hj5 (by have := h4.size; omega) ?_
            intro v6 w6 ho6 hk6 hat6
            have HKF := Lib.hid (show IsHS (fun c => W'.heap.size ≤ c ∧ c < ((w4.alloc (.cells #[.int .i64 0, .slice none 0 0] 27))).heap.size) (w4.alloc (.cells #[.int .i64 0, .slice none 0 0] 27)) (.slice pk4 t.2.len ck4) t.2 from ((HKV4.out.kp ((Kp.refl _ _).alloc (.cells #[.int .i64 0, .slice none 0 0] 27))).mono (fun c hc h => ⟨h.1, by simp; omega⟩)))
            have H4 := Lib.hid h4
            have HK6 := Lib.hid hk6
            have HAT := Lib.hid hat6
            have HO6 := Lib.hid ho6
            rcases ho6.2 with ⟨_, hz⟩ | ⟨g6, cap6, cur6, rfl, hbg6, hg6, hcap6, hmax6, _, _⟩
            · omega
            have hb6 : Boxed w6 (w2.heap.size + 1) 25 (.slice pa j ca) := hk6.boxed (HBX.out _ h4) HNB.out
            have z1 := hb6.cell
            have z2 := hb6.lt
            have z7 := hb6.frozen
            have y0 : w6.cell? ⟨g6, j * 2, none⟩ = some (.int .i64 0) := by rw [ho6.cellAt _ (by omega)]; exact (za_at D j HAJ.out.len).1
            have y1 : w6.cell? ⟨g6, j * 2 + 1, none⟩ = some (.slice none 0 0) := by rw [ho6.cellAt _ (by omega)]; exact (za_at D j HAJ.out.len).2
            have y2 := ho6.frozenAt (j * 2)
            have y3 := ho6.frozenAt (j * 2 + 1)
            have y4 := (ho6.lt g6 rfl).2
            have hne6 : ¬ g6 = w2.heap.size + 1 := HNE.out g6 cap6 _ h4 hat6
            have hne7 : ¬ w2.heap.size + 1 = g6 := fun e => hne6 e.symm
            have HB6 := Lib.hid hb6
            have HLF : Hid (∀ w7, Kp (fun c => c ≠ w2.heap.size + 1 ∧ Value.ownBlock (.slice (some ⟨g6, 0, none⟩) (j + 1) cap6) ≠ some c) w6 w7 → Boxed w7 (w2.heap.size + 1) 25 (.slice (some ⟨g6, 0, none⟩) (j + 1) cap6) → w7.ownsRow w.heap.size 27 2 (.slice (some ⟨g6, 0, none⟩) (j + 1) cap6) (j + 1) (dcells (D ++ [(t.1, t.2, .slice pk4 t.2.len ck4)])) → ∃ C'', Grow C' W' C'' w7 ∧ ∃ D' va', AJ (TT ranks n) w.heap.size (w2.heap.size + 1) (j + 1) C'' w7 D' va') := Lib.hid (fun w7 ha hb hc => by
              obtain ⟨C'', h1, h2⟩ := HAJ.out.step htt HG.out.lt (Kp.of_below h4 (fun k hk _ => hk)) hwf HKF.out hk6 hat6 ha hb hc
              exact ⟨C'', h1, _, _, h2⟩)
            unfold maxLen at hmax6
            clear h4 hk6 hat6 ho6 hg6 hb6 z3 z4 z5
            refine hK _ _ ?_
            clear hK K
            refine wpAnyIn_ready (rs := [6, 8]) (by kernel_rfl) (by simp) ?_
            refine AllReadyIn.cons rfl (fun K hK => ?_) ?_
            · go_simp
              refine hK _ _ ?_
              clear hK K
              refine wpAnyIn_ready (rs := [7, 8]) (by kernel_rfl) (by simp) ?_
              refine AllReadyIn.cons rfl (fun K hK => ?_) ?_
              · go_simp
                refine hK _ _ ?_
                clear hK K
                refine wpAnyIn_ready (rs := [8]) (by kernel_rfl) (by simp) ?_
                refine AllReadyIn.cons rfl (fun K hK => ?_) AllReadyIn.nil
                go_simp
                refine hK _ _ ?_
                clear hK K
                refine wpAnyIn_done (by kernel_rfl) ?_ _
                gi_wp2
                exact HLF.out _ ((((Kp.refl _ _).setCell (fun h => absurd rfl h.2) _).setCell (fun h => absurd rfl h.2) _).setCell (fun h => absurd rfl h.1) _) ((boxed_far (boxed_far HB6.out (p := ⟨g6, j * 2, none⟩) hne7 _) (p := ⟨g6, j * 2 + 1, none⟩) hne7 _).set _) (ownsRow_heap (by rw [← za_set D j HAJ.out.len t.1 t.2 (.slice pk4 t.2.len ck4)]; exact (((HO6.out.stored (j * 2) (.int .i64 t.1)).1).stored (j * 2 + 1) (.slice pk4 t.2.len ck4)).1) (fun g hg => Below.heap_setCell _ _ _ _ (fun e => hne6 ((Option.some.inj (show some g6 = some g from hg)).trans e))))
              refine AllReadyIn.cons rfl (fun K hK => ?_) AllReadyIn.nil
              go_simp
              refine hK _ _ ?_
              clear hK K
              refine wpAnyIn_ready (rs := [7]) (by kernel_rfl) (by simp) ?_
              refine AllReadyIn.cons rfl (fun K hK => ?_) AllReadyIn.nil
              go_simp
              refine hK _ _ ?_
              clear hK K
              refine wpAnyIn_done (by kernel_rfl) ?_ _
              gi_wp2
              exact HLF.out _ ((((Kp.refl _ _).setCell (fun h => absurd rfl h.1) _).setCell (fun h => absurd rfl h.2) _).setCell (fun h => absurd rfl h.2) _) (boxed_far (boxed_far (HB6.out.set _) (p := ⟨g6, j * 2, none⟩) hne7 _) (p := ⟨g6, j * 2 + 1, none⟩) hne7 _) (by rw [← za_set D j HAJ.out.len t.1 t.2 (.slice pk4 t.2.len ck4)]; exact ((((ownsRow_heap HO6.out (fun g hg => Below.heap_setCell _ _ _ _ (fun e => hne6 ((Option.some.inj (show some g6 = some g from hg)).trans e)))).stored (j * 2) (.int .i64 t.1)).1).stored (j * 2 + 1) (.slice pk4 t.2.len ck4)).1)
            refine AllReadyIn.cons rfl (fun K hK => ?_) AllReadyIn.nil
            go_simp
            refine hK _ _ ?_
            clear hK K
            refine wpAnyIn_ready (rs := [6]) (by kernel_rfl) (by simp) ?_
            refine AllReadyIn.cons rfl (fun K hK => ?_) AllReadyIn.nil
            go_simp
            refine hK _ _ ?_
            clear hK K
            refine wpAnyIn_ready (rs := [7]) (by kernel_rfl) (by simp) ?_
            refine AllReadyIn.cons rfl (fun K hK => ?_) AllReadyIn.nil
            go_simp
            refine hK _ _ ?_
            clear hK K
            refine wpAnyIn_done (by kernel_rfl) ?_ _
            gi_wp2
            exact HLF.out _ ((((Kp.refl _ _).setCell (fun h => absurd rfl h.1) _).setCell (fun h => absurd rfl h.2) _).setCell (fun h => absurd rfl h.2) _) (boxed_far (boxed_far (HB6.out.set _) (p := ⟨g6, j * 2, none⟩) hne7 _) (p := ⟨g6, j * 2 + 1, none⟩) hne7 _) (by rw [← za_set D j HAJ.out.len t.1 t.2 (.slice pk4 t.2.len ck4)]; exact ((((ownsRow_heap HO6.out (fun g hg => Below.heap_setCell _ _ _ _ (fun e => hne6 ((Option.some.inj (show some g6 = some g from hg)).trans e)))).stored (j * 2) (.int .i64 t.1)).1).stored (j * 2 + 1) (.slice pk4 t.2.len ck4)).1)
          refine AllReadyIn.cons rfl (fun K hK => ?_) AllReadyIn.nil
          go_simp
          refine hK _ _ ?_
          clear hK K
          refine wpAnyIn_ready (rs := [2]) (by kernel_rfl) (by simp) ?_
          refine AllReadyIn.cons rfl (fun K hK => ?_) AllReadyIn.nil
          refine step_call _ rfl 72 (.tmp 30) #[27] rfl (.agg #[.int .i64 t.1, .slice pk t.2.len ck]) rfl _ (enters_of Tryd.func72 (by kernel_rfl) rfl) (HCL.out _ ((Below.refl W'.heap.size W').drew.alloc (Nat.le_refl _) (.cells #[.int .i64 0, .slice none 0 0] 27))) ?_
          rintro e w4 ⟨r4, rfl, ⟨kv4, e4, hwf4, hkv4⟩, hb4⟩
          dsimp only at e4 hkv4
          subst e4
          have hkv4' := hkv4
          obtain ⟨pk4, ck4, rfl, _⟩ := hkv4'
          have hbw4 : Below W'.heap.size W' w4 := (((Below.refl W'.heap.size W').drew.alloc (Nat.le_refl _) (.cells #[.int .i64 0, .slice none 0 0] 27))).trans (hb4.mono (((Below.refl W'.heap.size W').drew.alloc (Nat.le_refl _) (.cells #[.int .i64 0, .slice none 0 0] 27))).size)
          have HBW4 := Lib.hid hbw4
          have HKV4 := Lib.hid (hkv4.mono (S' := fun c => W'.heap.size ≤ c ∧ c < w4.heap.size) (fun c hc h => ⟨Nat.le_trans (((Below.refl W'.heap.size W').drew.alloc (Nat.le_refl _) (.cells #[.int .i64 0, .slice none 0 0] 27))).size h, hc⟩))
          obtain ⟨z1, z3, z4, z2, z5⟩ := HST.out w4 hbw4
          refine ⟨_, rfl, ?_⟩
          have HZB := Lib.hid ((Blk.new W'.drew 27 #[.int .i64 0, .slice none 0 0]).below hb4 (by simp))
          clear hkv4 hb4 hbw4
          refine hK _ _ ?_
          clear hK K
          refine wpAnyIn_ready (rs := [5]) (by kernel_rfl) (by simp) ?_
          refine AllReadyIn.cons rfl (fun K hK => ?_) AllReadyIn.nil
          have h4 : Below W'.heap.size W' w4 := HBW4.out
          refine step_zero_append w4 rfl (.tmp 29) (.tmp 33) rfl w.heap.size (.slice pa j ca) j (dcells D) rfl (ownsRow_heap HAJ.out.own (fun g hg => h4.block g ((HAJ.out.own.lt g hg).2))) _ rfl HZB.out hj5 (by have := h4.size; omega) ?_
          intro v6 w6 ho6 hk6 hat6
          have HKF := Lib.hid (show IsHS (fun c => W'.heap.size ≤ c ∧ c < (w4).heap.size) w4 (.slice pk4 t.2.len ck4) t.2 from HKV4.out)
          have H4 := Lib.hid h4
          have HK6 := Lib.hid hk6
          have HAT := Lib.hid hat6
          have HO6 := Lib.hid ho6
          rcases ho6.2 with ⟨_, hz⟩ | ⟨g6, cap6, cur6, rfl, hbg6, hg6, hcap6, hmax6, _, _⟩
          · omega
          have hb6 : Boxed w6 (w2.heap.size + 1) 25 (.slice pa j ca) := hk6.boxed (HBX.out _ h4) HNB.out
          have z1 := hb6.cell
          have z2 := hb6.lt
          have z7 := hb6.frozen
          have y0 : w6.cell? ⟨g6, j * 2, none⟩ = some (.int .i64 0) := by rw [ho6.cellAt _ (by omega)]; exact (za_at D j HAJ.out.len).1
          have y1 : w6.cell? ⟨g6, j * 2 + 1, none⟩ = some (.slice none 0 0) := by rw [ho6.cellAt _ (by omega)]; exact (za_at D j HAJ.out.len).2
          have y2 := ho6.frozenAt (j * 2)
          have y3 := ho6.frozenAt (j * 2 + 1)
          have y4 := (ho6.lt g6 rfl).2
          have hne6 : ¬ g6 = w2.heap.size + 1 := HNE.out g6 cap6 _ h4 hat6
          have hne7 : ¬ w2.heap.size + 1 = g6 := fun e => hne6 e.symm
          have HB6 := Lib.hid hb6
          have HLF : Hid (∀ w7, Kp (fun c => c ≠ w2.heap.size + 1 ∧ Value.ownBlock (.slice (some ⟨g6, 0, none⟩) (j + 1) cap6) ≠ some c) w6 w7 → Boxed w7 (w2.heap.size + 1) 25 (.slice (some ⟨g6, 0, none⟩) (j + 1) cap6) → w7.ownsRow w.heap.size 27 2 (.slice (some ⟨g6, 0, none⟩) (j + 1) cap6) (j + 1) (dcells (D ++ [(t.1, t.2, .slice pk4 t.2.len ck4)])) → ∃ C'', Grow C' W' C'' w7 ∧ ∃ D' va', AJ (TT ranks n) w.heap.size (w2.heap.size + 1) (j + 1) C'' w7 D' va') := Lib.hid (fun w7 ha hb hc => by
            obtain ⟨C'', h1, h2⟩ := HAJ.out.step htt HG.out.lt (Kp.of_below h4 (fun k hk _ => hk)) hwf HKF.out hk6 hat6 ha hb hc
            exact ⟨C'', h1, _, _, h2⟩)
          unfold maxLen at hmax6
          clear h4 hk6 hat6 ho6 hg6 hb6 z3 z4 z5
          refine hK _ _ ?_
          clear hK K
          refine wpAnyIn_ready (rs := [6, 8]) (by kernel_rfl) (by simp) ?_
          refine AllReadyIn.cons rfl (fun K hK => ?_) ?_
          · go_simp
            refine hK _ _ ?_
            clear hK K
            refine wpAnyIn_ready (rs := [7, 8]) (by kernel_rfl) (by simp) ?_
            refine AllReadyIn.cons rfl (fun K hK => ?_) ?_
            · go_simp
              refine hK _ _ ?_
              clear hK K
              refine wpAnyIn_ready (rs := [8]) (by kernel_rfl) (by simp) ?_
              refine AllReadyIn.cons rfl (fun K hK => ?_) AllReadyIn.nil
              go_simp
              refine hK _ _ ?_
              clear hK K
              refine wpAnyIn_done (by kernel_rfl) ?_ _
              gi_wp2
              exact HLF.out _ ((((Kp.refl _ _).setCell (fun h => absurd rfl h.2) _).setCell (fun h => absurd rfl h.2) _).setCell (fun h => absurd rfl h.1) _) ((boxed_far (boxed_far HB6.out (p := ⟨g6, j * 2, none⟩) hne7 _) (p := ⟨g6, j * 2 + 1, none⟩) hne7 _).set _) (ownsRow_heap (by rw [← za_set D j HAJ.out.len t.1 t.2 (.slice pk4 t.2.len ck4)]; exact (((HO6.out.stored (j * 2) (.int .i64 t.1)).1).stored (j * 2 + 1) (.slice pk4 t.2.len ck4)).1) (fun g hg => Below.heap_setCell _ _ _ _ (fun e => hne6 ((Option.some.inj (show some g6 = some g from hg)).trans e))))
            refine AllReadyIn.cons rfl (fun K hK => ?_) AllReadyIn.nil
            go_simp
            refine hK _ _ ?_
            clear hK K
            refine wpAnyIn_ready (rs := [7]) (by kernel_rfl) (by simp) ?_
            refine AllReadyIn.cons rfl (fun K hK => ?_) AllReadyIn.nil
            go_simp
            refine hK _ _ ?_
            clear hK K
            refine wpAnyIn_done (by kernel_rfl) ?_ _
            gi_wp2
            exact HLF.out _ ((((Kp.refl _ _).setCell (fun h => absurd rfl h.1) _).setCell (fun h => absurd rfl h.2) _).setCell (fun h => absurd rfl h.2) _) (boxed_far (boxed_far (HB6.out.set _) (p := ⟨g6, j * 2, none⟩) hne7 _) (p := ⟨g6, j * 2 + 1, none⟩) hne7 _) (by rw [← za_set D j HAJ.out.len t.1 t.2 (.slice pk4 t.2.len ck4)]; exact ((((ownsRow_heap HO6.out (fun g hg => Below.heap_setCell _ _ _ _ (fun e => hne6 ((Option.some.inj (show some g6 = some g from hg)).trans e)))).stored (j * 2) (.int .i64 t.1)).1).stored (j * 2 + 1) (.slice pk4 t.2.len ck4)).1)
          refine AllReadyIn.cons rfl (fun K hK => ?_) AllReadyIn.nil
          go_simp
          refine hK _ _ ?_
          clear hK K
          refine wpAnyIn_ready (rs := [6]) (by kernel_rfl) (by simp) ?_
          refine AllReadyIn.cons rfl (fun K hK => ?_) AllReadyIn.nil
          go_simp
          refine hK _ _ ?_
          clear hK K
          refine wpAnyIn_ready (rs := [7]) (by kernel_rfl) (by simp) ?_
          refine AllReadyIn.cons rfl (fun K hK => ?_) AllReadyIn.nil
          go_simp
          refine hK _ _ ?_
          clear hK K
          refine wpAnyIn_done (by kernel_rfl) ?_ _
          gi_wp2
          exact HLF.out _ ((((Kp.refl _ _).setCell (fun h => absurd rfl h.1) _).setCell (fun h => absurd rfl h.2) _).setCell (fun h => absurd rfl h.2) _) (boxed_far (boxed_far (HB6.out.set _) (p := ⟨g6, j * 2, none⟩) hne7 _) (p := ⟨g6, j * 2 + 1, none⟩) hne7 _) (by rw [← za_set D j HAJ.out.len t.1 t.2 (.slice pk4 t.2.len ck4)]; exact ((((ownsRow_heap HO6.out (fun g hg => Below.heap_setCell _ _ _ _ (fun e => hne6 ((Option.some.inj (show some g6 = some g from hg)).trans e)))).stored (j * 2) (.int .i64 t.1)).1).stored (j * 2 + 1) (.slice pk4 t.2.len ck4)).1)
        refine AllReadyIn.cons rfl (fun K hK => ?_) AllReadyIn.nil
        go_simp
        refine hK _ _ ?_
        clear hK K
        refine wpAnyIn_ready (rs := [1]) (by kernel_rfl) (by simp) ?_
        refine AllReadyIn.cons rfl (fun K hK => ?_) AllReadyIn.nil
        go_simp
        refine hK _ _ ?_
        clear hK K
        refine wpAnyIn_ready (rs := [2]) (by kernel_rfl) (by simp) ?_
        refine AllReadyIn.cons rfl (fun K hK => ?_) AllReadyIn.nil
        refine step_call _ rfl 72 (.tmp 30) #[27] rfl (.agg #[.int .i64 t.1, .slice pk t.2.len ck]) rfl _ (enters_of Tryd.func72 (by kernel_rfl) rfl) (HCL.out _ ((Below.refl W'.heap.size W').drew.alloc (Nat.le_refl _) (.cells #[.int .i64 0, .slice none 0 0] 27))) ?_
        rintro e w4 ⟨r4, rfl, ⟨kv4, e4, hwf4, hkv4⟩, hb4⟩
        dsimp only at e4 hkv4
        subst e4
        have hkv4' := hkv4
        obtain ⟨pk4, ck4, rfl, _⟩ := hkv4'
        have hbw4 : Below W'.heap.size W' w4 := (((Below.refl W'.heap.size W').drew.alloc (Nat.le_refl _) (.cells #[.int .i64 0, .slice none 0 0] 27))).trans (hb4.mono (((Below.refl W'.heap.size W').drew.alloc (Nat.le_refl _) (.cells #[.int .i64 0, .slice none 0 0] 27))).size)
        have HBW4 := Lib.hid hbw4
        have HKV4 := Lib.hid (hkv4.mono (S' := fun c => W'.heap.size ≤ c ∧ c < w4.heap.size) (fun c hc h => ⟨Nat.le_trans (((Below.refl W'.heap.size W').drew.alloc (Nat.le_refl _) (.cells #[.int .i64 0, .slice none 0 0] 27))).size h, hc⟩))
        obtain ⟨z1, z3, z4, z2, z5⟩ := HST.out w4 hbw4
        refine ⟨_, rfl, ?_⟩
        have HZB := Lib.hid ((Blk.new W'.drew 27 #[.int .i64 0, .slice none 0 0]).below hb4 (by simp))
        clear hkv4 hb4 hbw4
        refine hK _ _ ?_
        clear hK K
        refine wpAnyIn_ready (rs := [5]) (by kernel_rfl) (by simp) ?_
        refine AllReadyIn.cons rfl (fun K hK => ?_) AllReadyIn.nil
        have h4 : Below W'.heap.size W' w4 := HBW4.out
        refine step_zero_append w4 rfl (.tmp 29) (.tmp 33) rfl w.heap.size (.slice pa j ca) j (dcells D) rfl (ownsRow_heap HAJ.out.own (fun g hg => h4.block g ((HAJ.out.own.lt g hg).2))) _ rfl HZB.out hj5 (by have := h4.size; omega) ?_
        intro v6 w6 ho6 hk6 hat6
        have HKF := Lib.hid (show IsHS (fun c => W'.heap.size ≤ c ∧ c < (w4).heap.size) w4 (.slice pk4 t.2.len ck4) t.2 from HKV4.out)
        have H4 := Lib.hid h4
        have HK6 := Lib.hid hk6
        have HAT := Lib.hid hat6
        have HO6 := Lib.hid ho6
        rcases ho6.2 with ⟨_, hz⟩ | ⟨g6, cap6, cur6, rfl, hbg6, hg6, hcap6, hmax6, _, _⟩
        · omega
        have hb6 : Boxed w6 (w2.heap.size + 1) 25 (.slice pa j ca) := hk6.boxed (HBX.out _ h4) HNB.out
        have z1 := hb6.cell
        have z2 := hb6.lt
        have z7 := hb6.frozen
        have y0 : w6.cell? ⟨g6, j * 2, none⟩ = some (.int .i64 0) := by rw [ho6.cellAt _ (by omega)]; exact (za_at D j HAJ.out.len).1
        have y1 : w6.cell? ⟨g6, j * 2 + 1, none⟩ = some (.slice none 0 0) := by rw [ho6.cellAt _ (by omega)]; exact (za_at D j HAJ.out.len).2
        have y2 := ho6.frozenAt (j * 2)
        have y3 := ho6.frozenAt (j * 2 + 1)
        have y4 := (ho6.lt g6 rfl).2
        have hne6 : ¬ g6 = w2.heap.size + 1 := HNE.out g6 cap6 _ h4 hat6
        have hne7 : ¬ w2.heap.size + 1 = g6 := fun e => hne6 e.symm
        have HB6 := Lib.hid hb6
        have HLF : Hid (∀ w7, Kp (fun c => c ≠ w2.heap.size + 1 ∧ Value.ownBlock (.slice (some ⟨g6, 0, none⟩) (j + 1) cap6) ≠ some c) w6 w7 → Boxed w7 (w2.heap.size + 1) 25 (.slice (some ⟨g6, 0, none⟩) (j + 1) cap6) → w7.ownsRow w.heap.size 27 2 (.slice (some ⟨g6, 0, none⟩) (j + 1) cap6) (j + 1) (dcells (D ++ [(t.1, t.2, .slice pk4 t.2.len ck4)])) → ∃ C'', Grow C' W' C'' w7 ∧ ∃ D' va', AJ (TT ranks n) w.heap.size (w2.heap.size + 1) (j + 1) C'' w7 D' va') := Lib.hid (fun w7 ha hb hc => by
          obtain ⟨C'', h1, h2⟩ := HAJ.out.step htt HG.out.lt (Kp.of_below h4 (fun k hk _ => hk)) hwf HKF.out hk6 hat6 ha hb hc
          exact ⟨C'', h1, _, _, h2⟩)
        unfold maxLen at hmax6
        clear h4 hk6 hat6 ho6 hg6 hb6 z3 z4 z5
        refine hK _ _ ?_
        clear hK K
        refine wpAnyIn_ready (rs := [6, 8]) (by kernel_rfl) (by simp) ?_
        refine AllReadyIn.cons rfl (fun K hK => ?_) ?_
        · go_simp
          refine hK _ _ ?_
          clear hK K
          refine wpAnyIn_ready (rs := [7, 8]) (by kernel_rfl) (by simp) ?_
          refine AllReadyIn.cons rfl (fun K hK => ?_) ?_
          · go_simp
            refine hK _ _ ?_
            clear hK K
            refine wpAnyIn_ready (rs := [8]) (by kernel_rfl) (by simp) ?_
            refine AllReadyIn.cons rfl (fun K hK => ?_) AllReadyIn.nil
            go_simp
            refine hK _ _ ?_
            clear hK K
            refine wpAnyIn_done (by kernel_rfl) ?_ _
            gi_wp2
            exact HLF.out _ ((((Kp.refl _ _).setCell (fun h => absurd rfl h.2) _).setCell (fun h => absurd rfl h.2) _).setCell (fun h => absurd rfl h.1) _) ((boxed_far (boxed_far HB6.out (p := ⟨g6, j * 2, none⟩) hne7 _) (p := ⟨g6, j * 2 + 1, none⟩) hne7 _).set _) (ownsRow_heap (by rw [← za_set D j HAJ.out.len t.1 t.2 (.slice pk4 t.2.len ck4)]; exact (((HO6.out.stored (j * 2) (.int .i64 t.1)).1).stored (j * 2 + 1) (.slice pk4 t.2.len ck4)).1) (fun g hg => Below.heap_setCell _ _ _ _ (fun e => hne6 ((Option.some.inj (show some g6 = some g from hg)).trans e))))
          refine AllReadyIn.cons rfl (fun K hK => ?_) AllReadyIn.nil
          go_simp
          refine hK _ _ ?_
          clear hK K
          refine wpAnyIn_ready (rs := [7]) (by kernel_rfl) (by simp) ?_
          refine AllReadyIn.cons rfl (fun K hK => ?_) AllReadyIn.nil
          go_simp
          refine hK _ _ ?_
          clear hK K
          refine wpAnyIn_done (by kernel_rfl) ?_ _
          gi_wp2
          exact HLF.out _ ((((Kp.refl _ _).setCell (fun h => absurd rfl h.1) _).setCell (fun h => absurd rfl h.2) _).setCell (fun h => absurd rfl h.2) _) (boxed_far (boxed_far (HB6.out.set _) (p := ⟨g6, j * 2, none⟩) hne7 _) (p := ⟨g6, j * 2 + 1, none⟩) hne7 _) (by rw [← za_set D j HAJ.out.len t.1 t.2 (.slice pk4 t.2.len ck4)]; exact ((((ownsRow_heap HO6.out (fun g hg => Below.heap_setCell _ _ _ _ (fun e => hne6 ((Option.some.inj (show some g6 = some g from hg)).trans e)))).stored (j * 2) (.int .i64 t.1)).1).stored (j * 2 + 1) (.slice pk4 t.2.len ck4)).1)
        refine AllReadyIn.cons rfl (fun K hK => ?_) AllReadyIn.nil
        go_simp
        refine hK _ _ ?_
        clear hK K
        refine wpAnyIn_ready (rs := [6]) (by kernel_rfl) (by simp) ?_
        refine AllReadyIn.cons rfl (fun K hK => ?_) AllReadyIn.nil
        go_simp
        refine hK _ _ ?_
        clear hK K
        refine wpAnyIn_ready (rs := [7]) (by kernel_rfl) (by simp) ?_
        refine AllReadyIn.cons rfl (fun K hK => ?_) AllReadyIn.nil
        go_simp
        refine hK _ _ ?_
        clear hK K
        refine wpAnyIn_done (by kernel_rfl) ?_ _
        gi_wp2
        exact HLF.out _ ((((Kp.refl _ _).setCell (fun h => absurd rfl h.1) _).setCell (fun h => absurd rfl h.2) _).setCell (fun h => absurd rfl h.2) _) (boxed_far (boxed_far (HB6.out.set _) (p := ⟨g6, j * 2, none⟩) hne7 _) (p := ⟨g6, j * 2 + 1, none⟩) hne7 _) (by rw [← za_set D j HAJ.out.len t.1 t.2 (.slice pk4 t.2.len ck4)]; exact ((((ownsRow_heap HO6.out (fun g hg => Below.heap_setCell _ _ _ _ (fun e => hne6 ((Option.some.inj (show some g6 = some g from hg)).trans e)))).stored (j * 2) (.int .i64 t.1)).1).stored (j * 2 + 1) (.slice pk4 t.2.len ck4)).1)
      refine AllReadyIn.cons rfl (fun K hK => ?_) AllReadyIn.nil
      go_simp
      refine hK _ _ ?_
      clear hK K
      refine wpAnyIn_ready (rs := [1, 3]) (by kernel_rfl) (by simp) ?_
      refine AllReadyIn.cons rfl (fun K hK => ?_) ?_
      · go_simp
        refine hK _ _ ?_
        clear hK K
        refine wpAnyIn_ready (rs := [2, 3]) (by kernel_rfl) (by simp) ?_
        refine AllReadyIn.cons rfl (fun K hK => ?_) ?_
        · refine step_call _ rfl 72 (.tmp 30) #[27] rfl (.agg #[.int .i64 t.1, .slice pk t.2.len ck]) rfl _ (enters_of Tryd.func72 (by kernel_rfl) rfl) (HCL.out _ ((Below.refl W'.heap.size W').drew.alloc (Nat.le_refl _) (.cells #[.int .i64 0, .slice none 0 0] 27))) ?_
          rintro e w4 ⟨r4, rfl, ⟨kv4, e4, hwf4, hkv4⟩, hb4⟩
          dsimp only at e4 hkv4
          subst e4
          have hkv4' := hkv4
          obtain ⟨pk4, ck4, rfl, _⟩ := hkv4'
          have hbw4 : Below W'.heap.size W' w4 := (((Below.refl W'.heap.size W').drew.alloc (Nat.le_refl _) (.cells #[.int .i64 0, .slice none 0 0] 27))).trans (hb4.mono (((Below.refl W'.heap.size W').drew.alloc (Nat.le_refl _) (.cells #[.int .i64 0, .slice none 0 0] 27))).size)
          have HBW4 := Lib.hid hbw4
          have HKV4 := Lib.hid (hkv4.mono (S' := fun c => W'.heap.size ≤ c ∧ c < w4.heap.size) (fun c hc h => ⟨Nat.le_trans (((Below.refl W'.heap.size W').drew.alloc (Nat.le_refl _) (.cells #[.int .i64 0, .slice none 0 0] 27))).size h, hc⟩))
          obtain ⟨z1, z3, z4, z2, z5⟩ := HST.out w4 hbw4
          refine ⟨_, rfl, ?_⟩
          have HZB := Lib.hid ((Blk.new W'.drew 27 #[.int .i64 0, .slice none 0 0]).below hb4 (by simp))
          clear hkv4 hb4 hbw4
          refine hK _ _ ?_
          clear hK K
          refine wpAnyIn_ready (rs := [3]) (by kernel_rfl) (by simp) ?_
          refine AllReadyIn.cons rfl (fun K hK => ?_) AllReadyIn.nil
          go_simp
          refine hK _ _ ?_
          clear hK K
          refine wpAnyIn_ready (rs := [5]) (by kernel_rfl) (by simp) ?_
          refine AllReadyIn.cons rfl (fun K hK => ?_) AllReadyIn.nil
          have h4 : Below W'.heap.size W' w4 := HBW4.out
          refine step_zero_append w4 rfl (.tmp 29) (.tmp 33) rfl w.heap.size (.slice pa j ca) j (dcells D) rfl (ownsRow_heap HAJ.out.own (fun g hg => h4.block g ((HAJ.out.own.lt g hg).2))) _ rfl HZB.out hj5 (by have := h4.size; omega) ?_
          intro v6 w6 ho6 hk6 hat6
          have HKF := Lib.hid (show IsHS (fun c => W'.heap.size ≤ c ∧ c < (w4).heap.size) w4 (.slice pk4 t.2.len ck4) t.2 from HKV4.out)
          have H4 := Lib.hid h4
          have HK6 := Lib.hid hk6
          have HAT := Lib.hid hat6
          have HO6 := Lib.hid ho6
          rcases ho6.2 with ⟨_, hz⟩ | ⟨g6, cap6, cur6, rfl, hbg6, hg6, hcap6, hmax6, _, _⟩
          · omega
          have hb6 : Boxed w6 (w2.heap.size + 1) 25 (.slice pa j ca) := hk6.boxed (HBX.out _ h4) HNB.out
          have z1 := hb6.cell
          have z2 := hb6.lt
          have z7 := hb6.frozen
          have y0 : w6.cell? ⟨g6, j * 2, none⟩ = some (.int .i64 0) := by rw [ho6.cellAt _ (by omega)]; exact (za_at D j HAJ.out.len).1
          have y1 : w6.cell? ⟨g6, j * 2 + 1, none⟩ = some (.slice none 0 0) := by rw [ho6.cellAt _ (by omega)]; exact (za_at D j HAJ.out.len).2
          have y2 := ho6.frozenAt (j * 2)
          have y3 := ho6.frozenAt (j * 2 + 1)
          have y4 := (ho6.lt g6 rfl).2
          have hne6 : ¬ g6 = w2.heap.size + 1 := HNE.out g6 cap6 _ h4 hat6
          have hne7 : ¬ w2.heap.size + 1 = g6 := fun e => hne6 e.symm
          have HB6 := Lib.hid hb6
          have HLF : Hid (∀ w7, Kp (fun c => c ≠ w2.heap.size + 1 ∧ Value.ownBlock (.slice (some ⟨g6, 0, none⟩) (j + 1) cap6) ≠ some c) w6 w7 → Boxed w7 (w2.heap.size + 1) 25 (.slice (some ⟨g6, 0, none⟩) (j + 1) cap6) → w7.ownsRow w.heap.size 27 2 (.slice (some ⟨g6, 0, none⟩) (j + 1) cap6) (j + 1) (dcells (D ++ [(t.1, t.2, .slice pk4 t.2.len ck4)])) → ∃ C'', Grow C' W' C'' w7 ∧ ∃ D' va', AJ (TT ranks n) w.heap.size (w2.heap.size + 1) (j + 1) C'' w7 D' va') := Lib.hid (fun w7 ha hb hc => by
            obtain ⟨C'', h1, h2⟩ := HAJ.out.step htt HG.out.lt (Kp.of_below h4 (fun k hk _ => hk)) hwf HKF.out hk6 hat6 ha hb hc
            exact ⟨C'', h1, _, _, h2⟩)
          unfold maxLen at hmax6
          clear h4 hk6 hat6 ho6 hg6 hb6 z3 z4 z5
          refine hK _ _ ?_
          clear hK K
          refine wpAnyIn_ready (rs := [6, 8]) (by kernel_rfl) (by simp) ?_
          refine AllReadyIn.cons rfl (fun K hK => ?_) ?_
          · go_simp
            refine hK _ _ ?_
            clear hK K
            refine wpAnyIn_ready (rs := [7, 8]) (by kernel_rfl) (by simp) ?_
            refine AllReadyIn.cons rfl (fun K hK => ?_) ?_
            · go_simp
              refine hK _ _ ?_
              clear hK K
              refine wpAnyIn_ready (rs := [8]) (by kernel_rfl) (by simp) ?_
              refine AllReadyIn.cons rfl (fun K hK => ?_) AllReadyIn.nil
              go_simp
              refine hK _ _ ?_
              clear hK K
              refine wpAnyIn_done (by kernel_rfl) ?_ _
              gi_wp2
              exact HLF.out _ ((((Kp.refl _ _).setCell (fun h => absurd rfl h.2) _).setCell (fun h => absurd rfl h.2) _).setCell (fun h => absurd rfl h.1) _) ((boxed_far (boxed_far HB6.out (p := ⟨g6, j * 2, none⟩) hne7 _) (p := ⟨g6, j * 2 + 1, none⟩) hne7 _).set _) (ownsRow_heap (by rw [← za_set D j HAJ.out.len t.1 t.2 (.slice pk4 t.2.len ck4)]; exact (((HO6.out.stored (j * 2) (.int .i64 t.1)).1).stored (j * 2 + 1) (.slice pk4 t.2.len ck4)).1) (fun g hg => Below.heap_setCell _ _ _ _ (fun e => hne6 ((Option.some.inj (show some g6 = some g from hg)).trans e))))
            refine AllReadyIn.cons rfl (fun K hK => ?_) AllReadyIn.nil
            go_simp
            refine hK _ _ ?_
            clear hK K
            refine wpAnyIn_ready (rs := [7]) (by kernel_rfl) (by simp) ?_
            refine AllReadyIn.cons rfl (fun K hK => ?_) AllReadyIn.nil
            go_simp
            refine hK _ _ ?_
            clear hK K
            refine wpAnyIn_done (by kernel_rfl) ?_ _
            gi_wp2
            exact HLF.out _ ((((Kp.refl _ _).setCell (fun h => absurd rfl h.1) _).setCell (fun h => absurd rfl h.2) _).setCell (fun h => absurd rfl h.2) _) (boxed_far (boxed_far (HB6.out.set _) (p := ⟨g6, j * 2, none⟩) hne7 _) (p := ⟨g6, j * 2 + 1, none⟩) hne7 _) (by rw [← za_set D j HAJ.out.len t.1 t.2 (.slice pk4 t.2.len ck4)]; exact ((((ownsRow_heap HO6.out (fun g hg => Below.heap_setCell _ _ _ _ (fun e => hne6 ((Option.some.inj (show some g6 = some g from hg)).trans e)))).stored (j * 2) (.int .i64 t.1)).1).stored (j * 2 + 1) (.slice pk4 t.2.len ck4)).1)
          refine AllReadyIn.cons rfl (fun K hK => ?_) AllReadyIn.nil
          go_simp
          refine hK _ _ ?_
          clear hK K
          refine wpAnyIn_ready (rs := [6]) (by kernel_rfl) (by simp) ?_
          refine AllReadyIn.cons rfl (fun K hK => ?_) AllReadyIn.nil
          go_simp
          refine hK _ _ ?_
          clear hK K
          refine wpAnyIn_ready (rs := [7]) (by kernel_rfl) (by simp) ?_
          refine AllReadyIn.cons rfl (fun K hK => ?_) AllReadyIn.nil
          go_simp
          refine hK _ _ ?_
          clear hK K
          refine wpAnyIn_done (by kernel_rfl) ?_ _
          gi_wp2
          exact HLF.out _ ((((Kp.refl _ _).setCell (fun h => absurd rfl h.1) _).setCell (fun h => absurd rfl h.2) _).setCell (fun h => absurd rfl h.2) _) (boxed_far (boxed_far (HB6.out.set _) (p := ⟨g6, j * 2, none⟩) hne7 _) (p := ⟨g6, j * 2 + 1, none⟩) hne7 _) (by rw [← za_set D j HAJ.out.len t.1 t.2 (.slice pk4 t.2.len ck4)]; exact ((((ownsRow_heap HO6.out (fun g hg => Below.heap_setCell _ _ _ _ (fun e => hne6 ((Option.some.inj (show some g6 = some g from hg)).trans e)))).stored (j * 2) (.int .i64 t.1)).1).stored (j * 2 + 1) (.slice pk4 t.2.len ck4)).1)
        refine AllReadyIn.cons rfl (fun K hK => ?_) AllReadyIn.nil
        go_simp
        refine hK _ _ ?_
        clear hK K
        refine wpAnyIn_ready (rs := [2]) (by kernel_rfl) (by simp) ?_
        refine AllReadyIn.cons rfl (fun K hK => ?_) AllReadyIn.nil
        refine step_call _ rfl 72 (.tmp 30) #[27] rfl (.agg #[.int .i64 t.1, .slice pk t.2.len ck]) rfl _ (enters_of Tryd.func72 (by kernel_rfl) rfl) (HCL.out _ ((Below.refl W'.heap.size W').drew.alloc (Nat.le_refl _) (.cells #[.int .i64 0, .slice none 0 0] 27))) ?_
        rintro e w4 ⟨r4, rfl, ⟨kv4, e4, hwf4, hkv4⟩, hb4⟩
        dsimp only at e4 hkv4
        subst e4
        have hkv4' := hkv4
        obtain ⟨pk4, ck4, rfl, _⟩ := hkv4'
        have hbw4 : Below W'.heap.size W' w4 := (((Below.refl W'.heap.size W').drew.alloc (Nat.le_refl _) (.cells #[.int .i64 0, .slice none 0 0] 27))).trans (hb4.mono (((Below.refl W'.heap.size W').drew.alloc (Nat.le_refl _) (.cells #[.int .i64 0, .slice none 0 0] 27))).size)
        have HBW4 := Lib.hid hbw4
        have HKV4 := Lib.hid (hkv4.mono (S' := fun c => W'.heap.size ≤ c ∧ c < w4.heap.size) (fun c hc h => ⟨Nat.le_trans (((Below.refl W'.heap.size W').drew.alloc (Nat.le_refl _) (.cells #[.int .i64 0, .slice none 0 0] 27))).size h, hc⟩))
        obtain ⟨z1, z3, z4, z2, z5⟩ := HST.out w4 hbw4
        refine ⟨_, rfl, ?_⟩
        have HZB := Lib.hid ((Blk.new W'.drew 27 #[.int .i64 0, .slice none 0 0]).below hb4 (by simp))
        clear hkv4 hb4 hbw4
        refine hK _ _ ?_
        clear hK K
        refine wpAnyIn_ready (rs := [5]) (by kernel_rfl) (by simp) ?_
        refine AllReadyIn.cons rfl (fun K hK => ?_) AllReadyIn.nil
        have h4 : Below W'.heap.size W' w4 := HBW4.out
        refine step_zero_append w4 rfl (.tmp 29) (.tmp 33) rfl w.heap.size (.slice pa j ca) j (dcells D) rfl (ownsRow_heap HAJ.out.own (fun g hg => h4.block g ((HAJ.out.own.lt g hg).2))) _ rfl HZB.out hj5 (by have := h4.size; omega) ?_
        intro v6 w6 ho6 hk6 hat6
        have HKF := Lib.hid (show IsHS (fun c => W'.heap.size ≤ c ∧ c < (w4).heap.size) w4 (.slice pk4 t.2.len ck4) t.2 from HKV4.out)
        have H4 := Lib.hid h4
        have HK6 := Lib.hid hk6
        have HAT := Lib.hid hat6
        have HO6 := Lib.hid ho6
        rcases ho6.2 with ⟨_, hz⟩ | ⟨g6, cap6, cur6, rfl, hbg6, hg6, hcap6, hmax6, _, _⟩
        · omega
        have hb6 : Boxed w6 (w2.heap.size + 1) 25 (.slice pa j ca) := hk6.boxed (HBX.out _ h4) HNB.out
        have z1 := hb6.cell
        have z2 := hb6.lt
        have z7 := hb6.frozen
        have y0 : w6.cell? ⟨g6, j * 2, none⟩ = some (.int .i64 0) := by rw [ho6.cellAt _ (by omega)]; exact (za_at D j HAJ.out.len).1
        have y1 : w6.cell? ⟨g6, j * 2 + 1, none⟩ = some (.slice none 0 0) := by rw [ho6.cellAt _ (by omega)]; exact (za_at D j HAJ.out.len).2
        have y2 := ho6.frozenAt (j * 2)
        have y3 := ho6.frozenAt (j * 2 + 1)
        have y4 := (ho6.lt g6 rfl).2
        have hne6 : ¬ g6 = w2.heap.size + 1 := HNE.out g6 cap6 _ h4 hat6
        have hne7 : ¬ w2.heap.size + 1 = g6 := fun e => hne6 e.symm
        have HB6 := Lib.hid hb6
        have HLF : Hid (∀ w7, Kp (fun c => c ≠ w2.heap.size + 1 ∧ Value.ownBlock (.slice (some ⟨g6, 0, none⟩) (j + 1) cap6) ≠ some c) w6 w7 → Boxed w7 (w2.heap.size + 1) 25 (.slice (some ⟨g6, 0, none⟩) (j + 1) cap6) → w7.ownsRow w.heap.size 27 2 (.slice (some ⟨g6, 0, none⟩) (j + 1) cap6) (j + 1) (dcells (D ++ [(t.1, t.2, .slice pk4 t.2.len ck4)])) → ∃ C'', Grow C' W' C'' w7 ∧ ∃ D' va', AJ (TT ranks n) w.heap.size (w2.heap.size + 1) (j + 1) C'' w7 D' va') := Lib.hid (fun w7 ha hb hc => by
          obtain ⟨C'', h1, h2⟩ := HAJ.out.step htt HG.out.lt (Kp.of_below h4 (fun k hk _ => hk)) hwf HKF.out hk6 hat6 ha hb hc
          exact ⟨C'', h1, _, _, h2⟩)
        unfold maxLen at hmax6
        clear h4 hk6 hat6 ho6 hg6 hb6 z3 z4 z5
        refine hK _ _ ?_
        clear hK K
        refine wpAnyIn_ready (rs := [6, 8]) (by kernel_rfl) (by simp) ?_
        refine AllReadyIn.cons rfl (fun K hK => ?_) ?_
        · go_simp
          refine hK _ _ ?_
          clear hK K
          refine wpAnyIn_ready (rs := [7, 8]) (by kernel_rfl) (by simp) ?_
          refine AllReadyIn.cons rfl (fun K hK => ?_) ?_
          · go_simp
            refine hK _ _ ?_
            clear hK K
            refine wpAnyIn_ready (rs := [8]) (by kernel_rfl) (by simp) ?_
            refine AllReadyIn.cons rfl (fun K hK => ?_) AllReadyIn.nil
            go_simp
            refine hK _ _ ?_
            clear hK K
            refine wpAnyIn_done (by kernel_rfl) ?_ _
            gi_wp2
            exact HLF.out _ ((((Kp.refl _ _).setCell (fun h => absurd rfl h.2) _).setCell (fun h => absurd rfl h.2) _).setCell (fun h => absurd rfl h.1) _) ((boxed_far (boxed_far HB6.out (p := ⟨g6, j * 2, none⟩) hne7 _) (p := ⟨g6, j * 2 + 1, none⟩) hne7 _).set _) (ownsRow_heap (by rw [← za_set D j HAJ.out.len t.1 t.2 (.slice pk4 t.2.len ck4)]; exact (((HO6.out.stored (j * 2) (.int .i64 t.1)).1).stored (j * 2 + 1) (.slice pk4 t.2.len ck4)).1) (fun g hg => Below.heap_setCell _ _ _ _ (fun e => hne6 ((Option.some.inj (show some g6 = some g from hg)).trans e))))
          refine AllReadyIn.cons rfl (fun K hK => ?_) AllReadyIn.nil
          go_simp
          refine hK _ _ ?_
          clear hK K
          refine wpAnyIn_ready (rs := [7]) (by kernel_rfl) (by simp) ?_
          refine AllReadyIn.cons rfl (fun K hK => ?_) AllReadyIn.nil
          go_simp
          refine hK _ _ ?_
          clear hK K
          refine wpAnyIn_done (by kernel_rfl) ?_ _
          gi_wp2
          exact HLF.out _ ((((Kp.refl _ _).setCell (fun h => absurd rfl h.1) _).setCell (fun h => absurd rfl h.2) _).setCell (fun h => absurd rfl h.2) _) (boxed_far (boxed_far (HB6.out.set _) (p := ⟨g6, j * 2, none⟩) hne7 _) (p := ⟨g6, j * 2 + 1, none⟩) hne7 _) (by rw [← za_set D j HAJ.out.len t.1 t.2 (.slice pk4 t.2.len ck4)]; exact ((((ownsRow_heap HO6.out (fun g hg => Below.heap_setCell _ _ _ _ (fun e => hne6 ((Option.some.inj (show some g6 = some g from hg)).trans e)))).stored (j * 2) (.int .i64 t.1)).1).stored (j * 2 + 1) (.slice pk4 t.2.len ck4)).1)
        refine AllReadyIn.cons rfl (fun K hK => ?_) AllReadyIn.nil
        go_simp
        refine hK _ _ ?_
        clear hK K
        refine wpAnyIn_ready (rs := [6]) (by kernel_rfl) (by simp) ?_
        refine AllReadyIn.cons rfl (fun K hK => ?_) AllReadyIn.nil
        go_simp
        refine hK _ _ ?_
        clear hK K
        refine wpAnyIn_ready (rs := [7]) (by kernel_rfl) (by simp) ?_
        refine AllReadyIn.cons rfl (fun K hK => ?_) AllReadyIn.nil
        go_simp
        refine hK _ _ ?_
        clear hK K
        refine wpAnyIn_done (by kernel_rfl) ?_ _
        gi_wp2
        exact HLF.out _ ((((Kp.refl _ _).setCell (fun h => absurd rfl h.1) _).setCell (fun h => absurd rfl h.2) _).setCell (fun h => absurd rfl h.2) _) (boxed_far (boxed_far (HB6.out.set _) (p := ⟨g6, j * 2, none⟩) hne7 _) (p := ⟨g6, j * 2 + 1, none⟩) hne7 _) (by rw [← za_set D j HAJ.out.len t.1 t.2 (.slice pk4 t.2.len ck4)]; exact ((((ownsRow_heap HO6.out (fun g hg => Below.heap_setCell _ _ _ _ (fun e => hne6 ((Option.some.inj (show some g6 = some g from hg)).trans e)))).stored (j * 2) (.int .i64 t.1)).1).stored (j * 2 + 1) (.slice pk4 t.2.len ck4)).1)
      refine AllReadyIn.cons rfl (fun K hK => ?_) AllReadyIn.nil
      go_simp
      refine hK _ _ ?_
      clear hK K
      refine wpAnyIn_ready (rs := [1]) (by kernel_rfl) (by simp) ?_
      refine AllReadyIn.cons rfl (fun K hK => ?_) AllReadyIn.nil
      go_simp
      refine hK _ _ ?_
      clear hK K
      refine wpAnyIn_ready (rs := [2]) (by kernel_rfl) (by simp) ?_
      refine AllReadyIn.cons rfl (fun K hK => ?_) AllReadyIn.nil
      refine step_call _ rfl 72 (.tmp 30) #[27] rfl (.agg #[.int .i64 t.1, .slice pk t.2.len ck]) rfl _ (enters_of Tryd.func72 (by kernel_rfl) rfl) (HCL.out _ ((Below.refl W'.heap.size W').drew.alloc (Nat.le_refl _) (.cells #[.int .i64 0, .slice none 0 0] 27))) ?_
      rintro e w4 ⟨r4, rfl, ⟨kv4, e4, hwf4, hkv4⟩, hb4⟩
      dsimp only at e4 hkv4
      subst e4
      have hkv4' := hkv4
      obtain ⟨pk4, ck4, rfl, _⟩ := hkv4'
      have hbw4 : Below W'.heap.size W' w4 := (((Below.refl W'.heap.size W').drew.alloc (Nat.le_refl _) (.cells #[.int .i64 0, .slice none 0 0] 27))).trans (hb4.mono (((Below.refl W'.heap.size W').drew.alloc (Nat.le_refl _) (.cells #[.int .i64 0, .slice none 0 0] 27))).size)
      have HBW4 := Lib.hid hbw4
      have HKV4 := Lib.hid (hkv4.mono (S' := fun c => W'.heap.size ≤ c ∧ c < w4.heap.size) (fun c hc h => ⟨Nat.le_trans (((Below.refl W'.heap.size W').drew.alloc (Nat.le_refl _) (.cells #[.int .i64 0, .slice none 0 0] 27))).size h, hc⟩))
      obtain ⟨z1, z3, z4, z2, z5⟩ := HST.out w4 hbw4
      refine ⟨_, rfl, ?_⟩
      have HZB := Lib.hid ((Blk.new W'.drew 27 #[.int .i64 0, .slice none 0 0]).below hb4 (by simp))
      clear hkv4 hb4 hbw4
      refine hK _ _ ?_
      clear hK K
      refine wpAnyIn_ready (rs := [5]) (by kernel_rfl) (by simp) ?_
      refine AllReadyIn.cons rfl (fun K hK => ?_) AllReadyIn.nil
      have h4 : Below W'.heap.size W' w4 := HBW4.out
      refine step_zero_append w4 rfl (.tmp 29) (.tmp 33) rfl w.heap.size (.slice pa j ca) j (dcells D) rfl (ownsRow_heap HAJ.out.own (fun g hg => h4.block g ((HAJ.out.own.lt g hg).2))) _ rfl HZB.out hj5 (by have := h4.size; omega) ?_
      intro v6 w6 ho6 hk6 hat6
      have HKF := Lib.hid (show IsHS (fun c => W'.heap.size ≤ c ∧ c < (w4).heap.size) w4 (.slice pk4 t.2.len ck4) t.2 from HKV4.out)
      have H4 := Lib.hid h4
      have HK6 := Lib.hid hk6
      have HAT := Lib.hid hat6
      have HO6 := Lib.hid ho6
      rcases ho6.2 with ⟨_, hz⟩ | ⟨g6, cap6, cur6, rfl, hbg6, hg6, hcap6, hmax6, _, _⟩
      · omega
      have hb6 : Boxed w6 (w2.heap.size + 1) 25 (.slice pa j ca) := hk6.boxed (HBX.out _ h4) HNB.out
      have z1 := hb6.cell
      have z2 := hb6.lt
      have z7 := hb6.frozen
      have y0 : w6.cell? ⟨g6, j * 2, none⟩ = some (.int .i64 0) := by rw [ho6.cellAt _ (by omega)]; exact (za_at D j HAJ.out.len).1
      have y1 : w6.cell? ⟨g6, j * 2 + 1, none⟩ = some (.slice none 0 0) := by rw [ho6.cellAt _ (by omega)]; exact (za_at D j HAJ.out.len).2
      have y2 := ho6.frozenAt (j * 2)
      have y3 := ho6.frozenAt (j * 2 + 1)
      have y4 := (ho6.lt g6 rfl).2
      have hne6 : ¬ g6 = w2.heap.size + 1 := HNE.out g6 cap6 _ h4 hat6
      have hne7 : ¬ w2.heap.size + 1 = g6 := fun e => hne6 e.symm
      have HB6 := Lib.hid hb6
      have HLF : Hid (∀ w7, Kp (fun c => c ≠ w2.heap.size + 1 ∧ Value.ownBlock (.slice (some ⟨g6, 0, none⟩) (j + 1) cap6) ≠ some c) w6 w7 → Boxed w7 (w2.heap.size + 1) 25 (.slice (some ⟨g6, 0, none⟩) (j + 1) cap6) → w7.ownsRow w.heap.size 27 2 (.slice (some ⟨g6, 0, none⟩) (j + 1) cap6) (j + 1) (dcells (D ++ [(t.1, t.2, .slice pk4 t.2.len ck4)])) → ∃ C'', Grow C' W' C'' w7 ∧ ∃ D' va', AJ (TT ranks n) w.heap.size (w2.heap.size + 1) (j + 1) C'' w7 D' va') := Lib.hid (fun w7 ha hb hc => by
        obtain ⟨C'', h1, h2⟩ := HAJ.out.step htt HG.out.lt (Kp.of_below h4 (fun k hk _ => hk)) hwf HKF.out hk6 hat6 ha hb hc
        exact ⟨C'', h1, _, _, h2⟩)
      unfold maxLen at hmax6
      clear h4 hk6 hat6 ho6 hg6 hb6 z3 z4 z5
      refine hK _ _ ?_
      clear hK K
      refine wpAnyIn_ready (rs := [6, 8]) (by kernel_rfl) (by simp) ?_
      refine AllReadyIn.cons rfl (fun K hK => ?_) ?_
      · go_simp
        refine hK _ _ ?_
        clear hK K
        refine wpAnyIn_ready (rs := [7, 8]) (by kernel_rfl) (by simp) ?_
        refine AllReadyIn.cons rfl (fun K hK => ?_) ?_
        · go_simp
          refine hK _ _ ?_
          clear hK K
          refine wpAnyIn_ready (rs := [8]) (by kernel_rfl) (by simp) ?_
          refine AllReadyIn.cons rfl (fun K hK => ?_) AllReadyIn.nil
          go_simp
          refine hK _ _ ?_
          clear hK K
          refine wpAnyIn_done (by kernel_rfl) ?_ _
          gi_wp2
          exact HLF.out _ ((((Kp.refl _ _).setCell (fun h => absurd rfl h.2) _).setCell (fun h => absurd rfl h.2) _).setCell (fun h => absurd rfl h.1) _) ((boxed_far (boxed_far HB6.out (p := ⟨g6, j * 2, none⟩) hne7 _) (p := ⟨g6, j * 2 + 1, none⟩) hne7 _).set _) (ownsRow_heap (by rw [← za_set D j HAJ.out.len t.1 t.2 (.slice pk4 t.2.len ck4)]; exact (((HO6.out.stored (j * 2) (.int .i64 t.1)).1).stored (j * 2 + 1) (.slice pk4 t.2.len ck4)).1) (fun g hg => Below.heap_setCell _ _ _ _ (fun e => hne6 ((Option.some.inj (show some g6 = some g from hg)).trans e))))
        refine AllReadyIn.cons rfl (fun K hK => ?_) AllReadyIn.nil
        go_simp
        refine hK _ _ ?_
        clear hK K
        refine wpAnyIn_ready (rs := [7]) (by kernel_rfl) (by simp) ?_
        refine AllReadyIn.cons rfl (fun K hK => ?_) AllReadyIn.nil
        go_simp
        refine hK _ _ ?_
        clear hK K
        refine wpAnyIn_done (by kernel_rfl) ?_ _
        gi_wp2
        exact HLF.out _ ((((Kp.refl _ _).setCell (fun h => absurd rfl h.1) _).setCell (fun h => absurd rfl h.2) _).setCell (fun h => absurd rfl h.2) _) (boxed_far (boxed_far (HB6.out.set _) (p := ⟨g6, j * 2, none⟩) hne7 _) (p := ⟨g6, j * 2 + 1, none⟩) hne7 _) (by rw [← za_set D j HAJ.out.len t.1 t.2 (.slice pk4 t.2.len ck4)]; exact ((((ownsRow_heap HO6.out (fun g hg => Below.heap_setCell _ _ _ _ (fun e => hne6 ((Option.some.inj (show some g6 = some g from hg)).trans e)))).stored (j * 2) (.int .i64 t.1)).1).stored (j * 2 + 1) (.slice pk4 t.2.len ck4)).1)
      refine AllReadyIn.cons rfl (fun K hK => ?_) AllReadyIn.nil
      go_simp
      refine hK _ _ ?_
      clear hK K
      refine wpAnyIn_ready (rs := [6]) (by kernel_rfl) (by simp) ?_
      refine AllReadyIn.cons rfl (fun K hK => ?_) AllReadyIn.nil
      go_simp
      refine hK _ _ ?_
      clear hK K
      refine wpAnyIn_ready (rs := [7]) (by kernel_rfl) (by simp) ?_
      refine AllReadyIn.cons rfl (fun K hK => ?_) AllReadyIn.nil
      go_simp
      refine hK _ _ ?_
      clear hK K
      refine wpAnyIn_done (by kernel_rfl) ?_ _
      gi_wp2
      exact HLF.out _ ((((Kp.refl _ _).setCell (fun h => absurd rfl h.1) _).setCell (fun h => absurd rfl h.2) _).setCell (fun h => absurd rfl h.2) _) (boxed_far (boxed_far (HB6.out.set _) (p := ⟨g6, j * 2, none⟩) hne7 _) (p := ⟨g6, j * 2 + 1, none⟩) hne7 _) (by rw [← za_set D j HAJ.out.len t.1 t.2 (.slice pk4 t.2.len ck4)]; exact ((((ownsRow_heap HO6.out (fun g hg => Below.heap_setCell _ _ _ _ (fun e => hne6 ((Option.some.inj (show some g6 = some g from hg)).trans e)))).stored (j * 2) (.int .i64 t.1)).1).stored (j * 2 + 1) (.slice pk4 t.2.len ck4)).1)
    refine AllReadyIn.cons rfl (fun K hK => ?_) ?_
    · go_simp
      refine hK _ _ ?_
      clear hK K
      refine wpAnyIn_ready (rs := [0, 2, 4]) (by kernel_rfl) (by simp) ?_
      refine AllReadyIn.cons rfl (fun K hK => ?_) ?_
      · go_simp
        refine hK _ _ ?_
        clear hK K
        refine wpAnyIn_ready (rs := [2, 3, 4]) (by kernel_rfl) (by simp) ?_
        refine AllReadyIn.cons rfl (fun K hK => ?_) ?_
        · refine step_call _ rfl 72 (.tmp 30) #[27] rfl (.agg #[.int .i64 t.1, .slice pk t.2.len ck]) rfl _ (enters_of Tryd.func72 (by kernel_rfl) rfl) (HCL.out _ ((Below.refl W'.heap.size W').drew)) ?_
          rintro e w4 ⟨r4, rfl, ⟨kv4, e4, hwf4, hkv4⟩, hb4⟩
          dsimp only at e4 hkv4
          subst e4
          have hkv4' := hkv4
          obtain ⟨pk4, ck4, rfl, _⟩ := hkv4'
          have hbw4 : Below W'.heap.size W' w4 := (((Below.refl W'.heap.size W').drew)).trans (hb4.mono (((Below.refl W'.heap.size W').drew)).size)
          have HBW4 := Lib.hid hbw4
          have HKV4 := Lib.hid (hkv4.mono (S' := fun c => W'.heap.size ≤ c ∧ c < w4.heap.size) (fun c hc h => ⟨Nat.le_trans (((Below.refl W'.heap.size W').drew)).size h, hc⟩))
          obtain ⟨z1, z3, z4, z2, z5⟩ := HST.out w4 hbw4
          refine ⟨_, rfl, ?_⟩
          clear hkv4 hb4 hbw4
          refine hK _ _ ?_
          clear hK K
          refine wpAnyIn_ready (rs := [3, 4]) (by kernel_rfl) (by simp) ?_
          refine AllReadyIn.cons rfl (fun K hK => ?_) ?_
          · go_simp
            refine hK _ _ ?_
            clear hK K
            refine wpAnyIn_ready (rs := [4]) (by kernel_rfl) (by simp) ?_
            refine AllReadyIn.cons rfl (fun K hK => ?_) AllReadyIn.nil
            go_simp
            refine hK _ _ ?_
            clear hK K
            have HZB := Lib.hid (Blk.new w4 27 #[.int .i64 0, .slice none 0 0])
            refine wpAnyIn_ready (rs := [5]) (by kernel_rfl) (by simp) ?_
            refine AllReadyIn.cons rfl (fun K hK => ?_) AllReadyIn.nil
            have h4 : Below W'.heap.size W' (w4.alloc (.cells #[.int .i64 0, .slice none 0 0] 27)) := (HBW4.out.alloc HBW4.out.size (.cells #[.int .i64 0, .slice none 0 0] 27))
            refine step_zero_append (w4.alloc (.cells #[.int .i64 0, .slice none 0 0] 27)) rfl (.tmp 29) (.tmp 33) rfl w.heap.size (.slice pa j ca) j (dcells D) rfl (ownsRow_heap HAJ.out.own (fun g hg => h4.block g ((HAJ.out.own.lt g hg).2))) _ rfl HZB.out hj5 (by have := h4.size; omega) ?_
            intro v6 w6 ho6 hk6 hat6
            have HKF := Lib.hid (show IsHS (fun c => W'.heap.size ≤ c ∧ c < ((w4.alloc (.cells #[.int .i64 0, .slice none 0 0] 27))).heap.size) (w4.alloc (.cells #[.int .i64 0, .slice none 0 0] 27)) (.slice pk4 t.2.len ck4) t.2 from ((HKV4.out.kp ((Kp.refl _ _).alloc (.cells #[.int .i64 0, .slice none 0 0] 27))).mono (fun c hc h => ⟨h.1, by simp; omega⟩)))
            have H4 := Lib.hid h4
            have HK6 := Lib.hid hk6
            have HAT := Lib.hid hat6
            have HO6 := Lib.hid ho6
            rcases ho6.2 with ⟨_, hz⟩ | ⟨g6, cap6, cur6, rfl, hbg6, hg6, hcap6, hmax6, _, _⟩
            · omega
            have hb6 : Boxed w6 (w2.heap.size + 1) 25 (.slice pa j ca) := hk6.boxed (HBX.out _ h4) HNB.out
            have z1 := hb6.cell
            have z2 := hb6.lt
            have z7 := hb6.frozen
            have y0 : w6.cell? ⟨g6, j * 2, none⟩ = some (.int .i64 0) := by rw [ho6.cellAt _ (by omega)]; exact (za_at D j HAJ.out.len).1
            have y1 : w6.cell? ⟨g6, j * 2 + 1, none⟩ = some (.slice none 0 0) := by rw [ho6.cellAt _ (by omega)]; exact (za_at D j HAJ.out.len).2
            have y2 := ho6.frozenAt (j * 2)
            have y3 := ho6.frozenAt (j * 2 + 1)
            have y4 := (ho6.lt g6 rfl).2
            have hne6 : ¬ g6 = w2.heap.size + 1 := HNE.out g6 cap6 _ h4 hat6
            have hne7 : ¬ w2.heap.size + 1 = g6 := fun e => hne6 e.symm
            have HB6 := Lib.hid hb6
            have HLF : Hid (∀ w7, Kp (fun c => c ≠ w2.heap.size + 1 ∧ Value.ownBlock (.slice (some ⟨g6, 0, none⟩) (j + 1) cap6) ≠ some c) w6 w7 → Boxed w7 (w2.heap.size + 1) 25 (.slice (some ⟨g6, 0, none⟩) (j + 1) cap6) → w7.ownsRow w.heap.size 27 2 (.slice (some ⟨g6, 0, none⟩) (j + 1) cap6) (j + 1) (dcells (D ++ [(t.1, t.2, .slice pk4 t.2.len ck4)])) → ∃ C'', Grow C' W' C'' w7 ∧ ∃ D' va', AJ (TT ranks n) w.heap.size (w2.heap.size + 1) (j + 1) C'' w7 D' va') := Lib.hid (fun w7 ha hb hc => by
              obtain ⟨C'', h1, h2⟩ := HAJ.out.step htt HG.out.lt (Kp.of_below h4 (fun k hk _ => hk)) hwf HKF.out hk6 hat6 ha hb hc
              exact ⟨C'', h1, _, _, h2⟩)
            unfold maxLen at hmax6
            clear h4 hk6 hat6 ho6 hg6 hb6 z3 z4 z5
            refine hK _ _ ?_
            clear hK K
            refine wpAnyIn_ready (rs := [6, 8]) (by kernel_rfl) (by simp) ?_
            refine AllReadyIn.cons rfl (fun K hK => ?_) ?_
            · go_simp
              refine hK _ _ ?_
              clear hK K
              refine wpAnyIn_ready (rs := [7, 8]) (by kernel_rfl) (by simp) ?_
              refine AllReadyIn.cons rfl (fun K hK => ?_) ?_
              · go_simp
                refine hK _ _ ?_
                clear hK K
                refine wpAnyIn_ready (rs := [8]) (by kernel_rfl) (by simp) ?_
                refine AllReadyIn.cons rfl (fun K hK => ?_) AllReadyIn.nil
                go_simp
                refine hK _ _ ?_
                clear hK K
                refine wpAnyIn_done (by kernel_rfl) ?_ _
                gi_wp2
                exact HLF.out _ ((((Kp.refl _ _).setCell (fun h => absurd rfl h.2) _).setCell (fun h => absurd rfl h.2) _).setCell (fun h => absurd rfl h.1) _) ((boxed_far (boxed_far HB6.out (p := ⟨g6, j * 2, none⟩) hne7 _) (p := ⟨g6, j * 2 + 1, none⟩) hne7 _).set _) (ownsRow_heap (by rw [← za_set D j HAJ.out.len t.1 t.2 (.slice pk4 t.2.len ck4)]; exact (((HO6.out.stored (j * 2) (.int .i64 t.1)).1).stored (j * 2 + 1) (.slice pk4 t.2.len ck4)).1) (fun g hg => Below.heap_setCell _ _ _ _ (fun e => hne6 ((Option.some.inj (show some g6 = some g from hg)).trans e))))
              refine AllReadyIn.cons rfl (fun K hK => ?_) AllReadyIn.nil
              go_simp
              refine hK _ _ ?_
              clear hK K
              refine wpAnyIn_ready (rs := [7]) (by kernel_rfl) (by simp) ?_
              refine AllReadyIn.cons rfl (fun K hK => ?_) AllReadyIn.nil
              go_simp
              refine hK _ _ ?_
              clear hK K
              refine wpAnyIn_done (by kernel_rfl) ?_ _
              gi_wp2
              exact HLF.out _ ((((Kp.refl _ _).setCell (fun h => absurd rfl h.1) _).setCell (fun h => absurd rfl h.2) _).setCell (fun h => absurd rfl h.2) _) (boxed_far (boxed_far (HB6.out.set _) (p := ⟨g6, j * 2, none⟩) hne7 _) (p := ⟨g6, j * 2 + 1, none⟩) hne7 _) (by rw [← za_set D j HAJ.out.len t.1 t.2 (.slice pk4 t.2.len ck4)]; exact ((((ownsRow_heap HO6.out (fun g hg => Below.heap_setCell _ _ _ _ (fun e => hne6 ((Option.some.inj (show some g6 = some g from hg)).trans e)))).stored (j * 2) (.int .i64 t.1)).1).stored (j * 2 + 1) (.slice pk4 t.2.len ck4)).1)
            refine AllReadyIn.cons rfl (fun K hK => ?_) AllReadyIn.nil
            go_simp
            refine hK _ _ ?_
            clear hK K
            refine wpAnyIn_ready (rs := [6]) (by kernel_rfl) (by simp) ?_
            refine AllReadyIn.cons rfl (fun K hK => ?_) AllReadyIn.nil
            go_simp
            refine hK _ _ ?_
            clear hK K
            refine wpAnyIn_ready (rs := [7]) (by kernel_rfl) (by simp) ?_
            refine AllReadyIn.cons rfl (fun K hK => ?_) AllReadyIn.nil
            go_simp
            refine hK _ _ ?_
            clear hK K
            refine wpAnyIn_done (by kernel_rfl) ?_ _
            gi_wp2
            exact HLF.out _ ((((Kp.refl _ _).setCell (fun h => absurd rfl h.1) _).setCell (fun h => absurd rfl h.2) _).setCell (fun h => absurd rfl h.2) _) (boxed_far (boxed_far (HB6.out.set _) (p := ⟨g6, j * 2, none⟩) hne7 _) (p := ⟨g6, j * 2 + 1, none⟩) hne7 _) (by rw [← za_set D j HAJ.out.len t.1 t.2 (.slice pk4 t.2.len ck4)]; exact ((((ownsRow_heap HO6.out (fun g hg => Below.heap_setCell _ _ _ _ (fun e => hne6 ((Option.some.inj (show some g6 = some g from hg)).trans e)))).stored (j * 2) (.int .i64 t.1)).1).stored (j * 2 + 1) (.slice pk4 t.2.len ck4)).1)
          refine AllReadyIn.cons rfl (fun K hK => ?_) AllReadyIn.nil
          go_simp
          refine hK _ _ ?_
          clear hK K
          have HZB := Lib.hid (Blk.new w4 27 #[.int .i64 0, .slice none 0 0])
          refine wpAnyIn_ready (rs := [3]) (by kernel_rfl) (by simp) ?_
          refine AllReadyIn.cons rfl (fun K hK => ?_) AllReadyIn.nil
          go_simp
          refine hK _ _ ?_
          clear hK K
          refine wpAnyIn_ready (rs := [5]) (by kernel_rfl) (by simp) ?_
          refine AllReadyIn.cons rfl (fun K hK => ?_) AllReadyIn.nil
          have h4 : Below W'.heap.size W' (w4.alloc (.cells #[.int .i64 0, .slice none 0 0] 27)) := (HBW4.out.alloc HBW4.out.size (.cells #[.int .i64 0, .slice none 0 0] 27))
          refine step_zero_append (w4.alloc (.cells #[.int .i64 0, .slice none 0 0] 27)) rfl (.tmp 29) (.tmp 33) rfl w.heap.size (.slice pa j ca) j (dcells D) rfl (ownsRow_heap HAJ.out.own (fun g hg => h4.block g ((HAJ.out.own.lt g hg).2))) _ rfl HZB.out hj5 (by have := h4.size; omega) ?_
          intro v6 w6 ho6 hk6 hat6
          have HKF := Lib.hid (show IsHS (fun c => W'.heap.size ≤ c ∧ c < ((w4.alloc (.cells #[.int .i64 0, .slice none 0 0] 27))).heap.size) (w4.alloc (.cells #[.int .i64 0, .slice none 0 0] 27)) (.slice pk4 t.2.len ck4) t.2 from ((HKV4.out.kp ((Kp.refl _ _).alloc (.cells #[.int .i64 0, .slice none 0 0] 27))).mono (fun c hc h => ⟨h.1, by simp; omega⟩)))
          have H4 := Lib.hid h4
          have HK6 := Lib.hid hk6
          have HAT := Lib.hid hat6
          have HO6 := Lib.hid ho6
          rcases ho6.2 with ⟨_, hz⟩ | ⟨g6, cap6, cur6, rfl, hbg6, hg6, hcap6, hmax6, _, _⟩
          · omega
          have hb6 : Boxed w6 (w2.heap.size + 1) 25 (.slice pa j ca) := hk6.boxed (HBX.out _ h4) HNB.out
          have z1 := hb6.cell
          have z2 := hb6.lt
          have z7 := hb6.frozen
          have y0 : w6.cell? ⟨g6, j * 2, none⟩ = some (.int .i64 0) := by rw [ho6.cellAt _ (by omega)]; exact (za_at D j HAJ.out.len).1
          have y1 : w6.cell? ⟨g6, j * 2 + 1, none⟩ = some (.slice none 0 0) := by rw [ho6.cellAt _ (by omega)]; exact (za_at D j HAJ.out.len).2
          have y2 := ho6.frozenAt (j * 2)
          have y3 := ho6.frozenAt (j * 2 + 1)
          have y4 := (ho6.lt g6 rfl).2
          have hne6 : ¬ g6 = w2.heap.size + 1 := HNE.out g6 cap6 _ h4 hat6
          have hne7 : ¬ w2.heap.size + 1 = g6 := fun e => hne6 e.symm
          have HB6 := Lib.hid hb6
          have HLF : Hid (∀ w7, Kp (fun c => c ≠ w2.heap.size + 1 ∧ Value.ownBlock (.slice (some ⟨g6, 0, none⟩) (j + 1) cap6) ≠ some c) w6 w7 → Boxed w7 (w2.heap.size + 1) 25 (.slice (some ⟨g6, 0, none⟩) (j + 1) cap6) → w7.ownsRow w.heap.size 27 2 (.slice (some ⟨g6, 0, none⟩) (j + 1) cap6) (j + 1) (dcells (D ++ [(t.1, t.2, .slice pk4 t.2.len ck4)])) → ∃ C'', Grow C' W' C'' w7 ∧ ∃ D' va', AJ (TT ranks n) w.heap.size (w2.heap.size + 1) (j + 1) C'' w7 D' va') := Lib.hid (fun w7 ha hb hc => by
            obtain ⟨C'', h1, h2⟩ := HAJ.out.step htt HG.out.lt (Kp.of_below h4 (fun k hk _ => hk)) hwf HKF.out hk6 hat6 ha hb hc
            exact ⟨C'', h1, _, _, h2⟩)
          unfold maxLen at hmax6
          clear h4 hk6 hat6 ho6 hg6 hb6 z3 z4 z5
          refine hK _ _ ?_
          clear hK K
          refine wpAnyIn_ready (rs := [6, 8]) (by kernel_rfl) (by simp) ?_
          refine AllReadyIn.cons rfl (fun K hK => ?_) ?_
          · go_simp
            refine hK _ _ ?_
            clear hK K
            refine wpAnyIn_ready (rs := [7, 8]) (by kernel_rfl) (by simp) ?_
            refine AllReadyIn.cons rfl (fun K hK => ?_) ?_
            · go_simp
              refine hK _ _ ?_
              clear hK K
              refine wpAnyIn_ready (rs := [8]) (by kernel_rfl) (by simp) ?_
              refine AllReadyIn.cons rfl (fun K hK => ?_) AllReadyIn.nil
              go_simp
              refine hK _ _ ?_
              clear hK K
              refine wpAnyIn_done (by kernel_rfl) ?_ _
              gi_wp2
              exact HLF.out _ ((((Kp.refl _ _).setCell (fun h => absurd rfl h.2) _).setCell (fun h => absurd rfl h.2) _).setCell (fun h => absurd rfl h.1) _) ((boxed_far (boxed_far HB6.out (p := ⟨g6, j * 2, none⟩) hne7 _) (p := ⟨g6, j * 2 + 1, none⟩) hne7 _).set _) (ownsRow_heap (by rw [← za_set D j HAJ.out.len t.1 t.2 (.slice pk4 t.2.len ck4)]; exact (((HO6.out.stored (j * 2) (.int .i64 t.1)).1).stored (j * 2 + 1) (.slice pk4 t.2.len ck4)).1) (fun g hg => Below.heap_setCell _ _ _ _ (fun e => hne6 ((Option.some.inj (show some g6 = some g from hg)).trans e))))
            refine AllReadyIn.cons rfl (fun K hK => ?_) AllReadyIn.nil
            go_simp
            refine hK _ _ ?_
            clear hK K
            refine wpAnyIn_ready (rs := [7]) (by kernel_rfl) (by simp) ?_
            refine AllReadyIn.cons rfl (fun K hK => ?_) AllReadyIn.nil
            go_simp
            refine hK _ _ ?_
            clear hK K
            refine wpAnyIn_done (by kernel_rfl) ?_ _
            gi_wp2
            exact HLF.out _ ((((Kp.refl _ _).setCell (fun h => absurd rfl h.1) _).setCell (fun h => absurd rfl h.2) _).setCell (fun h => absurd rfl h.2) _) (boxed_far (boxed_far (HB6.out.set _) (p := ⟨g6, j * 2, none⟩) hne7 _) (p := ⟨g6, j * 2 + 1, none⟩) hne7 _) (by rw [← za_set D j HAJ.out.len t.1 t.2 (.slice pk4 t.2.len ck4)]; exact ((((ownsRow_heap HO6.out (fun g hg => Below.heap_setCell _ _ _ _ (fun e => hne6 ((Option.some.inj (show some g6 = some g from hg)).trans e)))).stored (j * 2) (.int .i64 t.1)).1).stored (j * 2 + 1) (.slice pk4 t.2.len ck4)).1)
          refine AllReadyIn.cons rfl (fun K hK => ?_) AllReadyIn.nil
          go_simp
          refine hK _ _ ?_
          clear hK K
          refine wpAnyIn_ready (rs := [6]) (by kernel_rfl) (by simp) ?_
          refine AllReadyIn.cons rfl (fun K hK => ?_) AllReadyIn.nil
          go_simp
          refine hK _ _ ?_
          clear hK K
          refine wpAnyIn_ready (rs := [7]) (by kernel_rfl) (by simp) ?_
          refine AllReadyIn.cons rfl (fun K hK => ?_) AllReadyIn.nil
          go_simp
          refine hK _ _ ?_
          clear hK K
          refine wpAnyIn_done (by kernel_rfl) ?_ _
          gi_wp2
          exact HLF.out _ ((((Kp.refl _ _).setCell (fun h => absurd rfl h.1) _).setCell (fun h => absurd rfl h.2) _).setCell (fun h => absurd rfl h.2) _) (boxed_far (boxed_far (HB6.out.set _) (p := ⟨g6, j * 2, none⟩) hne7 _) (p := ⟨g6, j * 2 + 1, none⟩) hne7 _) (by rw [← za_set D j HAJ.out.len t.1 t.2 (.slice pk4 t.2.len ck4)]; exact ((((ownsRow_heap HO6.out (fun g hg => Below.heap_setCell _ _ _ _ (fun e => hne6 ((Option.some.inj (show some g6 = some g from hg)).trans e)))).stored (j * 2) (.int .i64 t.1)).1).stored (j * 2 + 1) (.slice pk4 t.2.len ck4)).1)
        refine AllReadyIn.cons rfl (fun K hK => ?_) ?_
        · go_simp
          refine hK _ _ ?_
          clear hK K
          refine wpAnyIn_ready (rs := [2, 4]) (by kernel_rfl) (by simp) ?_
          refine AllReadyIn.cons rfl (fun K hK => ?_) ?_
          · refine step_call _ rfl 72 (.tmp 30) #[27] rfl (.agg #[.int .i64 t.1, .slice pk t.2.len ck]) rfl _ (enters_of Tryd.func72 (by kernel_rfl) rfl) (HCL.out _ ((Below.refl W'.heap.size W').drew)) ?_
            rintro e w4 ⟨r4, rfl, ⟨kv4, e4, hwf4, hkv4⟩, hb4⟩
            dsimp only at e4 hkv4
            subst e4
            have hkv4' := hkv4
            obtain ⟨pk4, ck4, rfl, _⟩ := hkv4'
            have hbw4 : Below W'.heap.size W' w4 := (((Below.refl W'.heap.size W').drew)).trans (hb4.mono (((Below.refl W'.heap.size W').drew)).size)
            have HBW4 := Lib.hid hbw4
            have HKV4 := Lib.hid (hkv4.mono (S' := fun c => W'.heap.size ≤ c ∧ c < w4.heap.size) (fun c hc h => ⟨Nat.le_trans (((Below.refl W'.heap.size W').drew)).size h, hc⟩))
            obtain ⟨z1, z3, z4, z2, z5⟩ := HST.out w4 hbw4
            refine ⟨_, rfl, ?_⟩
            clear hkv4 hb4 hbw4
            refine hK _ _ ?_
            clear hK K
            refine wpAnyIn_ready (rs := [4]) (by kernel_rfl) (by simp) ?_
            refine AllReadyIn.cons rfl (fun K hK => ?_) AllReadyIn.nil
            go_simp
            refine hK _ _ ?_
            clear hK K
            have HZB := Lib.hid (Blk.new w4 27 #[.int .i64 0, .slice none 0 0])
            refine wpAnyIn_ready (rs := [5]) (by kernel_rfl) (by simp) ?_
            refine AllReadyIn.cons rfl (fun K hK => ?_) AllReadyIn.nil
            have h4 : Below W'.heap.size W' (w4.alloc (.cells #[.int .i64 0, .slice none 0 0] 27)) := (HBW4.out.alloc HBW4.out.size (.cells #[.int .i64 0, .slice none 0 0] 27))
            refine step_zero_append (w4.alloc (.cells #[.int .i64 0, .slice none 0 0] 27)) rfl (.tmp 29) (.tmp 33) rfl w.heap.size (.slice pa j ca) j (dcells D) rfl (ownsRow_heap HAJ.out.own (fun g hg => h4.block g ((HAJ.out.own.lt g hg).2))) _ rfl HZB.out hj5 (by have := h4.size; omega) ?_
            intro v6 w6 ho6 hk6 hat6
            have HKF := Lib.hid (show IsHS (fun c => W'.heap.size ≤ c ∧ c < ((w4.alloc (.cells #[.int .i64 0, .slice none 0 0] 27))).heap.size) (w4.alloc (.cells #[.int .i64 0, .slice none 0 0] 27)) (.slice pk4 t.2.len ck4) t.2 from ((HKV4.out.kp ((Kp.refl _ _).alloc (.cells #[.int .i64 0, .slice none 0 0] 27))).mono (fun c hc h => ⟨h.1, by simp; omega⟩)))
            have H4 := Lib.hid h4
            have HK6 := Lib.hid hk6
            have HAT := Lib.hid hat6
            have HO6 := Lib.hid ho6
            rcases ho6.2 with ⟨_, hz⟩ | ⟨g6, cap6, cur6, rfl, hbg6, hg6, hcap6, hmax6, _, _⟩
            · omega
            have hb6 : Boxed w6 (w2.heap.size + 1) 25 (.slice pa j ca) := hk6.boxed (HBX.out _ h4) HNB.out
            have z1 := hb6.cell
            have z2 := hb6.lt
            have z7 := hb6.frozen
            have y0 : w6.cell? ⟨g6, j * 2, none⟩ = some (.int .i64 0) := by rw [ho6.cellAt _ (by omega)]; exact (za_at D j HAJ.out.len).1
            have y1 : w6.cell? ⟨g6, j * 2 + 1, none⟩ = some (.slice none 0 0) := by rw [ho6.cellAt _ (by omega)]; exact (za_at D j HAJ.out.len).2
            have y2 := ho6.frozenAt (j * 2)
            have y3 := ho6.frozenAt (j * 2 + 1)
            have y4 := (ho6.lt g6 rfl).2
            have hne6 : ¬ g6 = w2.heap.size + 1 := HNE.out g6 cap6 _ h4 hat6
            have hne7 : ¬ w2.heap.size + 1 = g6 := fun e => hne6 e.symm
            have HB6 := Lib.hid hb6
            have HLF : Hid (∀ w7, Kp (fun c => c ≠ w2.heap.size + 1 ∧ Value.ownBlock (.slice (some ⟨g6, 0, none⟩) (j + 1) cap6) ≠ some c) w6 w7 → Boxed w7 (w2.heap.size + 1) 25 (.slice (some ⟨g6, 0, none⟩) (j + 1) cap6) → w7.ownsRow w.heap.size 27 2 (.slice (some ⟨g6, 0, none⟩) (j + 1) cap6) (j + 1) (dcells (D ++ [(t.1, t.2, .slice pk4 t.2.len ck4)])) → ∃ C'', Grow C' W' C'' w7 ∧ ∃ D' va', AJ (TT ranks n) w.heap.size (w2.heap.size + 1) (j + 1) C'' w7 D' va') := Lib.hid (fun w7 ha hb hc => by
              obtain ⟨C'', h1, h2⟩ := HAJ.out.step htt HG.out.lt (Kp.of_below h4 (fun k hk _ => hk)) hwf HKF.out hk6 hat6 ha hb hc
              exact ⟨C'', h1, _, _, h2⟩)
            unfold maxLen at hmax6
            clear h4 hk6 hat6 ho6 hg6 hb6 z3 z4 z5
            refine hK _ _ ?_
            clear hK K
            refine wpAnyIn_ready (rs := [6, 8]) (by kernel_rfl) (by simp) ?_
            refine AllReadyIn.cons rfl (fun K hK => ?_) ?_
            · go_simp
              refine hK _ _ ?_
              clear hK K
              refine wpAnyIn_ready (rs := [7, 8]) (by kernel_rfl) (by simp) ?_
              refine AllReadyIn.cons rfl (fun K hK => ?_) ?_
              · go_simp
                refine hK _ _ ?_
                clear hK K
                refine wpAnyIn_ready (rs := [8]) (by kernel_rfl) (by simp) ?_
                refine AllReadyIn.cons rfl (fun K hK => ?_) AllReadyIn.nil
                go_simp
                refine hK _ _ ?_
                clear hK K
                refine wpAnyIn_done (by kernel_rfl) ?_ _
                gi_wp2
                exact HLF.out _ ((((Kp.refl _ _).setCell (fun h => absurd rfl h.2) _).setCell (fun h => absurd rfl h.2) _).setCell (fun h => absurd rfl h.1) _) ((boxed_far (boxed_far HB6.out (p := ⟨g6, j * 2, none⟩) hne7 _) (p := ⟨g6, j * 2 + 1, none⟩) hne7 _).set _) (ownsRow_heap (by rw [← za_set D j HAJ.out.len t.1 t.2 (.slice pk4 t.2.len ck4)]; exact (((HO6.out.stored (j * 2) (.int .i64 t.1)).1).stored (j * 2 + 1) (.slice pk4 t.2.len ck4)).1) (fun g hg => Below.heap_setCell _ _ _ _ (fun e => hne6 ((Option.some.inj (show some g6 = some g from hg)).trans e))))
              refine AllReadyIn.cons rfl (fun K hK => ?_) AllReadyIn.nil
              go_simp
              refine hK _ _ ?_
              clear hK K
              refine wpAnyIn_ready (rs := [7]) (by kernel_rfl) (by simp) ?_
              refine AllReadyIn.cons rfl (fun K hK => ?_) AllReadyIn.nil
              go_simp
              refine hK _ _ ?_
              clear hK K
              refine wpAnyIn_done (by kernel_rfl) ?_ _
              gi_wp2
              exact HLF.out _ ((((Kp.refl _ _).setCell (fun h => absurd rfl h.1) _).setCell (fun h => absurd rfl h.2) _).setCell (fun h => absurd rfl h.2) _) (boxed_far (boxed_far (HB6.out.set _) (p := ⟨g6, j * 2, none⟩) hne7 _) (p := ⟨g6, j * 2 + 1, none⟩) hne7 _) (by rw [← za_set D j HAJ.out.len t.1 t.2 (.slice pk4 t.2.len ck4)]; exact ((((ownsRow_heap HO6.out (fun g hg => Below.heap_setCell _ _ _ _ (fun e => hne6 ((Option.some.inj (show some g6 = some g from hg)).trans e)))).stored (j * 2) (.int .i64 t.1)).1).stored (j * 2 + 1) (.slice pk4 t.2.len ck4)).1)
            refine AllReadyIn.cons rfl (fun K hK => ?_) AllReadyIn.nil
            go_simp
            refine hK _ _ ?_
            clear hK K
            refine wpAnyIn_ready (rs := [6]) (by kernel_rfl) (by simp) ?_
            refine AllReadyIn.cons rfl (fun K hK => ?_) AllReadyIn.nil
            go_simp
            refine hK _ _ ?_
            clear hK K
            refine wpAnyIn_ready (rs := [7]) (by kernel_rfl) (by simp) ?_
            refine AllReadyIn.cons rfl (fun K hK => ?_) AllReadyIn.nil
            go_simp
            refine hK _ _ ?_
            clear hK K
            refine wpAnyIn_done (by kernel_rfl) ?_ _
            gi_wp2
            exact HLF.out _ ((((Kp.refl _ _).setCell (fun h => absurd rfl h.1) _).setCell (fun h => absurd rfl h.2) _).setCell (fun h => absurd rfl h.2) _) (boxed_far (boxed_far (HB6.out.set _) (p := ⟨g6, j * 2, none⟩) hne7 _) (p := ⟨g6, j * 2 + 1, none⟩) hne7 _) (by rw [← za_set D j HAJ.out.len t.1 t.2 (.slice pk4 t.2.len ck4)]; exact ((((ownsRow_heap HO6.out (fun g hg => Below.heap_setCell _ _ _ _ (fun e => hne6 ((Option.some.inj (show some g6 = some g from hg)).trans e)))).stored (j * 2) (.int .i64 t.1)).1).stored (j * 2 + 1) (.slice pk4 t.2.len ck4)).1)
          refine AllReadyIn.cons rfl (fun K hK => ?_) AllReadyIn.nil
          go_simp
          refine hK _ _ ?_
          clear hK K
          refine wpAnyIn_ready (rs := [2]) (by kernel_rfl) (by simp) ?_
          refine AllReadyIn.cons rfl (fun K hK => ?_) AllReadyIn.nil
          refine step_call _ rfl 72 (.tmp 30) #[27] rfl (.agg #[.int .i64 t.1, .slice pk t.2.len ck]) rfl _ (enters_of Tryd.func72 (by kernel_rfl) rfl) (HCL.out _ ((Below.refl W'.heap.size W').drew.alloc (Nat.le_refl _) (.cells #[.int .i64 0, .slice none 0 0] 27))) ?_
          rintro e w4 ⟨r4, rfl, ⟨kv4, e4, hwf4, hkv4⟩, hb4⟩
          dsimp only at e4 hkv4
          subst e4
          have hkv4' := hkv4
          obtain ⟨pk4, ck4, rfl, _⟩ := hkv4'
          have hbw4 : Below W'.heap.size W' w4 := (((Below.refl W'.heap.size W').drew.alloc (Nat.le_refl _) (.cells #[.int .i64 0, .slice none 0 0] 27))).trans (hb4.mono (((Below.refl W'.heap.size W').drew.alloc (Nat.le_refl _) (.cells #[.int .i64 0, .slice none 0 0] 27))).size)
          have HBW4 := Lib.hid hbw4
          have HKV4 := Lib.hid (hkv4.mono (S' := fun c => W'.heap.size ≤ c ∧ c < w4.heap.size) (fun c hc h => ⟨Nat.le_trans (((Below.refl W'.heap.size W').drew.alloc (Nat.le_refl _) (.cells #[.int .i64 0, .slice none 0 0] 27))).size h, hc⟩))
          obtain ⟨z1, z3, z4, z2, z5⟩ := HST.out w4 hbw4
          refine ⟨_, rfl, ?_⟩
          have HZB := Lib.hid ((Blk.new W'.drew 27 #[.int .i64 0, .slice none 0 0]).below hb4 (by simp))
          clear hkv4 hb4 hbw4
          refine hK _ _ ?_
          clear hK K
          refine wpAnyIn_ready (rs := [5]) (by kernel_rfl) (by simp) ?_
          refine AllReadyIn.cons rfl (fun K hK => ?_) AllReadyIn.nil
          have h4 : Below W'.heap.size W' w4 := HBW4.out
          refine step_zero_append w4 rfl (.tmp 29) (.tmp 33) rfl w.heap.size (.slice pa j ca) j (dcells D) rfl (ownsRow_heap HAJ.out.own (fun g hg => h4.block g ((HAJ.out.own.lt g hg).2))) _ rfl HZB.out hj5 (by have := h4.size; omega) ?_
          intro v6 w6 ho6 hk6 hat6
          have HKF := Lib.hid (show IsHS (fun c => W'.heap.size ≤ c ∧ c < (w4).heap.size) w4 (.slice pk4 t.2.len ck4) t.2 from HKV4.out)
          have H4 := Lib.hid h4
          have HK6 := Lib.hid hk6
          have HAT := Lib.hid hat6
          have HO6 := Lib.hid ho6
          rcases ho6.2 with ⟨_, hz⟩ | ⟨g6, cap6, cur6, rfl, hbg6, hg6, hcap6, hmax6, _, _⟩
          · omega
          have hb6 : Boxed w6 (w2.heap.size + 1) 25 (.slice pa j ca) := hk6.boxed (HBX.out _ h4) HNB.out
          have z1 := hb6.cell
          have z2 := hb6.lt
          have z7 := hb6.frozen
          have y0 : w6.cell? ⟨g6, j * 2, none⟩ = some (.int .i64 0) := by rw [ho6.cellAt _ (by omega)]; exact (za_at D j HAJ.out.len).1
          have y1 : w6.cell? ⟨g6, j * 2 + 1, none⟩ = some (.slice none 0 0) := by rw [ho6.cellAt _ (by omega)]; exact (za_at D j HAJ.out.len).2
          have y2 := ho6.frozenAt (j * 2)
          have y3 := ho6.frozenAt (j * 2 + 1)
          have y4 := (ho6.lt g6 rfl).2
          have hne6 : ¬ g6 = w2.heap.size + 1 := HNE.out g6 cap6 _ h4 hat6
          have hne7 : ¬ w2.heap.size + 1 = g6 := fun e => hne6 e.symm
          have HB6 := Lib.hid hb6
          have HLF : Hid (∀ w7, Kp (fun c => c ≠ w2.heap.size + 1 ∧ Value.ownBlock (.slice (some ⟨g6, 0, none⟩) (j + 1) cap6) ≠ some c) w6 w7 → Boxed w7 (w2.heap.size + 1) 25 (.slice (some ⟨g6, 0, none⟩) (j + 1) cap6) → w7.ownsRow w.heap.size 27 2 (.slice (some ⟨g6, 0, none⟩) (j + 1) cap6) (j + 1) (dcells (D ++ [(t.1, t.2, .slice pk4 t.2.len ck4)])) → ∃ C'', Grow C' W' C'' w7 ∧ ∃ D' va', AJ (TT ranks n) w.heap.size (w2.heap.size + 1) (j + 1) C'' w7 D' va') := Lib.hid (fun w7 ha hb hc => by
            obtain ⟨C'', h1, h2⟩ := HAJ.out.step htt HG.out.lt (Kp.of_below h4 (fun k hk _ => hk)) hwf HKF.out hk6 hat6 ha hb hc
            exact ⟨C'', h1, _, _, h2⟩)
          unfold maxLen at hmax6
          clear h4 hk6 hat6 ho6 hg6 hb6 z3 z4 z5
          refine hK _ _ ?_
          clear hK K
          refine wpAnyIn_ready (rs := [6, 8]) (by kernel_rfl) (by simp) ?_
          refine AllReadyIn.cons rfl (fun K hK => ?_) ?_
          · go_simp
            refine hK _ _ ?_
            clear hK K
            refine wpAnyIn_ready (rs := [7, 8]) (by kernel_rfl) (by simp) ?_
            refine AllReadyIn.cons rfl (fun K hK => ?_) ?_
            · go_simp
              refine hK _ _ ?_
              clear hK K
              refine wpAnyIn_ready (rs := [8]) (by kernel_rfl) (by simp) ?_
              refine AllReadyIn.cons rfl (fun K hK => ?_) AllReadyIn.nil
              go_simp
              refine hK _ _ ?_
              clear hK K
              refine wpAnyIn_done (by kernel_rfl) ?_ _
              gi_wp2
              exact HLF.out _ ((((Kp.refl _ _).setCell (fun h => absurd rfl h.2) _).setCell (fun h => absurd rfl h.2) _).setCell (fun h => absurd rfl h.1) _) ((boxed_far (boxed_far HB6.out (p := ⟨g6, j * 2, none⟩) hne7 _) (p := ⟨g6, j * 2 + 1, none⟩) hne7 _).set _) (ownsRow_heap (by rw [← za_set D j HAJ.out.len t.1 t.2 (.slice pk4 t.2.len ck4)]; exact (((HO6.out.stored (j * 2) (.int .i64 t.1)).1).stored (j * 2 + 1) (.slice pk4 t.2.len ck4)).1) (fun g hg => Below.heap_setCell _ _ _ _ (fun e => hne6 ((Option.some.inj (show some g6 = some g from hg)).trans e))))
            refine AllReadyIn.cons rfl (fun K hK => ?_) AllReadyIn.nil
            go_simp
            refine hK _ _ ?_
            clear hK K
            refine wpAnyIn_ready (rs := [7]) (by kernel_rfl) (by simp) ?_
            refine AllReadyIn.cons rfl (fun K hK => ?_) AllReadyIn.nil
            go_simp
            refine hK _ _ ?_
            clear hK K
            refine wpAnyIn_done (by kernel_rfl) ?_ _
            gi_wp2
            exact HLF.out _ ((((Kp.refl _ _).setCell (fun h => absurd rfl h.1) _).setCell (fun h => absurd rfl h.2) _).setCell (fun h => absurd rfl h.2) _) (boxed_far (boxed_far (HB6.out.set _) (p := ⟨g6, j * 2, none⟩) hne7 _) (p := ⟨g6, j * 2 + 1, none⟩) hne7 _) (by rw [← za_set D j HAJ.out.len t.1 t.2 (.slice pk4 t.2.len ck4)]; exact ((((ownsRow_heap HO6.out (fun g hg => Below.heap_setCell _ _ _ _ (fun e => hne6 ((Option.some.inj (show some g6 = some g from hg)).trans e)))).stored (j * 2) (.int .i64 t.1)).1).stored (j * 2 + 1) (.slice pk4 t.2.len ck4)).1)
          refine AllReadyIn.cons rfl (fun K hK => ?_) AllReadyIn.nil
          go_simp
          refine hK _ _ ?_
          clear hK K
          refine wpAnyIn_ready (rs := [6]) (by kernel_rfl) (by simp) ?_
          refine AllReadyIn.cons rfl (fun K hK => ?_) AllReadyIn.nil
          go_simp
          refine hK _ _ ?_
          clear hK K
          refine wpAnyIn_ready (rs := [7]) (by kernel_rfl) (by simp) ?_
          refine AllReadyIn.cons rfl (fun K hK => ?_) AllReadyIn.nil
          go_simp
          refine hK _ _ ?_
          clear hK K
          refine wpAnyIn_done (by kernel_rfl) ?_ _
          gi_wp2
          exact HLF.out _ ((((Kp.refl _ _).setCell (fun h => absurd rfl h.1) _).setCell (fun h => absurd rfl h.2) _).setCell (fun h => absurd rfl h.2) _) (boxed_far (boxed_far (HB6.out.set _) (p := ⟨g6, j * 2, none⟩) hne7 _) (p := ⟨g6, j * 2 + 1, none⟩) hne7 _) (by rw [← za_set D j HAJ.out.len t.1 t.2 (.slice pk4 t.2.len ck4)]; exact ((((ownsRow_heap HO6.out (fun g hg => Below.heap_setCell _ _ _ _ (fun e => hne6 ((Option.some.inj (show some g6 = some g from hg)).trans e)))).stored (j * 2) (.int .i64 t.1)).1).stored (j * 2 + 1) (.slice pk4 t.2.len ck4)).1)
        refine AllReadyIn.cons rfl (fun K hK => ?_) AllReadyIn.nil
        go_simp
        refine hK _ _ ?_
        clear hK K
        refine wpAnyIn_ready (rs := [2, 3]) (by kernel_rfl) (by simp) ?_
        refine AllReadyIn.cons rfl (fun K hK => ?_) ?_
        · refine step_call _ rfl 72 (.tmp 30) #[27] rfl (.agg #[.int .i64 t.1, .slice pk t.2.len ck]) rfl _ (enters_of Tryd.func72 (by kernel_rfl) rfl) (HCL.out _ ((Below.refl W'.heap.size W').drew.alloc (Nat.le_refl _) (.cells #[.int .i64 0, .slice none 0 0] 27))) ?_
          rintro e w4 ⟨r4, rfl, ⟨kv4, e4, hwf4, hkv4⟩, hb4⟩
          dsimp only at e4 hkv4
          subst e4
          have hkv4' := hkv4
          obtain ⟨pk4, ck4, rfl, _⟩ := hkv4'
          have hbw4 : Below W'.heap.size W' w4 := (((Below.refl W'.heap.size W').drew.alloc (Nat.le_refl _) (.cells #[.int .i64 0, .slice none 0 0] 27))).trans (hb4.mono (((Below.refl W'.heap.size W').drew.alloc (Nat.le_refl _) (.cells #[.int .i64 0, .slice none 0 0] 27))).size)
          have HBW4 := Lib.hid hbw4
          have HKV4 := Lib.hid (hkv4.mono (S' := fun c => W'.heap.size ≤ c ∧ c < w4.heap.size) (fun c hc h => ⟨Nat.le_trans (((Below.refl W'.heap.size W').drew.alloc (Nat.le_refl _) (.cells #[.int .i64 0, .slice none 0 0] 27))).size h, hc⟩))
          obtain ⟨z1, z3, z4, z2, z5⟩ := HST.out w4 hbw4
          refine ⟨_, rfl, ?_⟩
          have HZB := Lib.hid ((Blk.new W'.drew 27 #[.int .i64 0, .slice none 0 0]).below hb4 (by simp))
          clear hkv4 hb4 hbw4
          refine hK _ _ ?_
          clear hK K
          refine wpAnyIn_ready (rs := [3]) (by kernel_rfl) (by simp) ?_
          refine AllReadyIn.cons rfl (fun K hK => ?_) AllReadyIn.nil
          go_simp
          refine hK _ _ ?_
          clear hK K
          refine wpAnyIn_ready (rs := [5]) (by kernel_rfl) (by simp) ?_
          refine AllReadyIn.cons rfl (fun K hK => ?_) AllReadyIn.nil
          have h4 : Below W'.heap.size W' w4 := HBW4.out
          refine step_zero_append w4 rfl (.tmp 29) (.tmp 33) rfl w.heap.size (.slice pa j ca) j (dcells D) rfl (ownsRow_heap HAJ.out.own (fun g hg => h4.block g ((HAJ.out.own.lt g hg).2))) _ rfl HZB.out hj5 (by have := h4.size; omega) ?_
          intro v6 w6 ho6 hk6 hat6
          have HKF := Lib.hid (show IsHS (fun c => W'.heap.size ≤ c ∧ c < (w4).heap.size) w4 (.slice pk4 t.2.len ck4) t.2 from HKV4.out)
          have H4 := Lib.hid h4
          have HK6 := Lib.hid hk6
          have HAT := Lib.hid hat6
          have HO6 := Lib.hid ho6
          rcases ho6.2 with ⟨_, hz⟩ | ⟨g6, cap6, cur6, rfl, hbg6, hg6, hcap6, hmax6, _, _⟩
          · omega
          have hb6 : Boxed w6 (w2.heap.size + 1) 25 (.slice pa j ca) := hk6.boxed (HBX.out _ h4) HNB.out
          have z1 := hb6.cell
          have z2 := hb6.lt
          have z7 := hb6.frozen
          have y0 : w6.cell? ⟨g6, j * 2, none⟩ = some (.int .i64 0) := by rw [ho6.cellAt _ (by omega)]; exact (za_at D j HAJ.out.len).1
          have y1 : w6.cell? ⟨g6, j * 2 + 1, none⟩ = some (.slice none 0 0) := by rw [ho6.cellAt _ (by omega)]; exact (za_at D j HAJ.out.len).2
          have y2 := ho6.frozenAt (j * 2)
          have y3 := ho6.frozenAt (j * 2 + 1)
          have y4 := (ho6.lt g6 rfl).2
          have hne6 : ¬ g6 = w2.heap.size + 1 := HNE.out g6 cap6 _ h4 hat6
          have hne7 : ¬ w2.heap.size + 1 = g6 := fun e => hne6 e.symm
          have HB6 := Lib.hid hb6
          have HLF : Hid (∀ w7, Kp (fun c => c ≠ w2.heap.size + 1 ∧ Value.ownBlock (.slice (some ⟨g6, 0, none⟩) (j + 1) cap6) ≠ some c) w6 w7 → Boxed w7 (w2.heap.size + 1) 25 (.slice (some ⟨g6, 0, none⟩) (j + 1) cap6) → w7.ownsRow w.heap.size 27 2 (.slice (some ⟨g6, 0, none⟩) (j + 1) cap6) (j + 1) (dcells (D ++ [(t.1, t.2, .slice pk4 t.2.len ck4)])) → ∃ C'', Grow C' W' C'' w7 ∧ ∃ D' va', AJ (TT ranks n) w.heap.size (w2.heap.size + 1) (j + 1) C'' w7 D' va') := Lib.hid (fun w7 ha hb hc => by
            obtain ⟨C'', h1, h2⟩ := HAJ.out.step htt HG.out.lt (Kp.of_below h4 (fun k hk _ => hk)) hwf HKF.out hk6 hat6 ha hb hc
            exact ⟨C'', h1, _, _, h2⟩)
          unfold maxLen at hmax6
          clear h4 hk6 hat6 ho6 hg6 hb6 z3 z4 z5
          refine hK _ _ ?_
          clear hK K
          refine wpAnyIn_ready (rs := [6, 8]) (by kernel_rfl) (by simp) ?_
          refine AllReadyIn.cons rfl (fun K hK => ?_) ?_
          · go_simp
            refine hK _ _ ?_
            clear hK K
            refine wpAnyIn_ready (rs := [7, 8]) (by kernel_rfl) (by simp) ?_
            refine AllReadyIn.cons rfl (fun K hK => ?_) ?_
            · go_simp
              refine hK _ _ ?_
              clear hK K
              refine wpAnyIn_ready (rs := [8]) (by kernel_rfl) (by simp) ?_
              refine AllReadyIn.cons rfl (fun K hK => ?_) AllReadyIn.nil
              go_simp
              refine hK _ _ ?_
              clear hK K
              refine wpAnyIn_done (by kernel_rfl) ?_ _
              gi_wp2
              exact HLF.out _ ((((Kp.refl _ _).setCell (fun h => absurd rfl h.2) _).setCell (fun h => absurd rfl h.2) _).setCell (fun h => absurd rfl h.1) _) ((boxed_far (boxed_far HB6.out (p := ⟨g6, j * 2, none⟩) hne7 _) (p := ⟨g6, j * 2 + 1, none⟩) hne7 _).set _) (ownsRow_heap (by rw [← za_set D j HAJ.out.len t.1 t.2 (.slice pk4 t.2.len ck4)]; exact (((HO6.out.stored (j * 2) (.int .i64 t.1)).1).stored (j * 2 + 1) (.slice pk4 t.2.len ck4)).1) (fun g hg => Below.heap_setCell _ _ _ _ (fun e => hne6 ((Option.some.inj (show some g6 = some g from hg)).trans e))))
            refine AllReadyIn.cons rfl (fun K hK => ?_) AllReadyIn.nil
            go_simp
            refine hK _ _ ?_
            clear hK K
            refine wpAnyIn_ready (rs := [7]) (by kernel_rfl) (by simp) ?_
            refine AllReadyIn.cons rfl (fun K hK => ?_) AllReadyIn.nil
            go_simp
            refine hK _ _ ?_
            clear hK K
            refine wpAnyIn_done (by kernel_rfl) ?_ _
            gi_wp2
            exact HLF.out _ ((((Kp.refl _ _).setCell (fun h => absurd rfl h.1) _).setCell (fun h => absurd rfl h.2) _).setCell (fun h => absurd rfl h.2) _) (boxed_far (boxed_far (HB6.out.set _) (p := ⟨g6, j * 2, none⟩) hne7 _) (p := ⟨g6, j * 2 + 1, none⟩) hne7 _) (by rw [← za_set D j HAJ.out.len t.1 t.2 (.slice pk4 t.2.len ck4)]; exact ((((ownsRow_heap HO6.out (fun g hg => Below.heap_setCell _ _ _ _ (fun e => hne6 ((Option.some.inj (show some g6 = some g from hg)).trans e)))).stored (j * 2) (.int .i64 t.1)).1).stored (j * 2 + 1) (.slice pk4 t.2.len ck4)).1)
          refine AllReadyIn.cons rfl (fun K hK => ?_) AllReadyIn.nil
          go_simp
          refine hK _ _ ?_
          clear hK K
          refine wpAnyIn_ready (rs := [6]) (by kernel_rfl) (by simp) ?_
          refine AllReadyIn.cons rfl (fun K hK => ?_) AllReadyIn.nil
          go_simp
          refine hK _ _ ?_
          clear hK K
          refine wpAnyIn_ready (rs := [7]) (by kernel_rfl) (by simp) ?_
          refine AllReadyIn.cons rfl (fun K hK => ?_) AllReadyIn.nil
          go_simp
          refine hK _ _ ?_
          clear hK K
          refine wpAnyIn_done (by kernel_rfl) ?_ _
          gi_wp2
          exact HLF.out _ ((((Kp.refl _ _).setCell (fun h => absurd rfl h.1) _).setCell (fun h => absurd rfl h.2) _).setCell (fun h => absurd rfl h.2) _) (boxed_far (boxed_far (HB6.out.set _) (p := ⟨g6, j * 2, none⟩) hne7 _) (p := ⟨g6, j * 2 + 1, none⟩) hne7 _) (by rw [← za_set D j HAJ.out.len t.1 t.2 (.slice pk4 t.2.len ck4)]; exact ((((ownsRow_heap HO6.out (fun g hg => Below.heap_setCell _ _ _ _ (fun e => hne6 ((Option.some.inj (show some g6 = some g from hg)).trans e)))).stored (j * 2) (.int .i64 t.1)).1).stored (j * 2 + 1) (.slice pk4 t.2.len ck4)).1)
        refine AllReadyIn.cons rfl (fun K hK => ?_) AllReadyIn.nil
        go_simp
        refine hK _ _ ?_
        clear hK K
        refine wpAnyIn_ready (rs := [2]) (by kernel_rfl) (by simp) ?_
        refine AllReadyIn.cons rfl (fun K hK => ?_) AllReadyIn.nil
        refine step_call _ rfl 72 (.tmp 30) #[27] rfl (.agg #[.int .i64 t.1, .slice pk t.2.len ck]) rfl _ (enters_of Tryd.func72 (by kernel_rfl) rfl) (HCL.out _ ((Below.refl W'.heap.size W').drew.alloc (Nat.le_refl _) (.cells #[.int .i64 0, .slice none 0 0] 27))) ?_
        rintro e w4 ⟨r4, rfl, ⟨kv4, e4, hwf4, hkv4⟩, hb4⟩
        dsimp only at e4 hkv4
        subst e4
        have hkv4' := hkv4
        obtain ⟨pk4, ck4, rfl, _⟩ := hkv4'
        have hbw4 : Below W'.heap.size W' w4 := (((Below.refl W'.heap.size W').drew.alloc (Nat.le_refl _) (.cells #[.int .i64 0, .slice none 0 0] 27))).trans (hb4.mono (((Below.refl W'.heap.size W').drew.alloc (Nat.le_refl _) (.cells #[.int .i64 0, .slice none 0 0] 27))).size)
        have HBW4 := Lib.hid hbw4
        have HKV4 := Lib.hid (hkv4.mono (S' := fun c => W'.heap.size ≤ c ∧ c < w4.heap.size) (fun c hc h => ⟨Nat.le_trans (((Below.refl W'.heap.size W').drew.alloc (Nat.le_refl _) (.cells #[.int .i64 0, .slice none 0 0] 27))).size h, hc⟩))
        obtain ⟨z1, z3, z4, z2, z5⟩ := HST.out w4 hbw4
        refine ⟨_, rfl, ?_⟩
        have HZB := Lib.hid ((Blk.new W'.drew 27 #[.int .i64 0, .slice none 0 0]).below hb4 (by simp))
        clear hkv4 hb4 hbw4
        refine hK _ _ ?_
        clear hK K
        refine wpAnyIn_ready (rs := [5]) (by kernel_rfl) (by simp) ?_
        refine AllReadyIn.cons rfl (fun K hK => ?_) AllReadyIn.nil
        have h4 : Below W'.heap.size W' w4 := HBW4.out
        refine step_zero_append w4 rfl (.tmp 29) (.tmp 33) rfl w.heap.size (.slice pa j ca) j (dcells D) rfl (ownsRow_heap HAJ.out.own (fun g hg => h4.block g ((HAJ.out.own.lt g hg).2))) _ rfl HZB.out hj5 (by have := h4.size; omega) ?_
        intro v6 w6 ho6 hk6 hat6
        have HKF := Lib.hid (show IsHS (fun c => W'.heap.size ≤ c ∧ c < (w4).heap.size) w4 (.slice pk4 t.2.len ck4) t.2 from HKV4.out)
        have H4 := Lib.hid h4
        have HK6 := Lib.hid hk6
        have HAT := Lib.hid hat6
        have HO6 := Lib.hid ho6
        rcases ho6.2 with ⟨_, hz⟩ | ⟨g6, cap6, cur6, rfl, hbg6, hg6, hcap6, hmax6, _, _⟩
        · omega
        have hb6 : Boxed w6 (w2.heap.size + 1) 25 (.slice pa j ca) := hk6.boxed (HBX.out _ h4) HNB.out
        have z1 := hb6.cell
        have z2 := hb6.lt
        have z7 := hb6.frozen
        have y0 : w6.cell? ⟨g6, j * 2, none⟩ = some (.int .i64 0) := by rw [ho6.cellAt _ (by omega)]; exact (za_at D j HAJ.out.len).1
        have y1 : w6.cell? ⟨g6, j * 2 + 1, none⟩ = some (.slice none 0 0) := by rw [ho6.cellAt _ (by omega)]; exact (za_at D j HAJ.out.len).2
        have y2 := ho6.frozenAt (j * 2)
        have y3 := ho6.frozenAt (j * 2 + 1)
        have y4 := (ho6.lt g6 rfl).2
        have hne6 : ¬ g6 = w2.heap.size + 1 := HNE.out g6 cap6 _ h4 hat6
        have hne7 : ¬ w2.heap.size + 1 = g6 := fun e => hne6 e.symm
        have HB6 := Lib.hid hb6
        have HLF : Hid (∀ w7, Kp (fun c => c ≠ w2.heap.size + 1 ∧ Value.ownBlock (.slice (some ⟨g6, 0, none⟩) (j + 1) cap6) ≠ some c) w6 w7 → Boxed w7 (w2.heap.size + 1) 25 (.slice (some ⟨g6, 0, none⟩) (j + 1) cap6) → w7.ownsRow w.heap.size 27 2 (.slice (some ⟨g6, 0, none⟩) (j + 1) cap6) (j + 1) (dcells (D ++ [(t.1, t.2, .slice pk4 t.2.len ck4)])) → ∃ C'', Grow C' W' C'' w7 ∧ ∃ D' va', AJ (TT ranks n) w.heap.size (w2.heap.size + 1) (j + 1) C'' w7 D' va') := Lib.hid (fun w7 ha hb hc => by
          obtain ⟨C'', h1, h2⟩ := HAJ.out.step htt HG.out.lt (Kp.of_below h4 (fun k hk _ => hk)) hwf HKF.out hk6 hat6 ha hb hc
          exact ⟨C'', h1, _, _, h2⟩)
        unfold maxLen at hmax6
        clear h4 hk6 hat6 ho6 hg6 hb6 z3 z4 z5
        refine hK _ _ ?_
        clear hK K
        refine wpAnyIn_ready (rs := [6, 8]) (by kernel_rfl) (by simp) ?_
        refine AllReadyIn.cons rfl (fun K hK => ?_) ?_
        · go_simp
          refine hK _ _ ?_
          clear hK K
          refine wpAnyIn_ready (rs := [7, 8]) (by kernel_rfl) (by simp) ?_
          refine AllReadyIn.cons rfl (fun K hK => ?_) ?_
          · go_simp
            refine hK _ _ ?_
            clear hK K
            refine wpAnyIn_ready (rs := [8]) (by kernel_rfl) (by simp) ?_
            refine AllReadyIn.cons rfl (fun K hK => ?_) AllReadyIn.nil
            go_simp
            refine hK _ _ ?_
            clear hK K
            refine wpAnyIn_done (by kernel_rfl) ?_ _
            gi_wp2
            exact HLF.out _ ((((Kp.refl _ _).setCell (fun h => absurd rfl h.2) _).setCell (fun h => absurd rfl h.2) _).setCell (fun h => absurd rfl h.1) _) ((boxed_far (boxed_far HB6.out (p := ⟨g6, j * 2, none⟩) hne7 _) (p := ⟨g6, j * 2 + 1, none⟩) hne7 _).set _) (ownsRow_heap (by rw [← za_set D j HAJ.out.len t.1 t.2 (.slice pk4 t.2.len ck4)]; exact (((HO6.out.stored (j * 2) (.int .i64 t.1)).1).stored (j * 2 + 1) (.slice pk4 t.2.len ck4)).1) (fun g hg => Below.heap_setCell _ _ _ _ (fun e => hne6 ((Option.some.inj (show some g6 = some g from hg)).trans e))))
          refine AllReadyIn.cons rfl (fun K hK => ?_) AllReadyIn.nil
          go_simp
          refine hK _ _ ?_
          clear hK K
          refine wpAnyIn_ready (rs := [7]) (by kernel_rfl) (by simp) ?_
          refine AllReadyIn.cons rfl (fun K hK => ?_) AllReadyIn.nil
          go_simp
          refine hK _ _ ?_
          clear hK K
          refine wpAnyIn_done (by kernel_rfl) ?_ _
          gi_wp2
          exact HLF.out _ ((((Kp.refl _ _).setCell (fun h => absurd rfl h.1) _).setCell (fun h => absurd rfl h.2) _).setCell (fun h => absurd rfl h.2) _) (boxed_far (boxed_far (HB6.out.set _) (p := ⟨g6, j * 2, none⟩) hne7 _) (p := ⟨g6, j * 2 + 1, none⟩) hne7 _) (by rw [← za_set D j HAJ.out.len t.1 t.2 (.slice pk4 t.2.len ck4)]; exact ((((ownsRow_heap HO6.out (fun g hg => Below.heap_setCell _ _ _ _ (fun e => hne6 ((Option.some.inj (show some g6 = some g from hg)).trans e)))).stored (j * 2) (.int .i64 t.1)).1).stored (j * 2 + 1) (.slice pk4 t.2.len ck4)).1)
        refine AllReadyIn.cons rfl (fun K hK => ?_) AllReadyIn.nil
        go_simp
        refine hK _ _ ?_
        clear hK K
        refine wpAnyIn_ready (rs := [6]) (by kernel_rfl) (by simp) ?_
        refine AllReadyIn.cons rfl (fun K hK => ?_) AllReadyIn.nil
        go_simp
        refine hK _ _ ?_
        clear hK K
        refine wpAnyIn_ready (rs := [7]) (by kernel_rfl) (by simp) ?_
        refine AllReadyIn.cons rfl (fun K hK => ?_) AllReadyIn.nil
        go_simp
        refine hK _ _ ?_
        clear hK K
        refine wpAnyIn_done (by kernel_rfl) ?_ _
        gi_wp2
        exact HLF.out _ ((((Kp.refl _ _).setCell (fun h => absurd rfl h.1) _).setCell (fun h => absurd rfl h.2) _).setCell (fun h => absurd rfl h.2) _) (boxed_far (boxed_far (HB6.out.set _) (p := ⟨g6, j * 2, none⟩) hne7 _) (p := ⟨g6, j * 2 + 1, none⟩) hne7 _) (by rw [← za_set D j HAJ.out.len t.1 t.2 (.slice pk4 t.2.len ck4)]; exact ((((ownsRow_heap HO6.out (fun g hg => Below.heap_setCell _ _ _ _ (fun e => hne6 ((Option.some.inj (show some g6 = some g from hg)).trans e)))).stored (j * 2) (.int .i64 t.1)).1).stored (j * 2 + 1) (.slice pk4 t.2.len ck4)).1)
      refine AllReadyIn.cons rfl (fun K hK => ?_) ?_
      · refine step_call _ rfl 72 (.tmp 30) #[27] rfl (.agg #[.int .i64 t.1, .slice pk t.2.len ck]) rfl _ (enters_of Tryd.func72 (by kernel_rfl) rfl) (HCL.out _ ((Below.refl W'.heap.size W').drew)) ?_
        rintro e w4 ⟨r4, rfl, ⟨kv4, e4, hwf4, hkv4⟩, hb4⟩
        dsimp only at e4 hkv4
        subst e4
        have hkv4' := hkv4
        obtain ⟨pk4, ck4, rfl, _⟩ := hkv4'
        have hbw4 : Below W'.heap.size W' w4 := (((Below.refl W'.heap.size W').drew)).trans (hb4.mono (((Below.refl W'.heap.size W').drew)).size)
        have HBW4 := Lib.hid hbw4
        have HKV4 := Lib.hid (hkv4.mono (S' := fun c => W'.heap.size ≤ c ∧ c < w4.heap.size) (fun c hc h => ⟨Nat.le_trans (((Below.refl W'.heap.size W').drew)).size h, hc⟩))
        obtain ⟨z1, z3, z4, z2, z5⟩ := HST.out w4 hbw4
        refine ⟨_, rfl, ?_⟩
        clear hkv4 hb4 hbw4
        refine hK _ _ ?_
        clear hK K
        refine wpAnyIn_ready (rs := [0, 4]) (by kernel_rfl) (by simp) ?_
        refine AllReadyIn.cons rfl (fun K hK => ?_) ?_
        · go_simp
          refine hK _ _ ?_
          clear hK K
          refine wpAnyIn_ready (rs := [3, 4]) (by kernel_rfl) (by simp) ?_
          refine AllReadyIn.cons rfl (fun K hK => ?_) ?_
          · go_simp
            refine hK _ _ ?_
            clear hK K
            refine wpAnyIn_ready (rs := [4]) (by kernel_rfl) (by simp) ?_
            refine AllReadyIn.cons rfl (fun K hK => ?_) AllReadyIn.nil
            go_simp
            refine hK _ _ ?_
            clear hK K
            have HZB := Lib.hid (Blk.new w4 27 #[.int .i64 0, .slice none 0 0])
            refine wpAnyIn_ready (rs := [5]) (by kernel_rfl) (by simp) ?_
            refine AllReadyIn.cons rfl (fun K hK => ?_) AllReadyIn.nil
            have h4 : Below W'.heap.size W' (w4.alloc (.cells #[.int .i64 0, .slice none 0 0] 27)) := (HBW4.out.alloc HBW4.out.size (.cells #[.int .i64 0, .slice none 0 0] 27))
            refine step_zero_append (w4.alloc (.cells #[.int .i64 0, .slice none 0 0] 27)) rfl (.tmp 29) (.tmp 33) rfl w.heap.size (.slice pa j ca) j (dcells D) rfl (ownsRow_heap HAJ.out.own (fun g hg => h4.block g ((HAJ.out.own.lt g hg).2))) _ rfl HZB.out hj5 (by have := h4.size; omega) ?_
            intro v6 w6 ho6 hk6 hat6
            have HKF := Lib.hid (show IsHS (fun c => W'.heap.size ≤ c ∧ c < ((w4.alloc (.cells #[.int .i64 0, .slice none 0 0] 27))).heap.size) (w4.alloc (.cells #[.int .i64 0, .slice none 0 0] 27)) (.slice pk4 t.2.len ck4) t.2 from ((HKV4.out.kp ((Kp.refl _ _).alloc (.cells #[.int .i64 0, .slice none 0 0] 27))).mono (fun c hc h => ⟨h.1, by simp; omega⟩)))
            have H4 := Lib.hid h4
            have HK6 := Lib.hid hk6
            have HAT := Lib.hid hat6
            have HO6 := Lib.hid ho6
            rcases ho6.2 with ⟨_, hz⟩ | ⟨g6, cap6, cur6, rfl, hbg6, hg6, hcap6, hmax6, _, _⟩
            · omega
            have hb6 : Boxed w6 (w2.heap.size + 1) 25 (.slice pa j ca) := hk6.boxed (HBX.out _ h4) HNB.out
            have z1 := hb6.cell
            have z2 := hb6.lt
            have z7 := hb6.frozen
            have y0 : w6.cell? ⟨g6, j * 2, none⟩ = some (.int .i64 0) := by rw [ho6.cellAt _ (by omega)]; exact (za_at D j HAJ.out.len).1
            have y1 : w6.cell? ⟨g6, j * 2 + 1, none⟩ = some (.slice none 0 0) := by rw [ho6.cellAt _ (by omega)]; exact (za_at D j HAJ.out.len).2
            have y2 := ho6.frozenAt (j * 2)
            have y3 := ho6.frozenAt (j * 2 + 1)
            have y4 := (ho6.lt g6 rfl).2
            have hne6 : ¬ g6 = w2.heap.size + 1 := HNE.out g6 cap6 _ h4 hat6
            have hne7 : ¬ w2.heap.size + 1 = g6 := fun e => hne6 e.symm
            have HB6 := Lib.hid hb6
            have HLF : Hid (∀ w7, Kp (fun c => c ≠ w2.heap.size + 1 ∧ Value.ownBlock (.slice (some ⟨g6, 0, none⟩) (j + 1) cap6) ≠ some c) w6 w7 → Boxed w7 (w2.heap.size + 1) 25 (.slice (some ⟨g6, 0, none⟩) (j + 1) cap6) → w7.ownsRow w.heap.size 27 2 (.slice (some ⟨g6, 0, none⟩) (j + 1) cap6) (j + 1) (dcells (D ++ [(t.1, t.2, .slice pk4 t.2.len ck4)])) → ∃ C'', Grow C' W' C'' w7 ∧ ∃ D' va', AJ (TT ranks n) w.heap.size (w2.heap.size + 1) (j + 1) C'' w7 D' va') := Lib.hid (fun w7 ha hb hc => by
              obtain ⟨C'', h1, h2⟩ := HAJ.out.step htt HG.out.lt (Kp.of_below h4 (fun k hk _ => hk)) hwf HKF.out hk6 hat6 ha hb hc
              exact ⟨C'', h1, _, _, h2⟩)
            unfold maxLen at hmax6
            clear h4 hk6 hat6 ho6 hg6 hb6 z3 z4 z5
            refine hK _ _ ?_
            clear hK K
            refine wpAnyIn_ready (rs := [6, 8]) (by kernel_rfl) (by simp) ?_
            refine AllReadyIn.cons rfl (fun K hK => ?_) ?_
            · go_simp
              refine hK _ _ ?_
              clear hK K
              refine wpAnyIn_ready (rs := [7, 8]) (by kernel_rfl) (by simp) ?_
              refine AllReadyIn.cons rfl (fun K hK => ?_) ?_
              · go_simp
                refine hK _ _ ?_
                clear hK K
                refine wpAnyIn_ready (rs := [8]) (by kernel_rfl) (by simp) ?_
                refine AllReadyIn.cons rfl (fun K hK => ?_) AllReadyIn.nil
                go_simp
                refine hK _ _ ?_
                clear hK K
                refine wpAnyIn_done (by kernel_rfl) ?_ _
                gi_wp2
                exact HLF.out _ ((((Kp.refl _ _).setCell (fun h => absurd rfl h.2) _).setCell (fun h => absurd rfl h.2) _).setCell (fun h => absurd rfl h.1) _) ((boxed_far (boxed_far HB6.out (p := ⟨g6, j * 2, none⟩) hne7 _) (p := ⟨g6, j * 2 + 1, none⟩) hne7 _).set _) (ownsRow_heap (by rw [← za_set D j HAJ.out.len t.1 t.2 (.slice pk4 t.2.len ck4)]; exact (((HO6.out.stored (j * 2) (.int .i64 t.1)).1).stored (j * 2 + 1) (.slice pk4 t.2.len ck4)).1) (fun g hg => Below.heap_setCell _ _ _ _ (fun e => hne6 ((Option.some.inj (show some g6 = some g from hg)).trans e))))
              refine AllReadyIn.cons rfl (fun K hK => ?_) AllReadyIn.nil
              go_simp
              refine hK _ _ ?_
              clear hK K
              refine wpAnyIn_ready (rs := [7]) (by kernel_rfl) (by simp) ?_
              refine AllReadyIn.cons rfl (fun K hK => ?_) AllReadyIn.nil
              go_simp
              refine hK _ _ ?_
              clear hK K
              refine wpAnyIn_done (by kernel_rfl) ?_ _
              gi_wp2
              exact HLF.out _ ((((Kp.refl _ _).setCell (fun h => absurd rfl h.1) _).setCell (fun h => absurd rfl h.2) _).setCell (fun h => absurd rfl h.2) _) (boxed_far (boxed_far (HB6.out.set _) (p := ⟨g6, j * 2, none⟩) hne7 _) (p := ⟨g6, j * 2 + 1, none⟩) hne7 _) (by rw [← za_set D j HAJ.out.len t.1 t.2 (.slice pk4 t.2.len ck4)]; exact ((((ownsRow_heap HO6.out (fun g hg => Below.heap_setCell _ _ _ _ (fun e => hne6 ((Option.some.inj (show some g6 = some g from hg)).trans e)))).stored (j * 2) (.int .i64 t.1)).1).stored (j * 2 + 1) (.slice pk4 t.2.len ck4)).1)
            refine AllReadyIn.cons rfl (fun K hK => ?_) AllReadyIn.nil
            go_simp
            refine hK _ _ ?_
            clear hK K
            refine wpAnyIn_ready (rs := [6]) (by kernel_rfl) (by simp) ?_
            refine AllReadyIn.cons rfl (fun K hK => ?_) AllReadyIn.nil
            go_simp
            refine hK _ _ ?_
            clear hK K
            refine wpAnyIn_ready (rs := [7]) (by kernel_rfl) (by simp) ?_
            refine AllReadyIn.cons rfl (fun K hK => ?_) AllReadyIn.nil
            go_simp
            refine hK _ _ ?_
            clear hK K
            refine wpAnyIn_done (by kernel_rfl) ?_ _
            gi_wp2
            exact HLF.out _ ((((Kp.refl _ _).setCell (fun h => absurd rfl h.1) _).setCell (fun h => absurd rfl h.2) _).setCell (fun h => absurd rfl h.2) _) (boxed_far (boxed_far (HB6.out.set _) (p := ⟨g6, j * 2, none⟩) hne7 _) (p := ⟨g6, j * 2 + 1, none⟩) hne7 _) (by rw [← za_set D j HAJ.out.len t.1 t.2 (.slice pk4 t.2.len ck4)]; exact ((((ownsRow_heap HO6.out (fun g hg => Below.heap_setCell _ _ _ _ (fun e => hne6 ((Option.some.inj (show some g6 = some g from hg)).trans e)))).stored (j * 2) (.int .i64 t.1)).1).stored (j * 2 + 1) (.slice pk4 t.2.len ck4)).1)
          refine AllReadyIn.cons rfl (fun K hK => ?_) AllReadyIn.nil
          go_simp
          refine hK _ _ ?_
          clear hK K
          have HZB := Lib.hid (Blk.new w4 27 #[.int .i64 0, .slice none 0 0])
          refine wpAnyIn_ready (rs := [3]) (by kernel_rfl) (by simp) ?_
          refine AllReadyIn.cons rfl (fun K hK => ?_) AllReadyIn.nil
          go_simp
          refine hK _ _ ?_
          clear hK K
          refine wpAnyIn_ready (rs := [5]) (by kernel_rfl) (by simp) ?_
          refine AllReadyIn.cons rfl (fun K hK => ?_) AllReadyIn.nil
          have h4 : Below W'.heap.size W' (w4.alloc (.cells #[.int .i64 0, .slice none 0 0] 27)) := (HBW4.out.alloc HBW4.out.size (.cells #[.int .i64 0, .slice none 0 0] 27))
          refine step_zero_append (w4.alloc (.cells #[.int .i64 0, .slice none 0 0] 27)) rfl (.tmp 29) (.tmp 33) rfl w.heap.size (.slice pa j ca) j (dcells D) rfl (ownsRow_heap HAJ.out.own (fun g hg => h4.block g ((HAJ.out.own.lt g hg).2))) _ rfl HZB.out hj5 (by have := h4.size; omega) ?_
          intro v6 w6 ho6 hk6 hat6
          have HKF := Lib.hid (show IsHS (fun c => W'.heap.size ≤ c ∧ c < ((w4.alloc (.cells #[.int .i64 0, .slice none 0 0] 27))).heap.size) (w4.alloc (.cells #[.int .i64 0, .slice none 0 0] 27)) (.slice pk4 t.2.len ck4) t.2 from ((HKV4.out.kp ((Kp.refl _ _).alloc (.cells #[.int .i64 0, .slice none 0 0] 27))).mono (fun c hc h => ⟨h.1, by simp; omega⟩)))
          have H4 := Lib.hid h4
          have HK6 := Lib.hid hk6
          have HAT := Lib.hid hat6
          have HO6 := Lib.hid ho6
          rcases ho6.2 with ⟨_, hz⟩ | ⟨g6, cap6, cur6, rfl, hbg6, hg6, hcap6, hmax6, _, _⟩
          · omega
          have hb6 : Boxed w6 (w2.heap.size + 1) 25 (.slice pa j ca) := hk6.boxed (HBX.out _ h4) HNB.out
          have z1 := hb6.cell
          have z2 := hb6.lt
          have z7 := hb6.frozen
          have y0 : w6.cell? ⟨g6, j * 2, none⟩ = some (.int .i64 0) := by rw [ho6.cellAt _ (by omega)]; exact (za_at D j HAJ.out.len).1
          have y1 : w6.cell? ⟨g6, j * 2 + 1, none⟩ = some (.slice none 0 0) := by rw [ho6.cellAt _ (by omega)]; exact (za_at D j HAJ.out.len).2
          have y2 := ho6.frozenAt (j * 2)
          have y3 := ho6.frozenAt (j * 2 + 1)
          have y4 := (ho6.lt g6 rfl).2
          have hne6 : ¬ g6 = w2.heap.size + 1 := HNE.out g6 cap6 _ h4 hat6
          have hne7 : ¬ w2.heap.size + 1 = g6 := fun e => hne6 e.symm
          have HB6 := Lib.hid hb6
          have HLF : Hid (∀ w7, Kp (fun c => c ≠ w2.heap.size + 1 ∧ Value.ownBlock (.slice (some ⟨g6, 0, none⟩) (j + 1) cap6) ≠ some c) w6 w7 → Boxed w7 (w2.heap.size + 1) 25 (.slice (some ⟨g6, 0, none⟩) (j + 1) cap6) → w7.ownsRow w.heap.size 27 2 (.slice (some ⟨g6, 0, none⟩) (j + 1) cap6) (j + 1) (dcells (D ++ [(t.1, t.2, .slice pk4 t.2.len ck4)])) → ∃ C'', Grow C' W' C'' w7 ∧ ∃ D' va', AJ (TT ranks n) w.heap.size (w2.heap.size + 1) (j + 1) C'' w7 D' va') := Lib.hid (fun w7 ha hb hc => by
            obtain ⟨C'', h1, h2⟩ := HAJ.out.step htt HG.out.lt (Kp.of_below h4 (fun k hk _ => hk)) hwf HKF.out hk6 hat6 ha hb hc
            exact ⟨C'', h1, _, _, h2⟩)
          unfold maxLen at hmax6
          clear h4 hk6 hat6 ho6 hg6 hb6 z3 z4 z5
          refine hK _ _ ?_
          clear hK K
          refine wpAnyIn_ready (rs := [6, 8]) (by kernel_rfl) (by simp) ?_
          refine AllReadyIn.cons rfl (fun K hK => ?_) ?_
          · go_simp
            refine hK _ _ ?_
            clear hK K
            refine wpAnyIn_ready (rs := [7, 8]) (by kernel_rfl) (by simp) ?_
            refine AllReadyIn.cons rfl (fun K hK => ?_) ?_
            · go_simp
              refine hK _ _ ?_
              clear hK K
              refine wpAnyIn_ready (rs := [8]) (by kernel_rfl) (by simp) ?_
              refine AllReadyIn.cons rfl (fun K hK => ?_) AllReadyIn.nil
              go_simp
              refine hK _ _ ?_
              clear hK K
              refine wpAnyIn_done (by kernel_rfl) ?_ _
              gi_wp2
              exact HLF.out _ ((((Kp.refl _ _).setCell (fun h => absurd rfl h.2) _).setCell (fun h => absurd rfl h.2) _).setCell (fun h => absurd rfl h.1) _) ((boxed_far (boxed_far HB6.out (p := ⟨g6, j * 2, none⟩) hne7 _) (p := ⟨g6, j * 2 + 1, none⟩) hne7 _).set _) (ownsRow_heap (by rw [← za_set D j HAJ.out.len t.1 t.2 (.slice pk4 t.2.len ck4)]; exact (((HO6.out.stored (j * 2) (.int .i64 t.1)).1).stored (j * 2 + 1) (.slice pk4 t.2.len ck4)).1) (fun g hg => Below.heap_setCell _ _ _ _ (fun e => hne6 ((Option.some.inj (show some g6 = some g from hg)).trans e))))
            refine AllReadyIn.cons rfl (fun K hK => ?_) AllReadyIn.nil
            go_simp
            refine hK _ _ ?_
            clear hK K
            refine wpAnyIn_ready (rs := [7]) (by kernel_rfl) (by simp) ?_
            refine AllReadyIn.cons rfl (fun K hK => ?_) AllReadyIn.nil
            go_simp
            refine hK _ _ ?_
            clear hK K
            refine wpAnyIn_done (by kernel_rfl) ?_ _
            gi_wp2
            exact HLF.out _ ((((Kp.refl _ _).setCell (fun h => absurd rfl h.1) _).setCell (fun h => absurd rfl h.2) _).setCell (fun h => absurd rfl h.2) _) (boxed_far (boxed_far (HB6.out.set _) (p := ⟨g6, j * 2, none⟩) hne7 _) (p := ⟨g6, j * 2 + 1, none⟩) hne7 _) (by rw [← za_set D j HAJ.out.len t.1 t.2 (.slice pk4 t.2.len ck4)]; exact ((((ownsRow_heap HO6.out (fun g hg => Below.heap_setCell _ _ _ _ (fun e => hne6 ((Option.some.inj (show some g6 = some g from hg)).trans e)))).stored (j * 2) (.int .i64 t.1)).1).stored (j * 2 + 1) (.slice pk4 t.2.len ck4)).1)
          refine AllReadyIn.cons rfl (fun K hK => ?_) AllReadyIn.nil
          go_simp
          refine hK _ _ ?_
          clear hK K
          refine wpAnyIn_ready (rs := [6]) (by kernel_rfl) (by simp) ?_
          refine AllReadyIn.cons rfl (fun K hK => ?_) AllReadyIn.nil
          go_simp
          refine hK _ _ ?_
          clear hK K
          refine wpAnyIn_ready (rs := [7]) (by kernel_rfl) (by simp) ?_
          refine AllReadyIn.cons rfl (fun K hK => ?_) AllReadyIn.nil
          go_simp
          refine hK _ _ ?_
          clear hK K
          refine wpAnyIn_done (by kernel_rfl) ?_ _
          gi_wp2
          exact HLF.out _ ((((Kp.refl _ _).setCell (fun h => absurd rfl h.1) _).setCell (fun h => absurd rfl h.2) _).setCell (fun h => absurd rfl h.2) _) (boxed_far (boxed_far (HB6.out.set _) (p := ⟨g6, j * 2, none⟩) hne7 _) (p := ⟨g6, j * 2 + 1, none⟩) hne7 _) (by rw [← za_set D j HAJ.out.len t.1 t.2 (.slice pk4 t.2.len ck4)]; exact ((((ownsRow_heap HO6.out (fun g hg => Below.heap_setCell _ _ _ _ (fun e => hne6 ((Option.some.inj (show some g6 = some g from hg)).trans e)))).stored (j * 2) (.int .i64 t.1)).1).stored (j * 2 + 1) (.slice pk4 t.2.len ck4)).1)
        refine AllReadyIn.cons rfl (fun K hK => ?_) AllReadyIn.nil
        go_simp
        refine hK _ _ ?_
        clear hK K
        have HZB := Lib.hid (Blk.new w4 27 #[.int .i64 0, .slice none 0 0])
        refine wpAnyIn_ready (rs := [0]) (by kernel_rfl) (by simp) ?_
        refine AllReadyIn.cons rfl (fun K hK => ?_) AllReadyIn.nil
        go_simp
        refine hK _ _ ?_
        clear hK K
        refine wpAnyIn_ready (rs := [3]) (by kernel_rfl) (by simp) ?_
        refine AllReadyIn.cons rfl (fun K hK => ?_) AllReadyIn.nil
        go_simp
        refine hK _ _ ?_
        clear hK K
        refine wpAnyIn_ready (rs := [5]) (by kernel_rfl) (by simp) ?_
        refine AllReadyIn.cons rfl (fun K hK => ?_) AllReadyIn.nil
        have h4 : Below W'.heap.size W' (w4.alloc (.cells #[.int .i64 0, .slice none 0 0] 27)) := (HBW4.out.alloc HBW4.out.size (.cells #[.int .i64 0, .slice none 0 0] 27))
        refine step_zero_append (w4.alloc (.cells #[.int .i64 0, .slice none 0 0] 27)) rfl (.tmp 29) (.tmp 33) rfl w.heap.size (.slice pa j ca) j (dcells D) rfl (ownsRow_heap HAJ.out.own (fun g hg => h4.block g ((HAJ.out.own.lt g hg).2))) _ rfl HZB.out hj5 (by have := h4.size; omega) ?_
        intro v6 w6 ho6 hk6 hat6
        have HKF := Lib.hid (show IsHS (fun c => W'.heap.size ≤ c ∧ c < ((w4.alloc (.cells #[.int .i64 0, .slice none 0 0] 27))).heap.size) (w4.alloc (.cells #[.int .i64 0, .slice none 0 0] 27)) (.slice pk4 t.2.len ck4) t.2 from ((HKV4.out.kp ((Kp.refl _ _).alloc (.cells #[.int .i64 0, .slice none 0 0] 27))).mono (fun c hc h => ⟨h.1, by simp; omega⟩)))
        have H4 := Lib.hid h4
        have HK6 := Lib.hid hk6
        have HAT := Lib.hid hat6
        have HO6 := Lib.hid ho6
        rcases ho6.2 with ⟨_, hz⟩ | ⟨g6, cap6, cur6, rfl, hbg6, hg6, hcap6, hmax6, _, _⟩
        · omega
        have hb6 : Boxed w6 (w2.heap.size + 1) 25 (.slice pa j ca) := hk6.boxed (HBX.out _ h4) HNB.out
        have z1 := hb6.cell
        have z2 := hb6.lt
        have z7 := hb6.frozen
        have y0 : w6.cell? ⟨g6, j * 2, none⟩ = some (.int .i64 0) := by rw [ho6.cellAt _ (by omega)]; exact (za_at D j HAJ.out.len).1
        have y1 : w6.cell? ⟨g6, j * 2 + 1, none⟩ = some (.slice none 0 0) := by rw [ho6.cellAt _ (by omega)]; exact (za_at D j HAJ.out.len).2
        have y2 := ho6.frozenAt (j * 2)
        have y3 := ho6.frozenAt (j * 2 + 1)
        have y4 := (ho6.lt g6 rfl).2
        have hne6 : ¬ g6 = w2.heap.size + 1 := HNE.out g6 cap6 _ h4 hat6
        have hne7 : ¬ w2.heap.size + 1 = g6 := fun e => hne6 e.symm
        have HB6 := Lib.hid hb6
        have HLF : Hid (∀ w7, Kp (fun c => c ≠ w2.heap.size + 1 ∧ Value.ownBlock (.slice (some ⟨g6, 0, none⟩) (j + 1) cap6) ≠ some c) w6 w7 → Boxed w7 (w2.heap.size + 1) 25 (.slice (some ⟨g6, 0, none⟩) (j + 1) cap6) → w7.ownsRow w.heap.size 27 2 (.slice (some ⟨g6, 0, none⟩) (j + 1) cap6) (j + 1) (dcells (D ++ [(t.1, t.2, .slice pk4 t.2.len ck4)])) → ∃ C'', Grow C' W' C'' w7 ∧ ∃ D' va', AJ (TT ranks n) w.heap.size (w2.heap.size + 1) (j + 1) C'' w7 D' va') := Lib.hid (fun w7 ha hb hc => by
          obtain ⟨C'', h1, h2⟩ := HAJ.out.step htt HG.out.lt (Kp.of_below h4 (fun k hk _ => hk)) hwf HKF.out hk6 hat6 ha hb hc
          exact ⟨C'', h1, _, _, h2⟩)
        unfold maxLen at hmax6
        clear h4 hk6 hat6 ho6 hg6 hb6 z3 z4 z5
        refine hK _ _ ?_
        clear hK K
        refine wpAnyIn_ready (rs := [6, 8]) (by kernel_rfl) (by simp) ?_
        refine AllReadyIn.cons rfl (fun K hK => ?_) ?_
        · go_simp
          refine hK _ _ ?_
          clear hK K
          refine wpAnyIn_ready (rs := [7, 8]) (by kernel_rfl) (by simp) ?_
          refine AllReadyIn.cons rfl (fun K hK => ?_) ?_
          · go_simp
            refine hK _ _ ?_
            clear hK K
            refine wpAnyIn_ready (rs := [8]) (by kernel_rfl) (by simp) ?_
            refine AllReadyIn.cons rfl (fun K hK => ?_) AllReadyIn.nil
            go_simp
            refine hK _ _ ?_
            clear hK K
            refine wpAnyIn_done (by kernel_rfl) ?_ _
            gi_wp2
            exact HLF.out _ ((((Kp.refl _ _).setCell (fun h => absurd rfl h.2) _).setCell (fun h => absurd rfl h.2) _).setCell (fun h => absurd rfl h.1) _) ((boxed_far (boxed_far HB6.out (p := ⟨g6, j * 2, none⟩) hne7 _) (p := ⟨g6, j * 2 + 1, none⟩) hne7 _).set _) (ownsRow_heap (by rw [← za_set D j HAJ.out.len t.1 t.2 (.slice pk4 t.2.len ck4)]; exact (((HO6.out.stored (j * 2) (.int .i64 t.1)).1).stored (j * 2 + 1) (.slice pk4 t.2.len ck4)).1) (fun g hg => Below.heap_setCell _ _ _ _ (fun e => hne6 ((Option.some.inj (show some g6 = some g from hg)).trans e))))
          refine AllReadyIn.cons rfl (fun K hK => ?_) AllReadyIn.nil
          go_simp
          refine hK _ _ ?_
          clear hK K
          refine wpAnyIn_ready (rs := [7]) (by kernel_rfl) (by simp) ?_
          refine AllReadyIn.cons rfl (fun K hK => ?_) AllReadyIn.nil
          go_simp
          refine hK _ _ ?_
          clear hK K
          refine wpAnyIn_done (by kernel_rfl) ?_ _
          gi_wp2
          exact HLF.out _ ((((Kp.refl _ _).setCell (fun h => absurd rfl h.1) _).setCell (fun h => absurd rfl h.2) _).setCell (fun h => absurd rfl h.2) _) (boxed_far (boxed_far (HB6.out.set _) (p := ⟨g6, j * 2, none⟩) hne7 _) (p := ⟨g6, j * 2 + 1, none⟩) hne7 _) (by rw [← za_set D j HAJ.out.len t.1 t.2 (.slice pk4 t.2.len ck4)]; exact ((((ownsRow_heap HO6.out (fun g hg => Below.heap_setCell _ _ _ _ (fun e => hne6 ((Option.some.inj (show some g6 = some g from hg)).trans e)))).stored (j * 2) (.int .i64 t.1)).1).stored (j * 2 + 1) (.slice pk4 t.2.len ck4)).1)
        refine AllReadyIn.cons rfl (fun K hK => ?_) AllReadyIn.nil
        go_simp
        refine hK _ _ ?_
        clear hK K
        refine wpAnyIn_ready (rs := [6]) (by kernel_rfl) (by simp) ?_
        refine AllReadyIn.cons rfl (fun K hK => ?_) AllReadyIn.nil
        go_simp
        refine hK _ _ ?_
        clear hK K
        refine wpAnyIn_ready (rs := [7]) (by kernel_rfl) (by simp) ?_
        refine AllReadyIn.cons rfl (fun K hK => ?_) AllReadyIn.nil
        go_simp
        refine hK _ _ ?_
        clear hK K
        refine wpAnyIn_done (by kernel_rfl) ?_ _
        gi_wp2
        exact HLF.out _ ((((Kp.refl _ _).setCell (fun h => absurd rfl h.1) _).setCell (fun h => absurd rfl h.2) _).setCell (fun h => absurd rfl h.2) _) (boxed_far (boxed_far (HB6.out.set _) (p := ⟨g6, j * 2, none⟩) hne7 _) (p := ⟨g6, j * 2 + 1, none⟩) hne7 _) (by rw [← za_set D j HAJ.out.len t.1 t.2 (.slice pk4 t.2.len ck4)]; exact ((((ownsRow_heap HO6.out (fun g hg => Below.heap_setCell _ _ _ _ (fun e => hne6 ((Option.some.inj (show some g6 = some g from hg)).trans e)))).stored (j * 2) (.int .i64 t.1)).1).stored (j * 2 + 1) (.slice pk4 t.2.len ck4)).1)
      refine AllReadyIn.cons rfl (fun K hK => ?_) AllReadyIn.nil
      go_simp
      refine hK _ _ ?_
      clear hK K
      refine wpAnyIn_ready (rs := [0, 2]) (by kernel_rfl) (by simp) ?_
      refine AllReadyIn.cons rfl (fun K hK => ?_) ?_
      · go_simp
        refine hK _ _ ?_
        clear hK K
        refine wpAnyIn_ready (rs := [2, 3]) (by kernel_rfl) (by simp) ?_
        refine AllReadyIn.cons rfl (fun K hK => ?_) ?_
        · refine step_call _ rfl 72 (.tmp 30) #[27] rfl (.agg #[.int .i64 t.1, .slice pk t.2.len ck]) rfl _ (enters_of Tryd.func72 (by kernel_rfl) rfl) (HCL.out _ ((Below.refl W'.heap.size W').drew.alloc (Nat.le_refl _) (.cells #[.int .i64 0, .slice none 0 0] 27))) ?_
          rintro e w4 ⟨r4, rfl, ⟨kv4, e4, hwf4, hkv4⟩, hb4⟩
          dsimp only at e4 hkv4
          subst e4
          have hkv4' := hkv4
          obtain ⟨pk4, ck4, rfl, _⟩ := hkv4'
          have hbw4 : Below W'.heap.size W' w4 := (((Below.refl W'.heap.size W').drew.alloc (Nat.le_refl _) (.cells #[.int .i64 0, .slice none 0 0] 27))).trans (hb4.mono (((Below.refl W'.heap.size W').drew.alloc (Nat.le_refl _) (.cells #[.int .i64 0, .slice none 0 0] 27))).size)
          have HBW4 := Lib.hid hbw4
          have HKV4 := Lib.hid (hkv4.mono (S' := fun c => W'.heap.size ≤ c ∧ c < w4.heap.size) (fun c hc h => ⟨Nat.le_trans (((Below.refl W'.heap.size W').drew.alloc (Nat.le_refl _) (.cells #[.int .i64 0, .slice none 0 0] 27))).size h, hc⟩))
          obtain ⟨z1, z3, z4, z2, z5⟩ := HST.out w4 hbw4
          refine ⟨_, rfl, ?_⟩
          have HZB := Lib.hid ((Blk.new W'.drew 27 #[.int .i64 0, .slice none 0 0]).below hb4 (by simp))
          clear hkv4 hb4 hbw4
          refine hK _ _ ?_
          clear hK K
          refine wpAnyIn_ready (rs := [3]) (by kernel_rfl) (by simp) ?_
          refine AllReadyIn.cons rfl (fun K hK => ?_) AllReadyIn.nil
          go_simp
          refine hK _ _ ?_
          clear hK K
          refine wpAnyIn_ready (rs := [5]) (by kernel_rfl) (by simp) ?_
          refine AllReadyIn.cons rfl (fun K hK => ?_) AllReadyIn.nil
          have h4 : Below W'.heap.size W' w4 := HBW4.out
          refine step_zero_append w4 rfl (.tmp 29) (.tmp 33) rfl w.heap.size (.slice pa j ca) j (dcells D) rfl (ownsRow_heap HAJ.out.own (fun g hg => h4.block g ((HAJ.out.own.lt g hg).2))) _ rfl HZB.out hj5 (by have := h4.size; omega) ?_
          intro v6 w6 ho6 hk6 hat6
          have HKF := Lib.hid (show IsHS (fun c => W'.heap.size ≤ c ∧ c < (w4).heap.size) w4 (.slice pk4 t.2.len ck4) t.2 from HKV4.out)
          have H4 := Lib.hid h4
          have HK6 := Lib.hid hk6
          have HAT := Lib.hid hat6
          have HO6 := Lib.hid ho6
          rcases ho6.2 with ⟨_, hz⟩ | ⟨g6, cap6, cur6, rfl, hbg6, hg6, hcap6, hmax6, _, _⟩
          · omega
          have hb6 : Boxed w6 (w2.heap.size + 1) 25 (.slice pa j ca) := hk6.boxed (HBX.out _ h4) HNB.out
          have z1 := hb6.cell
          have z2 := hb6.lt
          have z7 := hb6.frozen
          have y0 : w6.cell? ⟨g6, j * 2, none⟩ = some (.int .i64 0) := by rw [ho6.cellAt _ (by omega)]; exact (za_at D j HAJ.out.len).1
          have y1 : w6.cell? ⟨g6, j * 2 + 1, none⟩ = some (.slice none 0 0) := by rw [ho6.cellAt _ (by omega)]; exact (za_at D j HAJ.out.len).2
          have y2 := ho6.frozenAt (j * 2)
          have y3 := ho6.frozenAt (j * 2 + 1)
          have y4 := (ho6.lt g6 rfl).2
          have hne6 : ¬ g6 = w2.heap.size + 1 := HNE.out g6 cap6 _ h4 hat6
          have hne7 : ¬ w2.heap.size + 1 = g6 := fun e => hne6 e.symm
          have HB6 := Lib.hid hb6
          have HLF : Hid (∀ w7, Kp (fun c => c ≠ w2.heap.size + 1 ∧ Value.ownBlock (.slice (some ⟨g6, 0, none⟩) (j + 1) cap6) ≠ some c) w6 w7 → Boxed w7 (w2.heap.size + 1) 25 (.slice (some ⟨g6, 0, none⟩) (j + 1) cap6) → w7.ownsRow w.heap.size 27 2 (.slice (some ⟨g6, 0, none⟩) (j + 1) cap6) (j + 1) (dcells (D ++ [(t.1, t.2, .slice pk4 t.2.len ck4)])) → ∃ C'', Grow C' W' C'' w7 ∧ ∃ D' va', AJ (TT ranks n) w.heap.size (w2.heap.size + 1) (j + 1) C'' w7 D' va') := Lib.hid (fun w7 ha hb hc => by
            obtain ⟨C'', h1, h2⟩ := HAJ.out.step htt HG.out.lt (Kp.of_below h4 (fun k hk _ => hk)) hwf HKF.out hk6 hat6 ha hb hc
            exact ⟨C'', h1, _, _, h2⟩)
          unfold maxLen at hmax6
          clear h4 hk6 hat6 ho6 hg6 hb6 z3 z4 z5
          refine hK _ _ ?_
          clear hK K
          refine wpAnyIn_ready (rs := [6, 8]) (by kernel_rfl) (by simp) ?_
          refine AllReadyIn.cons rfl (fun K hK => ?_) ?_
          · go_simp
            refine hK _ _ ?_
            clear hK K
            refine wpAnyIn_ready (rs := [7, 8]) (by kernel_rfl) (by simp) ?_
            refine AllReadyIn.cons rfl (fun K hK => ?_) ?_
            · go_simp
              refine hK _ _ ?_
              clear hK K
              refine wpAnyIn_ready (rs := [8]) (by kernel_rfl) (by simp) ?_
              refine AllReadyIn.cons rfl (fun K hK => ?_) AllReadyIn.nil
              go_simp
              refine hK _ _ ?_
              clear hK K
              refine wpAnyIn_done (by kernel_rfl) ?_ _
              gi_wp2
              exact HLF.out _ ((((Kp.refl _ _).setCell (fun h => absurd rfl h.2) _).setCell (fun h => absurd rfl h.2) _).setCell (fun h => absurd rfl h.1) _) ((boxed_far (boxed_far HB6.out (p := ⟨g6, j * 2, none⟩) hne7 _) (p := ⟨g6, j * 2 + 1, none⟩) hne7 _).set _) (ownsRow_heap (by rw [← za_set D j HAJ.out.len t.1 t.2 (.slice pk4 t.2.len ck4)]; exact (((HO6.out.stored (j * 2) (.int .i64 t.1)).1).stored (j * 2 + 1) (.slice pk4 t.2.len ck4)).1) (fun g hg => Below.heap_setCell _ _ _ _ (fun e => hne6 ((Option.some.inj (show some g6 = some g from hg)).trans e))))
            refine AllReadyIn.cons rfl (fun K hK => ?_) AllReadyIn.nil
            go_simp
            refine hK _ _ ?_
            clear hK K
            refine wpAnyIn_ready (rs := [7]) (by kernel_rfl) (by simp) ?_
            refine AllReadyIn.cons rfl (fun K hK => ?_) AllReadyIn.nil
            go_simp
            refine hK _ _ ?_
            clear hK K
            refine wpAnyIn_done (by kernel_rfl) ?_ _
            gi_wp2
            exact HLF.out _ ((((Kp.refl _ _).setCell (fun h => absurd rfl h.1) _).setCell (fun h => absurd rfl h.2) _).setCell (fun h => absurd rfl h.2) _) (boxed_far (boxed_far (HB6.out.set _) (p := ⟨g6, j * 2, none⟩) hne7 _) (p := ⟨g6, j * 2 + 1, none⟩) hne7 _) (by rw [← za_set D j HAJ.out.len t.1 t.2 (.slice pk4 t.2.len ck4)]; exact ((((ownsRow_heap HO6.out (fun g hg => Below.heap_setCell _ _ _ _ (fun e => hne6 ((Option.some.inj (show some g6 = some g from hg)).trans e)))).stored (j * 2) (.int .i64 t.1)).1).stored (j * 2 + 1) (.slice pk4 t.2.len ck4)).1)
          refine AllReadyIn.cons rfl (fun K hK => ?_) AllReadyIn.nil
          go_simp
          refine hK _ _ ?_
          clear hK K
          refine wpAnyIn_ready (rs := [6]) (by kernel_rfl) (by simp) ?_
          refine AllReadyIn.cons rfl (fun K hK => ?_) AllReadyIn.nil
          go_simp
          refine hK _ _ ?_
          clear hK K
          refine wpAnyIn_ready (rs := [7]) (by kernel_rfl) (by simp) ?_
          refine AllReadyIn.cons rfl (fun K hK => ?_) AllReadyIn.nil
          go_simp
          refine hK _ _ ?_
          clear hK K
          refine wpAnyIn_done (by kernel_rfl) ?_ _
          gi_wp2
          exact HLF.out _ ((((Kp.refl _ _).setCell (fun h => absurd rfl h.1) _).setCell (fun h => absurd rfl h.2) _).setCell (fun h => absurd rfl h.2) _) (boxed_far (boxed_far (HB6.out.set _) (p := ⟨g6, j * 2, none⟩) hne7 _) (p := ⟨g6, j * 2 + 1, none⟩) hne7 _) (by rw [← za_set D j HAJ.out.len t.1 t.2 (.slice pk4 t.2.len ck4)]; exact ((((ownsRow_heap HO6.out (fun g hg => Below.heap_setCell _ _ _ _ (fun e => hne6 ((Option.some.inj (show some g6 = some g from hg)).trans e)))).stored (j * 2) (.int .i64 t.1)).1).stored (j * 2 + 1) (.slice pk4 t.2.len ck4)).1)
        refine AllReadyIn.cons rfl (fun K hK => ?_) AllReadyIn.nil
        go_simp
        refine hK _ _ ?_
        clear hK K
        refine wpAnyIn_ready (rs := [2]) (by kernel_rfl) (by simp) ?_
        refine AllReadyIn.cons rfl (fun K hK => ?_) AllReadyIn.nil
        refine step_call _ rfl 72 (.tmp 30) #[27] rfl (.agg #[.int .i64 t.1, .slice pk t.2.len ck]) rfl _ (enters_of Tryd.func72 (by kernel_rfl) rfl) (HCL.out _ ((Below.refl W'.heap.size W').drew.alloc (Nat.le_refl _) (.cells #[.int .i64 0, .slice none 0 0] 27))) ?_
        rintro e w4 ⟨r4, rfl, ⟨kv4, e4, hwf4, hkv4⟩, hb4⟩
        dsimp only at e4 hkv4
        subst e4
        have hkv4' := hkv4
        obtain ⟨pk4, ck4, rfl, _⟩ := hkv4'
        have hbw4 : Below W'.heap.size W' w4 := (((Below.refl W'.heap.size W').drew.alloc (Nat.le_refl _) (.cells #[.int .i64 0, .slice none 0 0] 27))).trans (hb4.mono (((Below.refl W'.heap.size W').drew.alloc (Nat.le_refl _) (.cells #[.int .i64 0, .slice none 0 0] 27))).size)
        have HBW4 := Lib.hid hbw4
        have HKV4 := Lib.hid (hkv4.mono (S' := fun c => W'.heap.size ≤ c ∧ c < w4.heap.size) (fun c hc h => ⟨Nat.le_trans (((Below.refl W'.heap.size W').drew.alloc (Nat.le_refl _) (.cells #[.int .i64 0, .slice none 0 0] 27))).size h, hc⟩))
        obtain ⟨z1, z3, z4, z2, z5⟩ := HST.out w4 hbw4
        refine ⟨_, rfl, ?_⟩
        have HZB := Lib.hid ((Blk.new W'.drew 27 #[.int .i64 0, .slice none 0 0]).below hb4 (by simp))
        clear hkv4 hb4 hbw4
        refine hK _ _ ?_
        clear hK K
        refine wpAnyIn_ready (rs := [5]) (by kernel_rfl) (by simp) ?_
        refine AllReadyIn.cons rfl (fun K hK => ?_) AllReadyIn.nil
        have h4 : Below W'.heap.size W' w4 := HBW4.out
        refine step_zero_append w4 rfl (.tmp 29) (.tmp 33) rfl w.heap.size (.slice pa j ca) j (dcells D) rfl (ownsRow_heap HAJ.out.own (fun g hg => h4.block g ((HAJ.out.own.lt g hg).2))) _ rfl HZB.out hj5 (by have := h4.size; omega) ?_
        intro v6 w6 ho6 hk6 hat6
        have HKF := Lib.hid (show IsHS (fun c => W'.heap.size ≤ c ∧ c < (w4).heap.size) w4 (.slice pk4 t.2.len ck4) t.2 from HKV4.out)
        have H4 := Lib.hid h4
        have HK6 := Lib.hid hk6
        have HAT := Lib.hid hat6
        have HO6 := Lib.hid ho6
        rcases ho6.2 with ⟨_, hz⟩ | ⟨g6, cap6, cur6, rfl, hbg6, hg6, hcap6, hmax6, _, _⟩
        · omega
        have hb6 : Boxed w6 (w2.heap.size + 1) 25 (.slice pa j ca) := hk6.boxed (HBX.out _ h4) HNB.out
        have z1 := hb6.cell
        have z2 := hb6.lt
        have z7 := hb6.frozen
        have y0 : w6.cell? ⟨g6, j * 2, none⟩ = some (.int .i64 0) := by rw [ho6.cellAt _ (by omega)]; exact (za_at D j HAJ.out.len).1
        have y1 : w6.cell? ⟨g6, j * 2 + 1, none⟩ = some (.slice none 0 0) := by rw [ho6.cellAt _ (by omega)]; exact (za_at D j HAJ.out.len).2
        have y2 := ho6.frozenAt (j * 2)
        have y3 := ho6.frozenAt (j * 2 + 1)
        have y4 := (ho6.lt g6 rfl).2
        have hne6 : ¬ g6 = w2.heap.size + 1 := HNE.out g6 cap6 _ h4 hat6
        have hne7 : ¬ w2.heap.size + 1 = g6 := fun e => hne6 e.symm
        have HB6 := Lib.hid hb6
        have HLF : Hid (∀ w7, Kp (fun c => c ≠ w2.heap.size + 1 ∧ Value.ownBlock (.slice (some ⟨g6, 0, none⟩) (j + 1) cap6) ≠ some c) w6 w7 → Boxed w7 (w2.heap.size + 1) 25 (.slice (some ⟨g6, 0, none⟩) (j + 1) cap6) → w7.ownsRow w.heap.size 27 2 (.slice (some ⟨g6, 0, none⟩) (j + 1) cap6) (j + 1) (dcells (D ++ [(t.1, t.2, .slice pk4 t.2.len ck4)])) → ∃ C'', Grow C' W' C'' w7 ∧ ∃ D' va', AJ (TT ranks n) w.heap.size (w2.heap.size + 1) (j + 1) C'' w7 D' va') := Lib.hid (fun w7 ha hb hc => by
          obtain ⟨C'', h1, h2⟩ := HAJ.out.step htt HG.out.lt (Kp.of_below h4 (fun k hk _ => hk)) hwf HKF.out hk6 hat6 ha hb hc
          exact ⟨C'', h1, _, _, h2⟩)
        unfold maxLen at hmax6
        clear h4 hk6 hat6 ho6 hg6 hb6 z3 z4 z5
        refine hK _ _ ?_
        clear hK K
        refine wpAnyIn_ready (rs := [6, 8]) (by kernel_rfl) (by simp) ?_
        refine AllReadyIn.cons rfl (fun K hK => ?_) ?_
        · go_simp
          refine hK _ _ ?_
          clear hK K
          refine wpAnyIn_ready (rs := [7, 8]) (by kernel_rfl) (by simp) ?_
          refine AllReadyIn.cons rfl (fun K hK => ?_) ?_
          · go_simp
            refine hK _ _ ?_
            clear hK K
            refine wpAnyIn_ready (rs := [8]) (by kernel_rfl) (by simp) ?_
            refine AllReadyIn.cons rfl (fun K hK => ?_) AllReadyIn.nil
            go_simp
            refine hK _ _ ?_
            clear hK K
            refine wpAnyIn_done (by kernel_rfl) ?_ _
            gi_wp2
            exact HLF.out _ ((((Kp.refl _ _).setCell (fun h => absurd rfl h.2) _).setCell (fun h => absurd rfl h.2) _).setCell (fun h => absurd rfl h.1) _) ((boxed_far (boxed_far HB6.out (p := ⟨g6, j * 2, none⟩) hne7 _) (p := ⟨g6, j * 2 + 1, none⟩) hne7 _).set _) (ownsRow_heap (by rw [← za_set D j HAJ.out.len t.1 t.2 (.slice pk4 t.2.len ck4)]; exact (((HO6.out.stored (j * 2) (.int .i64 t.1)).1).stored (j * 2 + 1) (.slice pk4 t.2.len ck4)).1) (fun g hg => Below.heap_setCell _ _ _ _ (fun e => hne6 ((Option.some.inj (show some g6 = some g from hg)).trans e))))
          refine AllReadyIn.cons rfl (fun K hK => ?_) AllReadyIn.nil
          go_simp
          refine hK _ _ ?_
          clear hK K
          refine wpAnyIn_ready (rs := [7]) (by kernel_rfl) (by simp) ?_
          refine AllReadyIn.cons rfl (fun K hK => ?_) AllReadyIn.nil
          go_simp
          refine hK _ _ ?_
          clear hK K
          refine wpAnyIn_done (by kernel_rfl) ?_ _
          gi_wp2
          exact HLF.out _ ((((Kp.refl _ _).setCell (fun h => absurd rfl h.1) _).setCell (fun h => absurd rfl h.2) _).setCell (fun h => absurd rfl h.2) _) (boxed_far (boxed_far (HB6.out.set _) (p := ⟨g6, j * 2, none⟩) hne7 _) (p := ⟨g6, j * 2 + 1, none⟩) hne7 _) (by rw [← za_set D j HAJ.out.len t.1 t.2 (.slice pk4 t.2.len ck4)]; exact ((((ownsRow_heap HO6.out (fun g hg => Below.heap_setCell _ _ _ _ (fun e => hne6 ((Option.some.inj (show some g6 = some g from hg)).trans e)))).stored (j * 2) (.int .i64 t.1)).1).stored (j * 2 + 1) (.slice pk4 t.2.len ck4)).1)
        refine AllReadyIn.cons rfl (fun K hK => ?_) AllReadyIn.nil
        go_simp
        refine hK _ _ ?_
        clear hK K
        refine wpAnyIn_ready (rs := [6]) (by kernel_rfl) (by simp) ?_
        refine AllReadyIn.cons rfl (fun K hK => ?_) AllReadyIn.nil
        go_simp
        refine hK _ _ ?_
        clear hK K
        refine wpAnyIn_ready (rs := [7]) (by kernel_rfl) (by simp) ?_
        refine AllReadyIn.cons rfl (fun K hK => ?_) AllReadyIn.nil
        go_simp
        refine hK _ _ ?_
        clear hK K
        refine wpAnyIn_done (by kernel_rfl) ?_ _
        gi_wp2
        exact HLF.out _ ((((Kp.refl _ _).setCell (fun h => absurd rfl h.1) _).setCell (fun h => absurd rfl h.2) _).setCell (fun h => absurd rfl h.2) _) (boxed_far (boxed_far (HB6.out.set _) (p := ⟨g6, j * 2, none⟩) hne7 _) (p := ⟨g6, j * 2 + 1, none⟩) hne7 _) (by rw [← za_set D j HAJ.out.len t.1 t.2 (.slice pk4 t.2.len ck4)]; exact ((((ownsRow_heap HO6.out (fun g hg => Below.heap_setCell _ _ _ _ (fun e => hne6 ((Option.some.inj (show some g6 = some g from hg)).trans e)))).stored (j * 2) (.int .i64 t.1)).1).stored (j * 2 + 1) (.slice pk4 t.2.len ck4)).1)
      refine AllReadyIn.cons rfl (fun K hK => ?_) AllReadyIn.nil
      refine step_call _ rfl 72 (.tmp 30) #[27] rfl (.agg #[.int .i64 t.1, .slice pk t.2.len ck]) rfl _ (enters_of Tryd.func72 (by kernel_rfl) rfl) (HCL.out _ ((Below.refl W'.heap.size W').drew.alloc (Nat.le_refl _) (.cells #[.int .i64 0, .slice none 0 0] 27))) ?_
      rintro e w4 ⟨r4, rfl, ⟨kv4, e4, hwf4, hkv4⟩, hb4⟩
      dsimp only at e4 hkv4
      subst e4
      have hkv4' := hkv4
      obtain ⟨pk4, ck4, rfl, _⟩ := hkv4'
      have hbw4 : Below W'.heap.size W' w4 := (((Below.refl W'.heap.size W').drew.alloc (Nat.le_refl _) (.cells #[.int .i64 0, .slice none 0 0] 27))).trans (hb4.mono (((Below.refl W'.heap.size W').drew.alloc (Nat.le_refl _) (.cells #[.int .i64 0, .slice none 0 0] 27))).size)
      have HBW4 := Lib.hid hbw4
      have HKV4 := Lib.hid (hkv4.mono (S' := fun c => W'.heap.size ≤ c ∧ c < w4.heap.size) (fun c hc h => ⟨Nat.le_trans (((Below.refl W'.heap.size W').drew.alloc (Nat.le_refl _) (.cells #[.int .i64 0, .slice none 0 0] 27))).size h, hc⟩))
      obtain ⟨z1, z3, z4, z2, z5⟩ := HST.out w4 hbw4
      refine ⟨_, rfl, ?_⟩
      have HZB := Lib.hid ((Blk.new W'.drew 27 #[.int .i64 0, .slice none 0 0]).below hb4 (by simp))
      clear hkv4 hb4 hbw4
      refine hK _ _ ?_
      clear hK K
      refine wpAnyIn_ready (rs := [0]) (by kernel_rfl) (by simp) ?_
      refine AllReadyIn.cons rfl (fun K hK => ?_) AllReadyIn.nil
      go_simp
      refine hK _ _ ?_
      clear hK K
      refine wpAnyIn_ready (rs := [3]) (by kernel_rfl) (by simp) ?_
      refine AllReadyIn.cons rfl (fun K hK => ?_) AllReadyIn.nil
      go_simp
      refine hK _ _ ?_
      clear hK K
      refine wpAnyIn_ready (rs := [5]) (by kernel_rfl) (by simp) ?_
      refine AllReadyIn.cons rfl (fun K hK => ?_) AllReadyIn.nil
      have h4 : Below W'.heap.size W' w4 := HBW4.out
      refine step_zero_append w4 rfl (.tmp 29) (.tmp 33) rfl w.heap.size (.slice pa j ca) j (dcells D) rfl (ownsRow_heap HAJ.out.own (fun g hg => h4.block g ((HAJ.out.own.lt g hg).2))) _ rfl HZB.out hj5 (by have := h4.size; omega) ?_
      intro v6 w6 ho6 hk6 hat6
      have HKF := Lib.hid (show IsHS (fun c => W'.heap.size ≤ c ∧ c < (w4).heap.size) w4 (.slice pk4 t.2.len ck4) t.2 from HKV4.out)
      have H4 := Lib.hid h4
      have HK6 := Lib.hid hk6
      have HAT := Lib.hid hat6
      have HO6 := Lib.hid ho6
      rcases ho6.2 with ⟨_, hz⟩ | ⟨g6, cap6, cur6, rfl, hbg6, hg6, hcap6, hmax6, _, _⟩
      · omega
      have hb6 : Boxed w6 (w2.heap.size + 1) 25 (.slice pa j ca) := hk6.boxed (HBX.out _ h4) HNB.out
      have z1 := hb6.cell
      have z2 := hb6.lt
      have z7 := hb6.frozen
      have y0 : w6.cell? ⟨g6, j * 2, none⟩ = some (.int .i64 0) := by rw [ho6.cellAt _ (by omega)]; exact (za_at D j HAJ.out.len).1
      have y1 : w6.cell? ⟨g6, j * 2 + 1, none⟩ = some (.slice none 0 0) := by rw [ho6.cellAt _ (by omega)]; exact (za_at D j HAJ.out.len).2
      have y2 := ho6.frozenAt (j * 2)
      have y3 := ho6.frozenAt (j * 2 + 1)
      have y4 := (ho6.lt g6 rfl).2
      have hne6 : ¬ g6 = w2.heap.size + 1 := HNE.out g6 cap6 _ h4 hat6
      have hne7 : ¬ w2.heap.size + 1 = g6 := fun e => hne6 e.symm
      have HB6 := Lib.hid hb6
      have HLF : Hid (∀ w7, Kp (fun c => c ≠ w2.heap.size + 1 ∧ Value.ownBlock (.slice (some ⟨g6, 0, none⟩) (j + 1) cap6) ≠ some c) w6 w7 → Boxed w7 (w2.heap.size + 1) 25 (.slice (some ⟨g6, 0, none⟩) (j + 1) cap6) → w7.ownsRow w.heap.size 27 2 (.slice (some ⟨g6, 0, none⟩) (j + 1) cap6) (j + 1) (dcells (D ++ [(t.1, t.2, .slice pk4 t.2.len ck4)])) → ∃ C'', Grow C' W' C'' w7 ∧ ∃ D' va', AJ (TT ranks n) w.heap.size (w2.heap.size + 1) (j + 1) C'' w7 D' va') := Lib.hid (fun w7 ha hb hc => by
        obtain ⟨C'', h1, h2⟩ := HAJ.out.step htt HG.out.lt (Kp.of_below h4 (fun k hk _ => hk)) hwf HKF.out hk6 hat6 ha hb hc
        exact ⟨C'', h1, _, _, h2⟩)
      unfold maxLen at hmax6
      clear h4 hk6 hat6 ho6 hg6 hb6 z3 z4 z5
      refine hK _ _ ?_
      clear hK K
      refine wpAnyIn_ready (rs := [6, 8]) (by kernel_rfl) (by simp) ?_
      refine AllReadyIn.cons rfl (fun K hK => ?_) ?_
      · go_simp
        refine hK _ _ ?_
        clear hK K
        refine wpAnyIn_ready (rs := [7, 8]) (by kernel_rfl) (by simp) ?_
        refine AllReadyIn.cons rfl (fun K hK => ?_) ?_
        · go_simp
          refine hK _ _ ?_
          clear hK K
          refine wpAnyIn_ready (rs := [8]) (by kernel_rfl) (by simp) ?_
          refine AllReadyIn.cons rfl (fun K hK => ?_) AllReadyIn.nil
          go_simp
          refine hK _ _ ?_
          clear hK K
          refine wpAnyIn_done (by kernel_rfl) ?_ _
          gi_wp2
          exact HLF.out _ ((((Kp.refl _ _).setCell (fun h => absurd rfl h.2) _).setCell (fun h => absurd rfl h.2) _).setCell (fun h => absurd rfl h.1) _) ((boxed_far (boxed_far HB6.out (p := ⟨g6, j * 2, none⟩) hne7 _) (p := ⟨g6, j * 2 + 1, none⟩) hne7 _).set _) (ownsRow_heap (by rw [← za_set D j HAJ.out.len t.1 t.2 (.slice pk4 t.2.len ck4)]; exact (((HO6.out.stored (j * 2) (.int .i64 t.1)).1).stored (j * 2 + 1) (.slice pk4 t.2.len ck4)).1) (fun g hg => Below.heap_setCell _ _ _ _ (fun e => hne6 ((Option.some.inj (show some g6 = some g from hg)).trans e))))
        refine AllReadyIn.cons rfl (fun K hK => ?_) AllReadyIn.nil
        go_simp
        refine hK _ _ ?_
        clear hK K
        refine wpAnyIn_ready (rs := [7]) (by kernel_rfl) (by simp) ?_
        refine AllReadyIn.cons rfl (fun K hK => ?_) AllReadyIn.nil
        go_simp
        refine hK _ _ ?_
        clear hK K
        refine wpAnyIn_done (by kernel_rfl) ?_ _
        gi_wp2
        exact HLF.out _ ((((Kp.refl _ _).setCell (fun h => absurd rfl h.1) _).setCell (fun h => absurd rfl h.2) _).setCell (fun h => absurd rfl h.2) _) (boxed_far (boxed_far (HB6.out.set _) (p := ⟨g6, j * 2, none⟩) hne7 _) (p := ⟨g6, j * 2 + 1, none⟩) hne7 _) (by rw [← za_set D j HAJ.out.len t.1 t.2 (.slice pk4 t.2.len ck4)]; exact ((((ownsRow_heap HO6.out (fun g hg => Below.heap_setCell _ _ _ _ (fun e => hne6 ((Option.some.inj (show some g6 = some g from hg)).trans e)))).stored (j * 2) (.int .i64 t.1)).1).stored (j * 2 + 1) (.slice pk4 t.2.len ck4)).1)
      refine AllReadyIn.cons rfl (fun K hK => ?_) AllReadyIn.nil
      go_simp
      refine hK _ _ ?_
      clear hK K
      refine wpAnyIn_ready (rs := [6]) (by kernel_rfl) (by simp) ?_
      refine AllReadyIn.cons rfl (fun K hK => ?_) AllReadyIn.nil
      go_simp
      refine hK _ _ ?_
      clear hK K
      refine wpAnyIn_ready (rs := [7]) (by kernel_rfl) (by simp) ?_
      refine AllReadyIn.cons rfl (fun K hK => ?_) AllReadyIn.nil
      go_simp
      refine hK _ _ ?_
      clear hK K
      refine wpAnyIn_done (by kernel_rfl) ?_ _
      gi_wp2
      exact HLF.out _ ((((Kp.refl _ _).setCell (fun h => absurd rfl h.1) _).setCell (fun h => absurd rfl h.2) _).setCell (fun h => absurd rfl h.2) _) (boxed_far (boxed_far (HB6.out.set _) (p := ⟨g6, j * 2, none⟩) hne7 _) (p := ⟨g6, j * 2 + 1, none⟩) hne7 _) (by rw [← za_set D j HAJ.out.len t.1 t.2 (.slice pk4 t.2.len ck4)]; exact ((((ownsRow_heap HO6.out (fun g hg => Below.heap_setCell _ _ _ _ (fun e => hne6 ((Option.some.inj (show some g6 = some g from hg)).trans e)))).stored (j * 2) (.int .i64 t.1)).1).stored (j * 2 + 1) (.slice pk4 t.2.len ck4)).1)
    refine AllReadyIn.cons rfl (fun K hK => ?_) AllReadyIn.nil
    go_simp
    refine hK _ _ ?_
    clear hK K
    refine wpAnyIn_ready (rs := [0, 1]) (by kernel_rfl) (by simp) ?_
    refine AllReadyIn.cons rfl (fun K hK => ?_) ?_
    · go_simp
      refine hK _ _ ?_
      clear hK K
      refine wpAnyIn_ready (rs := [1, 3]) (by kernel_rfl) (by simp) ?_
      refine AllReadyIn.cons rfl (fun K hK => ?_) ?_
      · go_simp
        refine hK _ _ ?_
        clear hK K
        refine wpAnyIn_ready (rs := [2, 3]) (by kernel_rfl) (by simp) ?_
        refine AllReadyIn.cons rfl (fun K hK => ?_) ?_
        · refine step_call _ rfl 72 (.tmp 30) #[27] rfl (.agg #[.int .i64 t.1, .slice pk t.2.len ck]) rfl _ (enters_of Tryd.func72 (by kernel_rfl) rfl) (HCL.out _ ((Below.refl W'.heap.size W').drew.alloc (Nat.le_refl _) (.cells #[.int .i64 0, .slice none 0 0] 27))) ?_
          rintro e w4 ⟨r4, rfl, ⟨kv4, e4, hwf4, hkv4⟩, hb4⟩
          dsimp only at e4 hkv4
          subst e4
          have hkv4' := hkv4
          obtain ⟨pk4, ck4, rfl, _⟩ := hkv4'
          have hbw4 : Below W'.heap.size W' w4 := (((Below.refl W'.heap.size W').drew.alloc (Nat.le_refl _) (.cells #[.int .i64 0, .slice none 0 0] 27))).trans (hb4.mono (((Below.refl W'.heap.size W').drew.alloc (Nat.le_refl _) (.cells #[.int .i64 0, .slice none 0 0] 27))).size)
          have HBW4 := Lib.hid hbw4
          have HKV4 := Lib.hid (hkv4.mono (S' := fun c => W'.heap.size ≤ c ∧ c < w4.heap.size) (fun c hc h => ⟨Nat.le_trans (((Below.refl W'.heap.size W').drew.alloc (Nat.le_refl _) (.cells #[.int .i64 0, .slice none 0 0] 27))).size h, hc⟩))
          obtain ⟨z1, z3, z4, z2, z5⟩ := HST.out w4 hbw4
          refine ⟨_, rfl, ?_⟩
          have HZB := Lib.hid ((Blk.new W'.drew 27 #[.int .i64 0, .slice none 0 0]).below hb4 (by simp))
          clear hkv4 hb4 hbw4
          refine hK _ _ ?_
          clear hK K
          refine wpAnyIn_ready (rs := [3]) (by kernel_rfl) (by simp) ?_
          refine AllReadyIn.cons rfl (fun K hK => ?_) AllReadyIn.nil
          go_simp
          refine hK _ _ ?_
          clear hK K
          refine wpAnyIn_ready (rs := [5]) (by kernel_rfl) (by simp) ?_
          refine AllReadyIn.cons rfl (fun K hK => ?_) AllReadyIn.nil
          have h4 : Below W'.heap.size W' w4 := HBW4.out
          refine step_zero_append w4 rfl (.tmp 29) (.tmp 33) rfl w.heap.size (.slice pa j ca) j (dcells D) rfl (ownsRow_heap HAJ.out.own (fun g hg => h4.block g ((HAJ.out.own.lt g hg).2))) _ rfl HZB.out hj5 (by have := h4.size; omega) ?_
          intro v6 w6 ho6 hk6 hat6
          have HKF := Lib.hid (show IsHS (fun c => W'.heap.size ≤ c ∧ c < (w4).heap.size) w4 (.slice pk4 t.2.len ck4) t.2 from HKV4.out)
          have H4 := Lib.hid h4
          have HK6 := Lib.hid hk6
          have HAT := Lib.hid hat6
          have HO6 := Lib.hid ho6
          rcases ho6.2 with ⟨_, hz⟩ | ⟨g6, cap6, cur6, rfl, hbg6, hg6, hcap6, hmax6, _, _⟩
          · omega
          have hb6 : Boxed w6 (w2.heap.size + 1) 25 (.slice pa j ca) := hk6.boxed (HBX.out _ h4) HNB.out
          have z1 := hb6.cell
          have z2 := hb6.lt
          have z7 := hb6.frozen
          have y0 : w6.cell? ⟨g6, j * 2, none⟩ = some (.int .i64 0) := by rw [ho6.cellAt _ (by omega)]; exact (za_at D j HAJ.out.len).1
          have y1 : w6.cell? ⟨g6, j * 2 + 1, none⟩ = some (.slice none 0 0) := by rw [ho6.cellAt _ (by omega)]; exact (za_at D j HAJ.out.len).2
          have y2 := ho6.frozenAt (j * 2)
          have y3 := ho6.frozenAt (j * 2 + 1)
          have y4 := (ho6.lt g6 rfl).2
          have hne6 : ¬ g6 = w2.heap.size + 1 := HNE.out g6 cap6 _ h4 hat6
          have hne7 : ¬ w2.heap.size + 1 = g6 := fun e => hne6 e.symm
          have HB6 := Lib.hid hb6
          have HLF : Hid (∀ w7, Kp (fun c => c ≠ w2.heap.size + 1 ∧ Value.ownBlock (.slice (some ⟨g6, 0, none⟩) (j + 1) cap6) ≠ some c) w6 w7 → Boxed w7 (w2.heap.size + 1) 25 (.slice (some ⟨g6, 0, none⟩) (j + 1) cap6) → w7.ownsRow w.heap.size 27 2 (.slice (some ⟨g6, 0, none⟩) (j + 1) cap6) (j + 1) (dcells (D ++ [(t.1, t.2, .slice pk4 t.2.len ck4)])) → ∃ C'', Grow C' W' C'' w7 ∧ ∃ D' va', AJ (TT ranks n) w.heap.size (w2.heap.size + 1) (j + 1) C'' w7 D' va') := Lib.hid (fun w7 ha hb hc => by
            obtain ⟨C'', h1, h2⟩ := HAJ.out.step htt HG.out.lt (Kp.of_below h4 (fun k hk _ => hk)) hwf HKF.out hk6 hat6 ha hb hc
            exact ⟨C'', h1, _, _, h2⟩)
          unfold maxLen at hmax6
          clear h4 hk6 hat6 ho6 hg6 hb6 z3 z4 z5
          refine hK _ _ ?_
          clear hK K
          refine wpAnyIn_ready (rs := [6, 8]) (by kernel_rfl) (by simp) ?_
          refine AllReadyIn.cons rfl (fun K hK => ?_) ?_
          · go_simp
            refine hK _ _ ?_
            clear hK K
            refine wpAnyIn_ready (rs := [7, 8]) (by kernel_rfl) (by simp) ?_
            refine AllReadyIn.cons rfl (fun K hK => ?_) ?_
            · go_simp
              refine hK _ _ ?_
              clear hK K
              refine wpAnyIn_ready (rs := [8]) (by kernel_rfl) (by simp) ?_
              refine AllReadyIn.cons rfl (fun K hK => ?_) AllReadyIn.nil
              go_simp
              refine hK _ _ ?_
              clear hK K
              refine wpAnyIn_done (by kernel_rfl) ?_ _
              gi_wp2
              exact HLF.out _ ((((Kp.refl _ _).setCell (fun h => absurd rfl h.2) _).setCell (fun h => absurd rfl h.2) _).setCell (fun h => absurd rfl h.1) _) ((boxed_far (boxed_far HB6.out (p := ⟨g6, j * 2, none⟩) hne7 _) (p := ⟨g6, j * 2 + 1, none⟩) hne7 _).set _) (ownsRow_heap (by rw [← za_set D j HAJ.out.len t.1 t.2 (.slice pk4 t.2.len ck4)]; exact (((HO6.out.stored (j * 2) (.int .i64 t.1)).1).stored (j * 2 + 1) (.slice pk4 t.2.len ck4)).1) (fun g hg => Below.heap_setCell _ _ _ _ (fun e => hne6 ((Option.some.inj (show some g6 = some g from hg)).trans e))))
            refine AllReadyIn.cons rfl (fun K hK => ?_) AllReadyIn.nil
            go_simp
            refine hK _ _ ?_
            clear hK K
            refine wpAnyIn_ready (rs := [7]) (by kernel_rfl) (by simp) ?_
            refine AllReadyIn.cons rfl (fun K hK => ?_) AllReadyIn.nil
            go_simp
            refine hK _ _ ?_
            clear hK K
            refine wpAnyIn_done (by kernel_rfl) ?_ _
            gi_wp2
            exact HLF.out _ ((((Kp.refl _ _).setCell (fun h => absurd rfl h.1) _).setCell (fun h => absurd rfl h.2) _).setCell (fun h => absurd rfl h.2) _) (boxed_far (boxed_far (HB6.out.set _) (p := ⟨g6, j * 2, none⟩) hne7 _) (p := ⟨g6, j * 2 + 1, none⟩) hne7 _) (by rw [← za_set D j HAJ.out.len t.1 t.2 (.slice pk4 t.2.len ck4)]; exact ((((ownsRow_heap HO6.out (fun g hg => Below.heap_setCell _ _ _ _ (fun e => hne6 ((Option.some.inj (show some g6 = some g from hg)).trans e)))).stored (j * 2) (.int .i64 t.1)).1).stored (j * 2 + 1) (.slice pk4 t.2.len ck4)).1)
          refine AllReadyIn.cons rfl (fun K hK => ?_) AllReadyIn.nil
          go_simp
          refine hK _ _ ?_
          clear hK K
          refine wpAnyIn_ready (rs := [6]) (by kernel_rfl) (by simp) ?_
          refine AllReadyIn.cons rfl (fun K hK => ?_) AllReadyIn.nil
          go_simp
          refine hK _ _ ?_
          clear hK K
          refine wpAnyIn_ready (rs := [7]) (by kernel_rfl) (by simp) ?_
          refine AllReadyIn.cons rfl (fun K hK => ?_) AllReadyIn.nil
          go_simp
          refine hK _ _ ?_
          clear hK K
          refine wpAnyIn_done (by kernel_rfl) ?_ _
          gi_wp2
          exact HLF.out _ ((((Kp.refl _ _).setCell (fun h => absurd rfl h.1) _).setCell (fun h => absurd rfl h.2) _).setCell (fun h => absurd rfl h.2) _) (boxed_far (boxed_far (HB6.out.set _) (p := ⟨g6, j * 2, none⟩) hne7 _) (p := ⟨g6, j * 2 + 1, none⟩) hne7 _) (by rw [← za_set D j HAJ.out.len t.1 t.2 (.slice pk4 t.2.len ck4)]; exact ((((ownsRow_heap HO6.out (fun g hg => Below.heap_setCell _ _ _ _ (fun e => hne6 ((Option.some.inj (show some g6 = some g from hg)).trans e)))).stored (j * 2) (.int .i64 t.1)).1).stored (j * 2 + 1) (.slice pk4 t.2.len ck4)).1)
        refine AllReadyIn.cons rfl (fun K hK => ?_) AllReadyIn.nil
        go_simp
        refine hK _ _ ?_
        clear hK K
        refine wpAnyIn_ready (rs := [2]) (by kernel_rfl) (by simp) ?_
        refine AllReadyIn.cons rfl (fun K hK => ?_) AllReadyIn.nil
        refine step_call _ rfl 72 (.tmp 30) #[27] rfl (.agg #[.int .i64 t.1, .slice pk t.2.len ck]) rfl _ (enters_of Tryd.func72 (by kernel_rfl) rfl) (HCL.out _ ((Below.refl W'.heap.size W').drew.alloc (Nat.le_refl _) (.cells #[.int .i64 0, .slice none 0 0] 27))) ?_
        rintro e w4 ⟨r4, rfl, ⟨kv4, e4, hwf4, hkv4⟩, hb4⟩
        dsimp only at e4 hkv4
        subst e4
        have hkv4' := hkv4
        obtain ⟨pk4, ck4, rfl, _⟩ := hkv4'
        have hbw4 : Below W'.heap.size W' w4 := (((Below.refl W'.heap.size W').drew.alloc (Nat.le_refl _) (.cells #[.int .i64 0, .slice none 0 0] 27))).trans (hb4.mono (((Below.refl W'.heap.size W').drew.alloc (Nat.le_refl _) (.cells #[.int .i64 0, .slice none 0 0] 27))).size)
        have HBW4 := Lib.hid hbw4
        have HKV4 := Lib.hid (hkv4.mono (S' := fun c => W'.heap.size ≤ c ∧ c < w4.heap.size) (fun c hc h => ⟨Nat.le_trans (((Below.refl W'.heap.size W').drew.alloc (Nat.le_refl _) (.cells #[.int .i64 0, .slice none 0 0] 27))).size h, hc⟩))
        obtain ⟨z1, z3, z4, z2, z5⟩ := HST.out w4 hbw4
        refine ⟨_, rfl, ?_⟩
        have HZB := Lib.hid ((Blk.new W'.drew 27 #[.int .i64 0, .slice none 0 0]).below hb4 (by simp))
        clear hkv4 hb4 hbw4
        refine hK _ _ ?_
        clear hK K
        refine wpAnyIn_ready (rs := [5]) (by kernel_rfl) (by simp) ?_
        refine AllReadyIn.cons rfl (fun K hK => ?_) AllReadyIn.nil
        have h4 : Below W'.heap.size W' w4 := HBW4.out
        refine step_zero_append w4 rfl (.tmp 29) (.tmp 33) rfl w.heap.size (.slice pa j ca) j (dcells D) rfl (ownsRow_heap HAJ.out.own (fun g hg => h4.block g ((HAJ.out.own.lt g hg).2))) _ rfl HZB.out hj5 (by have := h4.size; omega) ?_
        intro v6 w6 ho6 hk6 hat6
        have HKF := Lib.hid (show IsHS (fun c => W'.heap.size ≤ c ∧ c < (w4).heap.size) w4 (.slice pk4 t.2.len ck4) t.2 from HKV4.out)
        have H4 := Lib.hid h4
        have HK6 := Lib.hid hk6
        have HAT := Lib.hid hat6
        have HO6 := Lib.hid ho6
        rcases ho6.2 with ⟨_, hz⟩ | ⟨g6, cap6, cur6, rfl, hbg6, hg6, hcap6, hmax6, _, _⟩
        · omega
        have hb6 : Boxed w6 (w2.heap.size + 1) 25 (.slice pa j ca) := hk6.boxed (HBX.out _ h4) HNB.out
        have z1 := hb6.cell
        have z2 := hb6.lt
        have z7 := hb6.frozen
        have y0 : w6.cell? ⟨g6, j * 2, none⟩ = some (.int .i64 0) := by rw [ho6.cellAt _ (by omega)]; exact (za_at D j HAJ.out.len).1
        have y1 : w6.cell? ⟨g6, j * 2 + 1, none⟩ = some (.slice none 0 0) := by rw [ho6.cellAt _ (by omega)]; exact (za_at D j HAJ.out.len).2
        have y2 := ho6.frozenAt (j * 2)
        have y3 := ho6.frozenAt (j * 2 + 1)
        have y4 := (ho6.lt g6 rfl).2
        have hne6 : ¬ g6 = w2.heap.size + 1 := HNE.out g6 cap6 _ h4 hat6
        have hne7 : ¬ w2.heap.size + 1 = g6 := fun e => hne6 e.symm
        have HB6 := Lib.hid hb6
        have HLF : Hid (∀ w7, Kp (fun c => c ≠ w2.heap.size + 1 ∧ Value.ownBlock (.slice (some ⟨g6, 0, none⟩) (j + 1) cap6) ≠ some c) w6 w7 → Boxed w7 (w2.heap.size + 1) 25 (.slice (some ⟨g6, 0, none⟩) (j + 1) cap6) → w7.ownsRow w.heap.size 27 2 (.slice (some ⟨g6, 0, none⟩) (j + 1) cap6) (j + 1) (dcells (D ++ [(t.1, t.2, .slice pk4 t.2.len ck4)])) → ∃ C'', Grow C' W' C'' w7 ∧ ∃ D' va', AJ (TT ranks n) w.heap.size (w2.heap.size + 1) (j + 1) C'' w7 D' va') := Lib.hid (fun w7 ha hb hc => by
          obtain ⟨C'', h1, h2⟩ := HAJ.out.step htt HG.out.lt (Kp.of_below h4 (fun k hk _ => hk)) hwf HKF.out hk6 hat6 ha hb hc
          exact ⟨C'', h1, _, _, h2⟩)
        unfold maxLen at hmax6
        clear h4 hk6 hat6 ho6 hg6 hb6 z3 z4 z5
        refine hK _ _ ?_
        clear hK K
        refine wpAnyIn_ready (rs := [6, 8]) (by kernel_rfl) (by simp) ?_
        refine AllReadyIn.cons rfl (fun K hK => ?_) ?_
        · go_simp
          refine hK _ _ ?_
          clear hK K
          refine wpAnyIn_ready (rs := [7, 8]) (by kernel_rfl) (by simp) ?_
          refine AllReadyIn.cons rfl (fun K hK => ?_) ?_
          · go_simp
            refine hK _ _ ?_
            clear hK K
            refine wpAnyIn_ready (rs := [8]) (by kernel_rfl) (by simp) ?_
            refine AllReadyIn.cons rfl (fun K hK => ?_) AllReadyIn.nil
            go_simp
            refine hK _ _ ?_
            clear hK K
            refine wpAnyIn_done (by kernel_rfl) ?_ _
            gi_wp2
            exact HLF.out _ ((((Kp.refl _ _).setCell (fun h => absurd rfl h.2) _).setCell (fun h => absurd rfl h.2) _).setCell (fun h => absurd rfl h.1) _) ((boxed_far (boxed_far HB6.out (p := ⟨g6, j * 2, none⟩) hne7 _) (p := ⟨g6, j * 2 + 1, none⟩) hne7 _).set _) (ownsRow_heap (by rw [← za_set D j HAJ.out.len t.1 t.2 (.slice pk4 t.2.len ck4)]; exact (((HO6.out.stored (j * 2) (.int .i64 t.1)).1).stored (j * 2 + 1) (.slice pk4 t.2.len ck4)).1) (fun g hg => Below.heap_setCell _ _ _ _ (fun e => hne6 ((Option.some.inj (show some g6 = some g from hg)).trans e))))
          refine AllReadyIn.cons rfl (fun K hK => ?_) AllReadyIn.nil
          go_simp
          refine hK _ _ ?_
          clear hK K
          refine wpAnyIn_ready (rs := [7]) (by kernel_rfl) (by simp) ?_
          refine AllReadyIn.cons rfl (fun K hK => ?_) AllReadyIn.nil
          go_simp
          refine hK _ _ ?_
          clear hK K
          refine wpAnyIn_done (by kernel_rfl) ?_ _
          gi_wp2
          exact HLF.out _ ((((Kp.refl _ _).setCell (fun h => absurd rfl h.1) _).setCell (fun h => absurd rfl h.2) _).setCell (fun h => absurd rfl h.2) _) (boxed_far (boxed_far (HB6.out.set _) (p := ⟨g6, j * 2, none⟩) hne7 _) (p := ⟨g6, j * 2 + 1, none⟩) hne7 _) (by rw [← za_set D j HAJ.out.len t.1 t.2 (.slice pk4 t.2.len ck4)]; exact ((((ownsRow_heap HO6.out (fun g hg => Below.heap_setCell _ _ _ _ (fun e => hne6 ((Option.some.inj (show some g6 = some g from hg)).trans e)))).stored (j * 2) (.int .i64 t.1)).1).stored (j * 2 + 1) (.slice pk4 t.2.len ck4)).1)
        refine AllReadyIn.cons rfl (fun K hK => ?_) AllReadyIn.nil
        go_simp
        refine hK _ _ ?_
        clear hK K
        refine wpAnyIn_ready (rs := [6]) (by kernel_rfl) (by simp) ?_
        refine AllReadyIn.cons rfl (fun K hK => ?_) AllReadyIn.nil
        go_simp
        refine hK _ _ ?_
        clear hK K
        refine wpAnyIn_ready (rs := [7]) (by kernel_rfl) (by simp) ?_
        refine AllReadyIn.cons rfl (fun K hK => ?_) AllReadyIn.nil
        go_simp
        refine hK _ _ ?_
        clear hK K
        refine wpAnyIn_done (by kernel_rfl) ?_ _
        gi_wp2
        exact HLF.out _ ((((Kp.refl _ _).setCell (fun h => absurd rfl h.1) _).setCell (fun h => absurd rfl h.2) _).setCell (fun h => absurd rfl h.2) _) (boxed_far (boxed_far (HB6.out.set _) (p := ⟨g6, j * 2, none⟩) hne7 _) (p := ⟨g6, j * 2 + 1, none⟩) hne7 _) (by rw [← za_set D j HAJ.out.len t.1 t.2 (.slice pk4 t.2.len ck4)]; exact ((((ownsRow_heap HO6.out (fun g hg => Below.heap_setCell _ _ _ _ (fun e => hne6 ((Option.some.inj (show some g6 = some g from hg)).trans e)))).stored (j * 2) (.int .i64 t.1)).1).stored (j * 2 + 1) (.slice pk4 t.2.len ck4)).1)
      refine AllReadyIn.cons rfl (fun K hK => ?_) AllReadyIn.nil
      go_simp
      refine hK _ _ ?_
      clear hK K
      refine wpAnyIn_ready (rs := [1]) (by kernel_rfl) (by simp) ?_
      refine AllReadyIn.cons rfl (fun K hK => ?_) AllReadyIn.nil
      go_simp
      refine hK _ _ ?_
      clear hK K
      refine wpAnyIn_ready (rs := [2]) (by kernel_rfl) (by simp) ?_
      refine AllReadyIn.cons rfl (fun K hK => ?_) AllReadyIn.nil
      refine step_call _ rfl 72 (.tmp 30) #[27] rfl (.agg #[.int .i64 t.1, .slice pk t.2.len ck]) rfl _ (enters_of Tryd.func72 (by kernel_rfl) rfl) (HCL.out _ ((Below.refl W'.heap.size W').drew.alloc (Nat.le_refl _) (.cells #[.int .i64 0, .slice none 0 0] 27))) ?_
      rintro e w4 ⟨r4, rfl, ⟨kv4, e4, hwf4, hkv4⟩, hb4⟩
      dsimp only at e4 hkv4
      subst e4
      have hkv4' := hkv4
      obtain ⟨pk4, ck4, rfl, _⟩ := hkv4'
      have hbw4 : Below W'.heap.size W' w4 := (((Below.refl W'.heap.size W').drew.alloc (Nat.le_refl _) (.cells #[.int .i64 0, .slice none 0 0] 27))).trans (hb4.mono (((Below.refl W'.heap.size W').drew.alloc (Nat.le_refl _) (.cells #[.int .i64 0, .slice none 0 0] 27))).size)
      have HBW4 := Lib.hid hbw4
      have HKV4 := Lib.hid (hkv4.mono (S' := fun c => W'.heap.size ≤ c ∧ c < w4.heap.size) (fun c hc h => ⟨Nat.le_trans (((Below.refl W'.heap.size W').drew.alloc (Nat.le_refl _) (.cells #[.int .i64 0, .slice none 0 0] 27))).size h, hc⟩))
      obtain ⟨z1, z3, z4, z2, z5⟩ := HST.out w4 hbw4
      refine ⟨_, rfl, ?_⟩
      have HZB := Lib.hid ((Blk.new W'.drew 27 #[.int .i64 0, .slice none 0 0]).below hb4 (by simp))
      clear hkv4 hb4 hbw4
      refine hK _ _ ?_
      clear hK K
      refine wpAnyIn_ready (rs := [5]) (by kernel_rfl) (by simp) ?_
      refine AllReadyIn.cons rfl (fun K hK => ?_) AllReadyIn.nil
      have h4 : Below W'.heap.size W' w4 := HBW4.out
      refine step_zero_append w4 rfl (.tmp 29) (.tmp 33) rfl w.heap.size (.slice pa j ca) j (dcells D) rfl (ownsRow_heap HAJ.out.own (fun g hg => h4.block g ((HAJ.out.own.lt g hg).2))) _ rfl HZB.out hj5 (by have := h4.size; omega) ?_
      intro v6 w6 ho6 hk6 hat6
      have HKF := Lib.hid (show IsHS (fun c => W'.heap.size ≤ c ∧ c < (w4).heap.size) w4 (.slice pk4 t.2.len ck4) t.2 from HKV4.out)
      have H4 := Lib.hid h4
      have HK6 := Lib.hid hk6
      have HAT := Lib.hid hat6
      have HO6 := Lib.hid ho6
      rcases ho6.2 with ⟨_, hz⟩ | ⟨g6, cap6, cur6, rfl, hbg6, hg6, hcap6, hmax6, _, _⟩
      · omega
      have hb6 : Boxed w6 (w2.heap.size + 1) 25 (.slice pa j ca) := hk6.boxed (HBX.out _ h4) HNB.out
      have z1 := hb6.cell
      have z2 := hb6.lt
      have z7 := hb6.frozen
      have y0 : w6.cell? ⟨g6, j * 2, none⟩ = some (.int .i64 0) := by rw [ho6.cellAt _ (by omega)]; exact (za_at D j HAJ.out.len).1
      have y1 : w6.cell? ⟨g6, j * 2 + 1, none⟩ = some (.slice none 0 0) := by rw [ho6.cellAt _ (by omega)]; exact (za_at D j HAJ.out.len).2
      have y2 := ho6.frozenAt (j * 2)
      have y3 := ho6.frozenAt (j * 2 + 1)
      have y4 := (ho6.lt g6 rfl).2
      have hne6 : ¬ g6 = w2.heap.size + 1 := HNE.out g6 cap6 _ h4 hat6
      have hne7 : ¬ w2.heap.size + 1 = g6 := fun e => hne6 e.symm
      have HB6 := Lib.hid hb6
      have HLF : Hid (∀ w7, Kp (fun c => c ≠ w2.heap.size + 1 ∧ Value.ownBlock (.slice (some ⟨g6, 0, none⟩) (j + 1) cap6) ≠ some c) w6 w7 → Boxed w7 (w2.heap.size + 1) 25 (.slice (some ⟨g6, 0, none⟩) (j + 1) cap6) → w7.ownsRow w.heap.size 27 2 (.slice (some ⟨g6, 0, none⟩) (j + 1) cap6) (j + 1) (dcells (D ++ [(t.1, t.2, .slice pk4 t.2.len ck4)])) → ∃ C'', Grow C' W' C'' w7 ∧ ∃ D' va', AJ (TT ranks n) w.heap.size (w2.heap.size + 1) (j + 1) C'' w7 D' va') := Lib.hid (fun w7 ha hb hc => by
        obtain ⟨C'', h1, h2⟩ := HAJ.out.step htt HG.out.lt (Kp.of_below h4 (fun k hk _ => hk)) hwf HKF.out hk6 hat6 ha hb hc
        exact ⟨C'', h1, _, _, h2⟩)
      unfold maxLen at hmax6
      clear h4 hk6 hat6 ho6 hg6 hb6 z3 z4 z5
      refine hK _ _ ?_
      clear hK K
      refine wpAnyIn_ready (rs := [6, 8]) (by kernel_rfl) (by simp) ?_
      refine AllReadyIn.cons rfl (fun K hK => ?_) ?_
      · go_simp
        refine hK _ _ ?_
        clear hK K
        refine wpAnyIn_ready (rs := [7, 8]) (by kernel_rfl) (by simp) ?_
        refine AllReadyIn.cons rfl (fun K hK => ?_) ?_
        · go_simp
          refine hK _ _ ?_
          clear hK K
          refine wpAnyIn_ready (rs := [8]) (by kernel_rfl) (by simp) ?_
          refine AllReadyIn.cons rfl (fun K hK => ?_) AllReadyIn.nil
          go_simp
          refine hK _ _ ?_
          clear hK K
          refine wpAnyIn_done (by kernel_rfl) ?_ _
          gi_wp2
          exact HLF.out _ ((((Kp.refl _ _).setCell (fun h => absurd rfl h.2) _).setCell (fun h => absurd rfl h.2) _).setCell (fun h => absurd rfl h.1) _) ((boxed_far (boxed_far HB6.out (p := ⟨g6, j * 2, none⟩) hne7 _) (p := ⟨g6, j * 2 + 1, none⟩) hne7 _).set _) (ownsRow_heap (by rw [← za_set D j HAJ.out.len t.1 t.2 (.slice pk4 t.2.len ck4)]; exact (((HO6.out.stored (j * 2) (.int .i64 t.1)).1).stored (j * 2 + 1) (.slice pk4 t.2.len ck4)).1) (fun g hg => Below.heap_setCell _ _ _ _ (fun e => hne6 ((Option.some.inj (show some g6 = some g from hg)).trans e))))
        refine AllReadyIn.cons rfl (fun K hK => ?_) AllReadyIn.nil
        go_simp
        refine hK _ _ ?_
        clear hK K
        refine wpAnyIn_ready (rs := [7]) (by kernel_rfl) (by simp) ?_
        refine AllReadyIn.cons rfl (fun K hK => ?_) AllReadyIn.nil
        go_simp
        refine hK _ _ ?_
        clear hK K
        refine wpAnyIn_done (by kernel_rfl) ?_ _
        gi_wp2
        exact HLF.out _ ((((Kp.refl _ _).setCell (fun h => absurd rfl h.1) _).setCell (fun h => absurd rfl h.2) _).setCell (fun h => absurd rfl h.2) _) (boxed_far (boxed_far (HB6.out.set _) (p := ⟨g6, j * 2, none⟩) hne7 _) (p := ⟨g6, j * 2 + 1, none⟩) hne7 _) (by rw [← za_set D j HAJ.out.len t.1 t.2 (.slice pk4 t.2.len ck4)]; exact ((((ownsRow_heap HO6.out (fun g hg => Below.heap_setCell _ _ _ _ (fun e => hne6 ((Option.some.inj (show some g6 = some g from hg)).trans e)))).stored (j * 2) (.int .i64 t.1)).1).stored (j * 2 + 1) (.slice pk4 t.2.len ck4)).1)
      refine AllReadyIn.cons rfl (fun K hK => ?_) AllReadyIn.nil
      go_simp
      refine hK _ _ ?_
      clear hK K
      refine wpAnyIn_ready (rs := [6]) (by kernel_rfl) (by simp) ?_
      refine AllReadyIn.cons rfl (fun K hK => ?_) AllReadyIn.nil
      go_simp
      refine hK _ _ ?_
      clear hK K
      refine wpAnyIn_ready (rs := [7]) (by kernel_rfl) (by simp) ?_
      refine AllReadyIn.cons rfl (fun K hK => ?_) AllReadyIn.nil
      go_simp
      refine hK _ _ ?_
      clear hK K
      refine wpAnyIn_done (by kernel_rfl) ?_ _
      gi_wp2
      exact HLF.out _ ((((Kp.refl _ _).setCell (fun h => absurd rfl h.1) _).setCell (fun h => absurd rfl h.2) _).setCell (fun h => absurd rfl h.2) _) (boxed_far (boxed_far (HB6.out.set _) (p := ⟨g6, j * 2, none⟩) hne7 _) (p := ⟨g6, j * 2 + 1, none⟩) hne7 _) (by rw [← za_set D j HAJ.out.len t.1 t.2 (.slice pk4 t.2.len ck4)]; exact ((((ownsRow_heap HO6.out (fun g hg => Below.heap_setCell _ _ _ _ (fun e => hne6 ((Option.some.inj (show some g6 = some g from hg)).trans e)))).stored (j * 2) (.int .i64 t.1)).1).stored (j * 2 + 1) (.slice pk4 t.2.len ck4)).1)
    refine AllReadyIn.cons rfl (fun K hK => ?_) AllReadyIn.nil
    go_simp
    refine hK _ _ ?_
    clear hK K
    refine wpAnyIn_ready (rs := [0, 2]) (by kernel_rfl) (by simp) ?_
    refine AllReadyIn.cons rfl (fun K hK => ?_) ?_
    · go_simp
      refine hK _ _ ?_
      clear hK K
      refine wpAnyIn_ready (rs := [2, 3]) (by kernel_rfl) (by simp) ?_
      refine AllReadyIn.cons rfl (fun K hK => ?_) ?_
      · refine step_call _ rfl 72 (.tmp 30) #[27] rfl (.agg #[.int .i64 t.1, .slice pk t.2.len ck]) rfl _ (enters_of Tryd.func72 (by kernel_rfl) rfl) (HCL.out _ ((Below.refl W'.heap.size W').drew.alloc (Nat.le_refl _) (.cells #[.int .i64 0, .slice none 0 0] 27))) ?_
        rintro e w4 ⟨r4, rfl, ⟨kv4, e4, hwf4, hkv4⟩, hb4⟩
        dsimp only at e4 hkv4
        subst e4
        have hkv4' := hkv4
        obtain ⟨pk4, ck4, rfl, _⟩ := hkv4'
        have hbw4 : Below W'.heap.size W' w4 := (((Below.refl W'.heap.size W').drew.alloc (Nat.le_refl _) (.cells #[.int .i64 0, .slice none 0 0] 27))).trans (hb4.mono (((Below.refl W'.heap.size W').drew.alloc (Nat.le_refl _) (.cells #[.int .i64 0, .slice none 0 0] 27))).size)
        have HBW4 := Lib.hid hbw4
        have HKV4 := Lib.hid (hkv4.mono (S' := fun c => W'.heap.size ≤ c ∧ c < w4.heap.size) (fun c hc h => ⟨Nat.le_trans (((Below.refl W'.heap.size W').drew.alloc (Nat.le_refl _) (.cells #[.int .i64 0, .slice none 0 0] 27))).size h, hc⟩))
        obtain ⟨z1, z3, z4, z2, z5⟩ := HST.out w4 hbw4
        refine ⟨_, rfl, ?_⟩
        have HZB := Lib.hid ((Blk.new W'.drew 27 #[.int .i64 0, .slice none 0 0]).below hb4 (by simp))
        clear hkv4 hb4 hbw4
        refine hK _ _ ?_
        clear hK K
        refine wpAnyIn_ready (rs := [3]) (by kernel_rfl) (by simp) ?_
        refine AllReadyIn.cons rfl (fun K hK => ?_) AllReadyIn.nil
        go_simp
        refine hK _ _ ?_
        clear hK K
        refine wpAnyIn_ready (rs := [5]) (by kernel_rfl) (by simp) ?_
        refine AllReadyIn.cons rfl (fun K hK => ?_) AllReadyIn.nil
        have h4 : Below W'.heap.size W' w4 := HBW4.out
        refine step_zero_append w4 rfl (.tmp 29) (.tmp 33) rfl w.heap.size (.slice pa j ca) j (dcells D) rfl (ownsRow_heap HAJ.out.own (fun g hg => h4.block g ((HAJ.out.own.lt g hg).2))) _ rfl HZB.out hj5 (by have := h4.size; omega) ?_
        intro v6 w6 ho6 hk6 hat6
        have HKF := Lib.hid (show IsHS (fun c => W'.heap.size ≤ c ∧ c < (w4).heap.size) w4 (.slice pk4 t.2.len ck4) t.2 from HKV4.out)
        have H4 := Lib.hid h4
        have HK6 := Lib.hid hk6
        have HAT := Lib.hid hat6
        have HO6 := Lib.hid ho6
        rcases ho6.2 with ⟨_, hz⟩ | ⟨g6, cap6, cur6, rfl, hbg6, hg6, hcap6, hmax6, _, _⟩
        · omega
        have hb6 : Boxed w6 (w2.heap.size + 1) 25 (.slice pa j ca) := hk6.boxed (HBX.out _ h4) HNB.out
        have z1 := hb6.cell
        have z2 := hb6.lt
        have z7 := hb6.frozen
        have y0 : w6.cell? ⟨g6, j * 2, none⟩ = some (.int .i64 0) := by rw [ho6.cellAt _ (by omega)]; exact (za_at D j HAJ.out.len).1
        have y1 : w6.cell? ⟨g6, j * 2 + 1, none⟩ = some (.slice none 0 0) := by rw [ho6.cellAt _ (by omega)]; exact (za_at D j HAJ.out.len).2
        have y2 := ho6.frozenAt (j * 2)
        have y3 := ho6.frozenAt (j * 2 + 1)
        have y4 := (ho6.lt g6 rfl).2
        have hne6 : ¬ g6 = w2.heap.size + 1 := HNE.out g6 cap6 _ h4 hat6
        have hne7 : ¬ w2.heap.size + 1 = g6 := fun e => hne6 e.symm
        have HB6 := Lib.hid hb6
        have HLF : Hid (∀ w7, Kp (fun c => c ≠ w2.heap.size + 1 ∧ Value.ownBlock (.slice (some ⟨g6, 0, none⟩) (j + 1) cap6) ≠ some c) w6 w7 → Boxed w7 (w2.heap.size + 1) 25 (.slice (some ⟨g6, 0, none⟩) (j + 1) cap6) → w7.ownsRow w.heap.size 27 2 (.slice (some ⟨g6, 0, none⟩) (j + 1) cap6) (j + 1) (dcells (D ++ [(t.1, t.2, .slice pk4 t.2.len ck4)])) → ∃ C'', Grow C' W' C'' w7 ∧ ∃ D' va', AJ (TT ranks n) w.heap.size (w2.heap.size + 1) (j + 1) C'' w7 D' va') := Lib.hid (fun w7 ha hb hc => by
          obtain ⟨C'', h1, h2⟩ := HAJ.out.step htt HG.out.lt (Kp.of_below h4 (fun k hk _ => hk)) hwf HKF.out hk6 hat6 ha hb hc
          exact ⟨C'', h1, _, _, h2⟩)
        unfold maxLen at hmax6
        clear h4 hk6 hat6 ho6 hg6 hb6 z3 z4 z5
        refine hK _ _ ?_
        clear hK K
        refine wpAnyIn_ready (rs := [6, 8]) (by kernel_rfl) (by simp) ?_
        refine AllReadyIn.cons rfl (fun K hK => ?_) ?_
        · go_simp
          refine hK _ _ ?_
          clear hK K
          refine wpAnyIn_ready (rs := [7, 8]) (by kernel_rfl) (by simp) ?_
          refine AllReadyIn.cons rfl (fun K hK => ?_) ?_
          · go_simp
            refine hK _ _ ?_
            clear hK K
            refine wpAnyIn_ready (rs := [8]) (by kernel_rfl) (by simp) ?_
            refine AllReadyIn.cons rfl (fun K hK => ?_) AllReadyIn.nil
            go_simp
            refine hK _ _ ?_
            clear hK K
            refine wpAnyIn_done (by kernel_rfl) ?_ _
            gi_wp2
            exact HLF.out _ ((((Kp.refl _ _).setCell (fun h => absurd rfl h.2) _).setCell (fun h => absurd rfl h.2) _).setCell (fun h => absurd rfl h.1) _) ((boxed_far (boxed_far HB6.out (p := ⟨g6, j * 2, none⟩) hne7 _) (p := ⟨g6, j * 2 + 1, none⟩) hne7 _).set _) (ownsRow_heap (by rw [← za_set D j HAJ.out.len t.1 t.2 (.slice pk4 t.2.len ck4)]; exact (((HO6.out.stored (j * 2) (.int .i64 t.1)).1).stored (j * 2 + 1) (.slice pk4 t.2.len ck4)).1) (fun g hg => Below.heap_setCell _ _ _ _ (fun e => hne6 ((Option.some.inj (show some g6 = some g from hg)).trans e))))
          refine AllReadyIn.cons rfl (fun K hK => ?_) AllReadyIn.nil
          go_simp
          refine hK _ _ ?_
          clear hK K
          refine wpAnyIn_ready (rs := [7]) (by kernel_rfl) (by simp) ?_
          refine AllReadyIn.cons rfl (fun K hK => ?_) AllReadyIn.nil
          go_simp
          refine hK _ _ ?_
          clear hK K
          refine wpAnyIn_done (by kernel_rfl) ?_ _
          gi_wp2
          exact HLF.out _ ((((Kp.refl _ _).setCell (fun h => absurd rfl h.1) _).setCell (fun h => absurd rfl h.2) _).setCell (fun h => absurd rfl h.2) _) (boxed_far (boxed_far (HB6.out.set _) (p := ⟨g6, j * 2, none⟩) hne7 _) (p := ⟨g6, j * 2 + 1, none⟩) hne7 _) (by rw [← za_set D j HAJ.out.len t.1 t.2 (.slice pk4 t.2.len ck4)]; exact ((((ownsRow_heap HO6.out (fun g hg => Below.heap_setCell _ _ _ _ (fun e => hne6 ((Option.some.inj (show some g6 = some g from hg)).trans e)))).stored (j * 2) (.int .i64 t.1)).1).stored (j * 2 + 1) (.slice pk4 t.2.len ck4)).1)
        refine AllReadyIn.cons rfl (fun K hK => ?_) AllReadyIn.nil
        go_simp
        refine hK _ _ ?_
        clear hK K
        refine wpAnyIn_ready (rs := [6]) (by kernel_rfl) (by simp) ?_
        refine AllReadyIn.cons rfl (fun K hK => ?_) AllReadyIn.nil
        go_simp
        refine hK _ _ ?_
        clear hK K
        refine wpAnyIn_ready (rs := [7]) (by kernel_rfl) (by simp) ?_
        refine AllReadyIn.cons rfl (fun K hK => ?_) AllReadyIn.nil
        go_simp
        refine hK _ _ ?_
        clear hK K
        refine wpAnyIn_done (by kernel_rfl) ?_ _
        gi_wp2
        exact HLF.out _ ((((Kp.refl _ _).setCell (fun h => absurd rfl h.1) _).setCell (fun h => absurd rfl h.2) _).setCell (fun h => absurd rfl h.2) _) (boxed_far (boxed_far (HB6.out.set _) (p := ⟨g6, j * 2, none⟩) hne7 _) (p := ⟨g6, j * 2 + 1, none⟩) hne7 _) (by rw [← za_set D j HAJ.out.len t.1 t.2 (.slice pk4 t.2.len ck4)]; exact ((((ownsRow_heap HO6.out (fun g hg => Below.heap_setCell _ _ _ _ (fun e => hne6 ((Option.some.inj (show some g6 = some g from hg)).trans e)))).stored (j * 2) (.int .i64 t.1)).1).stored (j * 2 + 1) (.slice pk4 t.2.len ck4)).1)
      refine AllReadyIn.cons rfl (fun K hK => ?_) AllReadyIn.nil
      go_simp
      refine hK _ _ ?_
      clear hK K
      refine wpAnyIn_ready (rs := [2]) (by kernel_rfl) (by simp) ?_
      refine AllReadyIn.cons rfl (fun K hK => ?_) AllReadyIn.nil
      refine step_call _ rfl 72 (.tmp 30) #[27] rfl (.agg #[.int .i64 t.1, .slice pk t.2.len ck]) rfl _ (enters_of Tryd.func72 (by kernel_rfl) rfl) (HCL.out _ ((Below.refl W'.heap.size W').drew.alloc (Nat.le_refl _) (.cells #[.int .i64 0, .slice none 0 0] 27))) ?_
      rintro e w4 ⟨r4, rfl, ⟨kv4, e4, hwf4, hkv4⟩, hb4⟩
      dsimp only at e4 hkv4
      subst e4
      have hkv4' := hkv4
      obtain ⟨pk4, ck4, rfl, _⟩ := hkv4'
      have hbw4 : Below W'.heap.size W' w4 := (((Below.refl W'.heap.size W').drew.alloc (Nat.le_refl _) (.cells #[.int .i64 0, .slice none 0 0] 27))).trans (hb4.mono (((Below.refl W'.heap.size W').drew.alloc (Nat.le_refl _) (.cells #[.int .i64 0, .slice none 0 0] 27))).size)
      have HBW4 := Lib.hid hbw4
      have HKV4 := Lib.hid (hkv4.mono (S' := fun c => W'.heap.size ≤ c ∧ c < w4.heap.size) (fun c hc h => ⟨Nat.le_trans (((Below.refl W'.heap.size W').drew.alloc (Nat.le_refl _) (.cells #[.int .i64 0, .slice none 0 0] 27))).size h, hc⟩))
      obtain ⟨z1, z3, z4, z2, z5⟩ := HST.out w4 hbw4
      refine ⟨_, rfl, ?_⟩
      have HZB := Lib.hid ((Blk.new W'.drew 27 #[.int .i64 0, .slice none 0 0]).below hb4 (by simp))
      clear hkv4 hb4 hbw4
      refine hK _ _ ?_
      clear hK K
      refine wpAnyIn_ready (rs := [5]) (by kernel_rfl) (by simp) ?_
      refine AllReadyIn.cons rfl (fun K hK => ?_) AllReadyIn.nil
      have h4 : Below W'.heap.size W' w4 := HBW4.out
      refine step_zero_append w4 rfl (.tmp 29) (.tmp 33) rfl w.heap.size (.slice pa j ca) j (dcells D) rfl (ownsRow_heap HAJ.out.own (fun g hg => h4.block g ((HAJ.out.own.lt g hg).2))) _ rfl HZB.out hj5 (by have := h4.size; omega) ?_
      intro v6 w6 ho6 hk6 hat6
      have HKF := Lib.hid (show IsHS (fun c => W'.heap.size ≤ c ∧ c < (w4).heap.size) w4 (.slice pk4 t.2.len ck4) t.2 from HKV4.out)
      have H4 := Lib.hid h4
      have HK6 := Lib.hid hk6
      have HAT := Lib.hid hat6
      have HO6 := Lib.hid ho6
      rcases ho6.2 with ⟨_, hz⟩ | ⟨g6, cap6, cur6, rfl, hbg6, hg6, hcap6, hmax6, _, _⟩
      · omega
      have hb6 : Boxed w6 (w2.heap.size + 1) 25 (.slice pa j ca) := hk6.boxed (HBX.out _ h4) HNB.out
      have z1 := hb6.cell
      have z2 := hb6.lt
      have z7 := hb6.frozen
      have y0 : w6.cell? ⟨g6, j * 2, none⟩ = some (.int .i64 0) := by rw [ho6.cellAt _ (by omega)]; exact (za_at D j HAJ.out.len).1
      have y1 : w6.cell? ⟨g6, j * 2 + 1, none⟩ = some (.slice none 0 0) := by rw [ho6.cellAt _ (by omega)]; exact (za_at D j HAJ.out.len).2
      have y2 := ho6.frozenAt (j * 2)
      have y3 := ho6.frozenAt (j * 2 + 1)
      have y4 := (ho6.lt g6 rfl).2
      have hne6 : ¬ g6 = w2.heap.size + 1 := HNE.out g6 cap6 _ h4 hat6
      have hne7 : ¬ w2.heap.size + 1 = g6 := fun e => hne6 e.symm
      have HB6 := Lib.hid hb6
      have HLF : Hid (∀ w7, Kp (fun c => c ≠ w2.heap.size + 1 ∧ Value.ownBlock (.slice (some ⟨g6, 0, none⟩) (j + 1) cap6) ≠ some c) w6 w7 → Boxed w7 (w2.heap.size + 1) 25 (.slice (some ⟨g6, 0, none⟩) (j + 1) cap6) → w7.ownsRow w.heap.size 27 2 (.slice (some ⟨g6, 0, none⟩) (j + 1) cap6) (j + 1) (dcells (D ++ [(t.1, t.2, .slice pk4 t.2.len ck4)])) → ∃ C'', Grow C' W' C'' w7 ∧ ∃ D' va', AJ (TT ranks n) w.heap.size (w2.heap.size + 1) (j + 1) C'' w7 D' va') := Lib.hid (fun w7 ha hb hc => by
        obtain ⟨C'', h1, h2⟩ := HAJ.out.step htt HG.out.lt (Kp.of_below h4 (fun k hk _ => hk)) hwf HKF.out hk6 hat6 ha hb hc
        exact ⟨C'', h1, _, _, h2⟩)
      unfold maxLen at hmax6
      clear h4 hk6 hat6 ho6 hg6 hb6 z3 z4 z5
      refine hK _ _ ?_
      clear hK K
      refine wpAnyIn_ready (rs := [6, 8]) (by kernel_rfl) (by simp) ?_
      refine AllReadyIn.cons rfl (fun K hK => ?_) ?_
      · go_simp
        refine hK _ _ ?_
        clear hK K
        refine wpAnyIn_ready (rs := [7, 8]) (by kernel_rfl) (by simp) ?_
        refine AllReadyIn.cons rfl (fun K hK => ?_) ?_
        · go_simp
          refine hK _ _ ?_
          clear hK K
          refine wpAnyIn_ready (rs := [8]) (by kernel_rfl) (by simp) ?_
          refine AllReadyIn.cons rfl (fun K hK => ?_) AllReadyIn.nil
          go_simp
          refine hK _ _ ?_
          clear hK K
          refine wpAnyIn_done (by kernel_rfl) ?_ _
          gi_wp2
          exact HLF.out _ ((((Kp.refl _ _).setCell (fun h => absurd rfl h.2) _).setCell (fun h => absurd rfl h.2) _).setCell (fun h => absurd rfl h.1) _) ((boxed_far (boxed_far HB6.out (p := ⟨g6, j * 2, none⟩) hne7 _) (p := ⟨g6, j * 2 + 1, none⟩) hne7 _).set _) (ownsRow_heap (by rw [← za_set D j HAJ.out.len t.1 t.2 (.slice pk4 t.2.len ck4)]; exact (((HO6.out.stored (j * 2) (.int .i64 t.1)).1).stored (j * 2 + 1) (.slice pk4 t.2.len ck4)).1) (fun g hg => Below.heap_setCell _ _ _ _ (fun e => hne6 ((Option.some.inj (show some g6 = some g from hg)).trans e))))
        refine AllReadyIn.cons rfl (fun K hK => ?_) AllReadyIn.nil
        go_simp
        refine hK _ _ ?_
        clear hK K
        refine wpAnyIn_ready (rs := [7]) (by kernel_rfl) (by simp) ?_
        refine AllReadyIn.cons rfl (fun K hK => ?_) AllReadyIn.nil
        go_simp
        refine hK _ _ ?_
        clear hK K
        refine wpAnyIn_done (by kernel_rfl) ?_ _
        gi_wp2
        exact HLF.out _ ((((Kp.refl _ _).setCell (fun h => absurd rfl h.1) _).setCell (fun h => absurd rfl h.2) _).setCell (fun h => absurd rfl h.2) _) (boxed_far (boxed_far (HB6.out.set _) (p := ⟨g6, j * 2, none⟩) hne7 _) (p := ⟨g6, j * 2 + 1, none⟩) hne7 _) (by rw [← za_set D j HAJ.out.len t.1 t.2 (.slice pk4 t.2.len ck4)]; exact ((((ownsRow_heap HO6.out (fun g hg => Below.heap_setCell _ _ _ _ (fun e => hne6 ((Option.some.inj (show some g6 = some g from hg)).trans e)))).stored (j * 2) (.int .i64 t.1)).1).stored (j * 2 + 1) (.slice pk4 t.2.len ck4)).1)
      refine AllReadyIn.cons rfl (fun K hK => ?_) AllReadyIn.nil
      go_simp
      refine hK _ _ ?_
      clear hK K
      refine wpAnyIn_ready (rs := [6]) (by kernel_rfl) (by simp) ?_
      refine AllReadyIn.cons rfl (fun K hK => ?_) AllReadyIn.nil
      go_simp
      refine hK _ _ ?_
      clear hK K
      refine wpAnyIn_ready (rs := [7]) (by kernel_rfl) (by simp) ?_
      refine AllReadyIn.cons rfl (fun K hK => ?_) AllReadyIn.nil
      go_simp
      refine hK _ _ ?_
      clear hK K
      refine wpAnyIn_done (by kernel_rfl) ?_ _
      gi_wp2
      exact HLF.out _ ((((Kp.refl _ _).setCell (fun h => absurd rfl h.1) _).setCell (fun h => absurd rfl h.2) _).setCell (fun h => absurd rfl h.2) _) (boxed_far (boxed_far (HB6.out.set _) (p := ⟨g6, j * 2, none⟩) hne7 _) (p := ⟨g6, j * 2 + 1, none⟩) hne7 _) (by rw [← za_set D j HAJ.out.len t.1 t.2 (.slice pk4 t.2.len ck4)]; exact ((((ownsRow_heap HO6.out (fun g hg => Below.heap_setCell _ _ _ _ (fun e => hne6 ((Option.some.inj (show some g6 = some g from hg)).trans e)))).stored (j * 2) (.int .i64 t.1)).1).stored (j * 2 + 1) (.slice pk4 t.2.len ck4)).1)
    refine AllReadyIn.cons rfl (fun K hK => ?_) AllReadyIn.nil
    refine step_call _ rfl 72 (.tmp 30) #[27] rfl (.agg #[.int .i64 t.1, .slice pk t.2.len ck]) rfl _ (enters_of Tryd.func72 (by kernel_rfl) rfl) (HCL.out _ ((Below.refl W'.heap.size W').drew.alloc (Nat.le_refl _) (.cells #[.int .i64 0, .slice none 0 0] 27))) ?_
    rintro e w4 ⟨r4, rfl, ⟨kv4, e4, hwf4, hkv4⟩, hb4⟩
    dsimp only at e4 hkv4
    subst e4
    have hkv4' := hkv4
    obtain ⟨pk4, ck4, rfl, _⟩ := hkv4'
    have hbw4 : Below W'.heap.size W' w4 := (((Below.refl W'.heap.size W').drew.alloc (Nat.le_refl _) (.cells #[.int .i64 0, .slice none 0 0] 27))).trans (hb4.mono (((Below.refl W'.heap.size W').drew.alloc (Nat.le_refl _) (.cells #[.int .i64 0, .slice none 0 0] 27))).size)
    have HBW4 := Lib.hid hbw4
    have HKV4 := Lib.hid (hkv4.mono (S' := fun c => W'.heap.size ≤ c ∧ c < w4.heap.size) (fun c hc h => ⟨Nat.le_trans (((Below.refl W'.heap.size W').drew.alloc (Nat.le_refl _) (.cells #[.int .i64 0, .slice none 0 0] 27))).size h, hc⟩))
    obtain ⟨z1, z3, z4, z2, z5⟩ := HST.out w4 hbw4
    refine ⟨_, rfl, ?_⟩
    have HZB := Lib.hid ((Blk.new W'.drew 27 #[.int .i64 0, .slice none 0 0]).below hb4 (by simp))
    clear hkv4 hb4 hbw4
    refine hK _ _ ?_
    clear hK K
    refine wpAnyIn_ready (rs := [0]) (by kernel_rfl) (by simp) ?_
    refine AllReadyIn.cons rfl (fun K hK => ?_) AllReadyIn.nil
    go_simp
    refine hK _ _ ?_
    clear hK K
    refine wpAnyIn_ready (rs := [3]) (by kernel_rfl) (by simp) ?_
    refine AllReadyIn.cons rfl (fun K hK => ?_) AllReadyIn.nil
    go_simp
    refine hK _ _ ?_
    clear hK K
    refine wpAnyIn_ready (rs := [5]) (by kernel_rfl) (by simp) ?_
    refine AllReadyIn.cons rfl (fun K hK => ?_) AllReadyIn.nil
    have h4 : Below W'.heap.size W' w4 := HBW4.out
    refine step_zero_append w4 rfl (.tmp 29) (.tmp 33) rfl w.heap.size (.slice pa j ca) j (dcells D) rfl (ownsRow_heap HAJ.out.own (fun g hg => h4.block g ((HAJ.out.own.lt g hg).2))) _ rfl HZB.out hj5 (by have := h4.size; omega) ?_
    intro v6 w6 ho6 hk6 hat6
    have HKF := Lib.hid (show IsHS (fun c => W'.heap.size ≤ c ∧ c < (w4).heap.size) w4 (.slice pk4 t.2.len ck4) t.2 from HKV4.out)
    have H4 := Lib.hid h4
    have HK6 := Lib.hid hk6
    have HAT := Lib.hid hat6
    have HO6 := Lib.hid ho6
    rcases ho6.2 with ⟨_, hz⟩ | ⟨g6, cap6, cur6, rfl, hbg6, hg6, hcap6, hmax6, _, _⟩
    · omega
    have hb6 : Boxed w6 (w2.heap.size + 1) 25 (.slice pa j ca) := hk6.boxed (HBX.out _ h4) HNB.out
    have z1 := hb6.cell
    have z2 := hb6.lt
    have z7 := hb6.frozen
    have y0 : w6.cell? ⟨g6, j * 2, none⟩ = some (.int .i64 0) := by rw [ho6.cellAt _ (by omega)]; exact (za_at D j HAJ.out.len).1
    have y1 : w6.cell? ⟨g6, j * 2 + 1, none⟩ = some (.slice none 0 0) := by rw [ho6.cellAt _ (by omega)]; exact (za_at D j HAJ.out.len).2
    have y2 := ho6.frozenAt (j * 2)
    have y3 := ho6.frozenAt (j * 2 + 1)
    have y4 := (ho6.lt g6 rfl).2
    have hne6 : ¬ g6 = w2.heap.size + 1 := HNE.out g6 cap6 _ h4 hat6
    have hne7 : ¬ w2.heap.size + 1 = g6 := fun e => hne6 e.symm
    have HB6 := Lib.hid hb6
    have HLF : Hid (∀ w7, Kp (fun c => c ≠ w2.heap.size + 1 ∧ Value.ownBlock (.slice (some ⟨g6, 0, none⟩) (j + 1) cap6) ≠ some c) w6 w7 → Boxed w7 (w2.heap.size + 1) 25 (.slice (some ⟨g6, 0, none⟩) (j + 1) cap6) → w7.ownsRow w.heap.size 27 2 (.slice (some ⟨g6, 0, none⟩) (j + 1) cap6) (j + 1) (dcells (D ++ [(t.1, t.2, .slice pk4 t.2.len ck4)])) → ∃ C'', Grow C' W' C'' w7 ∧ ∃ D' va', AJ (TT ranks n) w.heap.size (w2.heap.size + 1) (j + 1) C'' w7 D' va') := Lib.hid (fun w7 ha hb hc => by
      obtain ⟨C'', h1, h2⟩ := HAJ.out.step htt HG.out.lt (Kp.of_below h4 (fun k hk _ => hk)) hwf HKF.out hk6 hat6 ha hb hc
      exact ⟨C'', h1, _, _, h2⟩)
    unfold maxLen at hmax6
    clear h4 hk6 hat6 ho6 hg6 hb6 z3 z4 z5
    refine hK _ _ ?_
    clear hK K
    refine wpAnyIn_ready (rs := [6, 8]) (by kernel_rfl) (by simp) ?_
    refine AllReadyIn.cons rfl (fun K hK => ?_) ?_
    · go_simp
      refine hK _ _ ?_
      clear hK K
      refine wpAnyIn_ready (rs := [7, 8]) (by kernel_rfl) (by simp) ?_
      refine AllReadyIn.cons rfl (fun K hK => ?_) ?_
      · go_simp
        refine hK _ _ ?_
        clear hK K
        refine wpAnyIn_ready (rs := [8]) (by kernel_rfl) (by simp) ?_
        refine AllReadyIn.cons rfl (fun K hK => ?_) AllReadyIn.nil
        go_simp
        refine hK _ _ ?_
        clear hK K
        refine wpAnyIn_done (by kernel_rfl) ?_ _
        gi_wp2
        exact HLF.out _ ((((Kp.refl _ _).setCell (fun h => absurd rfl h.2) _).setCell (fun h => absurd rfl h.2) _).setCell (fun h => absurd rfl h.1) _) ((boxed_far (boxed_far HB6.out (p := ⟨g6, j * 2, none⟩) hne7 _) (p := ⟨g6, j * 2 + 1, none⟩) hne7 _).set _) (ownsRow_heap (by rw [← za_set D j HAJ.out.len t.1 t.2 (.slice pk4 t.2.len ck4)]; exact (((HO6.out.stored (j * 2) (.int .i64 t.1)).1).stored (j * 2 + 1) (.slice pk4 t.2.len ck4)).1) (fun g hg => Below.heap_setCell _ _ _ _ (fun e => hne6 ((Option.some.inj (show some g6 = some g from hg)).trans e))))
      refine AllReadyIn.cons rfl (fun K hK => ?_) AllReadyIn.nil
      go_simp
      refine hK _ _ ?_
      clear hK K
      refine wpAnyIn_ready (rs := [7]) (by kernel_rfl) (by simp) ?_
      refine AllReadyIn.cons rfl (fun K hK => ?_) AllReadyIn.nil
      go_simp
      refine hK _ _ ?_
      clear hK K
      refine wpAnyIn_done (by kernel_rfl) ?_ _
      gi_wp2
      exact HLF.out _ ((((Kp.refl _ _).setCell (fun h => absurd rfl h.1) _).setCell (fun h => absurd rfl h.2) _).setCell (fun h => absurd rfl h.2) _) (boxed_far (boxed_far (HB6.out.set _) (p := ⟨g6, j * 2, none⟩) hne7 _) (p := ⟨g6, j * 2 + 1, none⟩) hne7 _) (by rw [← za_set D j HAJ.out.len t.1 t.2 (.slice pk4 t.2.len ck4)]; exact ((((ownsRow_heap HO6.out (fun g hg => Below.heap_setCell _ _ _ _ (fun e => hne6 ((Option.some.inj (show some g6 = some g from hg)).trans e)))).stored (j * 2) (.int .i64 t.1)).1).stored (j * 2 + 1) (.slice pk4 t.2.len ck4)).1)
    refine AllReadyIn.cons rfl (fun K hK => ?_) AllReadyIn.nil
    go_simp
    refine hK _ _ ?_
    clear hK K
    refine wpAnyIn_ready (rs := [6]) (by kernel_rfl) (by simp) ?_
    refine AllReadyIn.cons rfl (fun K hK => ?_) AllReadyIn.nil
    go_simp
    refine hK _ _ ?_
    clear hK K
    refine wpAnyIn_ready (rs := [7]) (by kernel_rfl) (by simp) ?_
    refine AllReadyIn.cons rfl (fun K hK => ?_) AllReadyIn.nil
    go_simp
    refine hK _ _ ?_
    clear hK K
    refine wpAnyIn_done (by kernel_rfl) ?_ _
    gi_wp2
    exact HLF.out _ ((((Kp.refl _ _).setCell (fun h => absurd rfl h.1) _).setCell (fun h => absurd rfl h.2) _).setCell (fun h => absurd rfl h.2) _) (boxed_far (boxed_far (HB6.out.set _) (p := ⟨g6, j * 2, none⟩) hne7 _) (p := ⟨g6, j * 2 + 1, none⟩) hne7 _) (by rw [← za_set D j HAJ.out.len t.1 t.2 (.slice pk4 t.2.len ck4)]; exact ((((ownsRow_heap HO6.out (fun g hg => Below.heap_setCell _ _ _ _ (fun e => hne6 ((Option.some.inj (show some g6 = some g from hg)).trans e)))).stored (j * 2) (.int .i64 t.1)).1).stored (j * 2 + 1) (.slice pk4 t.2.len ck4)).1)
  · rintro D C' W' hg ⟨D1, va, hj⟩ hD hDC hDs
    have hkf : Kp (fun k => k < w.heap.size) w8 (W'.putObj D (.deferred none)) := (hg.kp.mono (fun k hk h => by omega)).putObj (fun h => by omega) _
    have hbf : Below w.heap.size w (W'.putObj D (.deferred none)) := hb38.trans (hkf.below hb38.size (fun k hk => hk))
    have hfin : IsHS (fun c => w.heap.size ≤ c) (W'.putObj D (.deferred none)) va (toH (TT ranks n)) := by
      have hD2 := hj.eq
      rw [List.take_length] at hD2
      rw [← hD2, ← dapp_toH]
      have hj' := hj.kp ((Kp.refl C' W').putObj (fun h => absurd h hDC) (.deferred none))
      have ho := hj'.own
      rw [← hj.len] at ho
      exact hj'.kids.isHS (S' := fun c => w.heap.size ≤ c) ho (fun c _ h => (hg.new c h.1).elim (fun e => by have := hb38.size; omega) (fun g => by have := hb38.size; omega)) (fun c h => h)
    obtain ⟨A, cap, rfl⟩ := ownsRow_shape hj.own
    have c7 := hj.box.cell
    have l7 := hj.box.lt
    have HFN := Lib.hid hfin
    have HBF := Lib.hid hbf
    have HD := Lib.hid hD
    clear g7 g8 g9 hIter x1 x2 x3 x4 hz3 hC3 hk3 hone e1 e2 e3 e4 e5 e6 e7 f1 f2 hfull hb38 HBC HC0 HCC HI2 HZ hZ53 hs53 hlm hbsz hz8 hkf hbf hfin hj hD
    go_wp2_with fail
    exact leaves_colv (v := .tuple #[.slice A (TT ranks n).length cap, .int .i64 0]) D _ HD.out (by simp [results, Tryd.results32, go_sem]) ⟨⟨_, rfl, HFN.out⟩, HBF.out⟩
  · rintro D c' C' W' hg hf
    exact hf.elim

end Go.Proofs.YthhliogcafmnfaaDoor
