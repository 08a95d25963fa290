/- tree.Positions. -/
import Derived.Test.YthhliogcafmnfaaDoorTLL
import Derived.Test.YthhliogcafmnfaaDoorAllLaws
import Derived.Shelf.RegionOpen
namespace Go.Proofs.YthhliogcafmnfaaDoor
open Go.RowKit Go.Shelf
attribute [local go_sem] Oper.semAt_some fwd fwf

/-- What Positions gives. -/
def posL (al : List Int) (s : Int) (K : Hg) : List (List Int) := if tvalid al s K = true then (placesT (s, K)).map toI else []
def posE (al : List Int) (s : Int) (K : Hg) : Int := if tvalid al s K = true then 0 else 1

set_option maxRecDepth 100000 in
set_option maxHeartbeats 2000000 in
theorem positions_ok (al : List Int) (av : Value) (s : Int) (vk : Value) (K : Hg) (w : World) (ha : IsInts w av al) (hwf : (Lit.int .i64 s).wf = true) (hv : IsH w vk K) (hs : K.size ≤ 1000000) :
    Calls Tryd.prog 25 #[.agg #[av], .agg #[.int .i64 s, vk]] w fun e w' => ∃ vr, e = .returned (.tuple #[vr, .int .i64 (posE al s K)]) ∧ IsLL w' vr (posL al s K) ∧ Below w.heap.size w w' := by
  have hbw : Below w.heap.size w ((w.alloc (.cells #[av] 24)).alloc (.cells #[.int .i64 s, vk] 27)) := ((Below.refl _ w).alloc (Nat.le_refl _) _).alloc (by simp) _
  have HV := Lib.hid (tvalid_ok al av s vk K _ (ha.below hbw) hwf (hv.below hbw) hs)
  have HB1 := Lib.hid (show Blk ((w.alloc (.cells #[av] 24)).alloc (.cells #[.int .i64 s, vk] 27)) (w.heap.size + 1) 27 #[.int .i64 s, vk] by have := Blk.new (w.alloc (.cells #[av] 24)) 27 #[.int .i64 s, vk]; rwa [World.size_alloc] at this)
  have HH := Lib.hid hv
  have HBW := Lib.hid hbw
  have HWF := Lib.hid hwf
  obtain ⟨pa, ca, rfl, ha1, ha2, haa⟩ := ha
  obtain ⟨p, c, rfl, hc1, hc2, hrow⟩ := hv
  clear hrow haa hbw hwf
  refine Calls.of_callsIn (ro := none) (m := 0) ?_
  refine callsIn_of_wp_marks Tryd.func25 rfl trivial ?_ rfl
  simp only [Tryd.ntmps25, List.size_toArray, List.length_cons, List.length_nil, Nat.reduceAdd, Nat.reduceSub, Array.replicate_succ, Array.replicate_zero, List.push_toArray, List.append_toArray, List.nil_append, List.cons_append]
  gi_wp2_with fail
  refine (CallsIn.of_calls HV.out).mono ?_
  rintro e w1 ⟨rfl, hb1⟩
  have hsz1 : w.heap.size + 1 + 1 ≤ w1.heap.size := by have := hb1.size; simpa using this
  have hb1' : Below w.heap.size w w1 := HBW.out.trans (hb1.mono (by simp; omega))
  have hT1 : Blk w1 (w.heap.size + 1) 27 #[.int .i64 s, .slice p K.len c] := HB1.out.below hb1 (by simp)
  have z1 : w1.cell? ⟨w.heap.size + 1, 0, none⟩ = some (.int .i64 s) := by rw [hT1.cell]; rfl
  have z2 : w1.cell? ⟨w.heap.size + 1, 1, none⟩ = some (.slice p K.len c) := by rw [hT1.cell]; rfl
  have z5 : w.heap.size + 1 < w1.heap.size := by omega
  have HW1 := Lib.hid hb1'
  clear hb1 hb1' hT1 HB1 HBW HV
  cases hva : tvalid al s K with
  | false =>
    have HE := Lib.hid (show posE al s K = 1 by simp [posE, hva])
    have HL := Lib.hid (show posL al s K = [] by simp [posL, hva])
    clear hva
    gi_wp2_with fail
    refine ⟨.tuple #[.slice none 0 0, .int .i64 1], by simp [results, Tryd.results25, go_sem], .slice none 0 0, by rw [HE.out], ?_, HW1.out⟩
    rw [HL.out]
    exact ⟨none, 0, rfl, Nat.le_refl _, by decide, fun h => absurd rfl h⟩
  | true =>
    have HE := Lib.hid (show posE al s K = 0 by simp [posE, hva])
    have HL := Lib.hid (show posL al s K = (placesT (s, K)).map toI by simp [posL, hva])
    have hsz300 : K.size + 1 ≤ 300 := by
      simp only [tvalid, Bool.and_eq_true, decide_eq_true_eq] at hva
      exact hva.2.1
    obtain ⟨T, hT⟩ : ∃ T, T = (placesT (s, K)).map toI := ⟨_, rfl⟩
    have hTj : ∀ (j : Nat) (x : List Nat × Int × Hg), (tsubs s K)[j]? = some x → T[j]? = some (toI x.1) := fun j x hx => by
      rw [hT, ← places_tsubs, List.map_map, List.getElem?_map, hx]; rfl
    have hTl : (tsubs s K).length = T.length := by rw [hT, List.length_map, ← places_tsubs, List.length_map]
    have HTJ0 := Lib.hid hTj
    have HTL := Lib.hid hTl
    have HTT := Lib.hid hT
    clear hva hTj hTl hT
    have HN := Lib.hid (subtrees_any s _ K (w1.alloc (.cells #[.slice none 0 0] 38)) (HH.out.below (HW1.out.alloc (by omega) _)))
    have hIt := subs_iterD s K _ (w1.heap.size + 1) w (fun c => c = w1.heap.size) ((w1.alloc (.cells #[.slice none 0 0] 38)).alloc (.cells #[.int .i64 s, .slice p K.len c] 27)) HWF.out HH.out
      ((HW1.out.alloc (by omega) _).alloc (by simp; omega) _) (fun c hc => by omega) (by have := Blk.new (w1.alloc (.cells #[.slice none 0 0] 38)) 27 #[.int .i64 s, .slice p K.len c]; rwa [World.size_alloc] at this) hs
    have HIt := Lib.hid hIt
    have HIN := Lib.hid (show Boxed ((w1.alloc (.cells #[.slice none 0 0] 38)).alloc (.cells #[.int .i64 s, .slice p K.len c] 27)) w1.heap.size 38 (.slice none 0 0) from (Boxed.new w1 38 (.slice none 0 0)).alloc (.cells #[.int .i64 s, .slice p K.len c] 27))
    have HBL := Lib.hid ((HW1.out.alloc (by omega) (.cells #[.slice none 0 0] 38)).alloc (by simp; omega) (.cells #[.int .i64 s, .slice p K.len c] 27))
    clear hIt
    gi_wp2_with fail
    refine (CallsIn.of_calls HN.out).mono ?_
    rintro e w2 ⟨rfl, rfl⟩
    gi_wp2_with fail
    refine rd_outer (gf := 111) (lb := #[.pointer (some ⟨w1.heap.size + 1, 0, none⟩)]) (Enc := TEncD w) rfl (enters_of Tryd.func111 (by kernel_rfl) rfl) ?_ (fun k x vals C C' W h e => e.mono h) (tsubs s K) (fun c => c = w1.heap.size) ?_
      (fun k C W => ∃ D va, PJ T w.heap.size w1.heap.size k C W D va)
      (fun c C W => False)
      (fun L2 k a' C W => (∃ D va, PJ T w.heap.size w1.heap.size k C W D va) ∧ ∃ (x : List Nat × Int × Hg) (pv : Value) (u15 : Value), (tsubs s K)[k]? = some x ∧ IsPosS (fun c => ¬ (C c ∨ c = L2)) W pv x.1 ∧
        a' = { tmps := #[.agg #[.slice pa al.length ca], .agg #[.int .i64 s, .slice p K.len c], .pointer (some ⟨w.heap.size, 0, none⟩), .pointer (some ⟨w.heap.size + 1, 0, none⟩), .slice none 0 0, .int .i64 0, .pointer (some ⟨w1.heap.size, 0, none⟩), pv, .agg #[.slice pa al.length ca], .agg #[.int .i64 s, .slice p K.len c], .bool true, .bool false, .agg #[.int .i64 s, .slice p K.len c], .func (.func 111) #[] #[.pointer (some ⟨w1.heap.size + 1, 0, none⟩)], pv, u15, undef, undef, undef, undef, undef, undef], defers := [] })
      (fun k C W W' h hk => by obtain ⟨D, va, h⟩ := h; exact ⟨D, va, h.kp hk⟩) (fun c C W W' h hk => h)
      ?_ HIt.out ?_ ?_ ?_ ?_ ?_
    · rintro k x vals C W ⟨pv, vk, rfl, _⟩
      rfl
    · intro c hc
      simp
      omega
    · rintro L k a' C W W' hL hn ⟨⟨D, va, h1⟩, x, pv, u15, h2, h3, h4⟩ hk
      exact ⟨⟨D, va, h1.kp (hk.mono (fun c _ hc e => hn (e ▸ hc)))⟩, x, pv, u15, h2, h3.kp (hk.mono (fun c _ hc e => hc (.inr e))), h4⟩
    · exact ⟨[], .slice none 0 0, rfl, rfl, by simp, HIN.out, World.ownsRow_nil _ _ _ _, fun g hg => by simp [Value.ownBlock] at hg, fun x hx => by cases hx⟩
    · rintro L k x vals C W K' hx ⟨pv, vk, rfl, hwf, hvk, _, hpos⟩ hj hg hn hr hK
      have hpos' := hpos
      obtain ⟨p2, c2, rfl, hh1, hh2, hh3⟩ := hvk
      obtain ⟨pa2, pc2, rfl, _⟩ := hpos'
      have HX := Lib.hid hx
      have HJ := Lib.hid hj
      have HG := Lib.hid hg
      have HK := Lib.hid hK
      have HP := Lib.hid hpos
      clear hx hj hg hh3 hK hpos
      gi_wp2
      exact HK.out _ C W (Grow.refl HG.out.lt) ⟨HJ.out, x, _, _, HX.out, HP.out, rfl⟩
    · rintro L j a' C' W' hlt ⟨⟨D, va, hpj⟩, ⟨path, sx, kx⟩, pv, u15, hx, hpos, rfl⟩ hg hn hr
      obtain ⟨qa, qc, rfl⟩ := ownsRow_shape hpj.own
      have hpos2 := hpos.isPos
      obtain ⟨pp, pc, rfl, _⟩ := hpos
      have hj5 : j ≤ 5000 := by rw [tsubs_length] at hlt; omega
      have HPJ := Lib.hid hpj
      have HG := Lib.hid hg
      have HTJ := Lib.hid (HTJ0.out j _ hx)
      have hpl : path.length ≤ 1000000 := by
        have := tsubs_path s K _ (List.mem_of_getElem? hx)
        simp only at this
        omega
      have HNB : Hid (Value.ownBlock (.slice qa j qc) ≠ some w1.heap.size) := Lib.hid (fun e => (hpj.blk _ e).2 rfl)
      have HBX := Lib.hid (fun (X : World) (h : Below W'.heap.size W' X) => (show Boxed X w1.heap.size 38 (.slice qa j qc) from (h.block _ hpj.box.lt).trans hpj.box))
      have HST : Hid (∀ X, Below W'.heap.size W' X → X.cell? ⟨w1.heap.size, 0, none⟩ = some (.slice qa j qc) ∧ w1.heap.size < X.heap.size ∧ X.frozen? ⟨w1.heap.size, 0, none⟩ = false) := Lib.hid (fun X h => ⟨(HBX.out X h).cell, (HBX.out X h).lt, (HBX.out X h).frozen⟩)
      have HCL := Lib.hid (fun (X : World) (h : Below W'.heap.size W' X) => iclone_any X (.slice pp path.length pc) path (ispos_below hpos2 h) hpl)
      have hwW : w.heap.size ≤ W'.heap.size := by have h1 := hg.kp.size; have h2 := HBL.out.size; omega
      obtain ⟨z1, z2, z3⟩ := HST.out W' (Below.refl _ _)
      clear hpj hg hpos2 hr hn hx HBL HIN HIt HN HTJ0 HTL HTT HE HL HW1 HH
      gi_wp2_with fail
      refine wpIn_region_any (by kernel_rfl) ?_
      change wpAnyIn _ _ _ _ _ _ _ _ _ (World.drew _)
      refine wpAnyIn_ready (rs := [0, 1]) (by kernel_rfl) (by simp) ?_
      refine AllReadyIn.cons rfl (fun K hK => ?_) ?_
      · go_simp
        refine hK _ _ ?_
        clear hK K
        refine wpAnyIn_ready (rs := [1]) (by kernel_rfl) (by simp) ?_
        refine AllReadyIn.cons rfl (fun K hK => ?_) AllReadyIn.nil
        go_simp
        refine hK _ _ ?_
        clear hK K
        refine wpAnyIn_ready (rs := [2]) (by kernel_rfl) (by simp) ?_
        refine AllReadyIn.cons rfl (fun K hK => ?_) AllReadyIn.nil
        refine step_call _ rfl 69 (.tmp 17) #[22] rfl (.slice pp path.length pc) rfl _ (enters_of Tryd.func69 (by kernel_rfl) rfl) (HCL.out _ ((Below.refl W'.heap.size W').drew)) ?_
        rintro e w4 ⟨hb4, v4, rfl, ho4⟩
        have hbw4 : Below W'.heap.size W' w4 := ((Below.refl W'.heap.size W').drew).trans hb4
        have HBW4 := Lib.hid hbw4
        obtain ⟨q4, d4, rfl⟩ := ownsRow_shape ho4
        have HO4 := Lib.hid ho4
        obtain ⟨z1, z2, z3⟩ := HST.out w4 hbw4
        clear hb4 ho4 hbw4
        refine ⟨_, rfl, ?_⟩
        refine hK _ _ ?_
        clear hK K
        refine wpAnyIn_ready (rs := [3]) (by kernel_rfl) (by simp) ?_
        refine AllReadyIn.cons rfl (fun K hK => ?_) AllReadyIn.nil
        go_simp
        refine hK _ _ ?_
        clear hK K
        refine wpAnyIn_ready (rs := [4]) (by kernel_rfl) (by simp) ?_
        refine AllReadyIn.cons rfl (fun K hK => ?_) AllReadyIn.nil
        have h4 : Below W'.heap.size W' (w4.alloc (.cells #[.slice q4 path.length d4] 22)) := HBW4.out.alloc HBW4.out.size _
        refine step_ints_append (w4.alloc (.cells #[.slice q4 path.length d4] 22)) rfl (.tmp 16) (.tmp 19) rfl w.heap.size (.slice qa j qc) j (D.map (·.2)) rfl (ownsRow_heap HPJ.out.own (fun g hg => h4.block g ((HPJ.out.own.lt g hg).2))) w4.heap.size (.slice q4 path.length d4) rfl (Blk.new w4 _ _) rfl hj5 (by have := h4.size; omega) ?_
        intro v6 w6 ho6 hk6 hat6
        have hb6 : Boxed w6 w1.heap.size 38 (.slice qa j qc) := hk6.boxed (HBX.out _ h4) HNB.out
        have z1 := hb6.cell
        have z2 := hb6.lt
        have z7 := hb6.frozen
        have HN6 : Hid (v6.ownBlock ≠ some w1.heap.size) := Lib.hid (fun e => by
          rcases hat6 with h | h
          · exact HNB.out (h ▸ e)
          · rw [h] at e; simp at e; have := HBW4.out.size; omega)
        have HB6 := Lib.hid hb6
        have HO6 := Lib.hid ho6
        have HKF : IsIntsS (fun c => W'.heap.size ≤ c ∧ c < (w4.alloc (.cells #[.slice q4 path.length d4] 22)).heap.size) (w4.alloc (.cells #[.slice q4 path.length d4] 22)) (.slice q4 path.length d4) (toI path) := ((IsIntsS.of_own (S := fun c => W'.heap.size ≤ c) HO4.out (fun g hg => hg)).kp ((Kp.refl _ _).alloc _)).mono (fun c hc h => ⟨h, hc⟩)
        have HLF : Hid (∀ w7, Kp (fun c => c ≠ w1.heap.size) w6 w7 → Boxed w7 w1.heap.size 38 v6 → w7.ownsRow w.heap.size 22 1 v6 (j + 1) (D.map (·.2) ++ [.slice q4 path.length d4]) → ∃ C'', Grow C' W' C'' w7 ∧ ∃ D' va', PJ T w.heap.size w1.heap.size (j + 1) C'' w7 D' va') := Lib.hid (fun w7 ha hb hc => by
          obtain ⟨C'', h1, h2⟩ := HPJ.out.step HTJ.out HG.out.lt (Kp.of_below h4 (fun k hk _ => hk)) HKF hk6 hat6 ha hb (by rw [List.map_append]; exact hc)
          exact ⟨C'', h1, _, _, h2⟩)
        obtain ⟨_, _, rfl⟩ := ownsRow_shape ho6
        clear h4 hk6 hat6 ho6 hb6 HKF z3
        refine hK _ _ ?_
        clear hK K
        refine wpAnyIn_ready (rs := [5]) (by kernel_rfl) (by simp) ?_
        refine AllReadyIn.cons rfl (fun K hK => ?_) AllReadyIn.nil
        go_simp
        refine hK _ _ ?_
        clear hK K
        refine wpAnyIn_done (by kernel_rfl) ?_ _
        gi_wp2
        exact HLF.out _ ((Kp.refl _ _).setCell (fun h => absurd rfl h) _) (HB6.out.set _) (ownsRow_heap HO6.out (fun g hg => Below.heap_setCell _ _ _ _ (fun e => HN6.out (hg.trans (congrArg some e)))))
      refine AllReadyIn.cons rfl (fun K hK => ?_) AllReadyIn.nil
      go_simp
      refine hK _ _ ?_
      clear hK K
      refine wpAnyIn_ready (rs := [0, 2]) (by kernel_rfl) (by simp) ?_
      refine AllReadyIn.cons rfl (fun K hK => ?_) ?_
      · go_simp
        refine hK _ _ ?_
        clear hK K
        refine wpAnyIn_ready (rs := [2]) (by kernel_rfl) (by simp) ?_
        refine AllReadyIn.cons rfl (fun K hK => ?_) AllReadyIn.nil
        refine step_call _ rfl 69 (.tmp 17) #[22] rfl (.slice pp path.length pc) rfl _ (enters_of Tryd.func69 (by kernel_rfl) rfl) (HCL.out _ ((Below.refl W'.heap.size W').drew)) ?_
        rintro e w4 ⟨hb4, v4, rfl, ho4⟩
        have hbw4 : Below W'.heap.size W' w4 := ((Below.refl W'.heap.size W').drew).trans hb4
        have HBW4 := Lib.hid hbw4
        obtain ⟨q4, d4, rfl⟩ := ownsRow_shape ho4
        have HO4 := Lib.hid ho4
        obtain ⟨z1, z2, z3⟩ := HST.out w4 hbw4
        clear hb4 ho4 hbw4
        refine ⟨_, rfl, ?_⟩
        refine hK _ _ ?_
        clear hK K
        refine wpAnyIn_ready (rs := [3]) (by kernel_rfl) (by simp) ?_
        refine AllReadyIn.cons rfl (fun K hK => ?_) AllReadyIn.nil
        go_simp
        refine hK _ _ ?_
        clear hK K
        refine wpAnyIn_ready (rs := [4]) (by kernel_rfl) (by simp) ?_
        refine AllReadyIn.cons rfl (fun K hK => ?_) AllReadyIn.nil
        have h4 : Below W'.heap.size W' (w4.alloc (.cells #[.slice q4 path.length d4] 22)) := HBW4.out.alloc HBW4.out.size _
        refine step_ints_append (w4.alloc (.cells #[.slice q4 path.length d4] 22)) rfl (.tmp 16) (.tmp 19) rfl w.heap.size (.slice qa j qc) j (D.map (·.2)) rfl (ownsRow_heap HPJ.out.own (fun g hg => h4.block g ((HPJ.out.own.lt g hg).2))) w4.heap.size (.slice q4 path.length d4) rfl (Blk.new w4 _ _) rfl hj5 (by have := h4.size; omega) ?_
        intro v6 w6 ho6 hk6 hat6
        have hb6 : Boxed w6 w1.heap.size 38 (.slice qa j qc) := hk6.boxed (HBX.out _ h4) HNB.out
        have z1 := hb6.cell
        have z2 := hb6.lt
        have z7 := hb6.frozen
        have HN6 : Hid (v6.ownBlock ≠ some w1.heap.size) := Lib.hid (fun e => by
          rcases hat6 with h | h
          · exact HNB.out (h ▸ e)
          · rw [h] at e; simp at e; have := HBW4.out.size; omega)
        have HB6 := Lib.hid hb6
        have HO6 := Lib.hid ho6
        have HKF : IsIntsS (fun c => W'.heap.size ≤ c ∧ c < (w4.alloc (.cells #[.slice q4 path.length d4] 22)).heap.size) (w4.alloc (.cells #[.slice q4 path.length d4] 22)) (.slice q4 path.length d4) (toI path) := ((IsIntsS.of_own (S := fun c => W'.heap.size ≤ c) HO4.out (fun g hg => hg)).kp ((Kp.refl _ _).alloc _)).mono (fun c hc h => ⟨h, hc⟩)
        have HLF : Hid (∀ w7, Kp (fun c => c ≠ w1.heap.size) w6 w7 → Boxed w7 w1.heap.size 38 v6 → w7.ownsRow w.heap.size 22 1 v6 (j + 1) (D.map (·.2) ++ [.slice q4 path.length d4]) → ∃ C'', Grow C' W' C'' w7 ∧ ∃ D' va', PJ T w.heap.size w1.heap.size (j + 1) C'' w7 D' va') := Lib.hid (fun w7 ha hb hc => by
          obtain ⟨C'', h1, h2⟩ := HPJ.out.step HTJ.out HG.out.lt (Kp.of_below h4 (fun k hk _ => hk)) HKF hk6 hat6 ha hb (by rw [List.map_append]; exact hc)
          exact ⟨C'', h1, _, _, h2⟩)
        obtain ⟨_, _, rfl⟩ := ownsRow_shape ho6
        clear h4 hk6 hat6 ho6 hb6 HKF z3
        refine hK _ _ ?_
        clear hK K
        refine wpAnyIn_ready (rs := [5]) (by kernel_rfl) (by simp) ?_
        refine AllReadyIn.cons rfl (fun K hK => ?_) AllReadyIn.nil
        go_simp
        refine hK _ _ ?_
        clear hK K
        refine wpAnyIn_done (by kernel_rfl) ?_ _
        gi_wp2
        exact HLF.out _ ((Kp.refl _ _).setCell (fun h => absurd rfl h) _) (HB6.out.set _) (ownsRow_heap HO6.out (fun g hg => Below.heap_setCell _ _ _ _ (fun e => HN6.out (hg.trans (congrArg some e)))))
      refine AllReadyIn.cons rfl (fun K hK => ?_) AllReadyIn.nil
      refine step_call _ rfl 69 (.tmp 17) #[22] rfl (.slice pp path.length pc) rfl _ (enters_of Tryd.func69 (by kernel_rfl) rfl) (HCL.out _ ((Below.refl W'.heap.size W').drew)) ?_
      rintro e w4 ⟨hb4, v4, rfl, ho4⟩
      have hbw4 : Below W'.heap.size W' w4 := ((Below.refl W'.heap.size W').drew).trans hb4
      have HBW4 := Lib.hid hbw4
      obtain ⟨q4, d4, rfl⟩ := ownsRow_shape ho4
      have HO4 := Lib.hid ho4
      obtain ⟨z1, z2, z3⟩ := HST.out w4 hbw4
      clear hb4 ho4 hbw4
      refine ⟨_, rfl, ?_⟩
      refine hK _ _ ?_
      clear hK K
      refine wpAnyIn_ready (rs := [0, 3]) (by kernel_rfl) (by simp) ?_
      refine AllReadyIn.cons rfl (fun K hK => ?_) ?_
      · go_simp
        refine hK _ _ ?_
        clear hK K
        refine wpAnyIn_ready (rs := [3]) (by kernel_rfl) (by simp) ?_
        refine AllReadyIn.cons rfl (fun K hK => ?_) AllReadyIn.nil
        go_simp
        refine hK _ _ ?_
        clear hK K
        refine wpAnyIn_ready (rs := [4]) (by kernel_rfl) (by simp) ?_
        refine AllReadyIn.cons rfl (fun K hK => ?_) AllReadyIn.nil
        have h4 : Below W'.heap.size W' (w4.alloc (.cells #[.slice q4 path.length d4] 22)) := HBW4.out.alloc HBW4.out.size _
        refine step_ints_append (w4.alloc (.cells #[.slice q4 path.length d4] 22)) rfl (.tmp 16) (.tmp 19) rfl w.heap.size (.slice qa j qc) j (D.map (·.2)) rfl (ownsRow_heap HPJ.out.own (fun g hg => h4.block g ((HPJ.out.own.lt g hg).2))) w4.heap.size (.slice q4 path.length d4) rfl (Blk.new w4 _ _) rfl hj5 (by have := h4.size; omega) ?_
        intro v6 w6 ho6 hk6 hat6
        have hb6 : Boxed w6 w1.heap.size 38 (.slice qa j qc) := hk6.boxed (HBX.out _ h4) HNB.out
        have z1 := hb6.cell
        have z2 := hb6.lt
        have z7 := hb6.frozen
        have HN6 : Hid (v6.ownBlock ≠ some w1.heap.size) := Lib.hid (fun e => by
          rcases hat6 with h | h
          · exact HNB.out (h ▸ e)
          · rw [h] at e; simp at e; have := HBW4.out.size; omega)
        have HB6 := Lib.hid hb6
        have HO6 := Lib.hid ho6
        have HKF : IsIntsS (fun c => W'.heap.size ≤ c ∧ c < (w4.alloc (.cells #[.slice q4 path.length d4] 22)).heap.size) (w4.alloc (.cells #[.slice q4 path.length d4] 22)) (.slice q4 path.length d4) (toI path) := ((IsIntsS.of_own (S := fun c => W'.heap.size ≤ c) HO4.out (fun g hg => hg)).kp ((Kp.refl _ _).alloc _)).mono (fun c hc h => ⟨h, hc⟩)
        have HLF : Hid (∀ w7, Kp (fun c => c ≠ w1.heap.size) w6 w7 → Boxed w7 w1.heap.size 38 v6 → w7.ownsRow w.heap.size 22 1 v6 (j + 1) (D.map (·.2) ++ [.slice q4 path.length d4]) → ∃ C'', Grow C' W' C'' w7 ∧ ∃ D' va', PJ T w.heap.size w1.heap.size (j + 1) C'' w7 D' va') := Lib.hid (fun w7 ha hb hc => by
          obtain ⟨C'', h1, h2⟩ := HPJ.out.step HTJ.out HG.out.lt (Kp.of_below h4 (fun k hk _ => hk)) HKF hk6 hat6 ha hb (by rw [List.map_append]; exact hc)
          exact ⟨C'', h1, _, _, h2⟩)
        obtain ⟨_, _, rfl⟩ := ownsRow_shape ho6
        clear h4 hk6 hat6 ho6 hb6 HKF z3
        refine hK _ _ ?_
        clear hK K
        refine wpAnyIn_ready (rs := [5]) (by kernel_rfl) (by simp) ?_
        refine AllReadyIn.cons rfl (fun K hK => ?_) AllReadyIn.nil
        go_simp
        refine hK _ _ ?_
        clear hK K
        refine wpAnyIn_done (by kernel_rfl) ?_ _
        gi_wp2
        exact HLF.out _ ((Kp.refl _ _).setCell (fun h => absurd rfl h) _) (HB6.out.set _) (ownsRow_heap HO6.out (fun g hg => Below.heap_setCell _ _ _ _ (fun e => HN6.out (hg.trans (congrArg some e)))))
      refine AllReadyIn.cons rfl (fun K hK => ?_) AllReadyIn.nil
      go_simp
      refine hK _ _ ?_
      clear hK K
      refine wpAnyIn_ready (rs := [0]) (by kernel_rfl) (by simp) ?_
      refine AllReadyIn.cons rfl (fun K hK => ?_) AllReadyIn.nil
      go_simp
      refine hK _ _ ?_
      clear hK K
      refine wpAnyIn_ready (rs := [4]) (by kernel_rfl) (by simp) ?_
      refine AllReadyIn.cons rfl (fun K hK => ?_) AllReadyIn.nil
      have h4 : Below W'.heap.size W' (w4.alloc (.cells #[.slice q4 path.length d4] 22)) := HBW4.out.alloc HBW4.out.size _
      refine step_ints_append (w4.alloc (.cells #[.slice q4 path.length d4] 22)) rfl (.tmp 16) (.tmp 19) rfl w.heap.size (.slice qa j qc) j (D.map (·.2)) rfl (ownsRow_heap HPJ.out.own (fun g hg => h4.block g ((HPJ.out.own.lt g hg).2))) w4.heap.size (.slice q4 path.length d4) rfl (Blk.new w4 _ _) rfl hj5 (by have := h4.size; omega) ?_
      intro v6 w6 ho6 hk6 hat6
      have hb6 : Boxed w6 w1.heap.size 38 (.slice qa j qc) := hk6.boxed (HBX.out _ h4) HNB.out
      have z1 := hb6.cell
      have z2 := hb6.lt
      have z7 := hb6.frozen
      have HN6 : Hid (v6.ownBlock ≠ some w1.heap.size) := Lib.hid (fun e => by
        rcases hat6 with h | h
        · exact HNB.out (h ▸ e)
        · rw [h] at e; simp at e; have := HBW4.out.size; omega)
      have HB6 := Lib.hid hb6
      have HO6 := Lib.hid ho6
      have HKF : IsIntsS (fun c => W'.heap.size ≤ c ∧ c < (w4.alloc (.cells #[.slice q4 path.length d4] 22)).heap.size) (w4.alloc (.cells #[.slice q4 path.length d4] 22)) (.slice q4 path.length d4) (toI path) := ((IsIntsS.of_own (S := fun c => W'.heap.size ≤ c) HO4.out (fun g hg => hg)).kp ((Kp.refl _ _).alloc _)).mono (fun c hc h => ⟨h, hc⟩)
      have HLF : Hid (∀ w7, Kp (fun c => c ≠ w1.heap.size) w6 w7 → Boxed w7 w1.heap.size 38 v6 → w7.ownsRow w.heap.size 22 1 v6 (j + 1) (D.map (·.2) ++ [.slice q4 path.length d4]) → ∃ C'', Grow C' W' C'' w7 ∧ ∃ D' va', PJ T w.heap.size w1.heap.size (j + 1) C'' w7 D' va') := Lib.hid (fun w7 ha hb hc => by
        obtain ⟨C'', h1, h2⟩ := HPJ.out.step HTJ.out HG.out.lt (Kp.of_below h4 (fun k hk _ => hk)) HKF hk6 hat6 ha hb (by rw [List.map_append]; exact hc)
        exact ⟨C'', h1, _, _, h2⟩)
      obtain ⟨_, _, rfl⟩ := ownsRow_shape ho6
      clear h4 hk6 hat6 ho6 hb6 HKF z3
      refine hK _ _ ?_
      clear hK K
      refine wpAnyIn_ready (rs := [5]) (by kernel_rfl) (by simp) ?_
      refine AllReadyIn.cons rfl (fun K hK => ?_) AllReadyIn.nil
      go_simp
      refine hK _ _ ?_
      clear hK K
      refine wpAnyIn_done (by kernel_rfl) ?_ _
      gi_wp2
      exact HLF.out _ ((Kp.refl _ _).setCell (fun h => absurd rfl h) _) (HB6.out.set _) (ownsRow_heap HO6.out (fun g hg => Below.heap_setCell _ _ _ _ (fun e => HN6.out (hg.trans (congrArg some e)))))
    · rintro D C W hg ⟨D1, va, hj⟩ hD hDC hDs
      have hfin : IsLL (W.putObj D (.deferred none)) va T := by
        have h1 := (hj.kp ((Kp.refl C W).putObj (fun h => absurd h hDC) (.deferred none))).isLL
        rw [HTL.out, List.take_length] at h1
        exact h1
      have hbf : Below w.heap.size w (W.putObj D (.deferred none)) := by
        refine HBL.out.trans (((hg.kp.mono (S' := fun k => k < w.heap.size) (fun k hk h => by omega)).putObj (fun h => by simp at hDs; omega) _).below (by simp; omega) (fun k hk => hk))
      obtain ⟨A, cap, rfl⟩ := ownsRow_shape hj.own
      have c7 := hj.box.cell
      have l7 := hj.box.lt
      have HFN := Lib.hid hfin
      have HBF := Lib.hid hbf
      have HD := Lib.hid hD
      have HTT2 := Lib.hid (HL.out.trans HTT.out.symm)
      clear hj hD hfin hbf hg HTL HBL HIN HIt HN HTJ0 HTT HW1 HH HL hDs hDC
      gi_wp2_with fail
      exact leaves_colv (v := .tuple #[.slice A (tsubs s K).length cap, .int .i64 0]) D _ HD.out (by simp [results, Tryd.results25, go_sem]) ⟨_, by rw [HE.out], by rw [HTT2.out]; exact HFN.out, HBF.out⟩
    · rintro D c' C W hg h
      exact h.elim

end Go.Proofs.YthhliogcafmnfaaDoor
