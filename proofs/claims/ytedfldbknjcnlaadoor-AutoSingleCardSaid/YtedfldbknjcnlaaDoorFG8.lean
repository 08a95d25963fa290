/- tree.Valid. ref01.count and Few. ref01.ValidAlphabet, shaped, Valid. -/
import Derived.Test.YtedfldbknjcnlaaDoorSubs
import Derived.Test.YtedfldbknjcnlaaDoorFG1
import Derived.Shelf.Abstract
import Derived.Test.YtedfldbknjcnlaaDoorRows
import Derived.Test.YtedfldbknjcnlaaDoorHgS
import Derived.Deep.QuietTactic
import Derived.BigQuiet
namespace Go.Proofs.YtedfldbknjcnlaaDoor
section
open Go.RowKit Go.Shelf
attribute [local go_sem] Oper.semAt_some fwd fwf

def Hg.fitAll (al : List Int) : Hg → Bool
  | .nil => true
  | .cons l k r => fit al l k.len && (k.fitAll al && r.fitAll al)
/-- A valid tree over an alphabet. -/
def tvalid (al : List Int) (s : Int) (K : Hg) : Bool := validAl al && (decide (K.size + 1 ≤ 300) && (fit al s K.len && K.fitAll al))
def fitx (al : List Int) (x : List Nat × Int × Hg) : Bool := fit al x.2.1 x.2.2.len
theorem subs_fit (al : List Int) (h : Hg) : ∀ path i, (h.subs path i).all (fitx al) = h.fitAll al := by
  induction h with
  | nil => intros; rfl
  | cons l k r hk hr =>
    intro path i
    simp only [Hg.subs, List.all_cons, List.all_append, hk, hr, Hg.fitAll]
    rfl
def tsubs (s : Int) (K : Hg) : List (List Nat × Int × Hg) := ([], s, K) :: K.subs [] 0
theorem tsubs_length (s : Int) (K : Hg) : (tsubs s K).length = K.size + 1 := by simp [tsubs, Hg.subs_length]
theorem tsubs_fit (al : List Int) (s : Int) (K : Hg) : (tsubs s K).all (fitx al) = (fit al s K.len && K.fitAll al) := by
  simp only [tsubs, List.all_cons, subs_fit]
  rfl

set_option maxRecDepth 100000 in
set_option maxHeartbeats 2000000 in
theorem tvalid_ok (al : List Int) (av : Value) (s : Int) (vk : Value) (K : Hg) (w : World) (ha : IsInts w av al) (hwf : (Lit.int .i64 s).wf = true) (hv : IsH w vk K) (hs : K.size ≤ 1000000) :
    Calls Tryd.prog 62 #[.agg #[av], .agg #[.int .i64 s, vk]] w fun e w' => e = .returned (.bool (tvalid al s K)) ∧ Below w.heap.size w w' := by
  have hB0 := blk_0 w 24 #[av] (.cells #[.int .i64 s, vk] 43) (.cells #[.bool false] 4)
  have hB1 := blk_1 w 43 (.cells #[av] 24) #[.int .i64 s, vk] (.cells #[.bool false] 4)
  have hB2 := blk_2 w 4 (.cells #[av] 24) (.cells #[.int .i64 s, vk] 43) #[.bool false]
  have hbw : Below w.heap.size w (((w.alloc (.cells #[av] 24)).alloc (.cells #[.int .i64 s, vk] 43)).alloc (.cells #[.bool false] 4)) :=
    (((Below.refl _ w).alloc (Nat.le_refl _) _).alloc (by simp) _).alloc (by simp; omega) _
  have HV := Lib.hid (validAlphabet_ok al av _ (ha.below hbw))
  have HA := Lib.hid ha
  have HH := Lib.hid hv
  have HB0 := Lib.hid hB0
  have HB1 := Lib.hid hB1
  have HB2 := Lib.hid hB2
  have HBW := Lib.hid hbw
  obtain ⟨pa, ca, rfl, ha1, ha2, haa⟩ := ha
  obtain ⟨p, c, rfl, hc1, hc2, hrow⟩ := hv
  clear hrow haa hB0 hB1 hB2 hbw
  refine Calls.of_callsIn (ro := none) (m := 0) ?_
  refine callsIn_of_wp_marks Tryd.func62 rfl trivial ?_ rfl
  simp only [Tryd.ntmps62, List.size_toArray, List.length_cons, List.length_nil, Nat.reduceAdd, Nat.reduceSub, Array.replicate_succ, Array.replicate_zero, List.push_toArray, List.append_toArray, List.nil_append, List.cons_append]
  gi_wp2_with fail
  refine (CallsIn.of_calls HV.out).mono ?_
  rintro e w1 ⟨rfl, hb1⟩
  have hsz1 : w.heap.size + 1 + 1 + 1 ≤ w1.heap.size := by have := hb1.size; simpa using this
  have hb1' : Below w.heap.size w w1 := HBW.out.trans (hb1.mono (by simp; omega))
  have hA1 : Blk w1 w.heap.size 24 #[.slice pa al.length ca] := HB0.out.below hb1 (by simp; omega)
  have hT1 : Blk w1 (w.heap.size + 1) 43 #[.int .i64 s, .slice p K.len c] := HB1.out.below hb1 (by simp)
  have hR1 : Blk w1 (w.heap.size + 1 + 1) 4 #[.bool false] := HB2.out.below hb1 (by simp)
  have z1 : w1.cell? ⟨w.heap.size + 1, 0, none⟩ = some (.int .i64 s) := by rw [hT1.cell]; rfl
  have z2 : w1.cell? ⟨w.heap.size + 1, 1, none⟩ = some (.slice p K.len c) := by rw [hT1.cell]; rfl
  have z3 : w1.cell? ⟨w.heap.size + 1 + 1, 0, none⟩ = some (.bool false) := by rw [hR1.cell]; rfl
  have z4 := hR1.frozen 0
  have z5 : w.heap.size + 1 < w1.heap.size := by omega
  have z6 : w.heap.size + 1 + 1 < w1.heap.size := by omega
  have HA1 := Lib.hid hA1
  have HT1 := Lib.hid hT1
  have HR1 := Lib.hid hR1
  have HW1 := Lib.hid hb1'
  clear hb1 hb1' hA1 hT1 hR1 HB0 HB1 HB2 HBW HV
  cases hva : validAl al with
  | false =>
    have HVA := Lib.hid hva
    clear hva
    gi_wp2_with fail
    have hR2 : Blk (w1.setCell ⟨w.heap.size + 1 + 1, 0, none⟩ (.bool false)) (w.heap.size + 1 + 1) 4 #[.bool false] := HR1.out.set_ 0 _
    have hRc : (w1.setCell ⟨w.heap.size + 1 + 1, 0, none⟩ (.bool false)).cell? ⟨w.heap.size + 1 + 1, 0, none⟩ = some (.bool false) := by rw [hR2.cell]; rfl
    refine ⟨.bool false, by simp [results, Tryd.results62, go_sem, hRc], by simp [tvalid, HVA.out], ?_⟩
    exact HW1.out.setCell (p := ⟨w.heap.size + 1 + 1, 0, none⟩) (by simp; omega) _
  | true =>
    have HVA := Lib.hid hva
    clear hva
    have HN := Lib.hid (subtrees_any s _ K (w1.alloc (.cells #[.int .i64 0] 3)) (HH.out.below (HW1.out.alloc (by omega) _)))
    have hIt := subs_iter s K _ (w1.heap.size + 1) w (fun c => c = w.heap.size ∨ c = w.heap.size + 1 + 1 ∨ c = w1.heap.size) ((w1.alloc (.cells #[.int .i64 0] 3)).alloc (.cells #[.int .i64 s, .slice p K.len c] 43)) hwf HH.out
      ((HW1.out.alloc (by omega) _).alloc (by simp; omega) _) (fun c hc => by omega) (by have := Blk.new (w1.alloc (.cells #[.int .i64 0] 3)) 43 #[.int .i64 s, .slice p K.len c]; rwa [World.size_alloc] at this) hs
    have HIt := Lib.hid hIt
    have HIA := Lib.hid ((HA1.out.alloc (.cells #[.int .i64 0] 3)).alloc (.cells #[.int .i64 s, .slice p K.len c] 43))
    have HIR := Lib.hid ((HR1.out.alloc (.cells #[.int .i64 0] 3)).alloc (.cells #[.int .i64 s, .slice p K.len c] 43))
    have HIN := Lib.hid ((Blk.new w1 3 #[.int .i64 0]).alloc (.cells #[.int .i64 s, .slice p K.len c] 43))
    have HBL := Lib.hid ((HW1.out.alloc (by omega) (.cells #[.int .i64 0] 3)).alloc (by simp; omega) (.cells #[.int .i64 s, .slice p K.len c] 43))
    clear hIt
    gi_wp2_with fail
    refine (CallsIn.of_calls HN.out).mono ?_
    rintro e w2 ⟨rfl, rfl⟩
    gi_wp2_with fail
    refine rf_outer (gf := 108) (lb := #[.pointer (some ⟨w1.heap.size + 1, 0, none⟩)]) (Enc := TEnc w) rfl (enters_of Tryd.func108 (by kernel_rfl) rfl) ?_ (tsubs s K) (fun c => c = w.heap.size ∨ c = w.heap.size + 1 + 1 ∨ c = w1.heap.size) ?_
      (fun k C W => (C w.heap.size ∧ C (w.heap.size + 1 + 1) ∧ C w1.heap.size) ∧ (Blk W w.heap.size 24 #[.slice pa al.length ca] ∧ Blk W (w.heap.size + 1 + 1) 4 #[.bool false] ∧ Blk W w1.heap.size 3 #[.int .i64 k]) ∧ k ≤ 300 ∧ ((tsubs s K).take k).all (fitx al) = true)
      (fun c C W => c = .ret ∧ C (w.heap.size + 1 + 1) ∧ Blk W (w.heap.size + 1 + 1) 4 #[.bool false] ∧ tvalid al s K = false)
      (fun k a' C W => (C w.heap.size ∧ C (w.heap.size + 1 + 1) ∧ C w1.heap.size) ∧ (Blk W w.heap.size 24 #[.slice pa al.length ca] ∧ Blk W (w.heap.size + 1 + 1) 4 #[.bool false] ∧ Blk W w1.heap.size 3 #[.int .i64 k]) ∧ k ≤ 300 ∧ ((tsubs s K).take k).all (fitx al) = true ∧
        ∃ (b7 : Nat) (x : List Nat × Int × Hg) (px : Option Addr) (cx : Nat) (u13 u14 : Value), C b7 ∧ (tsubs s K)[k]? = some x ∧ x.2.2.len ≤ maxLen ∧ Blk W b7 43 #[.int .i64 x.2.1, .slice px x.2.2.len cx] ∧
        a' = { tmps := #[.agg #[.slice pa al.length ca], .agg #[.int .i64 s, .slice p K.len c], .pointer (some ⟨w.heap.size, 0, none⟩), .pointer (some ⟨w.heap.size + 1, 0, none⟩), .pointer (some ⟨w.heap.size + 1 + 1, 0, none⟩), .pointer (some ⟨w1.heap.size, 0, none⟩), undef, .pointer (some ⟨b7, 0, none⟩), .agg #[.slice pa al.length ca], .bool true, .bool false, .agg #[.int .i64 s, .slice p K.len c], .func (.func 108) #[] #[.pointer (some ⟨w1.heap.size + 1, 0, none⟩)], u13, u14, undef, undef, undef, undef, undef, undef, undef, undef, undef, undef], defers := [] })
      (fun k C W W' h hk => ⟨h.1, ⟨h.2.1.1.kp hk h.1.1, h.2.1.2.1.kp hk h.1.2.1, h.2.1.2.2.kp hk h.1.2.2⟩, h.2.2⟩) (fun c C W W' h hk => ⟨h.1, h.2.1, h.2.2.1.kp hk h.2.1, h.2.2.2⟩)
      (fun L k a' C W W' hL hn h hk => ⟨h.1, ⟨h.2.1.1.kp hk (fun e => hn (e ▸ h.1.1)), h.2.1.2.1.kp hk (fun e => hn (e ▸ h.1.2.1)), h.2.1.2.2.kp hk (fun e => hn (e ▸ h.1.2.2))⟩, h.2.2.1, h.2.2.2.1, (by
        obtain ⟨b7, x, px, cx, u13, u14, g1, g2, g3, g4, g5⟩ := h.2.2.2.2
        exact ⟨b7, x, px, cx, u13, u14, g1, g2, g3, g4.kp hk (fun e => hn (e ▸ g1)), g5⟩)⟩)
      HIt.out ⟨⟨.inl rfl, .inr (.inl rfl), .inr (.inr rfl)⟩, ⟨HIA.out, HIR.out, HIN.out⟩, by omega, by simp⟩ ?_ ?_ ?_ ?_
    · rintro k x vals W ⟨pv, vk, rfl, _⟩
      rfl
    · intro c hc
      simp
      omega
    · rintro L k x vals C W K' hx ⟨pv, vk, rfl, hwf, hvk, _, hpos⟩ hj hg hn hr hK
      obtain ⟨p2, c2, rfl, hh1, hh2, hh3⟩ := hvk
      obtain ⟨pa2, pc2, rfl, hp⟩ := hpos
      have HX := Lib.hid hx
      have HJ := Lib.hid hj
      have HG := Lib.hid hg
      have HK := Lib.hid hK
      clear hx hj hg hh3 hK hp
      gi_wp2
      exact HK.out _ _ _ ((Grow.refl HG.out.lt).alloc _) ⟨⟨.inl HJ.out.1.1, .inl HJ.out.1.2.1, .inl HJ.out.1.2.2⟩, ⟨HJ.out.2.1.1.alloc _, HJ.out.2.1.2.1.alloc _, HJ.out.2.1.2.2.alloc _⟩, HJ.out.2.2.1, HJ.out.2.2.2, W.heap.size, x, p2, c2, _, _, .inr rfl, HX.out, by omega, Blk.new W _ _, rfl⟩
    · rintro L k a' C W hlt ⟨⟨hC1, hC2, hC3⟩, ⟨hb1, hb2, hb3⟩, hk3, hall, b7, x, px, cx, u13, u14, hC7, hx, hxl, hb7, rfl⟩ hg hn hr
      obtain ⟨path, sx, kx⟩ := x
      simp only at hb7 hxl
      have x1 : W.cell? ⟨w.heap.size, 0, none⟩ = some (.slice pa al.length ca) := by rw [hb1.cell]; rfl
      have x2 : W.cell? ⟨w.heap.size + 1 + 1, 0, none⟩ = some (.bool false) := by rw [hb2.cell]; rfl
      have x3 : W.cell? ⟨w1.heap.size, 0, none⟩ = some (.int .i64 k) := by rw [hb3.cell]; rfl
      have x4 := hb2.frozen 0
      have x5 := hb3.frozen 0
      have x6 : W.cell? ⟨b7, 0, none⟩ = some (.int .i64 sx) := by rw [hb7.cell]; rfl
      have x7 : W.cell? ⟨b7, 1, none⟩ = some (.slice px kx.len cx) := by rw [hb7.cell]; rfl
      have e1 : ¬ b7 = w1.heap.size := hb7.ne_ hb3 (by decide)
      have e2 : ¬ w1.heap.size = b7 := fun e => e1 e.symm
      have e3 : ¬ w1.heap.size = w.heap.size := by omega
      have e4 : ¬ w.heap.size = w1.heap.size := by omega
      have e5 : ¬ w1.heap.size = w.heap.size + 1 + 1 := by omega
      have e6 : ¬ w.heap.size + 1 + 1 = w1.heap.size := by omega
      have hW2 : Below w.heap.size w (W.setCell ⟨w1.heap.size, 0, none⟩ (.int .i64 ((k : Int) + 1))) :=
        (HBL.out.trans (hg.below (by simp; omega) (fun c hc => by omega))).setCell (p := ⟨w1.heap.size, 0, none⟩) (by simp; omega) _
      have HFT := Lib.hid (fits_ok al _ sx kx.len px cx _ (HA.out.below hW2) hxl)
      have hmem : (path, sx, kx) ∈ tsubs s K := List.mem_of_getElem? hx
      have hstep : ((tsubs s K).take (k + 1)).all (fitx al) = fit al sx kx.len := by
        rw [List.take_add_one, hx]; simp [hall, fitx]
      rw [tsubs_length] at hlt
      have HS := Lib.hid hstep
      have HG := Lib.hid hg
      have HM := Lib.hid hmem
      have HC := Lib.hid (And.intro hC1 (And.intro hC2 hC3))
      have HB := Lib.hid (And.intro hb1 (And.intro hb2 hb3))
      have hbad : (k < 300 → fit al sx kx.len = true → False) → Hid (tvalid al s K = false) := fun hb => Lib.hid (by
        cases hv : tvalid al s K with
        | false => rfl
        | true =>
          exfalso
          simp only [tvalid, Bool.and_eq_true, decide_eq_true_eq, ← tsubs_fit, List.all_eq_true] at hv
          exact hb (by omega) (hv.2.2 _ HM.out))
      clear hb7 hx hstep hg hall hr hn hC1 hC2 hC3 hC7 hmem hb1 hb2 hb3 hW2
      by_cases h1 : 300 ≤ k
      · have HV := hbad (fun h => by omega)
        clear hbad
        gi_wp2_with fail
        refine ⟨C, ((Grow.refl HG.out.lt).setCell (p := ⟨w1.heap.size, 0, none⟩) HC.out.2.2 (.int .i64 ((k : Int) + 1))).setCell (p := ⟨w.heap.size + 1 + 1, 0, none⟩) HC.out.2.1 _, rfl, HC.out.2.1, ?_, HV.out⟩
        exact (HB.out.2.1.far (by simp; omega) _).set_ 0 _
      · have h1' : k < 300 := by omega
        clear h1
        cases hf : fit al sx kx.len with
        | true =>
          have HFF := Lib.hid hf
          rw [hf] at HFT
          clear hf hbad
          gi_wp2_with fail
          refine (CallsIn.of_calls HFT.out).mono ?_
          rintro e w3 ⟨rfl, hb3⟩
          have hg3 := ((Grow.refl HG.out.lt).setCell (p := ⟨w1.heap.size, 0, none⟩) HC.out.2.2 (.int .i64 ((k : Int) + 1))).more hb3
          have hA3 := (HB.out.1.far (p := ⟨w1.heap.size, 0, none⟩) e4 (.int .i64 ((k : Int) + 1))).below hb3 (by have := HB.out.1.lt; simpa [World.setCell] using this)
          have hR3 := (HB.out.2.1.far (p := ⟨w1.heap.size, 0, none⟩) e6 (.int .i64 ((k : Int) + 1))).below hb3 (by have := HB.out.2.1.lt; simpa [World.setCell] using this)
          have hN3 := (HB.out.2.2.set_ 0 (.int .i64 ((k : Int) + 1))).below hb3 (by have := HB.out.2.2.lt; simpa [World.setCell] using this)
          have HP := Lib.hid (And.intro hg3 (And.intro hA3 (And.intro hR3 hN3)))
          clear hb3 hg3 hA3 hR3 hN3
          gi_wp2_with fail
          exact ⟨C, HP.out.1, HC.out, ⟨HP.out.2.1, HP.out.2.2.1, HP.out.2.2.2⟩, by omega, by rw [HS.out, HFF.out]⟩
        | false =>
          have HV := hbad (fun _ h => by rw [hf] at h; cases h)
          rw [hf] at HFT
          clear hf hbad
          gi_wp2_with fail
          refine (CallsIn.of_calls HFT.out).mono ?_
          rintro e w3 ⟨rfl, hb3⟩
          have hg3 := ((Grow.refl HG.out.lt).setCell (p := ⟨w1.heap.size, 0, none⟩) HC.out.2.2 (.int .i64 ((k : Int) + 1))).more hb3
          have hR3 := (HB.out.2.1.far (p := ⟨w1.heap.size, 0, none⟩) e6 (.int .i64 ((k : Int) + 1))).below hb3 (by have := HB.out.2.1.lt; simpa [World.setCell] using this)
          have y1 : w3.cell? ⟨w.heap.size + 1 + 1, 0, none⟩ = some (.bool false) := by rw [hR3.cell]; rfl
          have y2 := hR3.frozen 0
          have HP := Lib.hid (And.intro hg3 hR3)
          clear hb3 hg3 hR3
          gi_wp2_with fail
          exact ⟨C, HP.out.1.setCell (p := ⟨w.heap.size + 1 + 1, 0, none⟩) HC.out.2.1 _, rfl, HC.out.2.1, HP.out.2.set_ 0 _, HV.out⟩
    · rintro D C W hg ⟨⟨hC1, hC2, hC3⟩, ⟨hb1, hb2, hb3⟩, hk3, hall⟩ hD hDC hDs
      have x2 : W.cell? ⟨w.heap.size + 1 + 1, 0, none⟩ = some (.bool false) := by rw [hb2.cell]; rfl
      have x3 := hb2.frozen 0
      have hv : tvalid al s K = true := by
        rw [List.take_of_length_le (Nat.le_refl _), tsubs_fit] at hall
        rw [tsubs_length] at hk3
        simp [tvalid, HVA.out, hall, hk3]
      have HV := Lib.hid hv
      have HD := Lib.hid hD
      have HG := Lib.hid hg
      have HB := Lib.hid hb2
      clear hD hg hv hall hb1 hb2 hb3 hk3
      gi_wp2_with fail
      have hD1 : (W.setCell ⟨w.heap.size + 1 + 1, 0, none⟩ (.bool true)).heap[D]? = some (.deferred (some [])) := by
        rw [Below.heap_setCell _ _ _ _ (fun e => hDC (by rw [e]; exact hC2))]; exact HD.out
      have hR : Blk ((W.setCell ⟨w.heap.size + 1 + 1, 0, none⟩ (.bool true)).putObj D (.deferred none)) (w.heap.size + 1 + 1) 4 #[.bool true] :=
        (HB.out.set_ 0 (.bool true)).kp ((Kp.refl (fun c => c ≠ D) _).putObj (fun h => absurd rfl h) _) (fun e => hDC (by rw [← e]; exact hC2))
      have hRc : ((W.setCell ⟨w.heap.size + 1 + 1, 0, none⟩ (.bool true)).putObj D (.deferred none)).cell? ⟨w.heap.size + 1 + 1, 0, none⟩ = some (.bool true) := by rw [hR.cell]; rfl
      refine ⟨by simp, .inl ⟨_, _, rfl, run_takeDeferred hD1, ?_⟩⟩
      refine ⟨.bool true, by simp [results, Tryd.results62, go_sem, hRc], by rw [HV.out], ?_⟩
      refine HBL.out.trans ((HG.out.below (by simp; omega) (fun c hc => by omega)).trans ?_)
      refine Below.trans ((Below.refl _ W).setCell (p := ⟨w.heap.size + 1 + 1, 0, none⟩) (by simp; omega) (.bool true)) ?_
      exact ((Kp.refl (fun k => k < w.heap.size) _).putObj (fun h => by simp at hDs; omega) _).below (by have := HG.out.kp.size; simp [World.setCell] at this ⊢; omega) (fun k hk => hk)
    · rintro D c' C W hg ⟨rfl, hC2, hb2, hv⟩ hD hDC hDs
      have HV := Lib.hid hv
      have HD := Lib.hid hD
      have HG := Lib.hid hg
      have HB := Lib.hid hb2
      clear hD hg hv hb2
      gi_wp2_with fail
      have hR : Blk (W.putObj D (.deferred none)) (w.heap.size + 1 + 1) 4 #[.bool false] :=
        HB.out.kp ((Kp.refl (fun c => c ≠ D) _).putObj (fun h => absurd rfl h) _) (fun e => hDC (by rw [← e]; exact hC2))
      have hRc : (W.putObj D (.deferred none)).cell? ⟨w.heap.size + 1 + 1, 0, none⟩ = some (.bool false) := by rw [hR.cell]; rfl
      refine ⟨by simp, .inl ⟨_, _, rfl, run_takeDeferred HD.out, ?_⟩⟩
      refine ⟨.bool false, by simp [results, Tryd.results62, go_sem, hRc], by rw [HV.out], ?_⟩
      refine HBL.out.trans ((HG.out.below (by simp; omega) (fun c hc => by omega)).trans ?_)
      exact ((Kp.refl (fun k => k < w.heap.size) _).putObj (fun h => by simp at hDs; omega) _).below (by have := HG.out.kp.size; simp at this; omega) (fun k hk => hk)
end

section
open Go.RowKit

set_option maxHeartbeats 400000 in
theorem count01_any (N : Nat) : ∀ (s : Int) (H : Hg) (v : Value) (m : Int) (w : World), H.size < N → IsH w v H → 0 ≤ m → m ≤ 1000000 →
    Calls Tryd.prog 75 #[.agg #[.int .i64 s, v], .int .i64 m] w fun e w' => e = .returned (.int .i64 (min ((H.size : Int) + 1) (m + 1))) ∧ Below w.heap.size w w' := by
  induction N with
  | zero =>
    intro s H v m w hN hv h1 h2
    omega
  | succ N ih =>
    intro s H v m w hN hv h1 h2
    obtain ⟨p, c, rfl, hc1, hc2, hrow⟩ := hv
    unfold maxLen at hc2
    have HI := Lib.hid ih
    have HR := Lib.hid hrow
    clear ih hrow
    go_enter Tryd.func75, Tryd.ntmps75
    go_wp2
    go_loopw [5, 11] (fun n i wr => ∃ (k d : Nat) (R : Hg), i = .int .i64 k ∧ n = .int .i64 (min ((d : Int) + 1) (m + 1)) ∧ Hid (k + R.len = H.len) ∧ Hid (d + R.size = H.size) ∧ Below w.heap.size w wr ∧ (R ≠ .nil → ∃ b o, p = some ⟨b, o, none⟩ ∧ Row wr R b (o + k * 2)))
      (fun _ i _ => H.len - (intOf i).toNat)
    case atStart =>
      refine ⟨0, 0, H, rfl, ?_, Lib.hid (by simp), Lib.hid (by simp), (Below.refl _ _).alloc (Nat.le_refl _) _, fun hne => ?_⟩
      · refine congrArg _ ?_; omega
      · obtain ⟨b, o, e, hr⟩ := HR.out hne
        exact ⟨b, o, e, by simpa using hr.below ((Below.refl _ _).alloc (Nat.le_refl _) _)⟩
    case round =>
      obtain ⟨k, d, R, rfl, rfl, hk, hd, hb, hR⟩ := hrel
      cases R with
      | nil =>
        have hge : H.len ≤ k := by have := hk.out; simp only [Hg.len] at this; omega
        have HD : Hid (d = H.size) := Lib.hid (by have := hd.out; simpa [Hg.size] using this)
        clear hk hd hR HR
        go_wp2
        go_ret
        exact ⟨by rw [← HD.out]; rfl, hb⟩
      | cons l K R =>
        obtain ⟨b, o, rfl, hr⟩ := hR (by simp)
        rw [Row.cons_iff] at hr
        obtain ⟨c1, hl, ⟨vk, c2, hvk⟩, hr⟩ := hr
        have hvk' := hvk
        obtain ⟨p', c', rfl, hc1', hc2', _⟩ := hvk'
        have hlt : k < H.len := by have := hk.out; simp only [Hg.len] at this; omega
        have hds : d + (K.size + R.size + 1) ≤ H.size := by have := hd.out; simp only [Hg.size] at this; omega
        have hbl := World.block_lt_of_cell? _ _ c1
        simp only at hbl
        have hba := (Below.refl wr.heap.size wr).alloc (Nat.le_refl _) (.cells #[.int .i64 l, .slice p' K.len c'] 43)
        have HW := Lib.hid (And.intro (hb.alloc hb.size (.cells #[.int .i64 l, .slice p' K.len c'] 43)) (And.intro (hr.below hba) (hvk.below hba)))
        have hsz := hb.size
        clear hR HR hr hvk hba hb
        go_wp2_with fail
        · refine (HI.out l K _ _ _ (by omega) HW.out.2.2 (by omega) (by omega)).mono ?_
          rintro e w1 ⟨rfl, hb1⟩
          have HB1 := Lib.hid hb1
          clear hb1
          go_wp2_with fail
          go_roundw
          case rel =>
            refine ⟨k + 1, d + (K.size + 1), R, by go_num, ?_, Lib.hid (by have := hk.out; simp only [Hg.len] at this; omega), Lib.hid (by have := hd.out; simp only [Hg.size] at this; omega), HW.out.1.trans (HB1.out.mono (by simp; omega)), fun _ => ⟨b, o, rfl, ?_⟩⟩
            · refine congrArg _ ?_; omega
            · rw [show o + (k + 1) * 2 = o + k * 2 + 2 from by omega]; exact HW.out.2.1.below HB1.out
          case measure => simp [intOf]; omega
        · go_roundw
          case rel =>
            refine ⟨k + 1, d + (K.size + 1), R, by go_num, ?_, Lib.hid (by have := hk.out; simp only [Hg.len] at this; omega), Lib.hid (by have := hd.out; simp only [Hg.size] at this; omega), HW.out.1, fun _ => ⟨b, o, rfl, ?_⟩⟩
            · refine congrArg _ ?_; omega
            · rw [show o + (k + 1) * 2 = o + k * 2 + 2 from by omega]; exact HW.out.2.1
          case measure => simp [intOf]; omega

set_option maxHeartbeats 400000 in
theorem few01_ok (s : Int) (H : Hg) (v : Value) (m : Int) (w : World) (hv : IsH w v H) (h1 : 0 ≤ m) (h2 : m ≤ 1000000) :
    Calls Tryd.prog 35 #[.agg #[.int .i64 s, v], .int .i64 m] w fun e w' => e = .returned (.bool (decide ((H.size : Int) + 1 ≤ m))) ∧ Below w.heap.size w w' := by
  have hb1 := (Below.refl w.heap.size w).alloc (Nat.le_refl _) (.cells #[.int .i64 s, v] 43)
  have hc := Lib.hid (count01_any (H.size + 1) s H v m _ (by omega) (hv.below hb1) h1 h2)
  have HB := Lib.hid hb1
  obtain ⟨p, c, rfl, hc1, hc2, hrow⟩ := hv
  clear hrow hb1
  go_enter Tryd.func35, Tryd.ntmps35
  go_wp2_with fail
  refine hc.out.mono ?_
  rintro e w1 ⟨rfl, hb1⟩
  go_wp2_with fail
  go_ret
  exact ⟨ret_bool (by rw [decide_eq_decide]; omega), HB.out.trans (hb1.mono (by simp))⟩
end

section
open Go.RowKit Go.Shelf

set_option maxRecDepth 100000 in
set_option maxHeartbeats 1000000 in
theorem rvalidAlphabet_ok (l : List Int) (v : Value) (w : World) (hv : IsInts w v l) :
    Calls Tryd.prog 52 #[.agg #[v]] w fun e w' => e = .returned (.bool (validAl l)) ∧ Below w.heap.size w w' := by
  obtain ⟨p, c, rfl, hc1, hc2, hcell⟩ := hv
  unfold maxLen at hc2
  have HC := Lib.hid hcell
  clear hcell
  by_cases h12 : l.length ≤ 12
  · go_enter Tryd.func52, Tryd.ntmps52
    go_wp2
    go_loop [12] (fun i => ∃ k : Nat, i = .int .i64 k ∧ k ≤ l.length ∧ Hid ((l.take k).all rok = true)) (fun i => l.length - (intOf i).toNat)
    case atStart => exact ⟨0, rfl, by omega, Lib.hid (by simp)⟩
    case round =>
      obtain ⟨k, rfl, hk, ha⟩ := hrel
      by_cases hlt : k < l.length
      · obtain ⟨r, hr⟩ : ∃ r, l[k]? = some r := ⟨_, List.getElem?_eq_getElem hlt⟩
        obtain ⟨b, o, rfl, hcl⟩ := HC.out (fun h => by simp [h] at hlt)
        have c1 := hcl k r hr
        have hbl := World.block_lt_of_cell? _ _ c1
        simp only at hbl
        have hst : Hid ((l.take (k + 1)).all rok = rok r) := Lib.hid (by rw [List.take_add_one, hr]; simp [ha.out])
        have hmem : Hid (r ∈ l) := Lib.hid (List.mem_of_getElem? hr)
        clear hr hcl
        by_cases h1 : 0 ≤ r
        · by_cases h2 : r ≤ 3
          · go_wp2_with fail
            go_round
            case rel => exact ⟨k + 1, by go_num, by omega, Lib.hid (by rw [hst.out]; simp [rok, h1, h2])⟩
            case measure => simp [intOf]; omega
          · have h2' : 3 < r := by omega
            clear h2
            go_wp2_with fail
            go_ret
            exact ⟨ret_bool (by
              have := hmem.out
              simp only [validAl, Bool.false_eq, Bool.and_eq_false_iff]
              right
              rw [List.all_eq_false]
              exact ⟨r, this, by simp [rok]; omega⟩), (Below.refl _ _).alloc (Nat.le_refl _) _⟩
        · have h1' : r < 0 := by omega
          clear h1
          go_wp2_with fail
          go_ret
          exact ⟨ret_bool (by
            have := hmem.out
            simp only [validAl, Bool.false_eq, Bool.and_eq_false_iff]
            right
            rw [List.all_eq_false]
            exact ⟨r, this, by simp [rok]; omega⟩), (Below.refl _ _).alloc (Nat.le_refl _) _⟩
      · have hge : l.length ≤ k := by omega
        have ha2 : Hid (l.all rok = true) := Lib.hid (by have := ha.out; rwa [List.take_of_length_le hge] at this)
        clear hlt
        go_wp2_with fail
        go_ret
        exact ⟨ret_bool (by simp [validAl, h12, ha2.out]), (Below.refl _ _).alloc (Nat.le_refl _) _⟩
  · have h12' : 12 < l.length := by omega
    clear h12
    go_enter Tryd.func52, Tryd.ntmps52
    go_wp2
    go_ret
    exact ⟨ret_bool (by simp [validAl]; omega), (Below.refl _ _).alloc (Nat.le_refl _) _⟩

theorem Blk.drewN_ {w : World} {g : Nat} {t : TypeId} {cs : Array Value} (h : Blk w g t cs) (n : Nat) : Blk (w.drewN n) g t cs := h

/-- All nodes fit the alphabet. -/
def shape (al : List Int) (s : Int) (K : Hg) : Bool := fit al s K.len && K.fitAll al

set_option maxRecDepth 100000 in
set_option maxHeartbeats 1000000 in
theorem shaped_any (al : List Int) (N : Nat) : ∀ (av : Value) (s : Int) (vk : Value) (H : Hg) (w : World), H.size < N → IsInts w av al → IsH w vk H →
    Calls Tryd.prog 78 #[.agg #[av], .agg #[.int .i64 s, vk]] w fun e w' => e = .returned (.bool (shape al s H)) ∧ Below w.heap.size w w' := by
  induction N with
  | zero => intro av s vk H w hN; omega
  | succ N ih =>
    intro av s vk H w hN ha hv
    have HA := Lib.hid ha
    obtain ⟨pa, ca, rfl, ha1, ha2, haa⟩ := ha
    obtain ⟨p, c, rfl, hc1, hc2, hrow⟩ := hv
    unfold maxLen at ha2 hc2
    have hba : ∀ o1 o2 q, Below w.heap.size w (((w.alloc o1).alloc o2).drewN q) := fun o1 o2 q => below_drewN (((Below.refl _ w).alloc (Nat.le_refl _) o1).alloc (by simp) o2) q
    have HI := Lib.hid ih
    have HR := Lib.hid hrow
    have HC := Lib.hid haa
    have HBA := Lib.hid hba
    clear ih hrow haa hba
    by_cases h1 : s < 0
    · have hfit : Hid (shape al s H = false) := Lib.hid (by
        have : ¬ 0 ≤ s := by omega
        simp [shape, fit, this])
      go_enter Tryd.func78, Tryd.ntmps78
      go_wp2_with fail
      go_quiet (fail)
      go_wp2_with fail
      go_ret
      exact ⟨ret_bool (by rw [hfit.out]), HBA.out _ _ _⟩
    · have hd1 : decide (s < 0) = false := decide_eq_false h1
      have h1' : 0 ≤ s := by omega
      clear h1
      by_cases h2 : (al.length : Int) ≤ s
      · have hfit : Hid (shape al s H = false) := Lib.hid (by
          have : ¬ s < al.length := by omega
          simp [shape, fit, this])
        go_enter Tryd.func78, Tryd.ntmps78
        go_wp2_with fail
        go_quiet (fail)
        go_wp2_with fail
        go_ret
        exact ⟨ret_bool (by rw [hfit.out]), HBA.out _ _ _⟩
      · have hd2 : decide ((al.length : Int) ≤ s) = false := decide_eq_false h2
        obtain ⟨k, rfl⟩ := Int.eq_ofNat_of_zero_le h1'
        have hk : k < al.length := by omega
        have hd4 : decide (al.length ≤ k) = false := by simp; omega
        obtain ⟨r, hr⟩ : ∃ r, al[k]? = some r := ⟨_, List.getElem?_eq_getElem hk⟩
        obtain ⟨b, o, rfl, hcl⟩ := HC.out (fun h => by simp [h] at hk)
        have c1 := hcl k r hr
        have hbl := World.block_lt_of_cell? _ _ c1
        simp only at hbl
        have hbl2 : b < w.heap.size + 1 := by omega
        have hfit : Hid (fit al k H.len = ((H.len : Int) == r)) := Lib.hid (by
          have : (k : Int) < al.length := by omega
          simp [fit, this, hr])
        clear hr hcl h2
        by_cases h3 : (H.len : Int) = r
        · subst h3
          have hft : Hid (fit al k H.len = true) := Lib.hid (by rw [hfit.out]; simp)
          clear hfit
          go_enter Tryd.func78, Tryd.ntmps78
          go_wp2_with fail
          go_quiet (fail)
          go_wp2_with fail
          go_loopw [33] (fun i wr => ∃ (n d : Nat) (R : Hg), i = .int .i64 n ∧ Hid (n + R.len = H.len) ∧ Hid (d + R.size = H.size) ∧ Hid (H.fitAll al = R.fitAll al) ∧ Below (w.heap.size + 1 + 1) (((w.alloc (.cells #[.slice (some ⟨b, o, none⟩) al.length ca] 24)).alloc (.cells #[.int .i64 (k : Int), .slice p H.len c] 43)).drewN nq) wr ∧ (R ≠ .nil → ∃ b o, p = some ⟨b, o, none⟩ ∧ Row wr R b (o + n * 2)))
            (fun i _ => H.len - (intOf i).toNat)
          case atStart =>
            refine ⟨0, 0, H, rfl, Lib.hid (by simp), Lib.hid (by simp), Lib.hid rfl, Below.refl _ _, fun hne => ?_⟩
            obtain ⟨b', o', e, hr⟩ := HR.out hne
            exact ⟨b', o', e, by simpa using hr.below (HBA.out _ _ _)⟩
          case round =>
            obtain ⟨n, d, R, rfl, hkk, hd, hfa, hb, hR⟩ := hrel
            have hbA : Blk wr w.heap.size 24 #[.slice (some ⟨b, o, none⟩) al.length ca] := Blk.below (Blk.drewN_ ((Blk.new w _ _).alloc _) _) hb (by omega)
            have hbT : Blk wr (w.heap.size + 1) 43 #[.int .i64 (k : Int), .slice p H.len c] := Blk.below (Blk.drewN_ (by have := Blk.new (w.alloc (.cells #[.slice (some ⟨b, o, none⟩) al.length ca] 24)) 43 #[.int .i64 (k : Int), .slice p H.len c]; rwa [World.size_alloc] at this) _) hb (by omega)
            have hbw : Below w.heap.size w wr := (HBA.out _ _ _).trans (hb.mono (by omega))
            have y1 : wr.cell? ⟨w.heap.size, 0, none⟩ = some (.slice (some ⟨b, o, none⟩) al.length ca) := by rw [hbA.cell]; rfl
            have y2 := hbA.lt
            have HBW := Lib.hid hbw
            have hsz : w.heap.size + 1 + 1 ≤ wr.heap.size := by
              have h2 : ((w.alloc (.cells #[.slice (some ⟨b, o, none⟩) al.length ca] 24)).alloc (.cells #[.int .i64 (k : Int), .slice p H.len c] 43)).heap.size ≤ wr.heap.size := hb.size
              simpa using h2
            cases R with
            | nil =>
              have hge : H.len ≤ n := by have := hkk.out; simp only [Hg.len] at this; omega
              clear hkk hd hR HR hb hbA hbT hbw
              go_wp2
              go_ret
              exact ⟨ret_bool (by simp only [shape, hft.out, hfa.out]; rfl), HBW.out⟩
            | cons l K R =>
              obtain ⟨b', o', rfl, hr⟩ := hR (by simp)
              rw [Row.cons_iff] at hr
              obtain ⟨c1', hl, ⟨vk, c2', hvk⟩, hr⟩ := hr
              have hvk' := hvk
              obtain ⟨p', c', rfl, hc1', hc2', _⟩ := hvk'
              have hlt : n < H.len := by have := hkk.out; simp only [Hg.len] at this; omega
              have hds : d + (K.size + R.size + 1) ≤ H.size := by have := hd.out; simp only [Hg.size] at this; omega
              have hbl' := World.block_lt_of_cell? _ _ c1'
              simp only at hbl'
              have hba := (Below.refl wr.heap.size wr).alloc (Nat.le_refl _) (.cells #[.int .i64 l, .slice p' K.len c'] 43)
              have HW := Lib.hid (And.intro (hb.alloc hsz (.cells #[.int .i64 l, .slice p' K.len c'] 43)) (And.intro (hr.below hba) (hvk.below hba)))
              have HCall := Lib.hid (HI.out _ l _ K (wr.alloc (.cells #[.int .i64 l, .slice p' K.len c'] 43)) (by omega) (HA.out.below (hbw.alloc (by omega) _)) HW.out.2.2)
              have hfa2 : Hid (H.fitAll al = (shape al l K && R.fitAll al)) := Lib.hid (by rw [hfa.out]; simp [Hg.fitAll, shape, Bool.and_assoc])
              clear hR HR hr hvk hba hb hbA hbT hbw hfa
              cases hs : shape al l K with
              | true =>
                have HS := Lib.hid hs
                rw [hs] at HCall
                clear hs
                go_wp2_with fail
                refine HCall.out.mono ?_
                rintro e w1 ⟨rfl, hb1⟩
                have HB1 := Lib.hid hb1
                clear hb1
                go_wp2_with fail
                go_roundw
                case rel =>
                  refine ⟨n + 1, d + (K.size + 1), R, by go_num, Lib.hid (by have := hkk.out; simp only [Hg.len] at this; omega), Lib.hid (by have := hd.out; simp only [Hg.size] at this; omega), Lib.hid (by rw [hfa2.out, HS.out]; simp), HW.out.1.trans (HB1.out.mono (by have := HW.out.1.size; simpa using this)), fun _ => ⟨b', o', rfl, ?_⟩⟩
                  rw [show o' + (n + 1) * 2 = o' + n * 2 + 2 from by omega]; exact HW.out.2.1.below HB1.out
                case measure => simp [intOf]; omega
              | false =>
                have HS := Lib.hid hs
                rw [hs] at HCall
                clear hs
                go_wp2_with fail
                refine HCall.out.mono ?_
                rintro e w1 ⟨rfl, hb1⟩
                have HB1 := Lib.hid hb1
                clear hb1
                go_wp2_with fail
                go_ret
                exact ⟨ret_bool (by simp only [shape, hft.out]; rw [hfa2.out, HS.out]; simp), (HBW.out.alloc (by omega) _).trans (HB1.out.mono (by simp; omega))⟩
        · have hd3 : ((H.len : Int) != r) = true := by simpa using h3
          have hft : Hid (shape al k H = false) := Lib.hid (by
            have : ((H.len : Int) == r) = false := by simpa using h3
            simp [shape, hfit.out, this])
          clear hfit
          go_enter Tryd.func78, Tryd.ntmps78
          go_wp2_with fail
          go_quiet (fail)
          go_wp2_with fail
          go_ret
          exact ⟨ret_bool (by rw [hft.out]), HBA.out _ _ _⟩
end

end Go.Proofs.YtedfldbknjcnlaaDoor
