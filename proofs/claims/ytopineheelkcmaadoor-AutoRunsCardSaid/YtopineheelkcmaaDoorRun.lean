/- auto.Run. -/
import Derived.Test.YtopineheelkcmaaDoorASm
import Derived.Test.YtopineheelkcmaaDoorApR
import Derived.Test.YtopineheelkcmaaDoorAuOk
import Derived.Test.YtopineheelkcmaaDoorTValid
namespace Go.Proofs.YtopineheelkcmaaDoor
open Go.RowKit Go.Shelf

theorem isInts_no (w : World) : IsInts w (.slice none 0 0) [] := ⟨none, 0, rfl, by simp, by decide, fun h => absurd rfl h⟩
/-- What Run answers beside the run. -/
def runE (al : List Int) (A : Au) (l : Int) (K : Hg) : Int := if askB al A l K then (if hasB A l K then 0 else 8) else 1
theorem accI_some {W : Nat → Nat} : ∀ {F : List Nat}, 0 ≤ accI W F → ∃ q ∈ F, accI W F = (q : Int) ∧ mem W q = true
  | [], h => by simp [accI] at h
  | q :: F, h => by
    unfold accI at h ⊢
    split
    · rename_i hm; exact ⟨q, List.mem_cons_self .., rfl, hm⟩
    · rename_i hm
      rw [if_neg hm] at h
      obtain ⟨q', h1, h2, h3⟩ := accI_some h
      exact ⟨q', List.mem_cons_of_mem _ h1, h2, h3⟩

set_option maxRecDepth 100000 in
set_option maxHeartbeats 2000000 in
theorem run_ok (al : List Int) (A : Au) (l : Int) (K : Hg) (av v vk : Value) (w : World) (hsz : K.size ≤ 100000) (hwf : (Lit.int .i64 l).wf = true) (ha : IsInts w av al) (hA : IsAu w v A) (hK : IsH w vk K) :
    Calls Tryd.prog 32 #[.agg #[av], v, .agg #[.int .i64 l, vk]] w fun e w' => (∃ u run, e = .returned (.tuple #[u, .int .i64 (runE al A l K)]) ∧ IsInts w' u run ∧ (askB al A l K = true → hasB A l K = true → isRunB A l K run = true)) ∧ Below w.heap.size w w' := by
  have HA := Lib.hid hA
  have HAL := Lib.hid ha
  have HK := Lib.hid hK
  obtain ⟨fv, rv, rfl, hf, hr⟩ := hA
  have H3 := Lib.hid (three_boxes w #[av] #[.int .i64 A.st, fv, rv] #[.int .i64 l, vk] 24 27 43)
  obtain ⟨p1, c1, rfl, _⟩ := hf
  obtain ⟨p2, c2, rfl, _⟩ := hr
  obtain ⟨p, c, rfl, _⟩ := hK
  obtain ⟨pa, ca, rfl, _⟩ := ha
  have h0 := H3.out _ (Below.refl _ _)
  have HV := Lib.hid (valid_ok al A _ _ _ (HAL.out.below h0.2.2.2) (HA.out.below h0.2.2.2))
  clear h0
  go_enter Tryd.func32, Tryd.ntmps32
  go_wp2_with fail
  refine HV.out.mono ?_
  rintro e w1 ⟨rfl, hb1⟩
  have h1 := H3.out w1 hb1
  have HB1 := Lib.hid h1.2.2.2
  by_cases hva : validA al A = true
  · have x0 : w1.cell? ⟨w.heap.size, 0, none⟩ = some (.slice pa al.length ca) := by rw [h1.1.cell]; rfl
    have x1 : w1.cell? ⟨w.heap.size + 1 + 1, 0, none⟩ = some (.int .i64 l) := by rw [h1.2.2.1.cell]; rfl
    have x2 : w1.cell? ⟨w.heap.size + 1 + 1, 1, none⟩ = some (.slice p K.len c) := by rw [h1.2.2.1.cell]; rfl
    have s1 := h1.2.2.1.lt
    have s0 := h1.1.lt
    have HT := Lib.hid (tvalid_ok al _ l _ K w1 (HAL.out.below h1.2.2.2) hwf (HK.out.below h1.2.2.2) (by omega))
    have HVA := Lib.hid hva
    have HBX := Lib.hid hb1
    clear h1 hb1 hva
    rw [HVA.out]
    cases htv : tvalid al l K with
    | true =>
      have HTV := Lib.hid htv
      have HQ : Hid (askB al A l K = true) := Lib.hid (by unfold askB; rw [HVA.out, htv]; rfl)
      rw [htv] at HT
      clear htv
      go_wp2_with fail
      refine HT.out.mono ?_
      rintro e w2 ⟨rfl, hb2⟩
      have HB2 := Lib.hid (HBX.out.trans (hb2.mono HBX.out.size))
      clear hb2 x0 x1 x2 s1 s0
      obtain ⟨s, hs, hgood⟩ := good_of HQ.out
      subst hs
      have HGD := Lib.hid hgood
      have g2 := H3.out w2 HB2.out
      have x20 : w2.cell? ⟨w.heap.size, 0, none⟩ = some (.slice pa al.length ca) := by rw [g2.1.cell]; rfl
      have x21 : w2.cell? ⟨w.heap.size + 1, 0, none⟩ = some (.int .i64 A.st) := by rw [g2.2.1.cell]; rfl
      have x22 : w2.cell? ⟨w.heap.size + 1, 1, none⟩ = some (.slice p1 A.fin.length c1) := by rw [g2.2.1.cell]; rfl
      have x23 : w2.cell? ⟨w.heap.size + 1, 2, none⟩ = some (.slice p2 A.ru.length c2) := by rw [g2.2.1.cell]; rfl
      have x24 : w2.cell? ⟨w.heap.size + 1 + 1, 0, none⟩ = some (.int .i64 (s : Int)) := by rw [g2.2.2.1.cell]; rfl
      have x25 : w2.cell? ⟨w.heap.size + 1 + 1, 1, none⟩ = some (.slice p K.len c) := by rw [g2.2.2.1.cell]; rfl
      have y2 := g2.2.2.1.lt
      have y2a := g2.1.lt
      have y2b := g2.2.1.lt
      have HB2w := Lib.hid g2.2.2.2
      clear g2
      have HFX := Lib.hid (ask_x HQ.out)
      go_wp2_with fail
      refine (newTable_ok al A _ _ _ (HAL.out.below HB2w.out) (HA.out.below HB2w.out) HGD.out.alen HGD.out.rlen HGD.out.rus).mono ?_
      rintro e w3 ⟨⟨T, G, M, GL, rows, f, rfl, ht, hm, hgl⟩, hb3⟩
      have HTB := Lib.hid ht
      have HMN := Lib.hid hm
      have HGLL : Hid (GL.length ≤ 20000) := Lib.hid (Nat.le_trans hgl HGD.out.rlen)
      have HE3 := Lib.hid (HB2.out.trans (hb3.mono HB2.out.size))
      clear ht hm hgl hb3
      clear x20 x21 x22 x23 x24 x25 y2 y2a y2b
      have g3 := H3.out w3 HE3.out
      have x30 : w3.cell? ⟨w.heap.size, 0, none⟩ = some (.slice pa al.length ca) := by rw [g3.1.cell]; rfl
      have x31 : w3.cell? ⟨w.heap.size + 1, 0, none⟩ = some (.int .i64 A.st) := by rw [g3.2.1.cell]; rfl
      have x32 : w3.cell? ⟨w.heap.size + 1, 1, none⟩ = some (.slice p1 A.fin.length c1) := by rw [g3.2.1.cell]; rfl
      have x33 : w3.cell? ⟨w.heap.size + 1, 2, none⟩ = some (.slice p2 A.ru.length c2) := by rw [g3.2.1.cell]; rfl
      have x34 : w3.cell? ⟨w.heap.size + 1 + 1, 0, none⟩ = some (.int .i64 (s : Int)) := by rw [g3.2.2.1.cell]; rfl
      have x35 : w3.cell? ⟨w.heap.size + 1 + 1, 1, none⟩ = some (.slice p K.len c) := by rw [g3.2.2.1.cell]; rfl
      have y3 := g3.2.2.1.lt
      have y3a := g3.1.lt
      have y3b := g3.2.1.lt
      have HB3w := Lib.hid g3.2.2.2
      clear g3
      go_wp2_with fail
      refine (annotate_nd A HMN.out HGD.out.rus HGD.out.alen HGLL.out (K.size + 1) s K _ _ (Nat.lt_succ_self _) (by have := HGD.out.size; omega) HTB.out (HK.out.below HB3w.out) HGD.out.slt HGD.out.k3 HGD.out.oks HGD.out.fits HGD.out.okh).mono ?_
      rintro e w4 ⟨⟨Wn, pk, nk, ck, rfl, hw, hme, hnd⟩, hb4⟩
      unfold nodeV
      have HWN := Lib.hid hw
      have HME := Lib.hid hme
      have HND := Lib.hid hnd
      have HE4 := Lib.hid (HE3.out.trans (hb4.mono HE3.out.size))
      have HTB4 := Lib.hid (HTB.out.below hb4)
      clear hw hme hnd hb4
      clear x30 x31 x32 x33 x34 x35 y3 y3a y3b
      have g4 := H3.out w4 HE4.out
      have x40 : w4.cell? ⟨w.heap.size, 0, none⟩ = some (.slice pa al.length ca) := by rw [g4.1.cell]; rfl
      have x41 : w4.cell? ⟨w.heap.size + 1, 0, none⟩ = some (.int .i64 A.st) := by rw [g4.2.1.cell]; rfl
      have x42 : w4.cell? ⟨w.heap.size + 1, 1, none⟩ = some (.slice p1 A.fin.length c1) := by rw [g4.2.1.cell]; rfl
      have x43 : w4.cell? ⟨w.heap.size + 1, 2, none⟩ = some (.slice p2 A.ru.length c2) := by rw [g4.2.1.cell]; rfl
      have x44 : w4.cell? ⟨w.heap.size + 1 + 1, 0, none⟩ = some (.int .i64 (s : Int)) := by rw [g4.2.2.1.cell]; rfl
      have x45 : w4.cell? ⟨w.heap.size + 1 + 1, 1, none⟩ = some (.slice p K.len c) := by rw [g4.2.2.1.cell]; rfl
      have y4 := g4.2.2.1.lt
      have y4a := g4.1.lt
      have y4b := g4.2.1.lt
      have HB4w := Lib.hid g4.2.2.2
      clear g4
      have HE5 : Hid (Below _ _ (w4.alloc (.cells #[.int .i64 (s : Int), .int .u64 (Wn 0 : Nat), .int .u64 (Wn 1 : Nat), .int .u64 (Wn 2 : Nat), .int .u64 (Wn 3 : Nat), .int .u64 (Wn 4 : Nat), .slice pk nk ck] 82))) := Lib.hid (HE4.out.alloc HE4.out.size _)
      have HB5w := Lib.hid (H3.out _ HE5.out).2.2.2
      have HN5 := Lib.hid (Blk.new w4 82 #[.int .i64 (s : Int), .int .u64 (Wn 0 : Nat), .int .u64 (Wn 1 : Nat), .int .u64 (Wn 2 : Nat), .int .u64 (Wn 3 : Nat), .int .u64 (Wn 4 : Nat), .slice pk nk ck])
      have HND5 := Lib.hid (HND.out.kp ((Kp.refl _ w4).alloc (.cells #[.int .i64 (s : Int), .int .u64 (Wn 0 : Nat), .int .u64 (Wn 1 : Nat), .int .u64 (Wn 2 : Nat), .int .u64 (Wn 3 : Nat), .int .u64 (Wn 4 : Nat), .slice pk nk ck] 82)))
      obtain ⟨F, hF, hF2⟩ := HGD.out.fin
      have HACC := Lib.hid (accepted_ok A _ (s : Int) Wn pk nk ck F _ (HA.out.below HB5w.out) hF hF2 HWN.out)
      unfold nodeV at HACC
      have HEQ : Hid (decide (0 ≤ accI Wn F) = hasB A (s : Int) K) := Lib.hid (by unfold hasB stsL; rw [acc_eq HME.out (fun r hr => (HGD.out.rus r hr).to), hF])
      have HSOME : Hid (0 ≤ accI Wn F → ∃ q ∈ F, accI Wn F = (q : Int) ∧ mem Wn q = true) := Lib.hid accI_some
      have HFIN : Hid (∀ q ∈ F, inB A.fin (q : Int) = true ∧ q < 320) := Lib.hid (fun q hq => ⟨inB_iff.2 (by rw [hF]; exact List.mem_map_of_mem hq), hF2 q hq⟩)
      clear hF hF2
      generalize accI Wn F = z at HACC HEQ HSOME
      go_wp2_with fail
      refine HACC.out.mono ?_
      rintro e w6 ⟨rfl, hb6⟩
      have HE6 := Lib.hid (HE5.out.trans (hb6.mono HE5.out.size))
      have HB6w := Lib.hid (H3.out _ HE6.out).2.2.2
      have HN6 := Lib.hid (HN5.out.below hb6 HN5.out.lt)
      have HND6 := Lib.hid (HND5.out.kp (Kp.of_below hb6 (fun k hk _ => hk)))
      have HTB6 := Lib.hid ((HTB4.out.below ((Below.refl _ w4).alloc (Nat.le_refl _) _)).below hb6)
      clear hb6 HACC
      clear x40 x41 x42 x43 x44 x45 y4 y4a y4b
      by_cases hz : z < 0
      · have hd1 : decide (z < 0) = true := decide_eq_true hz
        have HH : Hid (hasB A (s : Int) K = false) := Lib.hid (by rw [← HEQ.out]; exact decide_eq_false (by omega))
        have HR : Hid (runE al A (s : Int) K = 8) := Lib.hid (by unfold runE; rw [HQ.out, HH.out]; rfl)
        go_wp2_with fail
        go_ret2
        exact ⟨⟨.slice none 0 0, [], by rw [HR.out] <;> rfl, isInts_no _, fun _ h => by rw [HH.out] at h; cases h⟩, HB6w.out⟩
      · have hd1 : decide (z < 0) = false := decide_eq_false hz
        have HH : Hid (hasB A (s : Int) K = true) := Lib.hid (by rw [← HEQ.out]; exact decide_eq_true (by omega))
        have HR : Hid (runE al A (s : Int) K = 0) := Lib.hid (by unfold runE; rw [HQ.out, HH.out]; rfl)
        obtain ⟨q, hqF, rfl, hqm⟩ := HSOME.out (by omega)
        have hq2 := HFIN.out q hqF
        obtain ⟨pp, cc, e9, h91, h92, h93⟩ := HND6.out
        simp only [Value.slice.injEq] at e9
        obtain ⟨rfl, rfl, rfl⟩ := e9
        have hnr : NdRow A.ru (fun _ => True) w6 (.cons (s : Int) K .nil) w4.heap.size 0 := by
          refine ⟨trivial, by rw [HN6.out.cell]; rfl, ⟨Wn, fun i hi => ?_, HWN.out, HME.out⟩, ⟨pk, ck, by rw [HN6.out.cell]; rfl, h91, h92, fun hne => ?_⟩, trivial⟩
          · rw [HN6.out.cell]
            match i, hi with
            | 0, _ => rfl
            | 1, _ => rfl
            | 2, _ => rfl
            | 3, _ => rfl
            | 4, _ => rfl
          · obtain ⟨b', e8, hr8⟩ := h93 hne
            exact ⟨b', e8, NdRow.mono (fun _ _ _ => trivial) _ _ _ hr8⟩
        have HAP := Lib.hid (appendRun_ok A HMN.out HGD.out.rus HGD.out.alen HGLL.out w6 HTB6.out (K.size + 1) s K w4.heap.size 0 [] (.slice none 0 0) q w6 (Nat.lt_succ_self _) (Below.refl _ _) hnr HGD.out.slt HGD.out.k3 HGD.out.oks HFX.out.1 HFX.out.2 ((HME.out q).1 hqm) hq2.2 (by have := HGD.out.size; simp; omega) (World.ownsRow_nil _ _ _ _))
        have HQF := Lib.hid hq2.1
        clear hnr h91 h92 h93 hqF hqm hq2 hz
        go_wp2_with fail
        refine HAP.out.mono ?_
        rintro e w7 ⟨⟨v7, L, rfl, ho7, hw7⟩, hb7⟩
        have HO7 := Lib.hid ho7
        have HW7 := Lib.hid hw7
        have HB7 := Lib.hid hb7
        clear ho7 hw7 hb7 HAP
        go_wp2_with fail
        go_ret2
        refine ⟨⟨v7, (q : Int) :: L, by rw [HR.out] <;> rfl, by have := ownsRow_ints HO7.out; simpa using this, fun _ _ => ?_⟩, HB6w.out.trans (HB7.out.mono HB6w.out.size)⟩
        have h1 := HW7.out []
        rw [List.append_nil] at h1
        have h2 := wkT_len _ h1
        unfold isRunB
        rw [h1, show ((q : Int) :: L).getD 0 0 = (q : Int) from rfl, HQF.out, decide_eq_true (by simpa using h2)]
        rfl
    | false =>
      have HTV := Lib.hid htv
      rw [htv] at HT
      clear htv
      go_wp2_with fail
      refine HT.out.mono ?_
      rintro e w2 ⟨rfl, hb2⟩
      have HB2 := Lib.hid (HB1.out.trans (hb2.mono HB1.out.size))
      clear hb2
      go_wp2_with fail
      go_ret2
      exact ⟨⟨.slice none 0 0, [], by unfold runE askB; rw [HVA.out, HTV.out]; rfl, isInts_no _, fun h _ => by unfold askB at h; rw [HVA.out, HTV.out] at h; cases h⟩, HB2.out⟩
  · have hva' : validA al A = false := by simpa using hva
    have HVA := Lib.hid hva'
    clear h1 hb1 hva hva'
    rw [HVA.out]
    go_wp2_with fail
    go_ret2
    exact ⟨⟨.slice none 0 0, [], by unfold runE askB; rw [HVA.out]; rfl, isInts_no _, fun h _ => by unfold askB at h; rw [HVA.out] at h; cases h⟩, HB1.out⟩

end Go.Proofs.YtopineheelkcmaaDoor
