/- ref01.Put. -/
import Derived.Test.YtkgoealanboolaaDoorTRepl
import Derived.Test.YtkgoealanboolaaDoorTPut
import Derived.Test.YtkgoealanboolaaDoorCount01
namespace Go.Proofs.YtkgoealanboolaaDoor
open Go.RowKit Go.Shelf

set_option maxRecDepth 100000 in
set_option maxHeartbeats 2000000 in
theorem rput_ok (al : List Int) (av : Value) (s : Int) (K : Hg) (vk : Value) (xs : Int) (X : Hg) (vx : Value) (pos : List Int) (pv : Value) (w : World) (ha : IsInts w av al) (hwf : (Lit.int .i64 s).wf = true) (hv : IsH w vk K) (hs : K.size ≤ 1000000)
    (hwx : (Lit.int .i64 xs).wf = true) (hx : IsH w vx X) (hp : IsInts w pv pos) :
    Calls Tryd.prog 29 #[.agg #[av], .agg #[.int .i64 s, vk], pv, .agg #[.int .i64 xs, vx]] w fun e w' => ∃ r, e = .returned (.tuple #[r, .int .i64 (putE al (s, K) (xs, X) pos)]) ∧ IsT w' r (putR al (s, K) (xs, X) pos) ∧ Below w.heap.size w w' := by
  have hbw : Below w.heap.size w ((((w.alloc (.cells #[av] 24)).alloc (.cells #[.int .i64 s, vk] 27)).alloc (.cells #[.int .i64 xs, vx] 27)).alloc (.cells #[.int .i64 0, .slice none 0 0] 27)) := ((((Below.refl _ w).alloc (Nat.le_refl _) _).alloc (by simp) _).alloc (by simp; omega) _).alloc (by simp; omega) _
  obtain ⟨hB1, hB2, hB3, hB0⟩ := blk4 w 24 27 27 27 #[av] #[.int .i64 s, vk] #[.int .i64 xs, vx] #[.int .i64 0, .slice none 0 0]
  have HV := Lib.hid (fun W (h : Below w.heap.size w W) => rtvalid_ok al av s vk K W (ha.below h) (hv.below h))
  have HVX := Lib.hid (fun W (h : Below w.heap.size w W) => rtvalid_ok al av xs vx X W (ha.below h) (hx.below h))
  have HFI := Lib.hid (fun W (h : Below w.heap.size w W) => rfind_ok pos pv s K vk w W h (hp.below h) hwf hv)
  have HRE := Lib.hid (fun y W (h : Below w.heap.size w W) (hg : getT pos (s, K) = some y) => replace_any (pos.length + 1) pos pv s K vk xs X vx y w W h (by omega) (hp.below h) hwf hv hs hwx hx hg)
  have HBW := Lib.hid hbw
  generalize hw0 : ((((w.alloc (.cells #[av] 24)).alloc (.cells #[.int .i64 s, vk] 27)).alloc (.cells #[.int .i64 xs, vx] 27)).alloc (.cells #[.int .i64 0, .slice none 0 0] 27)) = w0 at hB1 hB2 hB3 hB0 hbw HBW
  have hsz0 : w0.heap.size = w.heap.size + 1 + 1 + 1 + 1 := by rw [← hw0]; simp
  have hST : ∀ W, Below w0.heap.size w0 W → (Below w.heap.size w W ∧ w.heap.size + 1 + 1 + 1 < W.heap.size) ∧ Blk W (w.heap.size + 1 + 1 + 1) 27 #[.int .i64 0, .slice none 0 0] ∧ (W.cell? ⟨w.heap.size, 0, none⟩ = some av ∧ W.cell? ⟨w.heap.size + 1, 0, none⟩ = some (.int .i64 s) ∧ W.cell? ⟨w.heap.size + 1, 1, none⟩ = some vk ∧ W.cell? ⟨w.heap.size + 1 + 1, 0, none⟩ = some (.int .i64 xs) ∧ W.cell? ⟨w.heap.size + 1 + 1, 1, none⟩ = some vx) ∧
      (W.cell? ⟨w.heap.size + 1 + 1 + 1, 0, none⟩ = some (.int .i64 0) ∧ W.cell? ⟨w.heap.size + 1 + 1 + 1, 1, none⟩ = some (.slice none 0 0) ∧ W.frozen? ⟨w.heap.size + 1 + 1 + 1, 0, none⟩ = false ∧ W.frozen? ⟨w.heap.size + 1 + 1 + 1, 1, none⟩ = false) ∧ (w.heap.size < W.heap.size ∧ w.heap.size + 1 < W.heap.size ∧ w.heap.size + 1 + 1 < W.heap.size) := fun W hW => by
    have h0 := hB0.below hW (by omega)
    have h1 := hB1.below hW (by omega)
    have h2 := hB2.below hW (by omega)
    have h3 := hB3.below hW (by omega)
    have hz := hW.size
    exact ⟨⟨hbw.trans (hW.mono (by omega)), by omega⟩, h3, ⟨by rw [h0.cell]; rfl, by rw [h1.cell]; rfl, by rw [h1.cell]; rfl, by rw [h2.cell]; rfl, by rw [h2.cell]; rfl⟩, ⟨by rw [h3.cell]; rfl, by rw [h3.cell]; rfl, h3.frozen 0, h3.frozen 1⟩, by omega, by omega, by omega⟩
  have HST := Lib.hid hST
  have hEX : ∀ W, Below w0.heap.size w0 W → ∀ (u v : Value), Blk ((W.setCell ⟨w.heap.size + 1 + 1 + 1, 0, none⟩ u).setCell ⟨w.heap.size + 1 + 1 + 1, 1, none⟩ v) (w.heap.size + 1 + 1 + 1) 27 #[u, v] ∧ Below w.heap.size w ((W.setCell ⟨w.heap.size + 1 + 1 + 1, 0, none⟩ u).setCell ⟨w.heap.size + 1 + 1 + 1, 1, none⟩ v) := fun W hW u v => by
    obtain ⟨⟨h1, h2⟩, h3, _⟩ := hST W hW
    refine ⟨by simpa using (h3.set_ 0 u).set_ 1 v, (h1.setCell (p := ⟨w.heap.size + 1 + 1 + 1, 0, none⟩) (by simp; omega) _).setCell (p := ⟨w.heap.size + 1 + 1 + 1, 1, none⟩) (by simp; omega) _⟩
  have HEX := Lib.hid hEX
  have H00 := Lib.hid (hbw)
  obtain ⟨pa, ca, rfl, ha1, ha2, haa⟩ := ha
  obtain ⟨p, c, rfl, hc1, hc2, hrow⟩ := hv
  obtain ⟨px, cx, rfl, hx1, hx2, hrx⟩ := hx
  obtain ⟨pp, pc, rfl, hp1, hp2, hpp⟩ := hp
  clear hrow haa hbw hpp hrx hwf hwx hB0 hB1 hB2 hB3 hST hEX
  obtain ⟨_, _, ⟨z0, z1, z2, z3, z4⟩, ⟨y1, y2, y3, y4⟩, l0, l1, l2⟩ := HST.out w0 (Below.refl _ _)
  go_enter Tryd.func29, Tryd.ntmps29
  go_wp2_with fail
  refine (HV.out w0 H00.out).mono ?_
  rintro e w1 ⟨rfl, hb1⟩
  clear z0 z1 z2 z3 z4 y1 y2 y3 y4 l0 l1 l2 hw0
  obtain ⟨⟨q1, q2⟩, _, ⟨z0, z1, z2, z3, z4⟩, ⟨y1, y2, y3, y4⟩, l0, l1, l2⟩ := HST.out w1 hb1
  have HB1 := Lib.hid hb1
  have HQ1 := Lib.hid q1
  clear hb1 q1
  cases hva : tvalid al s K with
  | false =>
    have HE := Lib.hid (show putE al (s, K) (xs, X) pos = 1 by simp [putE, hva])
    have HL := Lib.hid (show putR al (s, K) (xs, X) pos = noT by simp [putR, hva])
    clear hva
    go_wp2_with fail
    refine bodyPost_ret (results_row_tmp rfl _ _ (w.heap.size + 1 + 1 + 1) 27 _ rfl (HEX.out w1 HB1.out (.int .i64 0) (.slice none 0 0)).1 Tryd.underlying27 Tryd.infoTreeS) rfl ?_
    exact ⟨_, by rw [HE.out]; rfl, by rw [HL.out]; exact isT_no _, (HEX.out w1 HB1.out _ _).2⟩
  | true =>
    have HVA := Lib.hid hva
    clear hva
    go_wp2_with fail
    refine (HVX.out w1 HQ1.out).mono ?_
    rintro e w2 ⟨rfl, hb2⟩
    have hb2' := HB1.out.trans (hb2.mono HB1.out.size)
    clear z0 z1 z2 z3 z4 y1 y2 y3 y4 l0 l1 l2 q2
    obtain ⟨⟨q1, q2⟩, _, ⟨z0, z1, z2, z3, z4⟩, ⟨y1, y2, y3, y4⟩, l0, l1, l2⟩ := HST.out w2 hb2'
    have HB2 := Lib.hid hb2'
    have HQ2 := Lib.hid q1
    clear hb2 hb2' q1 HB1 HQ1
    cases hvx : tvalid al xs X with
    | false =>
      have HE := Lib.hid (show putE al (s, K) (xs, X) pos = 1 by simp [putE, hvx])
      have HL := Lib.hid (show putR al (s, K) (xs, X) pos = noT by simp [putR, hvx])
      clear hvx
      go_wp2_with fail
      refine bodyPost_ret (results_row_tmp rfl _ _ (w.heap.size + 1 + 1 + 1) 27 _ rfl (HEX.out w2 HB2.out (.int .i64 0) (.slice none 0 0)).1 Tryd.underlying27 Tryd.infoTreeS) rfl ?_
      exact ⟨_, by rw [HE.out]; rfl, by rw [HL.out]; exact isT_no _, (HEX.out w2 HB2.out _ _).2⟩
    | true =>
      have HVB := Lib.hid hvx
      clear hvx
      go_wp2_with fail
      refine (HFI.out w2 HQ2.out).mono ?_
      rintro e w3 ⟨hb3, ⟨y, r, hg, rfl, hr⟩ | ⟨hg, rfl⟩⟩
      · have HG := Lib.hid hg
        obtain ⟨vr, rfl, hwr, hqr⟩ := hr
        obtain ⟨pr, cr, rfl, _, _, _⟩ := hqr
        have hb3' := (HB2.out.trans (hb3.mono HB2.out.size)).alloc (HB2.out.trans (hb3.mono HB2.out.size)).size (.cells #[.int .i64 y.1, .slice pr y.2.len cr] 27)
        clear z0 z1 z2 z3 z4 y1 y2 y3 y4 l0 l1 l2 q2
        obtain ⟨⟨q1, q2⟩, _, ⟨z0, z1, z2, z3, z4⟩, ⟨y1, y2, y3, y4⟩, l0, l1, l2⟩ := HST.out w3 (HB2.out.trans (hb3.mono HB2.out.size))
        have HR := Lib.hid (HRE.out y _ (q1.alloc (by omega) (.cells #[.int .i64 y.1, .slice pr y.2.len cr] 27)) hg)
        have HB3 := Lib.hid hb3'
        clear hb3 hb3' q1 HB2 HQ2 hg
        go_wp2_with fail
        refine HR.out.mono ?_
        rintro e w4 ⟨r4, rfl, ⟨v4, rfl, hw4, hq4⟩, hb4⟩
        have hb4' := HB3.out.trans (hb4.mono HB3.out.size)
        have HS4 := Lib.hid (hq4.mono (S' := fun c => c ≠ w.heap.size + 1 + 1 + 1 ∧ c < w4.heap.size) (fun c hc h => ⟨by rcases h with h | h <;> (try simp only [World.size_alloc] at h) <;> omega, hc⟩))
        have HQ4 := Lib.hid (hq4.isH.below (below_alx (.cells #[.int .i64 (putT pos (s, K) (xs, X)).1, v4] 27)))
        obtain ⟨p4, c4, rfl, _, _, _⟩ := hq4
        have HW4 := Lib.hid hw4
        have HB4 := Lib.hid (hb4'.alloc hb4'.size (.cells #[.int .i64 (putT pos (s, K) (xs, X)).1, .slice p4 (putT pos (s, K) (xs, X)).2.len c4] 27))
        have HK4 := Lib.hid (Blk.new w4 27 #[.int .i64 (putT pos (s, K) (xs, X)).1, .slice p4 (putT pos (s, K) (xs, X)).2.len c4])
        have HF := Lib.hid (few01_ok (putT pos (s, K) (xs, X)).1 (putT pos (s, K) (xs, X)).2 (.slice p4 (putT pos (s, K) (xs, X)).2.len c4) 300 _ HQ4.out (by omega) (by omega))
        have hz4 : w4.heap.size < (w4.alloc (.cells #[.int .i64 (putT pos (s, K) (xs, X)).1, .slice p4 (putT pos (s, K) (xs, X)).2.len c4] 27)).heap.size := by simp
        clear z0 z1 z2 z3 z4 y1 y2 y3 y4 l0 l1 l2 q2 hb4 hb4' HB3 hw4 HR
        go_wp2_with fail
        refine HF.out.mono ?_
        rintro e w5 ⟨rfl, hb5⟩
        have HB5 := Lib.hid (HB4.out.trans (hb5.mono HB4.out.size))
        have HS5 := Lib.hid (HS4.out.kp (Kp.of_below (B := w4.heap.size) (((Below.refl _ w4).alloc (Nat.le_refl _) _).trans (hb5.mono (by simp))) (fun c _ h => h.2)))
        have HK5 := Lib.hid (HK4.out.below hb5 hz4)
        have HQ5 := Lib.hid (HQ4.out.below hb5)
        obtain ⟨⟨q1, q2⟩, _, _, ⟨y1, y2, y3, y4⟩, _⟩ := HST.out w5 HB5.out
        have z0 : w5.cell? ⟨w4.heap.size, 0, none⟩ = some (.int .i64 (putT pos (s, K) (xs, X)).1) := by rw [HK5.out.cell]; rfl
        have z1 : w5.cell? ⟨w4.heap.size, 1, none⟩ = some (.slice p4 (putT pos (s, K) (xs, X)).2.len c4) := by rw [HK5.out.cell]; rfl
        have z2 := HK5.out.lt
        by_cases hfull : 300 < (putT pos (s, K) (xs, X)).2.size + 1
        · have HE := Lib.hid (show putE al (s, K) (xs, X) pos = 3 by simp [putE, HVA.out, HVB.out, HG.out, hfull])
          have HL := Lib.hid (show putR al (s, K) (xs, X) pos = noT by simp [putR, HVA.out, HVB.out, HG.out, hfull])
          have hd : decide (((putT pos (s, K) (xs, X)).2.size : Int) + 1 ≤ 300) = false := decide_eq_false (by omega)
          rw [hd]
          clear hfull hd hb5
          go_wp2_with fail
          refine bodyPost_ret (results_row_tmp rfl _ _ (w.heap.size + 1 + 1 + 1) 27 _ rfl (HEX.out w5 HB5.out (.int .i64 0) (.slice none 0 0)).1 Tryd.underlying27 Tryd.infoTreeS) rfl ?_
          exact ⟨_, by rw [HE.out]; rfl, by rw [HL.out]; exact isT_no _, (HEX.out w5 HB5.out _ _).2⟩
        · have HE := Lib.hid (show putE al (s, K) (xs, X) pos = 0 by simp [putE, HVA.out, HVB.out, HG.out, hfull])
          have HL := Lib.hid (show putR al (s, K) (xs, X) pos = putT pos (s, K) (xs, X) by simp [putR, HVA.out, HVB.out, HG.out, hfull])
          have hd : decide (((putT pos (s, K) (xs, X)).2.size : Int) + 1 ≤ 300) = true := decide_eq_true (by omega)
          rw [hd]
          clear hfull hd hb5
          go_wp2_with fail
          refine bodyPost_ret (results_row_tmp rfl _ _ (w.heap.size + 1 + 1 + 1) 27 _ rfl (HEX.out w5 HB5.out _ _).1 Tryd.underlying27 Tryd.infoTreeS) rfl ?_
          exact ⟨_, by rw [HE.out]; rfl, by rw [HL.out]; exact ⟨_, rfl, HW4.out, (HS5.out.kp (((Kp.refl _ _).setCell (p := ⟨w.heap.size + 1 + 1 + 1, 0, none⟩) (fun h => absurd rfl h.1) _).setCell (p := ⟨w.heap.size + 1 + 1 + 1, 1, none⟩) (fun h => absurd rfl h.1) _)).isH⟩, (HEX.out w5 HB5.out _ _).2⟩
      · have HE := Lib.hid (show putE al (s, K) (xs, X) pos = 5 by simp [putE, HVA.out, HVB.out, hg])
        have HL := Lib.hid (show putR al (s, K) (xs, X) pos = noT by simp [putR, HVA.out, HVB.out, hg])
        have hb3' := HB2.out.trans (hb3.mono HB2.out.size)
        clear z0 z1 z2 z3 z4 y1 y2 y3 y4 l0 l1 l2 q2
        obtain ⟨⟨q1, q2⟩, _, ⟨z0, z1, z2, z3, z4⟩, ⟨y1, y2, y3, y4⟩, l0, l1, l2⟩ := HST.out w3 hb3'
        have HB3 := Lib.hid hb3'
        have n1 : ¬ w.heap.size + 1 + 1 + 1 = w3.heap.size := by omega
        clear hb3 hb3' q1 HB2 HQ2 hg
        go_wp2_with fail
        obtain ⟨f1, f2⟩ := HEX.out w3 HB3.out (.int .i64 0) (.slice none 0 0)
        refine bodyPost_ret (results_row_tmp rfl _ _ (w.heap.size + 1 + 1 + 1) 27 _ rfl (f1.alloc _) Tryd.underlying27 Tryd.infoTreeS) rfl ?_
        exact ⟨_, by rw [HE.out]; rfl, by rw [HL.out]; exact isT_no _, f2.alloc f2.size _⟩

end Go.Proofs.YtkgoealanboolaaDoor
