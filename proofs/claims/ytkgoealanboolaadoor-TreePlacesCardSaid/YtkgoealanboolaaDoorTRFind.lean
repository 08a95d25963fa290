/- ref01.Find, ref01.At. -/
import Derived.Test.YtkgoealanboolaaDoorTAt
import Derived.Test.YtkgoealanboolaaDoorRTValid
namespace Go.Proofs.YtkgoealanboolaaDoor
open Go.RowKit Go.Shelf

set_option maxRecDepth 100000 in
set_option maxHeartbeats 1000000 in
theorem rfind_ok (pos : List Int) (pv : Value) (s : Int) (K : Hg) (vk : Value) (wB w : World) (hbB : Below wB.heap.size wB w) (hp : IsInts w pv pos) (hwf : (Lit.int .i64 s).wf = true) (hv : IsH wB vk K) :
    Calls Tryd.prog 56 #[.agg #[.int .i64 s, vk], pv] w fun e w' => Below w.heap.size w w' ∧
      ((∃ y r, getT pos (s, K) = some y ∧ e = .returned (.tuple #[r, .bool true]) ∧ IsT wB r y) ∨
        (getT pos (s, K) = none ∧ e = .returned (.tuple #[.agg #[.int .i64 0, .slice none 0 0], .bool false]))) := by
  have hb0 : Below w.heap.size w ((w.alloc (.cells #[.int .i64 s, vk] 27)).alloc (.cells #[.int .i64 0, .slice none 0 0] 27)) := ((Below.refl _ w).alloc (Nat.le_refl _) _).alloc (by simp) _
  have hX0 : Blk ((w.alloc (.cells #[.int .i64 s, vk] 27)).alloc (.cells #[.int .i64 0, .slice none 0 0] 27)) w.heap.size 27 #[.int .i64 s, vk] := (Blk.new w _ _).alloc _
  have hR0 : Blk ((w.alloc (.cells #[.int .i64 s, vk] 27)).alloc (.cells #[.int .i64 0, .slice none 0 0] 27)) (w.heap.size + 1) 27 #[.int .i64 0, .slice none 0 0] := by
    have := Blk.new (w.alloc (.cells #[.int .i64 s, vk] 27)) 27 #[.int .i64 0, .slice none 0 0]
    rwa [World.size_alloc] at this
  have HB0 := Lib.hid hb0
  have HX0 := Lib.hid hX0
  have HR0 := Lib.hid hR0
  have HH := Lib.hid hv
  have HWF := Lib.hid hwf
  obtain ⟨p, c, rfl, hc1, hc2, hcell⟩ := hp
  obtain ⟨pk, ck, rfl, hk1, hk2, _⟩ := hv
  unfold maxLen at hc2
  have HC := Lib.hid hcell
  clear hcell hb0 hX0 hR0 hwf
  go_enter Tryd.func56, Tryd.ntmps56
  go_wp2_with fail
  go_loopw [10] (fun i wr => ∃ (k : Nat) (y : Int × Hg) (py : Option Addr) (cy : Nat), i = .int .i64 k ∧ k ≤ pos.length ∧ Hid (Blk wr w.heap.size 27 #[.int .i64 y.1, .slice py y.2.len cy]) ∧ Hid (Blk wr (w.heap.size + 1) 27 #[.int .i64 0, .slice none 0 0]) ∧ Hid ((Lit.int .i64 y.1).wf = true) ∧ Hid (IsH wB (.slice py y.2.len cy) y.2) ∧ Hid (getT pos (s, K) = getT (pos.drop k) y) ∧ Hid (Below w.heap.size w wr))
    (fun i _ => pos.length - (intOf i).toNat)
  case atStart => exact ⟨0, (s, K), pk, ck, rfl, by omega, HX0, HR0, HWF, HH, Lib.hid (by simp), HB0⟩
  case round =>
    obtain ⟨k, y, py, cy, rfl, hk, hX, hR, hwy, hy, hge, hB⟩ := hrel
    have x0 : wr.cell? ⟨w.heap.size, 0, none⟩ = some (.int .i64 y.1) := by rw [hX.out.cell]; rfl
    have x1 : wr.cell? ⟨w.heap.size, 1, none⟩ = some (.slice py y.2.len cy) := by rw [hX.out.cell]; rfl
    have x2 := hX.out.frozen 0
    have x3 := hX.out.frozen 1
    have x4 := hX.out.lt
    have r0 : wr.cell? ⟨w.heap.size + 1, 0, none⟩ = some (.int .i64 0) := by rw [hR.out.cell]; rfl
    have r1 : wr.cell? ⟨w.heap.size + 1, 1, none⟩ = some (.slice none 0 0) := by rw [hR.out.cell]; rfl
    have r2 := hR.out.frozen 0
    have r3 := hR.out.frozen 1
    have r4 := hR.out.lt
    by_cases hlt : k < pos.length
    · obtain ⟨bp, op, rfl, hcl⟩ := HC.out (fun h => by simp [h] at hlt)
      have c0 := cell_later hB.out (hcl k pos[k] (List.getElem?_eq_getElem hlt))
      have hbl := World.block_lt_of_cell? _ _ c0
      simp only at hbl
      have hdr : Hid (pos.drop k = pos[k] :: pos.drop (k + 1)) := Lib.hid (List.drop_eq_getElem_cons hlt)
      have hk0 : (0 : Int) ≤ (k : Int) := by omega
      clear hcl
      generalize pos[k] = x at c0 hdr
      by_cases hx : x < 0
      · have hx2 : decide (x < 0) = true := decide_eq_true hx
        have hn : Hid (getT pos (s, K) = none) := Lib.hid (by rw [hge.out, hdr.out, getT_none_lt hx])
        go_wp2_with fail
        refine bodyPost_ret (results_row_tmp rfl _ _ (w.heap.size + 1) 27 _ rfl ((hR.out.set_ 0 (.int .i64 0)).set_ 1 (.slice none 0 0)) Tryd.underlying27 Tryd.infoTreeS) rfl ?_
        exact ⟨(hB.out.setCell (p := ⟨w.heap.size + 1, 0, none⟩) (by simp) _).setCell (p := ⟨w.heap.size + 1, 1, none⟩) (by simp) _, .inr ⟨hn.out, rfl⟩⟩
      · have hx2 : decide (x < 0) = false := decide_eq_false hx
        obtain ⟨n, rfl⟩ : ∃ n : Nat, x = (n : Int) := ⟨x.toNat, by omega⟩
        by_cases hn : y.2.len ≤ n
        · have hn1 : (y.2.len : Int) ≤ (n : Int) := by omega
          have hn2 : decide ((y.2.len : Int) ≤ (n : Int)) = true := decide_eq_true hn1
          have hnn : Hid (getT pos (s, K) = none) := Lib.hid (by rw [hge.out, hdr.out, getT_none_ge hn])
          clear hx
          go_wp2_with fail
          refine bodyPost_ret (results_row_tmp rfl _ _ (w.heap.size + 1) 27 _ rfl ((hR.out.set_ 0 (.int .i64 0)).set_ 1 (.slice none 0 0)) Tryd.underlying27 Tryd.infoTreeS) rfl ?_
          exact ⟨(hB.out.setCell (p := ⟨w.heap.size + 1, 0, none⟩) (by simp) _).setCell (p := ⟨w.heap.size + 1, 1, none⟩) (by simp) _, .inr ⟨hnn.out, rfl⟩⟩
        · have hn1 : ¬ (y.2.len : Int) ≤ (n : Int) := by omega
          have hn2 : decide ((y.2.len : Int) ≤ (n : Int)) = false := decide_eq_false hn1
          obtain ⟨z, hz⟩ := Hg.nth_some (h := y.2) (i := n) (by omega)
          obtain ⟨_, _, he, hk1', hk2', hrow⟩ := hy.out
          simp only [Value.slice.injEq, true_and] at he
          obtain ⟨rfl, rfl⟩ := he
          obtain ⟨bk, ok, rfl, hr⟩ := hrow (fun h => by rw [h] at hz; cases hz)
          obtain ⟨q1, q2, vz, q3, q4⟩ := row_at y.2 n z bk ok hr hz
          have HZ := Lib.hid q4
          obtain ⟨pz, cz, rfl, _, _, _⟩ := q4
          have hbb := hbB.trans (hB.out.mono hbB.size)
          have q1 := cell_later hbb q1
          have q3 := cell_later hbb q3
          have hb2 := World.block_lt_of_cell? _ _ q3
          simp only at hb2
          have HGN := Lib.hid (show getT pos (s, K) = getT (pos.drop (k + 1)) z by rw [hge.out, hdr.out, getT_next hz])
          have HQ2 := Lib.hid q2
          have hn3 : (n : Int) < (y.2.len : Int) := by omega
          have hn4 : n < y.2.len := by omega
          have hn5 : (0 : Int) ≤ (n : Int) := by omega
          have hRR : Hid (Blk ((wr.setCell ⟨w.heap.size, 0, none⟩ (.int .i64 z.1)).setCell ⟨w.heap.size, 1, none⟩ (.slice pz z.2.len cz)) (w.heap.size + 1) 27 #[.int .i64 0, .slice none 0 0]) := Lib.hid ((hR.out.far (p := ⟨w.heap.size, 0, none⟩) (by simp) _).far (p := ⟨w.heap.size, 1, none⟩) (by simp) _)
          have hXX : Hid (Blk ((wr.setCell ⟨w.heap.size, 0, none⟩ (.int .i64 z.1)).setCell ⟨w.heap.size, 1, none⟩ (.slice pz z.2.len cz)) w.heap.size 27 #[.int .i64 z.1, .slice pz z.2.len cz]) := Lib.hid (by
            have := (hX.out.set_ 0 (.int .i64 z.1)).set_ 1 (.slice pz z.2.len cz)
            simpa using this)
          have hBB := Lib.hid ((hB.out.setCell (p := ⟨w.heap.size, 0, none⟩) (by simp) (.int .i64 z.1)).setCell (p := ⟨w.heap.size, 1, none⟩) (by simp) (.slice pz z.2.len cz))
          clear hx hn hn1 hz hr hrow
          go_wp2_with fail
          go_roundw
          case rel => exact ⟨k + 1, z, pz, cz, by go_num, by omega, hXX, hRR, HQ2, HZ, HGN, hBB⟩
          case measure => simp [intOf]; omega
    · have hge2 : pos.length ≤ k := by omega
      have HY := Lib.hid (show getT pos (s, K) = some y by rw [hge.out, List.drop_of_length_le hge2]; rfl)
      clear hlt
      go_wp2_with fail
      refine bodyPost_ret (results_row_tmp rfl _ _ (w.heap.size + 1) 27 _ rfl ((hR.out.set_ 0 _).set_ 1 _) Tryd.underlying27 Tryd.infoTreeS) rfl ?_
      refine ⟨(hB.out.setCell (p := ⟨w.heap.size + 1, 0, none⟩) (by simp) _).setCell (p := ⟨w.heap.size + 1, 1, none⟩) (by simp) _, .inl ⟨y, _, HY.out, rfl, _, rfl, hwy.out, hy.out⟩⟩

set_option maxRecDepth 100000 in
set_option maxHeartbeats 1000000 in
theorem rat_ok (al : List Int) (av : Value) (s : Int) (K : Hg) (vk : Value) (pos : List Int) (pv : Value) (w : World) (ha : IsInts w av al) (hwf : (Lit.int .i64 s).wf = true) (hv : IsH w vk K) (hp : IsInts w pv pos) :
    Calls Tryd.prog 27 #[.agg #[av], .agg #[.int .i64 s, vk], pv] w fun e w' => ∃ r, e = .returned (.tuple #[r, .int .i64 (atE al (s, K) pos)]) ∧ IsT w' r (atR al (s, K) pos) ∧ Below w.heap.size w w' := by
  have hbw : Below w.heap.size w (((w.alloc (.cells #[av] 24)).alloc (.cells #[.int .i64 s, vk] 27)).alloc (.cells #[.int .i64 0, .slice none 0 0] 27)) := (((Below.refl _ w).alloc (Nat.le_refl _) _).alloc (by simp) _).alloc (by simp; omega) _
  have HV := Lib.hid (rtvalid_ok al av s vk K _ (ha.below hbw) (hv.below hbw))
  have HH := Lib.hid hv
  have HP := Lib.hid hp
  have HBW := Lib.hid hbw
  have HWF := Lib.hid hwf
  have HB1 := Lib.hid (blk_1 w 27 (.cells #[av] 24) #[.int .i64 s, vk] (.cells #[.int .i64 0, .slice none 0 0] 27))
  have HB2 := Lib.hid (blk3_2 w (.cells #[av] 24) (.cells #[.int .i64 s, vk] 27) 27 #[.int .i64 0, .slice none 0 0])
  obtain ⟨pa, ca, rfl, ha1, ha2, haa⟩ := ha
  obtain ⟨p, c, rfl, hc1, hc2, hrow⟩ := hv
  obtain ⟨pp, pc, rfl, hp1, hp2, hpp⟩ := hp
  clear hrow haa hbw hpp hwf
  go_enter Tryd.func27, Tryd.ntmps27
  go_wp2_with fail
  refine HV.out.mono ?_
  rintro e w1 ⟨rfl, hb1⟩
  have hsz1 : w.heap.size + 1 + 1 + 1 ≤ w1.heap.size := by have := hb1.size; simpa using this
  have hb1' : Below w.heap.size w w1 := HBW.out.trans (hb1.mono (by simp; omega))
  have hT1 : Blk w1 (w.heap.size + 1) 27 #[.int .i64 s, .slice p K.len c] := HB1.out.below hb1 (by simp)
  have hR1 : Blk w1 (w.heap.size + 1 + 1) 27 #[.int .i64 0, .slice none 0 0] := HB2.out.below hb1 (by simp)
  have z1 : w1.cell? ⟨w.heap.size + 1, 0, none⟩ = some (.int .i64 s) := by rw [hT1.cell]; rfl
  have z2 : w1.cell? ⟨w.heap.size + 1, 1, none⟩ = some (.slice p K.len c) := by rw [hT1.cell]; rfl
  have y1 : w1.cell? ⟨w.heap.size + 1 + 1, 0, none⟩ = some (.int .i64 0) := by rw [hR1.cell]; rfl
  have y2 : w1.cell? ⟨w.heap.size + 1 + 1, 1, none⟩ = some (.slice none 0 0) := by rw [hR1.cell]; rfl
  have y3 := hR1.frozen 0
  have y4 := hR1.frozen 1
  have z5 : w.heap.size + 1 < w1.heap.size := by omega
  have z6 : w.heap.size + 1 + 1 < w1.heap.size := by omega
  have HW1 := Lib.hid hb1'
  have HR1 := Lib.hid hR1
  have HFI := Lib.hid (rfind_ok pos (.slice pp pos.length pc) s K (.slice p K.len c) w w1 hb1' (HP.out.below hb1') HWF.out HH.out)
  clear hb1 hb1' hT1 hR1 HB1 HB2 HBW HV
  cases hva : tvalid al s K with
  | false =>
    have HE := Lib.hid (show atE al (s, K) pos = 1 by simp [atE, hva])
    have HL := Lib.hid (show atR al (s, K) pos = noT by simp [atR, hva])
    clear hva
    go_wp2_with fail
    refine bodyPost_ret (results_row_tmp rfl _ _ (w.heap.size + 1 + 1) 27 _ rfl ((HR1.out.set_ 0 (.int .i64 0)).set_ 1 (.slice none 0 0)) Tryd.underlying27 Tryd.infoTreeS) rfl ?_
    exact ⟨_, by rw [HE.out]; rfl, by rw [HL.out]; exact isT_no _, (HW1.out.setCell (p := ⟨w.heap.size + 1 + 1, 0, none⟩) (by simp; omega) _).setCell (p := ⟨w.heap.size + 1 + 1, 1, none⟩) (by simp; omega) _⟩
  | true =>
    have HVA := Lib.hid hva
    clear hva
    go_wp2_with fail
    refine HFI.out.mono ?_
    rintro e w2 ⟨hb2, ⟨y, r, hg, rfl, hr⟩ | ⟨hg, rfl⟩⟩
    · have HE := Lib.hid (show atE al (s, K) pos = 0 by simp [atE, HVA.out, hg])
      have HL := Lib.hid (show atR al (s, K) pos = y by simp [atR, HVA.out, hg])
      obtain ⟨vr, rfl, hwr, hqr⟩ := hr
      have HQ := Lib.hid hqr
      obtain ⟨pr, cr, rfl, _, _, _⟩ := hqr
      have hR3 : Blk w2 (w.heap.size + 1 + 1) 27 #[.int .i64 0, .slice none 0 0] := HR1.out.below hb2 z6
      have hba : Below w.heap.size w (((w2.setCell ⟨w.heap.size + 1 + 1, 0, none⟩ (.int .i64 y.1)).setCell ⟨w.heap.size + 1 + 1, 1, none⟩ (.slice pr y.2.len cr)).alloc (.cells #[.int .i64 y.1, .slice pr y.2.len cr] 27)) := (((HW1.out.trans (hb2.mono (by omega))).setCell (p := ⟨w.heap.size + 1 + 1, 0, none⟩) (by simp; omega) _).setCell (p := ⟨w.heap.size + 1 + 1, 1, none⟩) (by simp; omega) _).alloc (by have := hb2.size; simp [World.setCell]; omega) _
      have hR4 := ((hR3.set_ 0 (.int .i64 y.1)).set_ 1 (.slice pr y.2.len cr)).alloc (.cells #[.int .i64 y.1, .slice pr y.2.len cr] 27)
      have x1 : w2.cell? ⟨w.heap.size + 1 + 1, 0, none⟩ = some (.int .i64 0) := by rw [hR3.cell]; rfl
      have x2 : w2.cell? ⟨w.heap.size + 1 + 1, 1, none⟩ = some (.slice none 0 0) := by rw [hR3.cell]; rfl
      have x3 := hR3.frozen 0
      have x4 := hR3.frozen 1
      have x5 := hR3.lt
      have x6 : ¬ w.heap.size + 1 + 1 = w2.heap.size := by omega
      have HR4 := Lib.hid hR4
      have HBA := Lib.hid hba
      clear hb2 hR3 hR4 hba hg HFI
      go_wp2_with fail
      refine bodyPost_ret (results_row_tmp rfl _ _ (w.heap.size + 1 + 1) 27 _ rfl HR4.out Tryd.underlying27 Tryd.infoTreeS) rfl ?_
      refine ⟨_, by rw [HE.out]; rfl, ?_, HBA.out⟩
      rw [HL.out]
      exact ⟨_, rfl, hwr, HQ.out.below HBA.out⟩
    · have HE := Lib.hid (show atE al (s, K) pos = 5 by simp [atE, HVA.out, hg])
      have HL := Lib.hid (show atR al (s, K) pos = noT by simp [atR, HVA.out, hg])
      have hR3 : Blk w2 (w.heap.size + 1 + 1) 27 #[.int .i64 0, .slice none 0 0] := HR1.out.below hb2 z6
      have hba : Below w.heap.size w (((w2.setCell ⟨w.heap.size + 1 + 1, 0, none⟩ (.int .i64 0)).setCell ⟨w.heap.size + 1 + 1, 1, none⟩ (.slice none 0 0)).alloc (.cells #[.int .i64 0, .slice none 0 0] 27)) := (((HW1.out.trans (hb2.mono (by omega))).setCell (p := ⟨w.heap.size + 1 + 1, 0, none⟩) (by simp; omega) _).setCell (p := ⟨w.heap.size + 1 + 1, 1, none⟩) (by simp; omega) _).alloc (by have := hb2.size; simp [World.setCell]; omega) _
      have hR4 := ((hR3.set_ 0 (.int .i64 0)).set_ 1 (.slice none 0 0)).alloc (.cells #[.int .i64 0, .slice none 0 0] 27)
      have x1 : w2.cell? ⟨w.heap.size + 1 + 1, 0, none⟩ = some (.int .i64 0) := by rw [hR3.cell]; rfl
      have x2 : w2.cell? ⟨w.heap.size + 1 + 1, 1, none⟩ = some (.slice none 0 0) := by rw [hR3.cell]; rfl
      have x3 := hR3.frozen 0
      have x4 := hR3.frozen 1
      have x5 := hR3.lt
      have x6 : ¬ w.heap.size + 1 + 1 = w2.heap.size := by omega
      have HR4 := Lib.hid hR4
      have HBA := Lib.hid hba
      clear hb2 hR3 hR4 hba hg HFI
      go_wp2_with fail
      refine bodyPost_ret (results_row_tmp rfl _ _ (w.heap.size + 1 + 1) 27 _ rfl HR4.out Tryd.underlying27 Tryd.infoTreeS) rfl ?_
      exact ⟨_, by rw [HE.out]; rfl, by rw [HL.out]; exact isT_no _, HBA.out⟩

end Go.Proofs.YtkgoealanboolaaDoor
