/- tree.At. -/
import Derived.Test.YthhliogcafmnfaaDoorTFind
namespace Go.Proofs.YthhliogcafmnfaaDoor
open Go.RowKit Go.Shelf

theorem results_row_tmp {fn : Func} {p u : Tmp} {ty : TypeId} {P : Program} (h : fn.results = #[.cell p ty, .tmp u]) (tmps : Array Value) (w : World) (g : Nat) (t : TypeId) (cs : Array Value) {fs : Array Field}
    (hp : tmps.getD p undef = .pointer (some ⟨g, 0, none⟩)) (hg : w.heap[g]? = some (.cells cs t (0, 0)))
    (hu : P.underlying ty = some (.struct fs)) (hi : (P.info? ty).map (·.size) = some cs.size) :
    (results fn tmps).run P w = .ok (.tuple #[.agg cs, tmps.getD u undef]) w := by
  rw [results_cell_tmp h, hp]
  simp only [asAddr, Sem.run_pure, Result.andThen_ok, run_loadVar_row w g t ty cs (0, 0) (.struct fs) hg hu rfl hi]

def noT : Int × Hg := (0, .nil)
theorem isT_no (w : World) : IsT w (.agg #[.int .i64 0, .slice none 0 0]) noT := ⟨_, rfl, by decide, none, 0, rfl, Nat.le_refl _, by decide, fun h => absurd rfl h⟩
/-- What At gives. -/
def atE (al : List Int) (t : Int × Hg) (pos : List Int) : Int := if tvalid al t.1 t.2 = true then (match getT pos t with | some _ => 0 | none => 5) else 1
def atR (al : List Int) (t : Int × Hg) (pos : List Int) : Int × Hg := if tvalid al t.1 t.2 = true then (match getT pos t with | some y => y | none => noT) else noT

theorem blk3_2 (w : World) (o0 o1 : Obj) (t : TypeId) (a : Array Value) : Blk (((w.alloc o0).alloc o1).alloc (.cells a t)) (w.heap.size + 1 + 1) t a := by
  have := Blk.new ((w.alloc o0).alloc o1) t a
  rwa [World.size_alloc, World.size_alloc] at this

theorem blk4 (w : World) (t0 t1 t2 t3 : TypeId) (a0 a1 a2 a3 : Array Value) :
    Blk ((((w.alloc (.cells a0 t0)).alloc (.cells a1 t1)).alloc (.cells a2 t2)).alloc (.cells a3 t3)) (w.heap.size + 1) t1 a1 ∧
    Blk ((((w.alloc (.cells a0 t0)).alloc (.cells a1 t1)).alloc (.cells a2 t2)).alloc (.cells a3 t3)) (w.heap.size + 1 + 1) t2 a2 ∧
    Blk ((((w.alloc (.cells a0 t0)).alloc (.cells a1 t1)).alloc (.cells a2 t2)).alloc (.cells a3 t3)) (w.heap.size + 1 + 1 + 1) t3 a3 ∧
    Blk ((((w.alloc (.cells a0 t0)).alloc (.cells a1 t1)).alloc (.cells a2 t2)).alloc (.cells a3 t3)) w.heap.size t0 a0 := by
  refine ⟨?_, ?_, ?_, ?_⟩
  · have := ((Blk.new (w.alloc (.cells a0 t0)) t1 a1).alloc (.cells a2 t2)).alloc (.cells a3 t3)
    rwa [World.size_alloc] at this
  · have := (Blk.new ((w.alloc (.cells a0 t0)).alloc (.cells a1 t1)) t2 a2).alloc (.cells a3 t3)
    rwa [World.size_alloc, World.size_alloc] at this
  · have := Blk.new (((w.alloc (.cells a0 t0)).alloc (.cells a1 t1)).alloc (.cells a2 t2)) t3 a3
    rwa [World.size_alloc, World.size_alloc, World.size_alloc] at this
  · exact (((Blk.new w t0 a0).alloc _).alloc _).alloc _

set_option maxRecDepth 100000 in
set_option maxHeartbeats 1000000 in
theorem at_ok (al : List Int) (av : Value) (s : Int) (K : Hg) (vk : Value) (pos : List Int) (pv : Value) (w : World) (ha : IsInts w av al) (hwf : (Lit.int .i64 s).wf = true) (hv : IsH w vk K) (hs : K.size ≤ 1000000) (hp : IsInts w pv pos) :
    Calls Tryd.prog 27 #[.agg #[av], .agg #[.int .i64 s, vk], pv] w fun e w' => ∃ r, e = .returned (.tuple #[r, .int .i64 (atE al (s, K) pos)]) ∧ IsT w' r (atR al (s, K) pos) ∧ Below w.heap.size w w' := by
  have hbw : Below w.heap.size w (((w.alloc (.cells #[av] 24)).alloc (.cells #[.int .i64 s, vk] 27)).alloc (.cells #[.int .i64 0, .slice none 0 0] 27)) := (((Below.refl _ w).alloc (Nat.le_refl _) _).alloc (by simp) _).alloc (by simp; omega) _
  have HV := Lib.hid (tvalid_ok al av s vk K _ (ha.below hbw) hwf (hv.below hbw) hs)
  have HH := Lib.hid hv
  have HP := Lib.hid hp
  have HBW := Lib.hid hbw
  have HWF := Lib.hid hwf
  have HB1 := Lib.hid (blk_1 w 27 (.cells #[av] 24) #[.int .i64 s, vk] (.cells #[.int .i64 0, .slice none 0 0] 27))
  have HB2 := Lib.hid (blk3_2 w (.cells #[av] 24) (.cells #[.int .i64 s, vk] 27) 27 #[.int .i64 0, .slice none 0 0])
  obtain ⟨pa, ca, rfl, ha1, ha2, haa⟩ := ha
  obtain ⟨p, c, rfl, hc1, hc2, hrow⟩ := hv
  obtain ⟨pp, pc, rfl, hp1, hp2, hpp⟩ := hp
  clear hrow haa hbw hpp hwf
  go_enter Tryd.func27, Tryd.ntmps27
  go_wp2_with fail
  refine HV.out.mono ?_
  rintro e w1 ⟨rfl, hb1⟩
  have hsz1 : w.heap.size + 1 + 1 + 1 ≤ w1.heap.size := by have := hb1.size; simpa using this
  have hb1' : Below w.heap.size w w1 := HBW.out.trans (hb1.mono (by simp; omega))
  have hT1 : Blk w1 (w.heap.size + 1) 27 #[.int .i64 s, .slice p K.len c] := HB1.out.below hb1 (by simp)
  have hR1 : Blk w1 (w.heap.size + 1 + 1) 27 #[.int .i64 0, .slice none 0 0] := HB2.out.below hb1 (by simp)
  have z1 : w1.cell? ⟨w.heap.size + 1, 0, none⟩ = some (.int .i64 s) := by rw [hT1.cell]; rfl
  have z2 : w1.cell? ⟨w.heap.size + 1, 1, none⟩ = some (.slice p K.len c) := by rw [hT1.cell]; rfl
  have y1 : w1.cell? ⟨w.heap.size + 1 + 1, 0, none⟩ = some (.int .i64 0) := by rw [hR1.cell]; rfl
  have y2 : w1.cell? ⟨w.heap.size + 1 + 1, 1, none⟩ = some (.slice none 0 0) := by rw [hR1.cell]; rfl
  have y3 := hR1.frozen 0
  have y4 := hR1.frozen 1
  have z5 : w.heap.size + 1 < w1.heap.size := by omega
  have z6 : w.heap.size + 1 + 1 < w1.heap.size := by omega
  have HW1 := Lib.hid hb1'
  have HR1 := Lib.hid hR1
  have HFI := Lib.hid (find_ok pos (.slice pp pos.length pc) (w.heap.size + 1) 0 (s, K) w1 (HP.out.below hb1') ⟨z1, HWF.out, _, z2, HH.out.below hb1'⟩)
  clear hb1 hb1' hT1 hR1 HB1 HB2 HBW HV
  cases hva : tvalid al s K with
  | false =>
    have HE := Lib.hid (show atE al (s, K) pos = 1 by simp [atE, hva])
    have HL := Lib.hid (show atR al (s, K) pos = noT by simp [atR, hva])
    clear hva
    go_wp2_with fail
    refine bodyPost_ret (results_row_tmp rfl _ _ (w.heap.size + 1 + 1) 27 _ rfl ((HR1.out.set_ 0 (.int .i64 0)).set_ 1 (.slice none 0 0)) Tryd.underlying27 Tryd.infoTreeS) rfl ?_
    exact ⟨_, by rw [HE.out]; rfl, by rw [HL.out]; exact isT_no _, (HW1.out.setCell (p := ⟨w.heap.size + 1 + 1, 0, none⟩) (by simp; omega) _).setCell (p := ⟨w.heap.size + 1 + 1, 1, none⟩) (by simp; omega) _⟩
  | true =>
    have HVA := Lib.hid hva
    clear hva
    go_wp2_with fail
    refine HFI.out.mono ?_
    rintro e w2 ⟨⟨y, b', o', hg, rfl, _, hpt⟩ | ⟨hg, rfl⟩, rfl⟩
    · have HE := Lib.hid (show atE al (s, K) pos = 0 by simp [atE, HVA.out, hg])
      have HL := Lib.hid (show atR al (s, K) pos = y by simp [atR, HVA.out, hg])
      have hys := get_size pos _ _ hg
      simp only at hys
      obtain ⟨q1, q2, vy, q3, q4⟩ := hpt
      have HC := Lib.hid (clone_any (y.2.size + 1) y.1 y.2 vy w1 (by omega) (by omega) q2 q4)
      obtain ⟨py, cy, rfl, _, _, _⟩ := q4
      have hb3 := World.block_lt_of_cell? _ _ q1
      simp only at hb3
      clear hg HFI
      go_wp2_with fail
      refine HC.out.mono ?_
      rintro e w3 ⟨r, rfl, ⟨vr, rfl, hwr, hqr⟩, hb4⟩
      have HQ := Lib.hid hqr
      obtain ⟨pr, cr, rfl, _⟩ := hqr
      have hR3 : Blk w3 (w.heap.size + 1 + 1) 27 #[.int .i64 0, .slice none 0 0] := HR1.out.below hb4 z6
      have x1 : w3.cell? ⟨w.heap.size + 1 + 1, 0, none⟩ = some (.int .i64 0) := by rw [hR3.cell]; rfl
      have x2 : w3.cell? ⟨w.heap.size + 1 + 1, 1, none⟩ = some (.slice none 0 0) := by rw [hR3.cell]; rfl
      have x3 := hR3.frozen 0
      have x4 := hR3.frozen 1
      have x5 := hR3.lt
      have HR3 := Lib.hid hR3
      have HW3 := Lib.hid (HW1.out.trans (hb4.mono (by omega)))
      clear hb4 hR3
      go_wp2_with fail
      refine bodyPost_ret (results_row_tmp rfl _ _ (w.heap.size + 1 + 1) 27 _ rfl ((HR3.out.set_ 0 _).set_ 1 _) Tryd.underlying27 Tryd.infoTreeS) rfl ?_
      refine ⟨_, by rw [HE.out]; rfl, ?_, (HW3.out.setCell (p := ⟨w.heap.size + 1 + 1, 0, none⟩) (by simp; omega) _).setCell (p := ⟨w.heap.size + 1 + 1, 1, none⟩) (by simp; omega) _⟩
      rw [HL.out]
      refine ⟨_, rfl, hwr, ?_⟩
      exact (HQ.out.kp (((Kp.refl _ _).setCell (p := ⟨w.heap.size + 1 + 1, 0, none⟩) (fun h => by simp at h; omega) _).setCell (p := ⟨w.heap.size + 1 + 1, 1, none⟩) (fun h => by simp at h; omega) _)).isH
    · have HE := Lib.hid (show atE al (s, K) pos = 5 by simp [atE, HVA.out, hg])
      have HL := Lib.hid (show atR al (s, K) pos = noT by simp [atR, HVA.out, hg])
      clear hg HFI
      go_wp2_with fail
      refine bodyPost_ret (results_row_tmp rfl _ _ (w.heap.size + 1 + 1) 27 _ rfl ((HR1.out.set_ 0 (.int .i64 0)).set_ 1 (.slice none 0 0)) Tryd.underlying27 Tryd.infoTreeS) rfl ?_
      exact ⟨_, by rw [HE.out]; rfl, by rw [HL.out]; exact isT_no _, (HW1.out.setCell (p := ⟨w.heap.size + 1 + 1, 0, none⟩) (by simp; omega) _).setCell (p := ⟨w.heap.size + 1 + 1, 1, none⟩) (by simp; omega) _⟩

end Go.Proofs.YthhliogcafmnfaaDoor
