/- hedge.Encode, the whole. -/
import Derived.Test.YthdaeblfehclcabEncode
namespace Go.Proofs.Ythdaeblfehclcab
open Go.RowKit Go.Shelf

theorem results_row_tmp {fn : Func} {p u : Tmp} {ty : TypeId} {P : Program} (h : fn.results = #[.cell p ty, .tmp u]) (tmps : Array Value) (w : World) (g : Nat) (t : TypeId) (cs : Array Value) {fs : Array Field}
    (hp : tmps.getD p undef = .pointer (some ⟨g, 0, none⟩)) (hg : w.heap[g]? = some (.cells cs t (0, 0)))
    (hu : P.underlying ty = some (.struct fs)) (hi : (P.info? ty).map (·.size) = some cs.size) :
    (results fn tmps).run P w = .ok (.tuple #[.agg cs, tmps.getD u undef]) w := by
  rw [results_cell_tmp h, hp]
  simp only [asAddr, Sem.run_pure, Result.andThen_ok, run_loadVar_row w g t ty cs (0, 0) (.struct fs) hg hu rfl hi]

set_option maxRecDepth 100000 in
set_option maxHeartbeats 1000000 in
theorem encodeTop_ok (n : Int) (hn : (Lit.int .i64 n).wf = true) (H : Hg) (v : Value) (w : World) (hv : IsH w v H) (hs : H.size ≤ 1000000) :
    Calls Try.prog 22 #[.int .i64 n, v] w fun e w' => Below w.heap.size w w' ∧
      ((vh n H = true ∧ 2 * H.size + 1 ≤ 300 ∧ ∃ r, e = .returned (.tuple #[r, .int .i64 0]) ∧ IsTS (fun c => w.heap.size ≤ c) w' r (H.enc n)) ∨
       (vh n H = false ∧ e = .returned (.tuple #[.agg #[.int .i64 0, .slice none 0 0], .int .i64 1])) ∨
       (vh n H = true ∧ 300 < 2 * H.size + 1 ∧ e = .returned (.tuple #[.agg #[.int .i64 0, .slice none 0 0], .int .i64 3]))) := by
  have hb1 : Below w.heap.size w (w.alloc (.cells #[.int .i64 0, .slice none 0 0] 41)) := (Below.refl _ w).alloc (Nat.le_refl _) _
  have HV := Lib.hid (validHedge_ok n H v _ (hv.below hb1) hs)
  have HH := Lib.hid hv
  have hbx := Blk.new w 41 #[.int .i64 0, .slice none 0 0]
  have HBX := Lib.hid hbx
  have HB1 := Lib.hid hb1
  obtain ⟨p, c, rfl, hc1, hc2, hrow⟩ := hv
  clear hrow hb1 hbx
  go_enter Try.func22, Try.ntmps22
  go_wp2_with fail
  refine HV.out.mono ?_
  rintro e w1 ⟨rfl, hb2⟩
  have hb2' : Below w.heap.size w w1 := HB1.out.trans (hb2.mono (by simp))
  have hbx1 : Blk w1 w.heap.size 41 #[.int .i64 0, .slice none 0 0] := HBX.out.below hb2 (by simp)
  have z2 : w1.cell? ⟨w.heap.size, 0, none⟩ = some (.int .i64 0) := by rw [hbx1.cell]; rfl
  have z3 : w1.cell? ⟨w.heap.size, 1, none⟩ = some (.slice none 0 0) := by rw [hbx1.cell]; rfl
  have z4 := hbx1.frozen 0
  have z5 := hbx1.frozen 1
  have z7 : w.heap.size < w1.heap.size := hbx1.lt
  have HS := Lib.hid (size_ok H _ w1 (HH.out.below hb2') hs)
  have HE := encode_any n hn (H.size + 1) H _ w1 (by omega) (HH.out.below hb2')
  have HE := Lib.hid HE
  have HB2 := Lib.hid hb2'
  have HX1 := Lib.hid hbx1
  clear hb2 hb2' hbx1 HV HB1 HBX
  cases hvv : vh n H with
  | false =>
    go_wp2_with fail
    refine bodyPost_ret (results_row_tmp rfl _ _ w.heap.size 41 _ rfl ((HX1.out.set_ 0 (.int .i64 0)).set_ 1 (.slice none 0 0)) Try.underlying41 Try.infoTree) rfl ?_
    refine ⟨(HB2.out.setCell (p := ⟨w.heap.size, 0, none⟩) (Nat.le_refl _) _).setCell (p := ⟨w.heap.size, 1, none⟩) (Nat.le_refl _) _, .inr (.inl ⟨hvv, rfl⟩)⟩
  | true =>
    go_wp2_with fail
    refine HS.out.mono ?_
    rintro e w2 ⟨rfl, hb3⟩
    have hx2 : Blk w2 w.heap.size 41 #[.int .i64 0, .slice none 0 0] := HX1.out.below hb3 z7
    have y2 : w2.cell? ⟨w.heap.size, 0, none⟩ = some (.int .i64 0) := by rw [hx2.cell]; rfl
    have y3 : w2.cell? ⟨w.heap.size, 1, none⟩ = some (.slice none 0 0) := by rw [hx2.cell]; rfl
    have y4 := hx2.frozen 0
    have y5 := hx2.frozen 1
    have y7 : w.heap.size < w2.heap.size := hx2.lt
    have HX2 := Lib.hid hx2
    have hb4 : Below w.heap.size w w2 := HB2.out.trans (hb3.mono (by omega))
    have HE := Lib.hid (encode_any n hn (H.size + 1) H _ w2 (by omega) (HH.out.below hb4))
    have HB4 := Lib.hid hb4
    clear hb3 hx2 hb4 HB2 HX1 HS
    by_cases h300 : 2 * H.size + 1 ≤ 300
    · go_wp2_with fail
      refine HE.out.mono ?_
      rintro e w3 ⟨r, rfl, hr, hb5⟩
      have hx3 : Blk w3 w.heap.size 41 #[.int .i64 0, .slice none 0 0] := HX2.out.below hb5 y7
      have x2 : w3.cell? ⟨w.heap.size, 0, none⟩ = some (.int .i64 0) := by rw [hx3.cell]; rfl
      have x3 : w3.cell? ⟨w.heap.size, 1, none⟩ = some (.slice none 0 0) := by rw [hx3.cell]; rfl
      have x4 := hx3.frozen 0
      have x5 := hx3.frozen 1
      have x7 : w.heap.size < w3.heap.size := hx3.lt
      obtain ⟨vr, rfl, hwf, hq⟩ := hr
      have HQ := Lib.hid hq
      obtain ⟨pr, cr, rfl, _⟩ := hq
      have HX3 := Lib.hid hx3
      have HB5 := Lib.hid hb5
      clear hb5 hx3
      go_wp2_with fail
      refine bodyPost_ret (results_row_tmp rfl _ _ w.heap.size 41 _ rfl ((HX3.out.set_ 0 _).set_ 1 _) Try.underlying41 Try.infoTree) rfl ?_
      refine ⟨((HB4.out.trans (HB5.out.mono (by omega))).setCell (p := ⟨w.heap.size, 0, none⟩) (Nat.le_refl _) _).setCell (p := ⟨w.heap.size, 1, none⟩) (Nat.le_refl _) _, .inl ⟨hvv, h300, _, rfl, _, rfl, hwf, ?_⟩⟩
      exact ((HQ.out.mono (S' := fun c => w.heap.size + 1 ≤ c) (fun c _ hc => by omega)).kp (((Kp.refl _ _).setCell (p := ⟨w.heap.size, 0, none⟩) (fun h => by simp at h; omega) _).setCell (p := ⟨w.heap.size, 1, none⟩) (fun h => by simp at h; omega) _)).mono (fun c _ hc => by omega)
    · have h3 : 300 < 2 * H.size + 1 := by omega
      clear h300
      go_wp2_with fail
      refine bodyPost_ret (results_row_tmp rfl _ _ w.heap.size 41 _ rfl ((HX2.out.set_ 0 (.int .i64 0)).set_ 1 (.slice none 0 0)) Try.underlying41 Try.infoTree) rfl ?_
      refine ⟨(HB4.out.setCell (p := ⟨w.heap.size, 0, none⟩) (Nat.le_refl _) _).setCell (p := ⟨w.heap.size, 1, none⟩) (Nat.le_refl _) _, .inr (.inr ⟨hvv, h3, rfl⟩)⟩

end Go.Proofs.Ythdaeblfehclcab
