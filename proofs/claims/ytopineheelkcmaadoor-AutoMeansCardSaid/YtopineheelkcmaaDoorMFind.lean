/- ref01.Find. -/
import Derived.Test.YtopineheelkcmaaDoorMDL
import Derived.Test.YtopineheelkcmaaDoorRTValid
namespace Go.Proofs.YtopineheelkcmaaDoor
open Go.RowKit Go.Shelf

theorem results_row_tmp {fn : Func} {p u : Tmp} {ty : TypeId} {P : Program} (h : fn.results = #[.cell p ty, .tmp u]) (tmps : Array Value) (w : World) (g : Nat) (t : TypeId) (cs : Array Value) {fs : Array Field}
    (hp : tmps.getD p undef = .pointer (some ⟨g, 0, none⟩)) (hg : w.heap[g]? = some (.cells cs t (0, 0)))
    (hu : P.underlying ty = some (.struct fs)) (hi : (P.info? ty).map (·.size) = some cs.size) :
    (results fn tmps).run P w = .ok (.tuple #[.agg cs, tmps.getD u undef]) w := by
  rw [results_cell_tmp h, hp]
  simp only [asAddr, Sem.run_pure, Result.andThen_ok, run_loadVar_row w g t ty cs (0, 0) (.struct fs) hg hu rfl hi]

theorem Tryd.infoTreeS : (Tryd.prog.info? 43).map (·.size) = some 2 := by kernel_rfl
theorem getT_none_lt {i : Int} {ps : List Int} {t : Int × Hg} (h : i < 0) : getT (i :: ps) t = none := by simp [getT, h]
theorem getT_none_ge {i : Nat} {ps : List Int} {t : Int × Hg} (h : t.2.len ≤ i) : getT ((i : Int) :: ps) t = none := by
  simp only [getT]
  rw [if_neg (by omega), Int.toNat_natCast, Hg.nth_none h]; rfl
theorem getT_next {i : Nat} {ps : List Int} {t k : Int × Hg} (h : t.2.nth i = some k) : getT ((i : Int) :: ps) t = getT ps k := by
  simp only [getT]
  rw [if_neg (by omega), Int.toNat_natCast, h]; rfl
def PT (w : World) (b o : Nat) (t : Int × Hg) : Prop := w.cell? ⟨b, o, none⟩ = some (.int .i64 t.1) ∧ (Lit.int .i64 t.1).wf = true ∧ ∃ v, w.cell? ⟨b, o + 1, none⟩ = some v ∧ IsH w v t.2
theorem row_at {w : World} : ∀ (K : Hg) (i : Nat) (k : Int × Hg) (b o : Nat), Row w K b o → K.nth i = some k → PT w b (o + i * 2) k
  | .cons l k r, 0, x, b, o, hr, e => by
    rw [Row.cons_iff] at hr
    obtain ⟨h1, h2, ⟨v, h3, h4⟩, h5⟩ := hr
    simp only [Hg.nth, Option.some.injEq] at e
    subst e
    exact ⟨by simpa using h1, h2, v, by simpa using h3, h4⟩
  | .cons l k r, i + 1, x, b, o, hr, e => by
    rw [Row.cons_iff] at hr
    obtain ⟨h1, h2, ⟨v, h3, h4⟩, h5⟩ := hr
    have := row_at r i x b (o + 2) h5 e
    rwa [show o + (i + 1) * 2 = o + 2 + i * 2 by omega]
theorem blk3_2 (w : World) (o0 o1 : Obj) (t : TypeId) (a : Array Value) : Blk (((w.alloc o0).alloc o1).alloc (.cells a t)) (w.heap.size + 1 + 1) t a := by
  have := Blk.new ((w.alloc o0).alloc o1) t a
  rwa [World.size_alloc, World.size_alloc] at this
theorem ownsRow_heap {w w' : World} {base : Nat} {e : TypeId} {size n : Nat} {v : Value} {xs : List Value} (h : w.ownsRow base e size v n xs) (hh : ∀ g, v.ownBlock = some g → w'.heap[g]? = w.heap[g]?) : w'.ownsRow base e size v n xs := by
  refine ⟨h.1, ?_⟩
  rcases h.2 with hn | ⟨g, cap, cur, rfl, hb, hg, rest⟩
  · exact .inl hn
  · exact .inr ⟨g, cap, cur, rfl, hb, (hh g rfl).trans hg, rest⟩

set_option maxRecDepth 100000 in
set_option maxHeartbeats 1000000 in
theorem rfind_ok (pos : List Int) (pv : Value) (s : Int) (K : Hg) (vk : Value) (wB w : World) (hbB : Below wB.heap.size wB w) (hp : IsInts w pv pos) (hwf : (Lit.int .i64 s).wf = true) (hv : IsH wB vk K) :
    Calls Tryd.prog 42 #[.agg #[.int .i64 s, vk], pv] w fun e w' => Below w.heap.size w w' ∧
      ((∃ y r, getT pos (s, K) = some y ∧ e = .returned (.tuple #[r, .bool true]) ∧ IsT wB r y) ∨
        (getT pos (s, K) = none ∧ e = .returned (.tuple #[.agg #[.int .i64 0, .slice none 0 0], .bool false]))) := by
  have hb0 : Below w.heap.size w ((w.alloc (.cells #[.int .i64 s, vk] 43)).alloc (.cells #[.int .i64 0, .slice none 0 0] 43)) := ((Below.refl _ w).alloc (Nat.le_refl _) _).alloc (by simp) _
  have hX0 : Blk ((w.alloc (.cells #[.int .i64 s, vk] 43)).alloc (.cells #[.int .i64 0, .slice none 0 0] 43)) w.heap.size 43 #[.int .i64 s, vk] := (Blk.new w _ _).alloc _
  have hR0 : Blk ((w.alloc (.cells #[.int .i64 s, vk] 43)).alloc (.cells #[.int .i64 0, .slice none 0 0] 43)) (w.heap.size + 1) 43 #[.int .i64 0, .slice none 0 0] := by
    have := Blk.new (w.alloc (.cells #[.int .i64 s, vk] 43)) 43 #[.int .i64 0, .slice none 0 0]
    rwa [World.size_alloc] at this
  have HB0 := Lib.hid hb0
  have HX0 := Lib.hid hX0
  have HR0 := Lib.hid hR0
  have HH := Lib.hid hv
  have HWF := Lib.hid hwf
  obtain ⟨p, c, rfl, hc1, hc2, hcell⟩ := hp
  obtain ⟨pk, ck, rfl, hk1, hk2, _⟩ := hv
  unfold maxLen at hc2
  have HC := Lib.hid hcell
  clear hcell hb0 hX0 hR0 hwf
  go_enter Tryd.func42, Tryd.ntmps42
  go_wp2_with fail
  go_loopw [10] (fun i wr => ∃ (k : Nat) (y : Int × Hg) (py : Option Addr) (cy : Nat), i = .int .i64 k ∧ k ≤ pos.length ∧ Hid (Blk wr w.heap.size 43 #[.int .i64 y.1, .slice py y.2.len cy]) ∧ Hid (Blk wr (w.heap.size + 1) 43 #[.int .i64 0, .slice none 0 0]) ∧ Hid ((Lit.int .i64 y.1).wf = true) ∧ Hid (IsH wB (.slice py y.2.len cy) y.2) ∧ Hid (getT pos (s, K) = getT (pos.drop k) y) ∧ Hid (Below w.heap.size w wr))
    (fun i _ => pos.length - (intOf i).toNat)
  case atStart => exact ⟨0, (s, K), pk, ck, rfl, by omega, HX0, HR0, HWF, HH, Lib.hid (by simp), HB0⟩
  case round =>
    obtain ⟨k, y, py, cy, rfl, hk, hX, hR, hwy, hy, hge, hB⟩ := hrel
    have x0 : wr.cell? ⟨w.heap.size, 0, none⟩ = some (.int .i64 y.1) := by rw [hX.out.cell]; rfl
    have x1 : wr.cell? ⟨w.heap.size, 1, none⟩ = some (.slice py y.2.len cy) := by rw [hX.out.cell]; rfl
    have x2 := hX.out.frozen 0
    have x3 := hX.out.frozen 1
    have x4 := hX.out.lt
    have r0 : wr.cell? ⟨w.heap.size + 1, 0, none⟩ = some (.int .i64 0) := by rw [hR.out.cell]; rfl
    have r1 : wr.cell? ⟨w.heap.size + 1, 1, none⟩ = some (.slice none 0 0) := by rw [hR.out.cell]; rfl
    have r2 := hR.out.frozen 0
    have r3 := hR.out.frozen 1
    have r4 := hR.out.lt
    by_cases hlt : k < pos.length
    · obtain ⟨bp, op, rfl, hcl⟩ := HC.out (fun h => by simp [h] at hlt)
      have c0 := cell_later hB.out (hcl k pos[k] (List.getElem?_eq_getElem hlt))
      have hbl := World.block_lt_of_cell? _ _ c0
      simp only at hbl
      have hdr : Hid (pos.drop k = pos[k] :: pos.drop (k + 1)) := Lib.hid (List.drop_eq_getElem_cons hlt)
      have hk0 : (0 : Int) ≤ (k : Int) := by omega
      clear hcl
      generalize pos[k] = x at c0 hdr
      by_cases hx : x < 0
      · have hx2 : decide (x < 0) = true := decide_eq_true hx
        have hn : Hid (getT pos (s, K) = none) := Lib.hid (by rw [hge.out, hdr.out, getT_none_lt hx])
        go_wp2_with fail
        refine bodyPost_ret (results_row_tmp rfl _ _ (w.heap.size + 1) 43 _ rfl ((hR.out.set_ 0 (.int .i64 0)).set_ 1 (.slice none 0 0)) Tryd.underlying43 Tryd.infoTreeS) rfl ?_
        exact ⟨(hB.out.setCell (p := ⟨w.heap.size + 1, 0, none⟩) (by simp) _).setCell (p := ⟨w.heap.size + 1, 1, none⟩) (by simp) _, .inr ⟨hn.out, rfl⟩⟩
      · have hx2 : decide (x < 0) = false := decide_eq_false hx
        obtain ⟨n, rfl⟩ : ∃ n : Nat, x = (n : Int) := ⟨x.toNat, by omega⟩
        by_cases hn : y.2.len ≤ n
        · have hn1 : (y.2.len : Int) ≤ (n : Int) := by omega
          have hn2 : decide ((y.2.len : Int) ≤ (n : Int)) = true := decide_eq_true hn1
          have hnn : Hid (getT pos (s, K) = none) := Lib.hid (by rw [hge.out, hdr.out, getT_none_ge hn])
          clear hx
          go_wp2_with fail
          refine bodyPost_ret (results_row_tmp rfl _ _ (w.heap.size + 1) 43 _ rfl ((hR.out.set_ 0 (.int .i64 0)).set_ 1 (.slice none 0 0)) Tryd.underlying43 Tryd.infoTreeS) rfl ?_
          exact ⟨(hB.out.setCell (p := ⟨w.heap.size + 1, 0, none⟩) (by simp) _).setCell (p := ⟨w.heap.size + 1, 1, none⟩) (by simp) _, .inr ⟨hnn.out, rfl⟩⟩
        · have hn1 : ¬ (y.2.len : Int) ≤ (n : Int) := by omega
          have hn2 : decide ((y.2.len : Int) ≤ (n : Int)) = false := decide_eq_false hn1
          obtain ⟨z, hz⟩ := Hg.nth_some (h := y.2) (i := n) (by omega)
          obtain ⟨_, _, he, hk1', hk2', hrow⟩ := hy.out
          simp only [Value.slice.injEq, true_and] at he
          obtain ⟨rfl, rfl⟩ := he
          obtain ⟨bk, ok, rfl, hr⟩ := hrow (fun h => by rw [h] at hz; cases hz)
          obtain ⟨q1, q2, vz, q3, q4⟩ := row_at y.2 n z bk ok hr hz
          have HZ := Lib.hid q4
          obtain ⟨pz, cz, rfl, _, _, _⟩ := q4
          have hbb := hbB.trans (hB.out.mono hbB.size)
          have q1 := cell_later hbb q1
          have q3 := cell_later hbb q3
          have hb2 := World.block_lt_of_cell? _ _ q3
          simp only at hb2
          have HGN := Lib.hid (show getT pos (s, K) = getT (pos.drop (k + 1)) z by rw [hge.out, hdr.out, getT_next hz])
          have HQ2 := Lib.hid q2
          have hn3 : (n : Int) < (y.2.len : Int) := by omega
          have hn4 : n < y.2.len := by omega
          have hn5 : (0 : Int) ≤ (n : Int) := by omega
          have hRR : Hid (Blk ((wr.setCell ⟨w.heap.size, 0, none⟩ (.int .i64 z.1)).setCell ⟨w.heap.size, 1, none⟩ (.slice pz z.2.len cz)) (w.heap.size + 1) 43 #[.int .i64 0, .slice none 0 0]) := Lib.hid ((hR.out.far (p := ⟨w.heap.size, 0, none⟩) (by simp) _).far (p := ⟨w.heap.size, 1, none⟩) (by simp) _)
          have hXX : Hid (Blk ((wr.setCell ⟨w.heap.size, 0, none⟩ (.int .i64 z.1)).setCell ⟨w.heap.size, 1, none⟩ (.slice pz z.2.len cz)) w.heap.size 43 #[.int .i64 z.1, .slice pz z.2.len cz]) := Lib.hid (by
            have := (hX.out.set_ 0 (.int .i64 z.1)).set_ 1 (.slice pz z.2.len cz)
            simpa using this)
          have hBB := Lib.hid ((hB.out.setCell (p := ⟨w.heap.size, 0, none⟩) (by simp) (.int .i64 z.1)).setCell (p := ⟨w.heap.size, 1, none⟩) (by simp) (.slice pz z.2.len cz))
          clear hx hn hn1 hz hr hrow
          go_wp2_with fail
          go_roundw
          case rel => exact ⟨k + 1, z, pz, cz, by go_num, by omega, hXX, hRR, HQ2, HZ, HGN, hBB⟩
          case measure => simp [intOf]; omega
    · have hge2 : pos.length ≤ k := by omega
      have HY := Lib.hid (show getT pos (s, K) = some y by rw [hge.out, List.drop_of_length_le hge2]; rfl)
      clear hlt
      go_wp2_with fail
      refine bodyPost_ret (results_row_tmp rfl _ _ (w.heap.size + 1) 43 _ rfl ((hR.out.set_ 0 _).set_ 1 _) Tryd.underlying43 Tryd.infoTreeS) rfl ?_
      refine ⟨(hB.out.setCell (p := ⟨w.heap.size + 1, 0, none⟩) (by simp) _).setCell (p := ⟨w.heap.size + 1, 1, none⟩) (by simp) _, .inl ⟨y, _, HY.out, rfl, _, rfl, hwy.out, hy.out⟩⟩

end Go.Proofs.YtopineheelkcmaaDoor
