/- hedge.Size, by the iterator. -/
import Derived.Test.YthdaeblfehclcabNodes
import Derived.Shelf.Abstract
namespace Go.Proofs.Ythdaeblfehclcab
open Go.RowKit Go.Shelf
attribute [local go_sem] Oper.semAt_some fwd fwf


set_option maxHeartbeats 1000000 in
theorem size_ok (H : Hg) (v : Value) (w : World) (hv : IsH w v H) (hs : H.size ≤ 1000000) :
    Calls Try.prog 18 #[v] w fun e w' => e = .returned (.int .i64 H.size) ∧ Below w.heap.size w w' := by
  have hIt := Lib.hid <| nodes_iter H v (w.heap.size + 1) w (fun c => c = w.heap.size) ((w.alloc (.cells #[.int .i64 0] 3)).alloc (.cells #[v] 22)) hv
    (((Below.refl _ w).alloc (Nat.le_refl _) _).alloc (by simp) _) (fun c hc => by omega) (by have := Boxed.new (w.alloc (.cells #[.int .i64 0] 3)) 22 v; simpa using this) (by omega) hs
  have HN := Lib.hid (nodes_any v H (w.alloc (.cells #[.int .i64 0] 3)) (hv.below ((Below.refl _ w).alloc (Nat.le_refl _) _)))
  obtain ⟨p, c, rfl, hc1, hc2, hrow⟩ := hv
  clear hrow
  refine Calls.of_callsIn (ro := none) (m := 0) ?_
  refine callsIn_of_wp_marks Try.func18 rfl trivial ?_ rfl
  simp only [Try.ntmps18, List.size_toArray, List.length_cons, List.length_nil, Nat.reduceAdd, Nat.reduceSub, Array.replicate_succ, Array.replicate_zero, List.push_toArray, List.append_toArray, List.nil_append, List.cons_append]
  gi_wp2_with fail
  refine (CallsIn.of_calls HN.out).mono ?_
  rintro e w1 ⟨rfl, rfl⟩
  gi_wp2_with fail
  refine rf_outer (gf := 69) (lb := #[.pointer (some ⟨w.heap.size + 1, 0, none⟩)]) (Enc := NEnc w) rfl (enters_of Try.func69 (by kernel_rfl) rfl) ?_ H.flat (fun c => c = w.heap.size) ?_
    (fun k C W => C w.heap.size ∧ Boxed W w.heap.size 3 (.int .i64 k)) (fun _ _ _ => False)
    (fun k a' C W => C w.heap.size ∧ Boxed W w.heap.size 3 (.int .i64 k) ∧ ∃ u6 u7 : Value, a' = { tmps := #[Value.slice p H.len c, undef, Value.int IntKind.i64 0, Value.pointer (some { block := w.heap.size, off := 0 }), Value.slice p H.len c, Value.func (Fn.func 69) #[] #[Value.pointer (some { block := w.heap.size + 1, off := 0 })], u6, u7, undef, undef, undef], defers := [] })
    (fun k C W W' h hk => ⟨h.1, hk.boxed h.2 h.1⟩) (fun c C W W' h _ => h)
    (fun L k a' C W W' hL hn h hk => ⟨h.1, hk.boxed h.2.1 (fun e => hn (e ▸ h.1)), h.2.2⟩)
    hIt.out ⟨rfl, (by have := (Boxed.new w 3 (.int .i64 0)).alloc (.cells #[.slice p H.len c] 22); simpa using this)⟩ ?_ ?_ ?_ ?_
  · rintro k x vals W ⟨vk, rfl, _⟩
    rfl
  · intro c hc
    subst hc
    simp
    omega
  · rintro L k x vals C W K' hx ⟨vk, rfl, _⟩ hj hg hn hr hK
    gi_wp2
    exact hK _ C W (Grow.refl hg.lt) ⟨hj.1, hj.2, .int .i64 k, .agg #[.int .i64 x.1, vk], by simp⟩
  · rintro L k a' C W hlt ⟨hC, hb, u6, u7, rfl⟩ hg hn hr
    have x1 := hb.cell
    have x2 := hb.frozen
    have l1 := hb.lt
    rw [Hg.flat_length] at hlt
    gi_wp2
    refine ⟨C, (Grow.refl hg.lt).setCell (p := ⟨w.heap.size, 0, none⟩) hC _, hC, ?_⟩
    have := hb.set (.int .i64 ((k : Int) + 1))
    simpa using this
  · rintro D C W hg ⟨hC, hb⟩ hD hDC hDs
    have x1 := hb.cell
    rw [Hg.flat_length] at x1
    have HD := Lib.hid hD
    have HG := Lib.hid hg
    clear hD hg
    gi_wp2
    refine ⟨by simp, .inl ⟨_, _, rfl, run_takeDeferred HD.out, ?_⟩⟩
    refine ⟨_, results_tmp rfl _ _ _, rfl, ?_⟩
    refine (((Below.refl w.heap.size w).alloc (Nat.le_refl _) _).alloc (by simp) _).trans ((HG.out.below (by simp; omega) (fun c hc => by omega)).trans ?_)
    exact ((Kp.refl (fun k => k < w.heap.size) W).putObj (fun h => by simp at hDs; omega) _).below (by have := HG.out.kp.size; simp at this; omega) (fun k hk => hk)
  · rintro D c' C W hg h
    exact h.elim

end Go.Proofs.Ythdaeblfehclcab
