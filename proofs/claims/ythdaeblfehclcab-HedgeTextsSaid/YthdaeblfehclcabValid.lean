/- hedge.ValidHedge, Valid, validLabels. -/
import Derived.Test.YthdaeblfehclcabSize
namespace Go.Proofs.Ythdaeblfehclcab
open Go.RowKit Go.Shelf
attribute [local go_sem] Oper.semAt_some fwd fwf

def vlab (n : Int) : Bool := decide (1 ≤ n) && decide (n ≤ 8)
def lok (n : Int) (x : Int × Hg) : Bool := decide (0 ≤ x.1) && decide (x.1 < n)
/-- A valid hedge over n labels. -/
def vh (n : Int) (H : Hg) : Bool := vlab n && decide (H.size ≤ 300) && H.flat.all (lok n)

set_option maxHeartbeats 400000 in
theorem validLabels_ok (n : Int) (w : World) :
    Calls Try.prog 37 #[.int .i64 n] w fun e w' => e = .returned (.bool (vlab n)) ∧ w' = w := by
  by_cases h1 : 1 ≤ n
  · go_enter Try.func37, Try.ntmps37
    go_wp2
    go_ret
    exact ⟨ret_bool (by simp [vlab, h1]), rfl⟩
  · have h2 : decide (1 ≤ n) = false := by simpa using h1
    go_enter Try.func37, Try.ntmps37
    go_wp2
    go_ret
    exact ⟨ret_bool (by simp [vlab, h2]), rfl⟩

set_option maxRecDepth 100000 in
set_option maxHeartbeats 1000000 in
theorem validHedge_ok (n : Int) (H : Hg) (v : Value) (w : World) (hv : IsH w v H) (hs : H.size ≤ 1000000) :
    Calls Try.prog 15 #[.int .i64 n, v] w fun e w' => e = .returned (.bool (vh n H)) ∧ Below w.heap.size w w' := by
  have HL := Lib.hid (validLabels_ok n)
  by_cases hl : vlab n = true
  · obtain ⟨w2, hw2⟩ : ∃ w2, w2 = (w.alloc (.cells #[.int .i64 n] 3)).alloc (.cells #[.bool false] 4) := ⟨_, rfl⟩
    have hb2 : Below w.heap.size w w2 := by rw [hw2]; exact ((Below.refl _ w).alloc (Nat.le_refl _) _).alloc (by simp) _
    have hsz2 : w2.heap.size = w.heap.size + 1 + 1 := by rw [hw2]; simp
    have hIt := nodes_iter H v (w.heap.size + 1 + 1) w (fun c => c = w.heap.size ∨ c = w.heap.size + 1) (w2.alloc (.cells #[v] 22)) hv
      (hb2.alloc hb2.size _) (fun c hc => by omega) (by have := Boxed.new w2 22 v; rwa [hsz2] at this) (by omega) hs
    have HN := Lib.hid (nodes_any v H w2 (hv.below hb2))
    have hB1 : Boxed (w2.alloc (.cells #[v] 22)) w.heap.size 3 (.int .i64 n) := by rw [hw2]; exact ((Boxed.new w 3 (.int .i64 n)).alloc _).alloc _
    have hB2 : Boxed (w2.alloc (.cells #[v] 22)) (w.heap.size + 1) 4 (.bool false) := by
      rw [hw2]; have := (Boxed.new (w.alloc (.cells #[.int .i64 n] 3)) 4 (.bool false)).alloc (.cells #[v] 22); simpa using this
    subst hw2
    have hIt := Lib.hid hIt
    have HB1 := Lib.hid hB1
    have HB2 := Lib.hid hB2
    have Hb2 := Lib.hid hb2
    obtain ⟨p, c, rfl, hc1, hc2, hrow⟩ := hv
    clear hrow hB1 hB2 hb2 hsz2
    refine Calls.of_callsIn (ro := none) (m := 0) ?_
    refine callsIn_of_wp_marks Try.func15 rfl trivial ?_ rfl
    simp only [Try.ntmps15, List.size_toArray, List.length_cons, List.length_nil, Nat.reduceAdd, Nat.reduceSub, Array.replicate_succ, Array.replicate_zero, List.push_toArray, List.append_toArray, List.nil_append, List.cons_append]
    gi_wp2_with fail
    refine (CallsIn.of_calls (HL.out _)).mono ?_
    rintro e w1 ⟨rfl, rfl⟩
    rw [hl]
    gi_wp2_with fail
    refine (CallsIn.of_calls HN.out).mono ?_
    rintro e w1 ⟨rfl, rfl⟩
    gi_wp2_with fail
    refine rf_outer (gf := 69) (lb := #[.pointer (some ⟨w.heap.size + 1 + 1, 0, none⟩)]) (Enc := NEnc w) rfl (enters_of Try.func69 (by kernel_rfl) rfl) ?_ H.flat (fun c => c = w.heap.size ∨ c = w.heap.size + 1) ?_
      (fun k C W => C w.heap.size ∧ C (w.heap.size + 1) ∧ Boxed W w.heap.size 3 (.int .i64 n) ∧ Boxed W (w.heap.size + 1) 4 (.bool false) ∧ k ≤ 300 ∧ (H.flat.take k).all (lok n) = true)
      (fun c C W => c = .ret ∧ C (w.heap.size + 1) ∧ Boxed W (w.heap.size + 1) 4 (.bool false) ∧ vh n H = false)
      (fun k a' C W => C w.heap.size ∧ C (w.heap.size + 1) ∧ Boxed W w.heap.size 3 (.int .i64 n) ∧ Boxed W (w.heap.size + 1) 4 (.bool false) ∧ k ≤ 300 ∧ (H.flat.take k).all (lok n) = true ∧
        ∃ (b6 : Nat) (x : Int × Hg) (vk u12 u13 : Value), C b6 ∧ H.flat[k]? = some x ∧ W.heap[b6]? = some (.cells #[.int .i64 x.1, vk] 24 (0, 0)) ∧
        a' = { tmps := #[.int .i64 n, .slice p H.len c, .pointer (some ⟨w.heap.size, 0, none⟩), undef, .pointer (some ⟨w.heap.size + 1, 0, none⟩), .int .i64 k, .pointer (some ⟨b6, 0, none⟩), .int .i64 n, .bool true, .bool false, .slice p H.len c, .func (.func 69) #[] #[.pointer (some ⟨w.heap.size + 1 + 1, 0, none⟩)], u12, u13, undef, undef, undef, undef, undef, undef, undef, undef, undef, undef, undef, undef, undef], defers := [] })
      (fun k C W W' h hk => ⟨h.1, h.2.1, hk.boxed h.2.2.1 h.1, hk.boxed h.2.2.2.1 h.2.1, h.2.2.2.2⟩) (fun c C W W' h hk => ⟨h.1, h.2.1, hk.boxed h.2.2.1 h.2.1, h.2.2.2⟩)
      (fun L k a' C W W' hL hn h hk => ⟨h.1, h.2.1, hk.boxed h.2.2.1 (fun e => hn (e ▸ h.1)), hk.boxed h.2.2.2.1 (fun e => hn (e ▸ h.2.1)), h.2.2.2.2.1, h.2.2.2.2.2.1, (by
        obtain ⟨b6, x, vk, u12, u13, g1, g2, g3, g4⟩ := h.2.2.2.2.2.2
        exact ⟨b6, x, vk, u12, u13, g1, g2, hk.heap g3 (fun e => hn (e ▸ g1)), g4⟩)⟩)
      hIt.out ⟨.inl rfl, .inr rfl, HB1.out, HB2.out, by omega, by simp⟩ ?_ ?_ ?_ ?_
    · rintro k x vals W ⟨vk, rfl, _⟩
      rfl
    · intro c hc
      simp
      omega
    · rintro L k x vals C W K' hx ⟨vk, rfl, hwf, hvk, _⟩ hj hg hn hr hK
      obtain ⟨p2, c2, rfl, hh⟩ := hvk
      have HX := Lib.hid hx
      have HJ := Lib.hid hj
      have HG := Lib.hid hg
      have HK := Lib.hid hK
      clear hx hj hg hh hK
      gi_wp2
      exact HK.out _ _ _ ((Grow.refl HG.out.lt).alloc _) ⟨.inl HJ.out.1, .inl HJ.out.2.1, HJ.out.2.2.1.alloc _, HJ.out.2.2.2.1.alloc _, HJ.out.2.2.2.2.1, HJ.out.2.2.2.2.2, W.heap.size, x, .slice p2 x.2.len c2, _, _, .inr rfl, HX.out, World.alloc_heap_new W _, rfl⟩
    · rintro L k a' C W hlt ⟨hC1, hC2, hb1, hb2, hk3, hall, b6, x, vk, u12, u13, hC6, hx, hb6, rfl⟩ hg hn hr
      have x1 := hb1.cell
      have x2 := hb2.cell
      have x3 := hb2.frozen
      have x4 : W.cell? ⟨b6, 0, none⟩ = some (.int .i64 x.1) := by rw [cell_of_row _ _ _ _ _ _ hb6]; rfl
      have l1 := hb1.lt
      have l2 := hb2.lt
      obtain ⟨lx, kx⟩ := x
      simp only at x4
      have hmem : (lx, kx) ∈ H.flat := List.mem_of_getElem? hx
      have hstep : (H.flat.take (k + 1)).all (lok n) = ((H.flat.take k).all (lok n) && lok n (lx, kx)) := by
        rw [List.take_add_one, hx]; simp
      rw [Hg.flat_length] at hlt
      have HS := Lib.hid hstep
      have HG := Lib.hid hg
      have HA := Lib.hid hall
      have HM := Lib.hid hmem
      have HC := Lib.hid (And.intro hC1 hC2)
      have HB := Lib.hid (And.intro hb1 hb2)
      clear hb6 hx hstep hg hall hr hn hC1 hC2 hC6 hmem hb1 hb2 hIt
      have hbad : (k < 300 → 0 ≤ lx → lx < n → False) → Hid (vh n H = false) := fun hb => Lib.hid (by
        cases hv : vh n H with
        | false => rfl
        | true =>
          exfalso
          simp only [vh, Bool.and_eq_true, decide_eq_true_eq, List.all_eq_true] at hv
          have := hv.2 _ HM.out
          simp only [lok, Bool.and_eq_true, decide_eq_true_eq] at this
          exact hb (by omega) this.1 this.2)
      by_cases h1 : 300 ≤ k
      · have HV := hbad (fun h => by omega)
        clear hbad
        gi_wp2
        exact ⟨C, (Grow.refl HG.out.lt).setCell (p := ⟨w.heap.size + 1, 0, none⟩) HC.out.2 _, rfl, HC.out.2, HB.out.2.set _, HV.out⟩
      · have h1' : k < 300 := by omega
        by_cases h2 : 0 ≤ lx
        · by_cases h3 : lx < n
          · clear hbad h1
            gi_wp2
            exact ⟨C, Grow.refl HG.out.lt, HC.out.1, HC.out.2, HB.out.1, HB.out.2, by omega, by rw [HS.out, HA.out]; simp [lok, h2, h3]⟩
          · have HV := hbad (fun _ _ h => h3 h)
            have h3' : n ≤ lx := by omega
            clear hbad h1 h3
            gi_wp2
            exact ⟨C, (Grow.refl HG.out.lt).setCell (p := ⟨w.heap.size + 1, 0, none⟩) HC.out.2 _, rfl, HC.out.2, HB.out.2.set _, HV.out⟩
        · have HV := hbad (fun _ h _ => h2 h)
          have h2' : lx < 0 := by omega
          clear hbad h1 h2
          gi_wp2
          exact ⟨C, (Grow.refl HG.out.lt).setCell (p := ⟨w.heap.size + 1, 0, none⟩) HC.out.2 _, rfl, HC.out.2, HB.out.2.set _, HV.out⟩
    · rintro D C W hg ⟨hC1, hC2, hb1, hb2, hk3, hall⟩ hD hDC hDs
      have x2 := hb2.cell
      have x3 := hb2.frozen
      have l2 := hb2.lt
      have hv : vh n H = true := by
        rw [List.take_of_length_le (Nat.le_refl _)] at hall
        rw [Hg.flat_length] at hk3
        simp [vh, hl, hk3, hall]
      have HV := Lib.hid hv
      have HD := Lib.hid hD
      have HG := Lib.hid hg
      have HB := Lib.hid hb2
      clear hD hg hv hall hb1 hb2 hk3
      gi_wp2
      have hD1 : (W.setCell ⟨w.heap.size + 1, 0, none⟩ (.bool true)).heap[D]? = some (.deferred (some [])) := by
        rw [Below.heap_setCell _ _ _ _ (fun e => hDC (by rw [e]; exact hC2))]; exact HD.out
      have hR : Boxed ((W.setCell ⟨w.heap.size + 1, 0, none⟩ (.bool true)).putObj D (.deferred none)) (w.heap.size + 1) 4 (.bool true) :=
        ((Kp.refl (fun c => c ≠ D) _).putObj (fun h => absurd rfl h) _).boxed (HB.out.set _) (fun e => hDC (by rw [← e]; exact hC2))
      have hRc := hR.cell
      refine ⟨by simp, .inl ⟨_, _, rfl, run_takeDeferred hD1, ?_⟩⟩
      refine ⟨.bool true, by simp [results, Try.results15, go_sem, hRc], by rw [HV.out], ?_⟩
      refine (Hb2.out.alloc Hb2.out.size _).trans ((HG.out.below (by simp; omega) (fun c hc => by omega)).trans ?_)
      refine Below.trans ((Below.refl _ W).setCell (p := ⟨w.heap.size + 1, 0, none⟩) (by simp) (.bool true)) ?_
      exact ((Kp.refl (fun k => k < w.heap.size) _).putObj (fun h => by simp at hDs; omega) _).below (by have := HG.out.kp.size; simp [World.setCell] at this ⊢; omega) (fun k hk => hk)
    · rintro D c' C W hg ⟨rfl, hC2, hb2, hv⟩ hD hDC hDs
      have HV := Lib.hid hv
      have HD := Lib.hid hD
      have HG := Lib.hid hg
      have HB := Lib.hid hb2
      clear hD hg hv hb2
      gi_wp2
      have hR : Boxed (W.putObj D (.deferred none)) (w.heap.size + 1) 4 (.bool false) :=
        ((Kp.refl (fun c => c ≠ D) _).putObj (fun h => absurd rfl h) _).boxed HB.out (fun e => hDC (by rw [← e]; exact hC2))
      have hRc := hR.cell
      refine ⟨by simp, .inl ⟨_, _, rfl, run_takeDeferred HD.out, ?_⟩⟩
      refine ⟨.bool false, by simp [results, Try.results15, go_sem, hRc], by rw [HV.out], ?_⟩
      refine (Hb2.out.alloc Hb2.out.size _).trans ((HG.out.below (by simp; omega) (fun c hc => by omega)).trans ?_)
      exact ((Kp.refl (fun k => k < w.heap.size) _).putObj (fun h => by simp at hDs; omega) _).below (by have := HG.out.kp.size; simp at this; omega) (fun k hk => hk)
  · have hl' : vlab n = false := by simpa using hl
    obtain ⟨p, c, rfl, hc1, hc2, hrow⟩ := hv
    clear hrow hl
    go_enter Try.func15, Try.ntmps15
    go_wp2_with fail
    refine (HL.out _).mono ?_
    rintro e w1 ⟨rfl, rfl⟩
    rw [hl']
    go_wp2_with fail
    refine bodyPost_ret (v := .bool false) (by simp [results, Try.results15, go_sem]) rfl ⟨by simp [vh, hl'], ?_⟩
    exact ((Below.refl _ w).alloc (Nat.le_refl _) _).alloc (by simp) _

set_option maxHeartbeats 400000 in
theorem valid_ok (n l : Int) (vk : Value) (K : Hg) (w : World) (hl : (Lit.int .i64 l).wf = true) (hv : IsH w vk K) (hs : K.size < 1000000) :
    Calls Try.prog 13 #[.int .i64 n, .agg #[.int .i64 l, vk]] w fun e w' => e = .returned (.bool (vh n (.cons l K .nil))) ∧ Below w.heap.size w w' := by
  have hb1 := (Below.refl w.heap.size w).alloc (Nat.le_refl _) (.cells #[.int .i64 l, vk] 24)
  have hb2 := hb1.alloc (by simp) (.cells #[.int .i64 l, vk] 24)
  have hH : IsH ((w.alloc (.cells #[.int .i64 l, vk] 24)).alloc (.cells #[.int .i64 l, vk] 24)) (.slice (some ⟨w.heap.size + 1, 0, none⟩) 1 1) (.cons l K .nil) := by
    refine ⟨_, _, rfl, by simp [Hg.len], by decide, fun _ => ⟨_, _, rfl, ?_⟩⟩
    have hr := World.alloc_heap_new (w.alloc (.cells #[.int .i64 l, vk] 24)) (.cells #[.int .i64 l, vk] 24)
    simp only [World.size_alloc] at hr
    rw [Row.cons_iff]
    exact ⟨by rw [cell_of_row _ _ _ _ _ _ hr]; rfl, hl, ⟨vk, by rw [cell_of_row _ _ _ _ _ _ hr]; rfl, hv.below hb2⟩, trivial⟩
  have HV := Lib.hid (validHedge_ok n (.cons l K .nil) _ _ hH (by simp [Hg.size]; omega))
  obtain ⟨p, c, rfl, hc1, hc2, hrow⟩ := hv
  have Hb2 := Lib.hid hb2
  clear hrow hH hb1 hb2
  go_enter Try.func13, Try.ntmps13
  go_wp2_with fail
  refine HV.out.mono ?_
  rintro e w1 ⟨rfl, hb⟩
  go_wp2_with fail
  go_ret
  exact ⟨rfl, Hb2.out.trans (hb.mono (by simp; omega))⟩

end Go.Proofs.Ythdaeblfehclcab
