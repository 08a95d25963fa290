/- tree.Size and tree.Depth, by the iterator; ref01.Depth. -/
import Derived.Test.YthhliogcafmnfaaDoorTValid
import Derived.Shelf.Abstract
import Derived.Deep.RegionHeld3
namespace Go.Proofs.YthhliogcafmnfaaDoor
open Go.RowKit Go.Shelf
attribute [local go_sem] Oper.semAt_some fwd fwf

def Hg.dep : Hg → Nat
  | .nil => 0
  | .cons _ k r => max (k.dep + 1) r.dep
theorem Hg.dep_zero {h : Hg} (e : h.dep = 0) : h = .nil := by
  cases h with
  | nil => rfl
  | cons l k r => simp only [Hg.dep] at e; omega
theorem Hg.dep_le (h : Hg) : h.dep ≤ h.size := by
  induction h with
  | nil => exact Nat.le_refl _
  | cons l k r hk hr => simp only [Hg.dep, Hg.size]; omega
def dmax (m : Nat) (l : List (List Nat × Int × Hg)) : Nat := l.foldl (fun m x => max m (x.1.length + 1)) m
theorem dmax_append (m : Nat) (a b : List (List Nat × Int × Hg)) : dmax m (a ++ b) = dmax (dmax m a) b := by simp [dmax, List.foldl_append]
theorem dmax_subs : ∀ (h : Hg) (path : List Nat) (i m : Nat), dmax m (h.subs path i) = max m (if h.dep = 0 then 0 else path.length + 1 + h.dep)
  | .nil, _, _, m => by simp [Hg.subs, dmax, Hg.dep]
  | .cons l k r, path, i, m => by
    have e : Hg.subs (.cons l k r) path i = [(path ++ [i], l, k)] ++ (k.subs (path ++ [i]) 0 ++ r.subs path (i + 1)) := rfl
    rw [e, dmax_append, dmax_append, dmax_subs k, dmax_subs r]
    simp only [dmax, List.foldl_cons, List.foldl_nil, List.length_append, List.length_cons, List.length_nil, Hg.dep]
    have e0 : ¬ max (k.dep + 1) r.dep = 0 := by omega
    simp only [e0, if_false]
    split <;> split <;> omega
theorem dmax_tsubs (s : Int) (K : Hg) : dmax 0 (tsubs s K) = K.dep + 1 := by
  have e : tsubs s K = [([], s, K)] ++ K.subs [] 0 := rfl
  rw [e, dmax_append, dmax_subs]
  simp only [dmax, List.foldl_cons, List.foldl_nil, List.length_nil]
  split
  · next h => rw [h]; rfl
  · omega
theorem dmax_step {m : Nat} {l : List (List Nat × Int × Hg)} {k : Nat} {x : List Nat × Int × Hg} (hx : l[k]? = some x) : dmax m (l.take (k + 1)) = max (dmax m (l.take k)) (x.1.length + 1) := by
  rw [List.take_add_one, hx, dmax_append]; rfl

theorem dmax_le {B : Nat} : ∀ (l : List (List Nat × Int × Hg)) (m : Nat), m ≤ B → (∀ x ∈ l, x.1.length + 1 ≤ B) → dmax m l ≤ B
  | [], m, hm, _ => hm
  | x :: l, m, hm, h => dmax_le l _ (by have := h x (List.mem_cons_self ..); show max m (x.1.length + 1) ≤ B; omega) (fun y hy => h y (List.mem_cons_of_mem _ hy))
theorem subs_path : ∀ (h : Hg) (path : List Nat) (i : Nat) (x : List Nat × Int × Hg), x ∈ h.subs path i → x.1.length ≤ path.length + h.size
  | .nil, _, _, _, hx => by simp [Hg.subs] at hx
  | .cons l k r, path, i, x, hx => by
    simp only [Hg.subs, List.mem_cons, List.mem_append] at hx
    rcases hx with rfl | hx | hx
    · simp [Hg.size]
    · have := subs_path k _ _ x hx
      simp only [List.length_append, List.length_cons, List.length_nil] at this
      simp only [Hg.size]; omega
    · have := subs_path r _ _ x hx
      simp only [Hg.size]; omega
theorem tsubs_path (s : Int) (K : Hg) (x : List Nat × Int × Hg) (hx : x ∈ tsubs s K) : x.1.length ≤ K.size := by
  simp only [tsubs, List.mem_cons] at hx
  rcases hx with rfl | hx
  · simp
  · have := subs_path K [] 0 x hx
    simpa using this
theorem dmax_bound (s : Int) (K : Hg) (k : Nat) (hs : K.size ≤ 1000000) : dmax 0 ((tsubs s K).take k) ≤ 1000001 :=
  dmax_le _ _ (by omega) (fun x hx => by have := tsubs_path s K x (List.mem_of_mem_take hx); omega)

set_option maxRecDepth 100000 in
set_option maxHeartbeats 2000000 in
theorem tsize_ok (s : Int) (vk : Value) (K : Hg) (w : World) (hwf : (Lit.int .i64 s).wf = true) (hv : IsH w vk K) (hs : K.size ≤ 1000000) :
    Calls Tryd.prog 16 #[.agg #[.int .i64 s, vk]] w fun e w' => e = .returned (.int .i64 ((K.size : Int) + 1)) ∧ Below w.heap.size w w' := by
  have hbw : Below w.heap.size w ((w.alloc (.cells #[.int .i64 s, vk] 27)).alloc (.cells #[.int .i64 0] 3)) := ((Below.refl _ w).alloc (Nat.le_refl _) _).alloc (by simp) _
  have hB0 : Blk ((w.alloc (.cells #[.int .i64 s, vk] 27)).alloc (.cells #[.int .i64 0] 3)) w.heap.size 27 #[.int .i64 s, vk] := (Blk.new w _ _).alloc _
  have hBN : Blk ((w.alloc (.cells #[.int .i64 s, vk] 27)).alloc (.cells #[.int .i64 0] 3)) (w.heap.size + 1) 3 #[.int .i64 0] := by
    have := Blk.new (w.alloc (.cells #[.int .i64 s, vk] 27)) 3 #[.int .i64 0]
    rwa [World.size_alloc] at this
  have HN := Lib.hid (subtrees_any s vk K _ (hv.below hbw))
  have hIt := subs_iter s K vk (w.heap.size + 1 + 1) w (fun c => c = w.heap.size + 1) (((w.alloc (.cells #[.int .i64 s, vk] 27)).alloc (.cells #[.int .i64 0] 3)).alloc (.cells #[.int .i64 s, vk] 27)) hwf hv
    (hbw.alloc (by simp; omega) _) (fun c hc => by omega) (by have := Blk.new ((w.alloc (.cells #[.int .i64 s, vk] 27)).alloc (.cells #[.int .i64 0] 3)) 27 #[.int .i64 s, vk]; rwa [World.size_alloc, World.size_alloc] at this) hs
  have HIt := Lib.hid hIt
  have HBN := Lib.hid (hBN.alloc (.cells #[.int .i64 s, vk] 27))
  have HBL := Lib.hid (hbw.alloc (by simp; omega) (.cells #[.int .i64 s, vk] 27))
  have HTL := Lib.hid (tsubs_length s K)
  obtain ⟨p, c, rfl, hc1, hc2, hrow⟩ := hv
  clear hrow hbw hB0 hBN hIt
  refine Calls.of_callsIn (ro := none) (m := 0) ?_
  refine callsIn_of_wp_marks Tryd.func16 rfl trivial ?_ rfl
  simp only [Tryd.ntmps16, List.size_toArray, List.length_cons, List.length_nil, Nat.reduceAdd, Nat.reduceSub, Array.replicate_succ, Array.replicate_zero, List.push_toArray, List.append_toArray, List.nil_append, List.cons_append]
  gi_wp2_with fail
  refine (CallsIn.of_calls HN.out).mono ?_
  rintro e w1 ⟨rfl, rfl⟩
  gi_wp2_with fail
  refine rf_outer (gf := 111) (lb := #[.pointer (some ⟨w.heap.size + 1 + 1, 0, none⟩)]) (Enc := TEnc w) rfl (enters_of Tryd.func111 (by kernel_rfl) rfl) ?_ (tsubs s K) (fun c => c = w.heap.size + 1) ?_
    (fun k C W => C (w.heap.size + 1) ∧ Blk W (w.heap.size + 1) 3 #[.int .i64 (k : Int)]) (fun _ _ _ => False)
    (fun k a' C W => C (w.heap.size + 1) ∧ Blk W (w.heap.size + 1) 3 #[.int .i64 (k : Int)] ∧ ∃ (x : List Nat × Int × Hg) (pa : Option Addr) (pc : Nat) (u7 : Value), (tsubs s K)[k]? = some x ∧
      a' = { tmps := #[.agg #[.int .i64 s, .slice p K.len c], .pointer (some ⟨w.heap.size, 0, none⟩), .int .i64 0, .pointer (some ⟨w.heap.size + 1, 0, none⟩), .agg #[.int .i64 s, .slice p K.len c], .func (.func 111) #[] #[.pointer (some ⟨w.heap.size + 1 + 1, 0, none⟩)], .slice pa x.1.length pc, u7, undef, undef, undef], defers := [] })
    (fun k C W W' h hk => ⟨h.1, h.2.kp hk h.1⟩) (fun c C W W' h _ => h)
    (fun L k a' C W W' hL hn h hk => ⟨h.1, h.2.1.kp hk (fun e => hn (e ▸ h.1)), h.2.2⟩)
    HIt.out ⟨rfl, HBN.out⟩ ?_ ?_ ?_ ?_
  · rintro k x vals W ⟨pv, vk, rfl, _⟩
    rfl
  · intro c hc
    subst hc
    simp
  · rintro L k x vals C W K' hx ⟨pv, vk2, rfl, hwf2, hvk2, _, hpos⟩ hj hg hn hr hK
    obtain ⟨pa, pc, rfl, _⟩ := hpos
    have HJ := Lib.hid hj
    have HG := Lib.hid hg
    have HK := Lib.hid hK
    have HX := Lib.hid hx
    clear hj hg hK hx hvk2
    gi_wp2
    exact HK.out _ C W (Grow.refl HG.out.lt) ⟨HJ.out.1, HJ.out.2, x, pa, pc, .agg #[.int .i64 x.2.1, vk2], HX.out, by simp⟩
  · rintro L k a' C W hlt ⟨hC, hb, x, pa, pc, u7, hx, rfl⟩ hg hn hr
    have x1 : W.cell? ⟨w.heap.size + 1, 0, none⟩ = some (.int .i64 (k : Int)) := by rw [hb.cell]; rfl
    have x2 := hb.frozen 0
    have l1 := hb.lt
    rw [tsubs_length] at hlt
    have hxp := tsubs_path s K x (List.mem_of_getElem? hx)
    gi_wp2_with fail
    refine ⟨C, (Grow.refl hg.lt).setCell (p := ⟨w.heap.size + 1, 0, none⟩) hC _, hC, ?_⟩
    have := hb.set_ 0 (.int .i64 ((k : Int) + 1))
    simpa using this
  · rintro D C W hg ⟨hC, hb⟩ hD hDC hDs
    have x1 : W.cell? ⟨w.heap.size + 1, 0, none⟩ = some (.int .i64 ((K.size : Int) + 1)) := by rw [hb.cell, HTL.out]; simp
    have HD := Lib.hid hD
    have HG := Lib.hid hg
    clear hD hg hb
    gi_wp2_with fail
    refine ⟨by simp, .inl ⟨_, _, rfl, run_takeDeferred HD.out, ?_⟩⟩
    refine ⟨_, results_tmp rfl _ _ _, by simp, ?_⟩
    refine HBL.out.trans ((HG.out.below (by simp; omega) (fun c hc => by omega)).trans ?_)
    exact ((Kp.refl (fun k => k < w.heap.size) W).putObj (fun h => by simp at hDs; omega) _).below (by have := HG.out.kp.size; simp at this; omega) (fun k hk => hk)
  · rintro D c' C W hg h
    exact h.elim

set_option maxRecDepth 100000 in
set_option maxHeartbeats 2000000 in
theorem tdepth_ok (s : Int) (vk : Value) (K : Hg) (w : World) (hwf : (Lit.int .i64 s).wf = true) (hv : IsH w vk K) (hs : K.size ≤ 1000000) :
    Calls Tryd.prog 18 #[.agg #[.int .i64 s, vk]] w fun e w' => e = .returned (.int .i64 ((K.dep : Int) + 1)) ∧ Below w.heap.size w w' := by
  have hbw : Below w.heap.size w ((w.alloc (.cells #[.int .i64 s, vk] 27)).alloc (.cells #[.int .i64 0] 3)) := ((Below.refl _ w).alloc (Nat.le_refl _) _).alloc (by simp) _
  have hB0 : Blk ((w.alloc (.cells #[.int .i64 s, vk] 27)).alloc (.cells #[.int .i64 0] 3)) w.heap.size 27 #[.int .i64 s, vk] := (Blk.new w _ _).alloc _
  have hBN : Blk ((w.alloc (.cells #[.int .i64 s, vk] 27)).alloc (.cells #[.int .i64 0] 3)) (w.heap.size + 1) 3 #[.int .i64 0] := by
    have := Blk.new (w.alloc (.cells #[.int .i64 s, vk] 27)) 3 #[.int .i64 0]
    rwa [World.size_alloc] at this
  have HN := Lib.hid (subtrees_any s vk K _ (hv.below hbw))
  have hIt := subs_iter s K vk (w.heap.size + 1 + 1) w (fun c => c = w.heap.size + 1) (((w.alloc (.cells #[.int .i64 s, vk] 27)).alloc (.cells #[.int .i64 0] 3)).alloc (.cells #[.int .i64 s, vk] 27)) hwf hv
    (hbw.alloc (by simp; omega) _) (fun c hc => by omega) (by have := Blk.new ((w.alloc (.cells #[.int .i64 s, vk] 27)).alloc (.cells #[.int .i64 0] 3)) 27 #[.int .i64 s, vk]; rwa [World.size_alloc, World.size_alloc] at this) hs
  have HIt := Lib.hid hIt
  have HBN := Lib.hid (hBN.alloc (.cells #[.int .i64 s, vk] 27))
  have HBL := Lib.hid (hbw.alloc (by simp; omega) (.cells #[.int .i64 s, vk] 27))
  have HTL := Lib.hid (tsubs_length s K)
  obtain ⟨p, c, rfl, hc1, hc2, hrow⟩ := hv
  clear hrow hbw hB0 hBN hIt
  refine Calls.of_callsIn (ro := none) (m := 0) ?_
  refine callsIn_of_wp_marks Tryd.func18 rfl trivial ?_ rfl
  simp only [Tryd.ntmps18, List.size_toArray, List.length_cons, List.length_nil, Nat.reduceAdd, Nat.reduceSub, Array.replicate_succ, Array.replicate_zero, List.push_toArray, List.append_toArray, List.nil_append, List.cons_append]
  gi_wp2_with fail
  refine (CallsIn.of_calls HN.out).mono ?_
  rintro e w1 ⟨rfl, rfl⟩
  gi_wp2_with fail
  refine rf_outer (gf := 111) (lb := #[.pointer (some ⟨w.heap.size + 1 + 1, 0, none⟩)]) (Enc := TEnc w) rfl (enters_of Tryd.func111 (by kernel_rfl) rfl) ?_ (tsubs s K) (fun c => c = w.heap.size + 1) ?_
    (fun k C W => C (w.heap.size + 1) ∧ Blk W (w.heap.size + 1) 3 #[.int .i64 (dmax 0 ((tsubs s K).take k) : Nat)]) (fun _ _ _ => False)
    (fun k a' C W => C (w.heap.size + 1) ∧ Blk W (w.heap.size + 1) 3 #[.int .i64 (dmax 0 ((tsubs s K).take k) : Nat)] ∧ ∃ (x : List Nat × Int × Hg) (pa : Option Addr) (pc : Nat) (u7 : Value), (tsubs s K)[k]? = some x ∧
      a' = { tmps := #[.agg #[.int .i64 s, .slice p K.len c], .pointer (some ⟨w.heap.size, 0, none⟩), .int .i64 0, .pointer (some ⟨w.heap.size + 1, 0, none⟩), .slice pa x.1.length pc, .agg #[.int .i64 s, .slice p K.len c], .func (.func 111) #[] #[.pointer (some ⟨w.heap.size + 1 + 1, 0, none⟩)], .slice pa x.1.length pc, u7, undef, undef, undef, undef, undef, undef], defers := [] })
    (fun k C W W' h hk => ⟨h.1, h.2.kp hk h.1⟩) (fun c C W W' h _ => h)
    (fun L k a' C W W' hL hn h hk => ⟨h.1, h.2.1.kp hk (fun e => hn (e ▸ h.1)), h.2.2⟩)
    HIt.out ⟨rfl, HBN.out⟩ ?_ ?_ ?_ ?_
  · rintro k x vals W ⟨pv, vk, rfl, _⟩
    rfl
  · intro c hc
    subst hc
    simp
  · rintro L k x vals C W K' hx ⟨pv, vk2, rfl, hwf2, hvk2, _, hpos⟩ hj hg hn hr hK
    obtain ⟨pa, pc, rfl, _⟩ := hpos
    have HJ := Lib.hid hj
    have HG := Lib.hid hg
    have HK := Lib.hid hK
    have HX := Lib.hid hx
    clear hj hg hK hx hvk2
    gi_wp2
    exact HK.out _ C W (Grow.refl HG.out.lt) ⟨HJ.out.1, HJ.out.2, x, pa, pc, _, HX.out, rfl⟩
  · rintro L k a' C W hlt ⟨hC, hb, x, pa, pc, u7, hx, rfl⟩ hg hn hr
    have x1 : W.cell? ⟨w.heap.size + 1, 0, none⟩ = some (.int .i64 (dmax 0 ((tsubs s K).take k) : Nat)) := by rw [hb.cell]; rfl
    have x2 := hb.frozen 0
    have l1 := hb.lt
    rw [tsubs_length] at hlt
    have hxp := tsubs_path s K x (List.mem_of_getElem? hx)
    have HST := Lib.hid (dmax_step (m := 0) hx)
    have hdb : dmax 0 ((tsubs s K).take k) ≤ 1000001 := dmax_bound s K k hs
    generalize dmax 0 ((tsubs s K).take k) = m at x1 hdb HST hb
    have HB := Lib.hid hb
    have HG := Lib.hid hg
    clear hb hg hx
    gi_wp2_with fail
    all_goals
      refine ⟨C, (Grow.refl HG.out.lt).setCell (p := ⟨w.heap.size + 1, 0, none⟩) hC _, hC, ?_⟩
      rw [HST.out]
      first
        | (have h := HB.out.set_ 0 (.int .i64 ((x.1.length : Int) + 1)); rw [show max m (x.1.length + 1) = x.1.length + 1 by omega]; simpa using h)
        | (have h := HB.out.set_ 0 (.int .i64 (m : Int)); rw [show max m (x.1.length + 1) = m by omega]; simpa using h)
  · rintro D C W hg ⟨hC, hb⟩ hD hDC hDs
    have x1 : W.cell? ⟨w.heap.size + 1, 0, none⟩ = some (.int .i64 ((K.dep : Int) + 1)) := by rw [hb.cell, List.take_length, dmax_tsubs]; simp
    have HD := Lib.hid hD
    have HG := Lib.hid hg
    clear hD hg hb
    gi_wp2_with fail
    refine ⟨by simp, .inl ⟨_, _, rfl, run_takeDeferred HD.out, ?_⟩⟩
    refine ⟨_, results_tmp rfl _ _ _, by simp, ?_⟩
    refine HBL.out.trans ((HG.out.below (by simp; omega) (fun c hc => by omega)).trans ?_)
    exact ((Kp.refl (fun k => k < w.heap.size) W).putObj (fun h => by simp at hDs; omega) _).below (by have := HG.out.kp.size; simp at this; omega) (fun k hk => hk)
  · rintro D c' C W hg h
    exact h.elim

theorem int_eq {k : IntKind} {a b : Int} (h : a = b) : Value.int k a = .int k b := by rw [h]

set_option maxHeartbeats 400000 in
theorem rdepth_any (N : Nat) : ∀ (s : Int) (H : Hg) (v : Value) (w : World), H.size < N → H.size ≤ 1000000 → IsH w v H →
    Calls Tryd.prog 19 #[.agg #[.int .i64 s, v]] w fun e w' => e = .returned (.int .i64 ((H.dep : Int) + 1)) ∧ Below w.heap.size w w' := by
  induction N with
  | zero => intro s H v w hN; omega
  | succ N ih =>
    intro s H v w hN hmax hv
    obtain ⟨p, c, rfl, hc1, hc2, hrow⟩ := hv
    unfold maxLen at hc2
    have HI := Lib.hid ih
    have HR := Lib.hid hrow
    clear ih hrow
    go_enter Tryd.func19, Tryd.ntmps19
    go_wp2
    go_loopw [3, 9] (fun n i wr => ∃ (k d : Nat) (R : Hg), i = .int .i64 k ∧ n = .int .i64 (d : Int) ∧ Hid (k + R.len = H.len) ∧ Hid (max d R.dep = H.dep) ∧ Hid (R.size ≤ H.size) ∧ Below w.heap.size w wr ∧ (R ≠ .nil → ∃ b o, p = some ⟨b, o, none⟩ ∧ Row wr R b (o + k * 2)))
      (fun _ i _ => H.len - (intOf i).toNat)
    case atStart =>
      refine ⟨0, 0, H, rfl, rfl, Lib.hid (by simp), Lib.hid (by simp), Lib.hid (Nat.le_refl _), (Below.refl _ _).alloc (Nat.le_refl _) _, fun hne => ?_⟩
      obtain ⟨b, o, e, hr⟩ := HR.out hne
      exact ⟨b, o, e, by simpa using hr.below ((Below.refl _ _).alloc (Nat.le_refl _) _)⟩
    case round =>
      obtain ⟨k, d, R, rfl, rfl, hk, hd, hsz0, hb, hR⟩ := hrel
      have hdl : d ≤ 1000000 := by have h1 := hd.out; have h2 := Hg.dep_le H; omega
      cases R with
      | nil =>
        have hge : H.len ≤ k := by have := hk.out; simp only [Hg.len] at this; omega
        have HD : Hid (d = H.dep) := Lib.hid (by have := hd.out; simpa [Hg.dep] using this)
        clear hk hd hR HR
        go_wp2
        go_ret
        exact ⟨by rw [← HD.out]; rfl, hb⟩
      | cons l K R =>
        obtain ⟨b, o, rfl, hr⟩ := hR (by simp)
        rw [Row.cons_iff] at hr
        obtain ⟨c1, hl, ⟨vk, c2, hvk⟩, hr⟩ := hr
        have hvk' := hvk
        obtain ⟨p', c', rfl, hc1', hc2', _⟩ := hvk'
        have hlt : k < H.len := by have := hk.out; simp only [Hg.len] at this; omega
        have hds : K.size + R.size + 1 ≤ H.size := by have := hsz0.out; simp only [Hg.size] at this; omega
        have hkd := Hg.dep_le K
        have hdd : Hid (max (max d (K.dep + 1)) R.dep = H.dep) := Lib.hid (by have := hd.out; simp only [Hg.dep] at this; omega)
        have hbl := World.block_lt_of_cell? _ _ c1
        simp only at hbl
        have hba := (Below.refl wr.heap.size wr).alloc (Nat.le_refl _) (.cells #[.int .i64 l, .slice p' K.len c'] 27)
        have HW := Lib.hid (And.intro (hb.alloc hb.size (.cells #[.int .i64 l, .slice p' K.len c'] 27)) (And.intro (hr.below hba) (hvk.below hba)))
        have hsz := hb.size
        clear hR HR hr hvk hba hb
        go_wp2_with fail
        refine (HI.out l K _ _ (by omega) (by omega) HW.out.2.2).mono ?_
        rintro e w1 ⟨rfl, hb1⟩
        have HB1 := Lib.hid hb1
        clear hb1
        go_wp2_with fail
        go_roundw
        case rel =>
          refine ⟨k + 1, max d (K.dep + 1), R, by go_num, int_eq (by omega), Lib.hid (by have := hk.out; simp only [Hg.len] at this; omega), hdd, Lib.hid (by omega), HW.out.1.trans (HB1.out.mono (by simp; omega)), fun _ => ⟨b, o, rfl, ?_⟩⟩
          rw [show o + (k + 1) * 2 = o + k * 2 + 2 from by omega]; exact HW.out.2.1.below HB1.out
        case measure => simp [intOf]; omega

theorem rdepth_ok (s : Int) (H : Hg) (v : Value) (w : World) (hs : H.size ≤ 1000000) (hv : IsH w v H) :
    Calls Tryd.prog 19 #[.agg #[.int .i64 s, v]] w fun e w' => e = .returned (.int .i64 ((H.dep : Int) + 1)) ∧ Below w.heap.size w w' :=
  rdepth_any _ s H v w (Nat.lt_succ_self _) hs hv


end Go.Proofs.YthhliogcafmnfaaDoor
