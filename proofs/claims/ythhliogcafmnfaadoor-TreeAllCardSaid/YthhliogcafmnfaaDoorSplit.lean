/- split. -/
import Derived.Test.YthhliogcafmnfaaDoorDL
namespace Go.Proofs.YthhliogcafmnfaaDoor
open Go.RowKit Go.Shelf
attribute [local go_sem] Oper.semAt_some fwd fwf

theorem Kp.same {S : Nat → Prop} {a w : World} {B : Nat} {t : TypeId} {u : Value} (h : Kp S a w) (hb : Blk w B t #[u]) : Kp S a (w.setCell ⟨B, 0, none⟩ u) :=
  ⟨h.os, h.tape, h.output, by simpa [World.setCell] using h.size, fun k hk hs => by
    by_cases e : k = B
    · subst e
      rw [show (w.setCell ⟨k, 0, none⟩ u).heap[k]? = some (.cells #[u] t (0, 0)) from hb.set_ 0 u, ← h.block k hk hs]
      exact hb.symm
    · exact (Below.heap_setCell w _ u k e).trans (h.block k hk hs)⟩
theorem Grow.same {C C' : Nat → Prop} {a w : World} {B : Nat} {t : TypeId} {u : Value} (h : Grow C a C' w) (hb : Blk w B t #[u]) : Grow C a C' (w.setCell ⟨B, 0, none⟩ u) :=
  ⟨h.sub, h.new, fun c hc => by simpa [World.setCell] using h.lt c hc, h.kp.same hb⟩

theorem flat_at {α β γ : Type} (f : α → β → γ) (xs : List α) (ys : List β) : ∀ (j i : Nat) (x : α) (y : β), xs[j]? = some x → ys[i]? = some y → (xs.flatMap fun t => ys.map (f t))[j * ys.length + i]? = some (f x y) := by
  induction xs with
  | nil => intro j i x y h; simp at h
  | cons a xs ih =>
    intro j i x y hx hy
    have hi := (List.getElem?_eq_some_iff.1 hy).1
    cases j with
    | zero =>
      simp at hx
      subst hx
      rw [List.flatMap_cons, Nat.zero_mul, Nat.zero_add, List.getElem?_append_left (by simpa using hi), List.getElem?_map, hy]
      rfl
    | succ j =>
      rw [List.flatMap_cons, List.getElem?_append_right (by simp [Nat.succ_mul]; omega)]
      have := ih j i x y (by simpa using hx) hy
      rw [← this]
      congr 1
      simp [Nat.succ_mul]; omega
theorem flat_len {α β γ : Type} (f : α → β → γ) (xs : List α) (ys : List β) : (xs.flatMap fun t => ys.map (f t)).length = xs.length * ys.length := by
  induction xs with
  | nil => simp
  | cons a xs ih => rw [List.flatMap_cons, List.length_append, ih]; simp [Nat.succ_mul, Nat.add_comm]

theorem leaves_colv {P : Program} {F : Fence} {n : Nat} {fn : Func} {tmps : Array Value} {R : Ending → World → Prop} {v : Value} (D : Nat) (W : World) (hd : W.heap[D]? = some (.deferred (some []))) (hres : (results fn tmps).run P (W.putObj D (.deferred none)) = .ok v (W.putObj D (.deferred none))) (hR : R (.returned v) (W.putObj D (.deferred none))) :
    LeavesInM F n P fn tmps R [col D] .returning W :=
  ⟨by simp, .inl ⟨D, _, rfl, run_takeDeferred hd, v, hres, hR⟩⟩

theorem results_bool {fn : Func} {p : Tmp} (h : fn.results = #[.cell p 4]) (tmps : Array Value) (w : World) (B : Nat) {v : Value} (hp : tmps.getD p undef = .pointer (some ⟨B, 0, none⟩)) (hb : Boxed w B 4 v) :
    (results fn tmps).run Tryd.prog w = .ok v w := by
  have hc := hb.cell
  have hp' : tmps[p]?.getD undef = .pointer (some ⟨B, 0, none⟩) := by simpa using hp
  simp only [results, h]
  have hl : (loadVar 4 ⟨B, 0, none⟩).run Tryd.prog w = .ok v w := by go_simp
  simp [hp', asAddr, hl]

theorem LL_size {ranks : List Nat} (hr : ∀ r ∈ ranks, r ≤ 3) : ∀ (k n : Nat) (x : Hg), x ∈ LL ranks k n → x.len = k := by
  intro k
  induction k with
  | zero =>
    intro n x h
    rw [LL_zero] at h
    split at h
    · rw [List.mem_singleton] at h; subst h; rfl
    · cases h
  | succ k ih =>
    intro n x h
    rw [LL_succ hr] at h
    simp only [List.mem_flatMap, List.mem_map] at h
    obtain ⟨i, _, t, _, r, hr2, rfl⟩ := h
    simp [Hg.len, ih _ _ hr2]

set_option maxRecDepth 100000 in
set_option maxHeartbeats 8000000 in
theorem split_any (wB : World) (b : Nat) (rv : Value) (ranks : List Nat) (hB : Cens wB b rv ranks) (k n s : Nat) (hk1 : 1 ≤ k) (hk3 : k ≤ 3) (hs1 : 1 ≤ s) (hsn : s ≤ n) (hn12 : n ≤ 12)
    (hT : TIter wB ranks b s) (hF : FIter wB ranks b (k - 1) (n - s)) : Splits wB ranks b k n s := by
  intro L xs J Jx C1 W1 hw1 hC1 hJ hJx hY base C W hgW h0 hxs
  have hbw : Below wB.heap.size wB W := hw1.trans (hgW.below hw1.size hC1)
  have HJ := Lib.hid hJ
  have HJX := Lib.hid hJx
  have HY := Lib.hid hY
  have HF := Lib.hid hF
  have HT := Lib.hid hT
  have HBW := Lib.hid hbw
  have HGW := Lib.hid hgW
  have HC1 := Lib.hid hC1
  have HW1 := Lib.hid hw1
  have H0 := Lib.hid h0
  have HXS := Lib.hid hxs
  have HLE := Lib.hid hB.le
  have hCw : ∀ c, C c → wB.heap.size ≤ c := fun c hc => (hgW.new c hc).elim (hC1 c) (fun h => Nat.le_trans hw1.size h)
  have hCl := hgW.lt
  have hsz := hgW.kp.size
  clear hJ hJx hY hF hT hbw hgW hC1 hw1 h0 hxs hB
  have hme1 : ((k : Int) - 1) = ((k - 1 : Nat) : Int) := by omega
  have hme2 : ((n : Int) - (s : Int)) = ((n - s : Nat) : Int) := by omega
  have q13 : IntKind.i64.wrap ((k - 1 : Nat) : Int) = ((k - 1 : Nat) : Int) := IntWalk.i64_in _ (by omega)
  have q14 : IntKind.i64.wrap ((n - s : Nat) : Int) = ((n - s : Nat) : Int) := IntWalk.i64_in _ (by omega)
  refine Calls.of_callsIn (ro := none) (m := 0) ?_
  refine callsIn_of_wp_marks Tryd.func147 rfl trivial ?_ rfl
  simp only [Tryd.ntmps147, List.size_toArray, List.length_cons, List.length_nil, Nat.reduceAdd, Nat.reduceSub, Array.replicate_succ, Array.replicate_zero, List.push_toArray, List.append_toArray, List.nil_append, List.cons_append]
  gi_wp2_with fail
  refine (CallsIn.of_calls (trees_any b _ _)).mono ?_
  rintro e w2 ⟨rfl, rfl⟩
  have hq0 : Boxed ((((((((W.alloc (.cells #[.pointer (some ⟨b, 0, none⟩)] 146)).alloc (.cells #[.int .i64 (k : Nat)] 3)).alloc (.cells #[.int .i64 (n : Nat)] 3)).alloc (.cells #[.int .i64 (s : Nat)] 3)).alloc (.cells #[.func (.yield L) #[] #[]] 202)).alloc (.cells #[.bool false] 4)).alloc (.cells #[.pointer (some ⟨b, 0, none⟩)] 146)).alloc (.cells #[.int .i64 (s : Nat)] 3)) W.heap.size 146 (.pointer (some ⟨b, 0, none⟩)) := by
    have := (((((((Boxed.new W 146 (.pointer (some ⟨b, 0, none⟩))).alloc (.cells #[.int .i64 (k : Nat)] 3)).alloc (.cells #[.int .i64 (n : Nat)] 3)).alloc (.cells #[.int .i64 (s : Nat)] 3)).alloc (.cells #[.func (.yield L) #[] #[]] 202)).alloc (.cells #[.bool false] 4)).alloc (.cells #[.pointer (some ⟨b, 0, none⟩)] 146)).alloc (.cells #[.int .i64 (s : Nat)] 3); simpa using this
  have hq1 : Boxed ((((((((W.alloc (.cells #[.pointer (some ⟨b, 0, none⟩)] 146)).alloc (.cells #[.int .i64 (k : Nat)] 3)).alloc (.cells #[.int .i64 (n : Nat)] 3)).alloc (.cells #[.int .i64 (s : Nat)] 3)).alloc (.cells #[.func (.yield L) #[] #[]] 202)).alloc (.cells #[.bool false] 4)).alloc (.cells #[.pointer (some ⟨b, 0, none⟩)] 146)).alloc (.cells #[.int .i64 (s : Nat)] 3)) (W.heap.size + 1) 3 (.int .i64 (k : Nat)) := by
    have := ((((((Boxed.new (W.alloc (.cells #[.pointer (some ⟨b, 0, none⟩)] 146)) 3 (.int .i64 (k : Nat))).alloc (.cells #[.int .i64 (n : Nat)] 3)).alloc (.cells #[.int .i64 (s : Nat)] 3)).alloc (.cells #[.func (.yield L) #[] #[]] 202)).alloc (.cells #[.bool false] 4)).alloc (.cells #[.pointer (some ⟨b, 0, none⟩)] 146)).alloc (.cells #[.int .i64 (s : Nat)] 3); simpa using this
  have hq2 : Boxed ((((((((W.alloc (.cells #[.pointer (some ⟨b, 0, none⟩)] 146)).alloc (.cells #[.int .i64 (k : Nat)] 3)).alloc (.cells #[.int .i64 (n : Nat)] 3)).alloc (.cells #[.int .i64 (s : Nat)] 3)).alloc (.cells #[.func (.yield L) #[] #[]] 202)).alloc (.cells #[.bool false] 4)).alloc (.cells #[.pointer (some ⟨b, 0, none⟩)] 146)).alloc (.cells #[.int .i64 (s : Nat)] 3)) (W.heap.size + 1 + 1) 3 (.int .i64 (n : Nat)) := by
    have := (((((Boxed.new ((W.alloc (.cells #[.pointer (some ⟨b, 0, none⟩)] 146)).alloc (.cells #[.int .i64 (k : Nat)] 3)) 3 (.int .i64 (n : Nat))).alloc (.cells #[.int .i64 (s : Nat)] 3)).alloc (.cells #[.func (.yield L) #[] #[]] 202)).alloc (.cells #[.bool false] 4)).alloc (.cells #[.pointer (some ⟨b, 0, none⟩)] 146)).alloc (.cells #[.int .i64 (s : Nat)] 3); simpa using this
  have hq3 : Boxed ((((((((W.alloc (.cells #[.pointer (some ⟨b, 0, none⟩)] 146)).alloc (.cells #[.int .i64 (k : Nat)] 3)).alloc (.cells #[.int .i64 (n : Nat)] 3)).alloc (.cells #[.int .i64 (s : Nat)] 3)).alloc (.cells #[.func (.yield L) #[] #[]] 202)).alloc (.cells #[.bool false] 4)).alloc (.cells #[.pointer (some ⟨b, 0, none⟩)] 146)).alloc (.cells #[.int .i64 (s : Nat)] 3)) (W.heap.size + 1 + 1 + 1) 3 (.int .i64 (s : Nat)) := by
    have := ((((Boxed.new (((W.alloc (.cells #[.pointer (some ⟨b, 0, none⟩)] 146)).alloc (.cells #[.int .i64 (k : Nat)] 3)).alloc (.cells #[.int .i64 (n : Nat)] 3)) 3 (.int .i64 (s : Nat))).alloc (.cells #[.func (.yield L) #[] #[]] 202)).alloc (.cells #[.bool false] 4)).alloc (.cells #[.pointer (some ⟨b, 0, none⟩)] 146)).alloc (.cells #[.int .i64 (s : Nat)] 3); simpa using this
  have hq4 : Boxed ((((((((W.alloc (.cells #[.pointer (some ⟨b, 0, none⟩)] 146)).alloc (.cells #[.int .i64 (k : Nat)] 3)).alloc (.cells #[.int .i64 (n : Nat)] 3)).alloc (.cells #[.int .i64 (s : Nat)] 3)).alloc (.cells #[.func (.yield L) #[] #[]] 202)).alloc (.cells #[.bool false] 4)).alloc (.cells #[.pointer (some ⟨b, 0, none⟩)] 146)).alloc (.cells #[.int .i64 (s : Nat)] 3)) (W.heap.size + 1 + 1 + 1 + 1) 202 (.func (.yield L) #[] #[]) := by
    have := (((Boxed.new ((((W.alloc (.cells #[.pointer (some ⟨b, 0, none⟩)] 146)).alloc (.cells #[.int .i64 (k : Nat)] 3)).alloc (.cells #[.int .i64 (n : Nat)] 3)).alloc (.cells #[.int .i64 (s : Nat)] 3)) 202 (.func (.yield L) #[] #[])).alloc (.cells #[.bool false] 4)).alloc (.cells #[.pointer (some ⟨b, 0, none⟩)] 146)).alloc (.cells #[.int .i64 (s : Nat)] 3); simpa using this
  have hq5 : Boxed ((((((((W.alloc (.cells #[.pointer (some ⟨b, 0, none⟩)] 146)).alloc (.cells #[.int .i64 (k : Nat)] 3)).alloc (.cells #[.int .i64 (n : Nat)] 3)).alloc (.cells #[.int .i64 (s : Nat)] 3)).alloc (.cells #[.func (.yield L) #[] #[]] 202)).alloc (.cells #[.bool false] 4)).alloc (.cells #[.pointer (some ⟨b, 0, none⟩)] 146)).alloc (.cells #[.int .i64 (s : Nat)] 3)) (W.heap.size + 1 + 1 + 1 + 1 + 1) 4 (.bool false) := by
    have := ((Boxed.new (((((W.alloc (.cells #[.pointer (some ⟨b, 0, none⟩)] 146)).alloc (.cells #[.int .i64 (k : Nat)] 3)).alloc (.cells #[.int .i64 (n : Nat)] 3)).alloc (.cells #[.int .i64 (s : Nat)] 3)).alloc (.cells #[.func (.yield L) #[] #[]] 202)) 4 (.bool false)).alloc (.cells #[.pointer (some ⟨b, 0, none⟩)] 146)).alloc (.cells #[.int .i64 (s : Nat)] 3); simpa using this
  have hq6 : Boxed ((((((((W.alloc (.cells #[.pointer (some ⟨b, 0, none⟩)] 146)).alloc (.cells #[.int .i64 (k : Nat)] 3)).alloc (.cells #[.int .i64 (n : Nat)] 3)).alloc (.cells #[.int .i64 (s : Nat)] 3)).alloc (.cells #[.func (.yield L) #[] #[]] 202)).alloc (.cells #[.bool false] 4)).alloc (.cells #[.pointer (some ⟨b, 0, none⟩)] 146)).alloc (.cells #[.int .i64 (s : Nat)] 3)) (W.heap.size + 1 + 1 + 1 + 1 + 1 + 1) 146 (.pointer (some ⟨b, 0, none⟩)) := by
    have := (Boxed.new ((((((W.alloc (.cells #[.pointer (some ⟨b, 0, none⟩)] 146)).alloc (.cells #[.int .i64 (k : Nat)] 3)).alloc (.cells #[.int .i64 (n : Nat)] 3)).alloc (.cells #[.int .i64 (s : Nat)] 3)).alloc (.cells #[.func (.yield L) #[] #[]] 202)).alloc (.cells #[.bool false] 4)) 146 (.pointer (some ⟨b, 0, none⟩))).alloc (.cells #[.int .i64 (s : Nat)] 3); simpa using this
  have hq7 : Boxed ((((((((W.alloc (.cells #[.pointer (some ⟨b, 0, none⟩)] 146)).alloc (.cells #[.int .i64 (k : Nat)] 3)).alloc (.cells #[.int .i64 (n : Nat)] 3)).alloc (.cells #[.int .i64 (s : Nat)] 3)).alloc (.cells #[.func (.yield L) #[] #[]] 202)).alloc (.cells #[.bool false] 4)).alloc (.cells #[.pointer (some ⟨b, 0, none⟩)] 146)).alloc (.cells #[.int .i64 (s : Nat)] 3)) (W.heap.size + 1 + 1 + 1 + 1 + 1 + 1 + 1) 3 (.int .i64 (s : Nat)) := by
    have := Boxed.new (((((((W.alloc (.cells #[.pointer (some ⟨b, 0, none⟩)] 146)).alloc (.cells #[.int .i64 (k : Nat)] 3)).alloc (.cells #[.int .i64 (n : Nat)] 3)).alloc (.cells #[.int .i64 (s : Nat)] 3)).alloc (.cells #[.func (.yield L) #[] #[]] 202)).alloc (.cells #[.bool false] 4)).alloc (.cells #[.pointer (some ⟨b, 0, none⟩)] 146)) 3 (.int .i64 (s : Nat)); simpa using this
  have hqk : Kp (fun _ => True) W ((((((((W.alloc (.cells #[.pointer (some ⟨b, 0, none⟩)] 146)).alloc (.cells #[.int .i64 (k : Nat)] 3)).alloc (.cells #[.int .i64 (n : Nat)] 3)).alloc (.cells #[.int .i64 (s : Nat)] 3)).alloc (.cells #[.func (.yield L) #[] #[]] 202)).alloc (.cells #[.bool false] 4)).alloc (.cells #[.pointer (some ⟨b, 0, none⟩)] 146)).alloc (.cells #[.int .i64 (s : Nat)] 3)) := ((((((((Kp.refl _ _).alloc (.cells #[.pointer (some ⟨b, 0, none⟩)] 146)).alloc (.cells #[.int .i64 (k : Nat)] 3)).alloc (.cells #[.int .i64 (n : Nat)] 3)).alloc (.cells #[.int .i64 (s : Nat)] 3)).alloc (.cells #[.func (.yield L) #[] #[]] 202)).alloc (.cells #[.bool false] 4)).alloc (.cells #[.pointer (some ⟨b, 0, none⟩)] 146)).alloc (.cells #[.int .i64 (s : Nat)] 3)
  have hqz : W.heap.size + 1 + 1 + 1 + 1 + 1 + 1 + 1 + 1 = ((((((((W.alloc (.cells #[.pointer (some ⟨b, 0, none⟩)] 146)).alloc (.cells #[.int .i64 (k : Nat)] 3)).alloc (.cells #[.int .i64 (n : Nat)] 3)).alloc (.cells #[.int .i64 (s : Nat)] 3)).alloc (.cells #[.func (.yield L) #[] #[]] 202)).alloc (.cells #[.bool false] 4)).alloc (.cells #[.pointer (some ⟨b, 0, none⟩)] 146)).alloc (.cells #[.int .i64 (s : Nat)] 3)).heap.size := by simp

  gi_wp2_with fail
  generalize ((((((((W.alloc (.cells #[.pointer (some ⟨b, 0, none⟩)] 146)).alloc (.cells #[.int .i64 (k : Nat)] 3)).alloc (.cells #[.int .i64 (n : Nat)] 3)).alloc (.cells #[.int .i64 (s : Nat)] 3)).alloc (.cells #[.func (.yield L) #[] #[]] 202)).alloc (.cells #[.bool false] 4)).alloc (.cells #[.pointer (some ⟨b, 0, none⟩)] 146)).alloc (.cells #[.int .i64 (s : Nat)] 3)) = w8 at hq0 hq1 hq2 hq3 hq4 hq5 hq6 hq7 hqk hqz ⊢
  have hC8 : ∀ c, C c → c < w8.heap.size := fun c hc => by have := hCl c hc; omega
  have hnew : ∀ c, W.heap.size ≤ c → ¬ C c := fun c hc h => by have := hCl c h; omega
  have hg8 : Grow C1 W1 C w8 := HGW.out.own (hqk.mono fun _ _ _ => trivial)
  have hIter := HT.out (W.heap.size + 1 + 1 + 1 + 1 + 1 + 1) (W.heap.size + 1 + 1 + 1 + 1 + 1 + 1 + 1) C w8 (HBW.out.trans (hqk.below HBW.out.size (fun _ _ => trivial))) hCw hC8 hq6 hq7 (hnew _ (by omega)) (hnew _ (by omega))
  refine rd_outer (gf := 120) (lb := #[.pointer (some ⟨(W.heap.size + 1 + 1 + 1 + 1 + 1 + 1), 0, none⟩), .pointer (some ⟨(W.heap.size + 1 + 1 + 1 + 1 + 1 + 1 + 1), 0, none⟩)]) (Enc := QEnc) rfl (enters_of Tryd.func120 (by kernel_rfl) rfl) ?_ (fun k x vals C C' W h e => e.mono h) (TT ranks s) C hC8
    (fun j C' W' => J (base + j * (LL ranks (k - 1) (n - s)).length) C' W') (fun c' C' W' => c' = .ret ∧ Jx C' W')
    (fun L2 j a' C2 W2 => J (base + j * (LL ranks (k - 1) (n - s)).length) C2 W2 ∧ ∃ (t : Int × Hg) (vk : Value) (Bf : Nat), (TT ranks s)[j]? = some t ∧ (Lit.int .i64 t.1).wf = true ∧ IsHS (fun c => ¬ (C2 c ∨ c = L2)) W2 vk t.2 ∧ Blk W2 Bf 27 #[.int .i64 t.1, vk] ∧ ¬ C2 Bf ∧ Bf ≠ L2 ∧ a' = { tmps := #[.pointer (some ⟨b, 0, none⟩), .int .i64 (k : Nat), .int .i64 (n : Nat), .int .i64 (s : Nat), .func (.yield L) #[] #[], .pointer (some ⟨W.heap.size, 0, none⟩), .pointer (some ⟨W.heap.size + 1, 0, none⟩), .pointer (some ⟨W.heap.size + 1 + 1, 0, none⟩), .pointer (some ⟨W.heap.size + 1 + 1 + 1, 0, none⟩), .pointer (some ⟨W.heap.size + 1 + 1 + 1 + 1, 0, none⟩), .pointer (some ⟨W.heap.size + 1 + 1 + 1 + 1 + 1, 0, none⟩), .pointer (some ⟨Bf, 0, none⟩), undef, .pointer (some ⟨b, 0, none⟩), .int .i64 (s : Nat), .func (.func 120) #[] #[.pointer (some ⟨W.heap.size + 1 + 1 + 1 + 1 + 1 + 1, 0, none⟩), .pointer (some ⟨W.heap.size + 1 + 1 + 1 + 1 + 1 + 1 + 1, 0, none⟩)], .agg #[.int .i64 t.1, vk], undef, undef, undef, undef, undef, undef, undef, undef, undef, undef, undef, undef, undef, undef, undef], defers := [] })
    (fun j C' W' W'' h hk => HJ.out _ _ _ _ h hk) (fun c' C' W' W'' h hk => ⟨h.1, HJX.out _ _ _ h.2 hk⟩) ?_ hIter ?_ ?_ ?_ ?_ ?_
  · rintro j x vals C' W' ⟨vk, rfl, _⟩; rfl
  · rintro L2 j a' C' W' W'' hL hn ⟨h1, t, vk, Bf, h2, h3, h4, h5, h6, h7, h8⟩ hk
    exact ⟨HJ.out _ _ _ _ h1 (hk.mono (fun c _ hc e => hn (e ▸ hc))), t, vk, Bf, h2, h3, h4.kp (hk.mono (fun c _ hc e => hc (.inr e))), h5.kp hk h7, h6, h7, h8⟩
  · show J (base + 0 * _) C w8
    rw [Nat.zero_mul]
    exact HJ.out _ _ _ _ H0.out (hqk.mono fun _ _ _ => trivial)
  · rintro L2 j x vals C' W' K' hx ⟨vk, rfl, hwf, hks⟩ hj2 hg hn hr hK
    obtain ⟨r, hr⟩ := hr
    have hr2 := (Array.getElem?_eq_some_iff.1 hr).1
    clear hq0 hq1 hq2 hq3 hq4 hq5 hq6 hq7 hIter hr
    have hks' := hks
    obtain ⟨pk, ck, rfl, _⟩ := hks'
    gi_wp2
    refine hK _ C' _ ((Grow.refl hg.lt).alloc_ (.cells #[.int .i64 x.1, .slice pk x.2.len ck] 27)) ⟨HJ.out _ _ _ _ hj2 ((Kp.refl _ _).alloc _), x, _, W'.heap.size, hx, hwf, hks.kp ((Kp.refl _ _).alloc _), Blk.new _ _ _, fun h => by have := hg.lt _ h; omega, by omega, rfl⟩
  · rintro L2 j a' C2 W2 hlt2 ⟨hj2, t, vk, Bf, htt, hwf, hks, hBf, hnf, hne, rfl⟩ hg hn hr
    obtain ⟨r0, hr0⟩ := hr
    have v0 := hg.kp.boxed hq0 (hnew _ (by omega))
    have v1 := hg.kp.boxed hq1 (hnew _ (by omega))
    have v2 := hg.kp.boxed hq2 (hnew _ (by omega))
    have v3 := hg.kp.boxed hq3 (hnew _ (by omega))
    have v4 := hg.kp.boxed hq4 (hnew _ (by omega))
    have v5 := hg.kp.boxed hq5 (hnew _ (by omega))
    have y0 := v0.cell
    have y1 := v1.cell
    have y2 := v2.cell
    have y3 := v3.cell
    have y4 := v4.cell
    have y5 := v5.cell
    have l0 := v0.lt
    have l1 := v1.lt
    have l2 := v2.lt
    have l3 := v3.lt
    have l4 := v4.lt
    have l5 := v5.lt
    have lf := hBf.lt
    have hgW2 := hg8.trans hg
    clear hq0 hq1 hq2 hq3 hq4 hq5 hq6 hq7 hIter
    gi_wp2_with fail
    refine (CallsIn.of_calls (forests_any b _ _ _)).mono ?_
    rintro e w5 ⟨rfl, rfl⟩
    have ft0 : Boxed (((W2.alloc (.cells #[.pointer (some ⟨b, 0, none⟩)] 146)).alloc (.cells #[.int .i64 ((k - 1 : Nat) : Int)] 3)).alloc (.cells #[.int .i64 ((n - s : Nat) : Int)] 3)) W2.heap.size 146 (.pointer (some ⟨b, 0, none⟩)) := by
      have := ((Boxed.new W2 146 (.pointer (some ⟨b, 0, none⟩))).alloc (.cells #[.int .i64 ((k - 1 : Nat) : Int)] 3)).alloc (.cells #[.int .i64 ((n - s : Nat) : Int)] 3); simpa using this
    have ft1 : Boxed (((W2.alloc (.cells #[.pointer (some ⟨b, 0, none⟩)] 146)).alloc (.cells #[.int .i64 ((k - 1 : Nat) : Int)] 3)).alloc (.cells #[.int .i64 ((n - s : Nat) : Int)] 3)) (W2.heap.size + 1) 3 (.int .i64 ((k - 1 : Nat) : Int)) := by
      have := (Boxed.new (W2.alloc (.cells #[.pointer (some ⟨b, 0, none⟩)] 146)) 3 (.int .i64 ((k - 1 : Nat) : Int))).alloc (.cells #[.int .i64 ((n - s : Nat) : Int)] 3); simpa using this
    have ft2 : Boxed (((W2.alloc (.cells #[.pointer (some ⟨b, 0, none⟩)] 146)).alloc (.cells #[.int .i64 ((k - 1 : Nat) : Int)] 3)).alloc (.cells #[.int .i64 ((n - s : Nat) : Int)] 3)) (W2.heap.size + 1 + 1) 3 (.int .i64 ((n - s : Nat) : Int)) := by
      have := Boxed.new ((W2.alloc (.cells #[.pointer (some ⟨b, 0, none⟩)] 146)).alloc (.cells #[.int .i64 ((k - 1 : Nat) : Int)] 3)) 3 (.int .i64 ((n - s : Nat) : Int)); simpa using this
    have ftk : Kp (fun _ => True) W2 (((W2.alloc (.cells #[.pointer (some ⟨b, 0, none⟩)] 146)).alloc (.cells #[.int .i64 ((k - 1 : Nat) : Int)] 3)).alloc (.cells #[.int .i64 ((n - s : Nat) : Int)] 3)) := (((Kp.refl _ _).alloc (.cells #[.pointer (some ⟨b, 0, none⟩)] 146)).alloc (.cells #[.int .i64 ((k - 1 : Nat) : Int)] 3)).alloc (.cells #[.int .i64 ((n - s : Nat) : Int)] 3)
    have ftz : W2.heap.size + 1 + 1 + 1 = (((W2.alloc (.cells #[.pointer (some ⟨b, 0, none⟩)] 146)).alloc (.cells #[.int .i64 ((k - 1 : Nat) : Int)] 3)).alloc (.cells #[.int .i64 ((n - s : Nat) : Int)] 3)).heap.size := by simp

    gi_wp2_with fail
    generalize (((W2.alloc (.cells #[.pointer (some ⟨b, 0, none⟩)] 146)).alloc (.cells #[.int .i64 ((k - 1 : Nat) : Int)] 3)).alloc (.cells #[.int .i64 ((n - s : Nat) : Int)] 3)) = w3 at ft0 ft1 ft2 ftk ftz ⊢
    have hC2l : ∀ c, C2 c → c < W2.heap.size := hg.lt
    have hnew2 : ∀ c, W2.heap.size ≤ c → ¬ C2 c := fun c hc h => by have := hC2l c h; omega
    have hg3 : Grow C1 W1 C2 w3 := hgW2.own (ftk.mono fun _ _ _ => trivial)
    have hC3 : ∀ c, C2 c → c < w3.heap.size := hg3.lt
    have hb3 : Below wB.heap.size wB w3 := HW1.out.trans (hg3.below HW1.out.size HC1.out)
    have hC2w : ∀ c, C2 c → wB.heap.size ≤ c := fun c hc => (hg3.new c hc).elim (HC1.out c) (fun h => Nat.le_trans HW1.out.size h)
    have hIter2 := HF.out (W2.heap.size) (W2.heap.size + 1) (W2.heap.size + 1 + 1) C2 w3 hb3 hC2w hC3 ft0 ft1 ft2 (hnew2 _ (by omega)) (hnew2 _ (by omega)) (hnew2 _ (by omega))
    have hw3s : W2.heap.size ≤ w3.heap.size := by omega
    have HJ2 := Lib.hid (HJ.out _ _ _ _ hj2 (ftk.mono fun _ _ _ => trivial))
    have hl3 : w3.heap[L2]? = some (.loop r0) := ftk.heap hr0 trivial
    have hrl := (Array.getElem?_eq_some_iff.1 hr0).1
    have HVB := Lib.hid (fun (B : Nat) (t : TypeId) (v : Value) (h : Boxed W2 B t v) => ftk.boxed h trivial)
    have v0 := HVB.out _ _ _ v0
    have v1 := HVB.out _ _ _ v1
    have v4 := HVB.out _ _ _ v4
    have v5 := HVB.out _ _ _ v5
    have hBf3 : Blk w3 Bf 27 #[.int .i64 t.1, vk] := hBf.kp ftk trivial
    have hks3 : IsHS (fun c => ¬ C2 c ∧ c < W2.heap.size) w3 vk t.2 := (hks.mono (S' := fun c => ¬ C2 c ∧ c < W2.heap.size) (fun c hc h => ⟨fun g => h (.inl g), hc⟩)).kp (ftk.mono fun _ _ _ => trivial)
    refine rd_inner (gf := 146) (lb := #[.pointer (some ⟨(W2.heap.size), 0, none⟩), .pointer (some ⟨(W2.heap.size + 1), 0, none⟩), .pointer (some ⟨(W2.heap.size + 1 + 1), 0, none⟩)]) (Enc := FEnc) hl3 rfl (enters_of Tryd.func146 (by kernel_rfl) rfl) ?_ (fun k x vals C C' W h e => e.mono h) (LL ranks (k - 1) (n - s)) C2 hC3
      (fun i C' W' => J (base + j * (LL ranks (k - 1) (n - s)).length + i) C' W') (fun c' C' W' => c' = .ret ∧ Jx C' W')
      (fun L3 i a' C' W' => J (base + j * (LL ranks (k - 1) (n - s)).length + i) C' W' ∧ ∃ (R : Hg) (vr : Value), (LL ranks (k - 1) (n - s))[i]? = some R ∧ IsHS (fun c => ¬ (C' c ∨ c = L3)) W' vr R ∧ a' = { tmps := #[.pointer (some ⟨b, 0, none⟩), .int .i64 (k : Nat), .int .i64 (n : Nat), .int .i64 (s : Nat), .func (.yield L) #[] #[], .pointer (some ⟨W.heap.size, 0, none⟩), .pointer (some ⟨W.heap.size + 1, 0, none⟩), .pointer (some ⟨W.heap.size + 1 + 1, 0, none⟩), .pointer (some ⟨W.heap.size + 1 + 1 + 1, 0, none⟩), .pointer (some ⟨W.heap.size + 1 + 1 + 1 + 1, 0, none⟩), .pointer (some ⟨W.heap.size + 1 + 1 + 1 + 1 + 1, 0, none⟩), .pointer (some ⟨Bf, 0, none⟩), vr, .pointer (some ⟨b, 0, none⟩), .int .i64 (s : Nat), .func (.func 120) #[] #[.pointer (some ⟨W.heap.size + 1 + 1 + 1 + 1 + 1 + 1, 0, none⟩), .pointer (some ⟨W.heap.size + 1 + 1 + 1 + 1 + 1 + 1 + 1, 0, none⟩)], .agg #[.int .i64 t.1, vk], .pointer (some ⟨b, 0, none⟩), .int .i64 (k : Nat), .int .i64 ((k - 1 : Nat) : Int), .int .i64 (n : Nat), .int .i64 (s : Nat), .int .i64 ((n - s : Nat) : Int), .func (.func 146) #[] #[.pointer (some ⟨W2.heap.size, 0, none⟩), .pointer (some ⟨W2.heap.size + 1, 0, none⟩), .pointer (some ⟨W2.heap.size + 1 + 1, 0, none⟩)], vr, undef, undef, undef, undef, undef, undef, undef], defers := [] })
      (fun i C' W' W'' h hk => HJ.out _ _ _ _ h hk) (fun c' C' W' W'' h hk => ⟨h.1, HJX.out _ _ _ h.2 hk⟩) ?_ hIter2 HJ2.out ?_ ?_ ?_ ?_
    · rintro i x vals C' W' ⟨vr, rfl, _⟩; rfl
    · rintro L3 i a' C' W' W'' hL hn ⟨h1, R, vr, h2, h3, h4⟩ hk
      exact ⟨HJ.out _ _ _ _ h1 (hk.mono (fun c _ hc e => hn (e ▸ hc))), R, vr, h2, h3.kp (hk.mono (fun c _ hc e => hc (.inr e))), h4⟩
    · rintro L3 i x vals C' W' K' hx ⟨vr, rfl, hrs⟩ hj3 hg4 hn3 hr3 hK
      gi_wp2
      exact hK _ C' W' (Grow.refl hg4.lt) ⟨hj3, x, vr, hx, hrs, rfl⟩
    · rintro L3 i a' C' W' hlt3 ⟨hj3, R, vr, hRR, hrs, rfl⟩ hg4 hn3 ⟨r3, hr3⟩
      have hgrow := hg3.trans hg4
      have u4 := hg4.kp.boxed v4 (fun h => (hg.new _ h).elim (hnew _ (by omega)) (fun g => by omega))
      have u5 := hg4.kp.boxed v5 (fun h => (hg.new _ h).elim (hnew _ (by omega)) (fun g => by omega))
      have uf : Blk W' Bf 27 #[.int .i64 t.1, vk] := hBf3.kp hg4.kp hnf
      have uk : IsHS (fun c => ¬ C' c ∧ c < W'.heap.size) W' vk t.2 := (hks3.kp (hg4.kp.mono fun _ _ h => h.1)).mono (fun c hc h => ⟨fun g => (hg4.new _ g).elim h.1 (fun g => by have := h.2; omega), hc⟩)
      have ur : IsHS (fun c => ¬ C' c ∧ c < W'.heap.size) W' vr R := hrs.mono (fun c hc h => ⟨fun g => h (.inl g), hc⟩)
      have hn4 : ¬ C' (W.heap.size + 1 + 1 + 1 + 1) := fun h => (hg4.new _ h).elim (fun h => (hg.new _ h).elim (hnew _ (by omega)) (fun g => by omega)) (fun g => by omega)
      have hn5 : ¬ C' (W.heap.size + 1 + 1 + 1 + 1 + 1) := fun h => (hg4.new _ h).elim (fun h => (hg.new _ h).elim (hnew _ (by omega)) (fun g => by omega)) (fun g => by omega)
      have hxi : xs[base + j * (LL ranks (k - 1) (n - s)).length + i]? = some (.cons t.1 t.2 R) := by
        rw [Nat.add_assoc]
        exact HXS.out _ _ (flat_at (fun (t : Int × Hg) r => Hg.cons t.1 t.2 r) _ _ j i t R htt hRR)
      have hRl : R.len ≤ 1000000 := by
        have := LL_size HLE.out _ _ _ (List.mem_of_getElem? hRR)
        omega
      have hYA : ∀ v' w', IsHS (fun c => (¬ C' c ∧ c < W'.heap.size) ∨ W'.heap.size ≤ c) w' v' (.cons t.1 t.2 R) → Kp (fun c => c ≠ W'.heap.size) (W'.drew.alloc (.cells #[.int .i64 t.1, vk] 27)) w' →
          Grow C' W' C' w' ∧ Yields Tryd.prog L #[v'] w' fun e W'' => ∃ C'', Grow C' w' C'' W'' ∧ ((e = .returned (.bool true) ∧ J (base + j * (LL ranks (k - 1) (n - s)).length + i + 1) C'' W'') ∨ (e = .returned (.bool false) ∧ Jx C'' W'')) := fun v' w' hv hkv => by
        have hkw : Kp (fun c => c < W'.heap.size) W' w' := (((Kp.refl _ W').drew).alloc _).trans (hkv.mono (fun c hc h => by omega))
        have hgw : Grow C' W' C' w' := (Grow.refl hg4.lt).own hkw
        exact ⟨hgw, HY.out _ _ #[v'] C' w' hxi ⟨v', rfl, hv.mono (fun c _ h hc => h.elim (fun h => h.1 hc) (fun h => by have := hg4.lt _ hc; omega))⟩ (hgrow.trans hgw) (HJ.out _ _ _ _ hj3 (hkw.mono (fun c hc h => hc)))⟩
      have HYA := Lib.hid hYA
      have HU4 := Lib.hid u4
      have HU5 := Lib.hid u5
      have HUF := Lib.hid uf
      have HUK := Lib.hid uk
      have HUR := Lib.hid ur
      obtain ⟨pk, ck, rfl, _⟩ := hks
      have z1 := u4.cell
      have z2 := u4.lt
      have z3 := uf.cell 0
      have z4 := uf.cell 1
      have z5 := uf.lt
      have z3 : W'.cell? ⟨Bf, 0, none⟩ = some (.int .i64 t.1) := z3
      have z4 : W'.cell? ⟨Bf, 1, none⟩ = some (.slice pk t.2.len ck) := z4
      clear ft0 ft1 ft2 ftk hIter2 v0 v1 v4 v5 y0 y1 y2 y3 y4 y5 hYA u4 u5 uf uk ur hxi hks3 hBf3 hBf
      gi_wp2_with fail
      refine wpIn_region_any (by kernel_rfl) ?_
      change wpAnyIn _ _ _ _ _ _ _ _ _ (World.drew _)
      refine wpAnyIn_ready (rs := [0, 1, 3]) (by kernel_rfl) (by simp) ?_
      refine AllReadyIn.cons rfl (fun K hK => ?_) ?_
      · go_simp
        refine hK _ _ ?_
        clear hK K
        refine wpAnyIn_ready (rs := [1, 3]) (by kernel_rfl) (by simp) ?_
        refine AllReadyIn.cons rfl (fun K hK => ?_) ?_
        · go_simp
          refine hK _ _ ?_
          clear hK K
          refine wpAnyIn_ready (rs := [2, 3]) (by kernel_rfl) (by simp) ?_
          refine AllReadyIn.cons rfl (fun K hK => ?_) ?_
          · go_simp
            refine hK _ _ ?_
            clear hK K
            refine wpAnyIn_ready (rs := [3]) (by kernel_rfl) (by simp) ?_
            refine AllReadyIn.cons rfl (fun K hK => ?_) AllReadyIn.nil
            go_simp
            refine hK _ _ ?_
            clear hK K
            refine wpAnyIn_ready (rs := [4]) (by kernel_rfl) (by simp) ?_
            refine AllReadyIn.cons rfl (fun K hK => ?_) AllReadyIn.nil
            refine step_tree_append (W'.drew.alloc (.cells #[.int .i64 t.1, .slice pk t.2.len ck] 27)) rfl (.tmp 27) (.tmp 28) rfl (fun c => ¬ C' c ∧ c < W'.heap.size) W'.heap.size t.1 t.2 R _ _ rfl rfl (Blk.new W'.drew _ _) hwf (HUK.out.kp (((Kp.refl _ _).drew).alloc _)) (HUR.out.kp (((Kp.refl _ _).drew).alloc _)) (fun c h e => by have := h.2; omega) hRl ?_
            intro v' w' hv hkv
            obtain ⟨hgw, hYY⟩ := HYA.out v' w' hv hkv
            have z1 := (hgw.kp.boxed HU4.out hn4).cell
            have HYY := Lib.hid hYY
            have HGW := Lib.hid hgw
            clear hv hkv hYY hgw
            refine hK _ _ ?_
            clear hK K
            refine wpAnyIn_ready (rs := [5]) (by kernel_rfl) (by simp) ?_
            refine AllReadyIn.cons rfl (fun K hK => ?_) AllReadyIn.nil
            refine step_yield _ rfl (.tmp 25) (.tmp 29) #[25] rfl L _ rfl rfl _ HYY.out ?_
            rintro e W3 ⟨C3, hg5, ⟨rfl, hj5⟩ | ⟨rfl, hx5⟩⟩
            · refine ⟨_, rfl, ?_⟩
              refine hK _ _ ?_
              clear hK K HYY z1 z2 z3 z4 z5
              refine wpAnyIn_ready (rs := [6]) (by kernel_rfl) (by simp) ?_
              refine AllReadyIn.cons rfl (fun K hK => ?_) AllReadyIn.nil
              go_simp
              refine hK _ _ ?_
              clear hK K
              refine wpAnyIn_done (by kernel_rfl) ?_ _
              gi_wp2
              exact ⟨C3, HGW.out.trans hg5, hj5⟩
            · refine ⟨_, rfl, ?_⟩
              refine hK _ _ ?_
              clear hK K HYY z1 z2 z3 z4 z5
              refine wpAnyIn_ready (rs := [6]) (by kernel_rfl) (by simp) ?_
              refine AllReadyIn.cons rfl (fun K hK => ?_) AllReadyIn.nil
              go_simp
              refine hK _ _ ?_
              clear hK K
              refine wpAnyIn_done (by kernel_rfl) ?_ _
              have b5 := (HGW.out.trans hg5).kp.boxed HU5.out hn5
              have c5 := b5.cell
              have f5 := b5.frozen
              have g5 := b5.lt
              gi_wp2
              exact ⟨C3, (HGW.out.trans hg5).same b5, rfl, HJX.out _ _ _ hx5 ((Kp.refl _ _).same b5)⟩
          refine AllReadyIn.cons rfl (fun K hK => ?_) AllReadyIn.nil
          go_simp
          refine hK _ _ ?_
          clear hK K
          refine wpAnyIn_ready (rs := [2]) (by kernel_rfl) (by simp) ?_
          refine AllReadyIn.cons rfl (fun K hK => ?_) AllReadyIn.nil
          go_simp
          refine hK _ _ ?_
          clear hK K
          refine wpAnyIn_ready (rs := [4]) (by kernel_rfl) (by simp) ?_
          refine AllReadyIn.cons rfl (fun K hK => ?_) AllReadyIn.nil
          refine step_tree_append (W'.drew.alloc (.cells #[.int .i64 t.1, .slice pk t.2.len ck] 27)) rfl (.tmp 27) (.tmp 28) rfl (fun c => ¬ C' c ∧ c < W'.heap.size) W'.heap.size t.1 t.2 R _ _ rfl rfl (Blk.new W'.drew _ _) hwf (HUK.out.kp (((Kp.refl _ _).drew).alloc _)) (HUR.out.kp (((Kp.refl _ _).drew).alloc _)) (fun c h e => by have := h.2; omega) hRl ?_
          intro v' w' hv hkv
          obtain ⟨hgw, hYY⟩ := HYA.out v' w' hv hkv
          have z1 := (hgw.kp.boxed HU4.out hn4).cell
          have HYY := Lib.hid hYY
          have HGW := Lib.hid hgw
          clear hv hkv hYY hgw
          refine hK _ _ ?_
          clear hK K
          refine wpAnyIn_ready (rs := [5]) (by kernel_rfl) (by simp) ?_
          refine AllReadyIn.cons rfl (fun K hK => ?_) AllReadyIn.nil
          refine step_yield _ rfl (.tmp 25) (.tmp 29) #[25] rfl L _ rfl rfl _ HYY.out ?_
          rintro e W3 ⟨C3, hg5, ⟨rfl, hj5⟩ | ⟨rfl, hx5⟩⟩
          · refine ⟨_, rfl, ?_⟩
            refine hK _ _ ?_
            clear hK K HYY z1 z2 z3 z4 z5
            refine wpAnyIn_ready (rs := [6]) (by kernel_rfl) (by simp) ?_
            refine AllReadyIn.cons rfl (fun K hK => ?_) AllReadyIn.nil
            go_simp
            refine hK _ _ ?_
            clear hK K
            refine wpAnyIn_done (by kernel_rfl) ?_ _
            gi_wp2
            exact ⟨C3, HGW.out.trans hg5, hj5⟩
          · refine ⟨_, rfl, ?_⟩
            refine hK _ _ ?_
            clear hK K HYY z1 z2 z3 z4 z5
            refine wpAnyIn_ready (rs := [6]) (by kernel_rfl) (by simp) ?_
            refine AllReadyIn.cons rfl (fun K hK => ?_) AllReadyIn.nil
            go_simp
            refine hK _ _ ?_
            clear hK K
            refine wpAnyIn_done (by kernel_rfl) ?_ _
            have b5 := (HGW.out.trans hg5).kp.boxed HU5.out hn5
            have c5 := b5.cell
            have f5 := b5.frozen
            have g5 := b5.lt
            gi_wp2
            exact ⟨C3, (HGW.out.trans hg5).same b5, rfl, HJX.out _ _ _ hx5 ((Kp.refl _ _).same b5)⟩
        refine AllReadyIn.cons rfl (fun K hK => ?_) AllReadyIn.nil
        go_simp
        refine hK _ _ ?_
        clear hK K
        refine wpAnyIn_ready (rs := [1]) (by kernel_rfl) (by simp) ?_
        refine AllReadyIn.cons rfl (fun K hK => ?_) AllReadyIn.nil
        go_simp
        refine hK _ _ ?_
        clear hK K
        refine wpAnyIn_ready (rs := [2]) (by kernel_rfl) (by simp) ?_
        refine AllReadyIn.cons rfl (fun K hK => ?_) AllReadyIn.nil
        go_simp
        refine hK _ _ ?_
        clear hK K
        refine wpAnyIn_ready (rs := [4]) (by kernel_rfl) (by simp) ?_
        refine AllReadyIn.cons rfl (fun K hK => ?_) AllReadyIn.nil
        refine step_tree_append (W'.drew.alloc (.cells #[.int .i64 t.1, .slice pk t.2.len ck] 27)) rfl (.tmp 27) (.tmp 28) rfl (fun c => ¬ C' c ∧ c < W'.heap.size) W'.heap.size t.1 t.2 R _ _ rfl rfl (Blk.new W'.drew _ _) hwf (HUK.out.kp (((Kp.refl _ _).drew).alloc _)) (HUR.out.kp (((Kp.refl _ _).drew).alloc _)) (fun c h e => by have := h.2; omega) hRl ?_
        intro v' w' hv hkv
        obtain ⟨hgw, hYY⟩ := HYA.out v' w' hv hkv
        have z1 := (hgw.kp.boxed HU4.out hn4).cell
        have HYY := Lib.hid hYY
        have HGW := Lib.hid hgw
        clear hv hkv hYY hgw
        refine hK _ _ ?_
        clear hK K
        refine wpAnyIn_ready (rs := [5]) (by kernel_rfl) (by simp) ?_
        refine AllReadyIn.cons rfl (fun K hK => ?_) AllReadyIn.nil
        refine step_yield _ rfl (.tmp 25) (.tmp 29) #[25] rfl L _ rfl rfl _ HYY.out ?_
        rintro e W3 ⟨C3, hg5, ⟨rfl, hj5⟩ | ⟨rfl, hx5⟩⟩
        · refine ⟨_, rfl, ?_⟩
          refine hK _ _ ?_
          clear hK K HYY z1 z2 z3 z4 z5
          refine wpAnyIn_ready (rs := [6]) (by kernel_rfl) (by simp) ?_
          refine AllReadyIn.cons rfl (fun K hK => ?_) AllReadyIn.nil
          go_simp
          refine hK _ _ ?_
          clear hK K
          refine wpAnyIn_done (by kernel_rfl) ?_ _
          gi_wp2
          exact ⟨C3, HGW.out.trans hg5, hj5⟩
        · refine ⟨_, rfl, ?_⟩
          refine hK _ _ ?_
          clear hK K HYY z1 z2 z3 z4 z5
          refine wpAnyIn_ready (rs := [6]) (by kernel_rfl) (by simp) ?_
          refine AllReadyIn.cons rfl (fun K hK => ?_) AllReadyIn.nil
          go_simp
          refine hK _ _ ?_
          clear hK K
          refine wpAnyIn_done (by kernel_rfl) ?_ _
          have b5 := (HGW.out.trans hg5).kp.boxed HU5.out hn5
          have c5 := b5.cell
          have f5 := b5.frozen
          have g5 := b5.lt
          gi_wp2
          exact ⟨C3, (HGW.out.trans hg5).same b5, rfl, HJX.out _ _ _ hx5 ((Kp.refl _ _).same b5)⟩
      refine AllReadyIn.cons rfl (fun K hK => ?_) ?_
      · go_simp
        refine hK _ _ ?_
        clear hK K
        refine wpAnyIn_ready (rs := [0, 2, 3]) (by kernel_rfl) (by simp) ?_
        refine AllReadyIn.cons rfl (fun K hK => ?_) ?_
        · go_simp
          refine hK _ _ ?_
          clear hK K
          refine wpAnyIn_ready (rs := [2, 3]) (by kernel_rfl) (by simp) ?_
          refine AllReadyIn.cons rfl (fun K hK => ?_) ?_
          · go_simp
            refine hK _ _ ?_
            clear hK K
            refine wpAnyIn_ready (rs := [3]) (by kernel_rfl) (by simp) ?_
            refine AllReadyIn.cons rfl (fun K hK => ?_) AllReadyIn.nil
            go_simp
            refine hK _ _ ?_
            clear hK K
            refine wpAnyIn_ready (rs := [4]) (by kernel_rfl) (by simp) ?_
            refine AllReadyIn.cons rfl (fun K hK => ?_) AllReadyIn.nil
            refine step_tree_append (W'.drew.alloc (.cells #[.int .i64 t.1, .slice pk t.2.len ck] 27)) rfl (.tmp 27) (.tmp 28) rfl (fun c => ¬ C' c ∧ c < W'.heap.size) W'.heap.size t.1 t.2 R _ _ rfl rfl (Blk.new W'.drew _ _) hwf (HUK.out.kp (((Kp.refl _ _).drew).alloc _)) (HUR.out.kp (((Kp.refl _ _).drew).alloc _)) (fun c h e => by have := h.2; omega) hRl ?_
            intro v' w' hv hkv
            obtain ⟨hgw, hYY⟩ := HYA.out v' w' hv hkv
            have z1 := (hgw.kp.boxed HU4.out hn4).cell
            have HYY := Lib.hid hYY
            have HGW := Lib.hid hgw
            clear hv hkv hYY hgw
            refine hK _ _ ?_
            clear hK K
            refine wpAnyIn_ready (rs := [5]) (by kernel_rfl) (by simp) ?_
            refine AllReadyIn.cons rfl (fun K hK => ?_) AllReadyIn.nil
            refine step_yield _ rfl (.tmp 25) (.tmp 29) #[25] rfl L _ rfl rfl _ HYY.out ?_
            rintro e W3 ⟨C3, hg5, ⟨rfl, hj5⟩ | ⟨rfl, hx5⟩⟩
            · refine ⟨_, rfl, ?_⟩
              refine hK _ _ ?_
              clear hK K HYY z1 z2 z3 z4 z5
              refine wpAnyIn_ready (rs := [6]) (by kernel_rfl) (by simp) ?_
              refine AllReadyIn.cons rfl (fun K hK => ?_) AllReadyIn.nil
              go_simp
              refine hK _ _ ?_
              clear hK K
              refine wpAnyIn_done (by kernel_rfl) ?_ _
              gi_wp2
              exact ⟨C3, HGW.out.trans hg5, hj5⟩
            · refine ⟨_, rfl, ?_⟩
              refine hK _ _ ?_
              clear hK K HYY z1 z2 z3 z4 z5
              refine wpAnyIn_ready (rs := [6]) (by kernel_rfl) (by simp) ?_
              refine AllReadyIn.cons rfl (fun K hK => ?_) AllReadyIn.nil
              go_simp
              refine hK _ _ ?_
              clear hK K
              refine wpAnyIn_done (by kernel_rfl) ?_ _
              have b5 := (HGW.out.trans hg5).kp.boxed HU5.out hn5
              have c5 := b5.cell
              have f5 := b5.frozen
              have g5 := b5.lt
              gi_wp2
              exact ⟨C3, (HGW.out.trans hg5).same b5, rfl, HJX.out _ _ _ hx5 ((Kp.refl _ _).same b5)⟩
          refine AllReadyIn.cons rfl (fun K hK => ?_) AllReadyIn.nil
          go_simp
          refine hK _ _ ?_
          clear hK K
          refine wpAnyIn_ready (rs := [2]) (by kernel_rfl) (by simp) ?_
          refine AllReadyIn.cons rfl (fun K hK => ?_) AllReadyIn.nil
          go_simp
          refine hK _ _ ?_
          clear hK K
          refine wpAnyIn_ready (rs := [4]) (by kernel_rfl) (by simp) ?_
          refine AllReadyIn.cons rfl (fun K hK => ?_) AllReadyIn.nil
          refine step_tree_append (W'.drew.alloc (.cells #[.int .i64 t.1, .slice pk t.2.len ck] 27)) rfl (.tmp 27) (.tmp 28) rfl (fun c => ¬ C' c ∧ c < W'.heap.size) W'.heap.size t.1 t.2 R _ _ rfl rfl (Blk.new W'.drew _ _) hwf (HUK.out.kp (((Kp.refl _ _).drew).alloc _)) (HUR.out.kp (((Kp.refl _ _).drew).alloc _)) (fun c h e => by have := h.2; omega) hRl ?_
          intro v' w' hv hkv
          obtain ⟨hgw, hYY⟩ := HYA.out v' w' hv hkv
          have z1 := (hgw.kp.boxed HU4.out hn4).cell
          have HYY := Lib.hid hYY
          have HGW := Lib.hid hgw
          clear hv hkv hYY hgw
          refine hK _ _ ?_
          clear hK K
          refine wpAnyIn_ready (rs := [5]) (by kernel_rfl) (by simp) ?_
          refine AllReadyIn.cons rfl (fun K hK => ?_) AllReadyIn.nil
          refine step_yield _ rfl (.tmp 25) (.tmp 29) #[25] rfl L _ rfl rfl _ HYY.out ?_
          rintro e W3 ⟨C3, hg5, ⟨rfl, hj5⟩ | ⟨rfl, hx5⟩⟩
          · refine ⟨_, rfl, ?_⟩
            refine hK _ _ ?_
            clear hK K HYY z1 z2 z3 z4 z5
            refine wpAnyIn_ready (rs := [6]) (by kernel_rfl) (by simp) ?_
            refine AllReadyIn.cons rfl (fun K hK => ?_) AllReadyIn.nil
            go_simp
            refine hK _ _ ?_
            clear hK K
            refine wpAnyIn_done (by kernel_rfl) ?_ _
            gi_wp2
            exact ⟨C3, HGW.out.trans hg5, hj5⟩
          · refine ⟨_, rfl, ?_⟩
            refine hK _ _ ?_
            clear hK K HYY z1 z2 z3 z4 z5
            refine wpAnyIn_ready (rs := [6]) (by kernel_rfl) (by simp) ?_
            refine AllReadyIn.cons rfl (fun K hK => ?_) AllReadyIn.nil
            go_simp
            refine hK _ _ ?_
            clear hK K
            refine wpAnyIn_done (by kernel_rfl) ?_ _
            have b5 := (HGW.out.trans hg5).kp.boxed HU5.out hn5
            have c5 := b5.cell
            have f5 := b5.frozen
            have g5 := b5.lt
            gi_wp2
            exact ⟨C3, (HGW.out.trans hg5).same b5, rfl, HJX.out _ _ _ hx5 ((Kp.refl _ _).same b5)⟩
        refine AllReadyIn.cons rfl (fun K hK => ?_) ?_
        · go_simp
          refine hK _ _ ?_
          clear hK K
          refine wpAnyIn_ready (rs := [0, 3]) (by kernel_rfl) (by simp) ?_
          refine AllReadyIn.cons rfl (fun K hK => ?_) ?_
          · go_simp
            refine hK _ _ ?_
            clear hK K
            refine wpAnyIn_ready (rs := [3]) (by kernel_rfl) (by simp) ?_
            refine AllReadyIn.cons rfl (fun K hK => ?_) AllReadyIn.nil
            go_simp
            refine hK _ _ ?_
            clear hK K
            refine wpAnyIn_ready (rs := [4]) (by kernel_rfl) (by simp) ?_
            refine AllReadyIn.cons rfl (fun K hK => ?_) AllReadyIn.nil
            refine step_tree_append (W'.drew.alloc (.cells #[.int .i64 t.1, .slice pk t.2.len ck] 27)) rfl (.tmp 27) (.tmp 28) rfl (fun c => ¬ C' c ∧ c < W'.heap.size) W'.heap.size t.1 t.2 R _ _ rfl rfl (Blk.new W'.drew _ _) hwf (HUK.out.kp (((Kp.refl _ _).drew).alloc _)) (HUR.out.kp (((Kp.refl _ _).drew).alloc _)) (fun c h e => by have := h.2; omega) hRl ?_
            intro v' w' hv hkv
            obtain ⟨hgw, hYY⟩ := HYA.out v' w' hv hkv
            have z1 := (hgw.kp.boxed HU4.out hn4).cell
            have HYY := Lib.hid hYY
            have HGW := Lib.hid hgw
            clear hv hkv hYY hgw
            refine hK _ _ ?_
            clear hK K
            refine wpAnyIn_ready (rs := [5]) (by kernel_rfl) (by simp) ?_
            refine AllReadyIn.cons rfl (fun K hK => ?_) AllReadyIn.nil
            refine step_yield _ rfl (.tmp 25) (.tmp 29) #[25] rfl L _ rfl rfl _ HYY.out ?_
            rintro e W3 ⟨C3, hg5, ⟨rfl, hj5⟩ | ⟨rfl, hx5⟩⟩
            · refine ⟨_, rfl, ?_⟩
              refine hK _ _ ?_
              clear hK K HYY z1 z2 z3 z4 z5
              refine wpAnyIn_ready (rs := [6]) (by kernel_rfl) (by simp) ?_
              refine AllReadyIn.cons rfl (fun K hK => ?_) AllReadyIn.nil
              go_simp
              refine hK _ _ ?_
              clear hK K
              refine wpAnyIn_done (by kernel_rfl) ?_ _
              gi_wp2
              exact ⟨C3, HGW.out.trans hg5, hj5⟩
            · refine ⟨_, rfl, ?_⟩
              refine hK _ _ ?_
              clear hK K HYY z1 z2 z3 z4 z5
              refine wpAnyIn_ready (rs := [6]) (by kernel_rfl) (by simp) ?_
              refine AllReadyIn.cons rfl (fun K hK => ?_) AllReadyIn.nil
              go_simp
              refine hK _ _ ?_
              clear hK K
              refine wpAnyIn_done (by kernel_rfl) ?_ _
              have b5 := (HGW.out.trans hg5).kp.boxed HU5.out hn5
              have c5 := b5.cell
              have f5 := b5.frozen
              have g5 := b5.lt
              gi_wp2
              exact ⟨C3, (HGW.out.trans hg5).same b5, rfl, HJX.out _ _ _ hx5 ((Kp.refl _ _).same b5)⟩
          refine AllReadyIn.cons rfl (fun K hK => ?_) AllReadyIn.nil
          go_simp
          refine hK _ _ ?_
          clear hK K
          refine wpAnyIn_ready (rs := [0, 4]) (by kernel_rfl) (by simp) ?_
          refine AllReadyIn.cons rfl (fun K hK => ?_) ?_
          · go_simp
            refine hK _ _ ?_
            clear hK K
            refine wpAnyIn_ready (rs := [4]) (by kernel_rfl) (by simp) ?_
            refine AllReadyIn.cons rfl (fun K hK => ?_) AllReadyIn.nil
            refine step_tree_append (W'.drew.alloc (.cells #[.int .i64 t.1, .slice pk t.2.len ck] 27)) rfl (.tmp 27) (.tmp 28) rfl (fun c => ¬ C' c ∧ c < W'.heap.size) W'.heap.size t.1 t.2 R _ _ rfl rfl (Blk.new W'.drew _ _) hwf (HUK.out.kp (((Kp.refl _ _).drew).alloc _)) (HUR.out.kp (((Kp.refl _ _).drew).alloc _)) (fun c h e => by have := h.2; omega) hRl ?_
            intro v' w' hv hkv
            obtain ⟨hgw, hYY⟩ := HYA.out v' w' hv hkv
            have z1 := (hgw.kp.boxed HU4.out hn4).cell
            have HYY := Lib.hid hYY
            have HGW := Lib.hid hgw
            clear hv hkv hYY hgw
            refine hK _ _ ?_
            clear hK K
            refine wpAnyIn_ready (rs := [5]) (by kernel_rfl) (by simp) ?_
            refine AllReadyIn.cons rfl (fun K hK => ?_) AllReadyIn.nil
            refine step_yield _ rfl (.tmp 25) (.tmp 29) #[25] rfl L _ rfl rfl _ HYY.out ?_
            rintro e W3 ⟨C3, hg5, ⟨rfl, hj5⟩ | ⟨rfl, hx5⟩⟩
            · refine ⟨_, rfl, ?_⟩
              refine hK _ _ ?_
              clear hK K HYY z1 z2 z3 z4 z5
              refine wpAnyIn_ready (rs := [6]) (by kernel_rfl) (by simp) ?_
              refine AllReadyIn.cons rfl (fun K hK => ?_) AllReadyIn.nil
              go_simp
              refine hK _ _ ?_
              clear hK K
              refine wpAnyIn_done (by kernel_rfl) ?_ _
              gi_wp2
              exact ⟨C3, HGW.out.trans hg5, hj5⟩
            · refine ⟨_, rfl, ?_⟩
              refine hK _ _ ?_
              clear hK K HYY z1 z2 z3 z4 z5
              refine wpAnyIn_ready (rs := [6]) (by kernel_rfl) (by simp) ?_
              refine AllReadyIn.cons rfl (fun K hK => ?_) AllReadyIn.nil
              go_simp
              refine hK _ _ ?_
              clear hK K
              refine wpAnyIn_done (by kernel_rfl) ?_ _
              have b5 := (HGW.out.trans hg5).kp.boxed HU5.out hn5
              have c5 := b5.cell
              have f5 := b5.frozen
              have g5 := b5.lt
              gi_wp2
              exact ⟨C3, (HGW.out.trans hg5).same b5, rfl, HJX.out _ _ _ hx5 ((Kp.refl _ _).same b5)⟩
          refine AllReadyIn.cons rfl (fun K hK => ?_) AllReadyIn.nil
          refine step_tree_append (W'.drew.alloc (.cells #[.int .i64 t.1, .slice pk t.2.len ck] 27)) rfl (.tmp 27) (.tmp 28) rfl (fun c => ¬ C' c ∧ c < W'.heap.size) W'.heap.size t.1 t.2 R _ _ rfl rfl (Blk.new W'.drew _ _) hwf (HUK.out.kp (((Kp.refl _ _).drew).alloc _)) (HUR.out.kp (((Kp.refl _ _).drew).alloc _)) (fun c h e => by have := h.2; omega) hRl ?_
          intro v' w' hv hkv
          obtain ⟨hgw, hYY⟩ := HYA.out v' w' hv hkv
          have z1 := (hgw.kp.boxed HU4.out hn4).cell
          have HYY := Lib.hid hYY
          have HGW := Lib.hid hgw
          clear hv hkv hYY hgw
          refine hK _ _ ?_
          clear hK K
          refine wpAnyIn_ready (rs := [0]) (by kernel_rfl) (by simp) ?_
          refine AllReadyIn.cons rfl (fun K hK => ?_) AllReadyIn.nil
          go_simp
          refine hK _ _ ?_
          clear hK K
          refine wpAnyIn_ready (rs := [5]) (by kernel_rfl) (by simp) ?_
          refine AllReadyIn.cons rfl (fun K hK => ?_) AllReadyIn.nil
          refine step_yield _ rfl (.tmp 25) (.tmp 29) #[25] rfl L _ rfl rfl _ HYY.out ?_
          rintro e W3 ⟨C3, hg5, ⟨rfl, hj5⟩ | ⟨rfl, hx5⟩⟩
          · refine ⟨_, rfl, ?_⟩
            refine hK _ _ ?_
            clear hK K HYY z1 z2 z3 z4 z5
            refine wpAnyIn_ready (rs := [6]) (by kernel_rfl) (by simp) ?_
            refine AllReadyIn.cons rfl (fun K hK => ?_) AllReadyIn.nil
            go_simp
            refine hK _ _ ?_
            clear hK K
            refine wpAnyIn_done (by kernel_rfl) ?_ _
            gi_wp2
            exact ⟨C3, HGW.out.trans hg5, hj5⟩
          · refine ⟨_, rfl, ?_⟩
            refine hK _ _ ?_
            clear hK K HYY z1 z2 z3 z4 z5
            refine wpAnyIn_ready (rs := [6]) (by kernel_rfl) (by simp) ?_
            refine AllReadyIn.cons rfl (fun K hK => ?_) AllReadyIn.nil
            go_simp
            refine hK _ _ ?_
            clear hK K
            refine wpAnyIn_done (by kernel_rfl) ?_ _
            have b5 := (HGW.out.trans hg5).kp.boxed HU5.out hn5
            have c5 := b5.cell
            have f5 := b5.frozen
            have g5 := b5.lt
            gi_wp2
            exact ⟨C3, (HGW.out.trans hg5).same b5, rfl, HJX.out _ _ _ hx5 ((Kp.refl _ _).same b5)⟩
        refine AllReadyIn.cons rfl (fun K hK => ?_) AllReadyIn.nil
        go_simp
        refine hK _ _ ?_
        clear hK K
        refine wpAnyIn_ready (rs := [0, 2]) (by kernel_rfl) (by simp) ?_
        refine AllReadyIn.cons rfl (fun K hK => ?_) ?_
        · go_simp
          refine hK _ _ ?_
          clear hK K
          refine wpAnyIn_ready (rs := [2]) (by kernel_rfl) (by simp) ?_
          refine AllReadyIn.cons rfl (fun K hK => ?_) AllReadyIn.nil
          go_simp
          refine hK _ _ ?_
          clear hK K
          refine wpAnyIn_ready (rs := [4]) (by kernel_rfl) (by simp) ?_
          refine AllReadyIn.cons rfl (fun K hK => ?_) AllReadyIn.nil
          refine step_tree_append (W'.drew.alloc (.cells #[.int .i64 t.1, .slice pk t.2.len ck] 27)) rfl (.tmp 27) (.tmp 28) rfl (fun c => ¬ C' c ∧ c < W'.heap.size) W'.heap.size t.1 t.2 R _ _ rfl rfl (Blk.new W'.drew _ _) hwf (HUK.out.kp (((Kp.refl _ _).drew).alloc _)) (HUR.out.kp (((Kp.refl _ _).drew).alloc _)) (fun c h e => by have := h.2; omega) hRl ?_
          intro v' w' hv hkv
          obtain ⟨hgw, hYY⟩ := HYA.out v' w' hv hkv
          have z1 := (hgw.kp.boxed HU4.out hn4).cell
          have HYY := Lib.hid hYY
          have HGW := Lib.hid hgw
          clear hv hkv hYY hgw
          refine hK _ _ ?_
          clear hK K
          refine wpAnyIn_ready (rs := [5]) (by kernel_rfl) (by simp) ?_
          refine AllReadyIn.cons rfl (fun K hK => ?_) AllReadyIn.nil
          refine step_yield _ rfl (.tmp 25) (.tmp 29) #[25] rfl L _ rfl rfl _ HYY.out ?_
          rintro e W3 ⟨C3, hg5, ⟨rfl, hj5⟩ | ⟨rfl, hx5⟩⟩
          · refine ⟨_, rfl, ?_⟩
            refine hK _ _ ?_
            clear hK K HYY z1 z2 z3 z4 z5
            refine wpAnyIn_ready (rs := [6]) (by kernel_rfl) (by simp) ?_
            refine AllReadyIn.cons rfl (fun K hK => ?_) AllReadyIn.nil
            go_simp
            refine hK _ _ ?_
            clear hK K
            refine wpAnyIn_done (by kernel_rfl) ?_ _
            gi_wp2
            exact ⟨C3, HGW.out.trans hg5, hj5⟩
          · refine ⟨_, rfl, ?_⟩
            refine hK _ _ ?_
            clear hK K HYY z1 z2 z3 z4 z5
            refine wpAnyIn_ready (rs := [6]) (by kernel_rfl) (by simp) ?_
            refine AllReadyIn.cons rfl (fun K hK => ?_) AllReadyIn.nil
            go_simp
            refine hK _ _ ?_
            clear hK K
            refine wpAnyIn_done (by kernel_rfl) ?_ _
            have b5 := (HGW.out.trans hg5).kp.boxed HU5.out hn5
            have c5 := b5.cell
            have f5 := b5.frozen
            have g5 := b5.lt
            gi_wp2
            exact ⟨C3, (HGW.out.trans hg5).same b5, rfl, HJX.out _ _ _ hx5 ((Kp.refl _ _).same b5)⟩
        refine AllReadyIn.cons rfl (fun K hK => ?_) AllReadyIn.nil
        go_simp
        refine hK _ _ ?_
        clear hK K
        refine wpAnyIn_ready (rs := [0, 4]) (by kernel_rfl) (by simp) ?_
        refine AllReadyIn.cons rfl (fun K hK => ?_) ?_
        · go_simp
          refine hK _ _ ?_
          clear hK K
          refine wpAnyIn_ready (rs := [4]) (by kernel_rfl) (by simp) ?_
          refine AllReadyIn.cons rfl (fun K hK => ?_) AllReadyIn.nil
          refine step_tree_append (W'.drew.alloc (.cells #[.int .i64 t.1, .slice pk t.2.len ck] 27)) rfl (.tmp 27) (.tmp 28) rfl (fun c => ¬ C' c ∧ c < W'.heap.size) W'.heap.size t.1 t.2 R _ _ rfl rfl (Blk.new W'.drew _ _) hwf (HUK.out.kp (((Kp.refl _ _).drew).alloc _)) (HUR.out.kp (((Kp.refl _ _).drew).alloc _)) (fun c h e => by have := h.2; omega) hRl ?_
          intro v' w' hv hkv
          obtain ⟨hgw, hYY⟩ := HYA.out v' w' hv hkv
          have z1 := (hgw.kp.boxed HU4.out hn4).cell
          have HYY := Lib.hid hYY
          have HGW := Lib.hid hgw
          clear hv hkv hYY hgw
          refine hK _ _ ?_
          clear hK K
          refine wpAnyIn_ready (rs := [5]) (by kernel_rfl) (by simp) ?_
          refine AllReadyIn.cons rfl (fun K hK => ?_) AllReadyIn.nil
          refine step_yield _ rfl (.tmp 25) (.tmp 29) #[25] rfl L _ rfl rfl _ HYY.out ?_
          rintro e W3 ⟨C3, hg5, ⟨rfl, hj5⟩ | ⟨rfl, hx5⟩⟩
          · refine ⟨_, rfl, ?_⟩
            refine hK _ _ ?_
            clear hK K HYY z1 z2 z3 z4 z5
            refine wpAnyIn_ready (rs := [6]) (by kernel_rfl) (by simp) ?_
            refine AllReadyIn.cons rfl (fun K hK => ?_) AllReadyIn.nil
            go_simp
            refine hK _ _ ?_
            clear hK K
            refine wpAnyIn_done (by kernel_rfl) ?_ _
            gi_wp2
            exact ⟨C3, HGW.out.trans hg5, hj5⟩
          · refine ⟨_, rfl, ?_⟩
            refine hK _ _ ?_
            clear hK K HYY z1 z2 z3 z4 z5
            refine wpAnyIn_ready (rs := [6]) (by kernel_rfl) (by simp) ?_
            refine AllReadyIn.cons rfl (fun K hK => ?_) AllReadyIn.nil
            go_simp
            refine hK _ _ ?_
            clear hK K
            refine wpAnyIn_done (by kernel_rfl) ?_ _
            have b5 := (HGW.out.trans hg5).kp.boxed HU5.out hn5
            have c5 := b5.cell
            have f5 := b5.frozen
            have g5 := b5.lt
            gi_wp2
            exact ⟨C3, (HGW.out.trans hg5).same b5, rfl, HJX.out _ _ _ hx5 ((Kp.refl _ _).same b5)⟩
        refine AllReadyIn.cons rfl (fun K hK => ?_) AllReadyIn.nil
        refine step_tree_append (W'.drew.alloc (.cells #[.int .i64 t.1, .slice pk t.2.len ck] 27)) rfl (.tmp 27) (.tmp 28) rfl (fun c => ¬ C' c ∧ c < W'.heap.size) W'.heap.size t.1 t.2 R _ _ rfl rfl (Blk.new W'.drew _ _) hwf (HUK.out.kp (((Kp.refl _ _).drew).alloc _)) (HUR.out.kp (((Kp.refl _ _).drew).alloc _)) (fun c h e => by have := h.2; omega) hRl ?_
        intro v' w' hv hkv
        obtain ⟨hgw, hYY⟩ := HYA.out v' w' hv hkv
        have z1 := (hgw.kp.boxed HU4.out hn4).cell
        have HYY := Lib.hid hYY
        have HGW := Lib.hid hgw
        clear hv hkv hYY hgw
        refine hK _ _ ?_
        clear hK K
        refine wpAnyIn_ready (rs := [0]) (by kernel_rfl) (by simp) ?_
        refine AllReadyIn.cons rfl (fun K hK => ?_) AllReadyIn.nil
        go_simp
        refine hK _ _ ?_
        clear hK K
        refine wpAnyIn_ready (rs := [5]) (by kernel_rfl) (by simp) ?_
        refine AllReadyIn.cons rfl (fun K hK => ?_) AllReadyIn.nil
        refine step_yield _ rfl (.tmp 25) (.tmp 29) #[25] rfl L _ rfl rfl _ HYY.out ?_
        rintro e W3 ⟨C3, hg5, ⟨rfl, hj5⟩ | ⟨rfl, hx5⟩⟩
        · refine ⟨_, rfl, ?_⟩
          refine hK _ _ ?_
          clear hK K HYY z1 z2 z3 z4 z5
          refine wpAnyIn_ready (rs := [6]) (by kernel_rfl) (by simp) ?_
          refine AllReadyIn.cons rfl (fun K hK => ?_) AllReadyIn.nil
          go_simp
          refine hK _ _ ?_
          clear hK K
          refine wpAnyIn_done (by kernel_rfl) ?_ _
          gi_wp2
          exact ⟨C3, HGW.out.trans hg5, hj5⟩
        · refine ⟨_, rfl, ?_⟩
          refine hK _ _ ?_
          clear hK K HYY z1 z2 z3 z4 z5
          refine wpAnyIn_ready (rs := [6]) (by kernel_rfl) (by simp) ?_
          refine AllReadyIn.cons rfl (fun K hK => ?_) AllReadyIn.nil
          go_simp
          refine hK _ _ ?_
          clear hK K
          refine wpAnyIn_done (by kernel_rfl) ?_ _
          have b5 := (HGW.out.trans hg5).kp.boxed HU5.out hn5
          have c5 := b5.cell
          have f5 := b5.frozen
          have g5 := b5.lt
          gi_wp2
          exact ⟨C3, (HGW.out.trans hg5).same b5, rfl, HJX.out _ _ _ hx5 ((Kp.refl _ _).same b5)⟩
      refine AllReadyIn.cons rfl (fun K hK => ?_) AllReadyIn.nil
      go_simp
      refine hK _ _ ?_
      clear hK K
      refine wpAnyIn_ready (rs := [0, 1]) (by kernel_rfl) (by simp) ?_
      refine AllReadyIn.cons rfl (fun K hK => ?_) ?_
      · go_simp
        refine hK _ _ ?_
        clear hK K
        refine wpAnyIn_ready (rs := [1]) (by kernel_rfl) (by simp) ?_
        refine AllReadyIn.cons rfl (fun K hK => ?_) AllReadyIn.nil
        go_simp
        refine hK _ _ ?_
        clear hK K
        refine wpAnyIn_ready (rs := [2]) (by kernel_rfl) (by simp) ?_
        refine AllReadyIn.cons rfl (fun K hK => ?_) AllReadyIn.nil
        go_simp
        refine hK _ _ ?_
        clear hK K
        refine wpAnyIn_ready (rs := [4]) (by kernel_rfl) (by simp) ?_
        refine AllReadyIn.cons rfl (fun K hK => ?_) AllReadyIn.nil
        refine step_tree_append (W'.drew.alloc (.cells #[.int .i64 t.1, .slice pk t.2.len ck] 27)) rfl (.tmp 27) (.tmp 28) rfl (fun c => ¬ C' c ∧ c < W'.heap.size) W'.heap.size t.1 t.2 R _ _ rfl rfl (Blk.new W'.drew _ _) hwf (HUK.out.kp (((Kp.refl _ _).drew).alloc _)) (HUR.out.kp (((Kp.refl _ _).drew).alloc _)) (fun c h e => by have := h.2; omega) hRl ?_
        intro v' w' hv hkv
        obtain ⟨hgw, hYY⟩ := HYA.out v' w' hv hkv
        have z1 := (hgw.kp.boxed HU4.out hn4).cell
        have HYY := Lib.hid hYY
        have HGW := Lib.hid hgw
        clear hv hkv hYY hgw
        refine hK _ _ ?_
        clear hK K
        refine wpAnyIn_ready (rs := [5]) (by kernel_rfl) (by simp) ?_
        refine AllReadyIn.cons rfl (fun K hK => ?_) AllReadyIn.nil
        refine step_yield _ rfl (.tmp 25) (.tmp 29) #[25] rfl L _ rfl rfl _ HYY.out ?_
        rintro e W3 ⟨C3, hg5, ⟨rfl, hj5⟩ | ⟨rfl, hx5⟩⟩
        · refine ⟨_, rfl, ?_⟩
          refine hK _ _ ?_
          clear hK K HYY z1 z2 z3 z4 z5
          refine wpAnyIn_ready (rs := [6]) (by kernel_rfl) (by simp) ?_
          refine AllReadyIn.cons rfl (fun K hK => ?_) AllReadyIn.nil
          go_simp
          refine hK _ _ ?_
          clear hK K
          refine wpAnyIn_done (by kernel_rfl) ?_ _
          gi_wp2
          exact ⟨C3, HGW.out.trans hg5, hj5⟩
        · refine ⟨_, rfl, ?_⟩
          refine hK _ _ ?_
          clear hK K HYY z1 z2 z3 z4 z5
          refine wpAnyIn_ready (rs := [6]) (by kernel_rfl) (by simp) ?_
          refine AllReadyIn.cons rfl (fun K hK => ?_) AllReadyIn.nil
          go_simp
          refine hK _ _ ?_
          clear hK K
          refine wpAnyIn_done (by kernel_rfl) ?_ _
          have b5 := (HGW.out.trans hg5).kp.boxed HU5.out hn5
          have c5 := b5.cell
          have f5 := b5.frozen
          have g5 := b5.lt
          gi_wp2
          exact ⟨C3, (HGW.out.trans hg5).same b5, rfl, HJX.out _ _ _ hx5 ((Kp.refl _ _).same b5)⟩
      refine AllReadyIn.cons rfl (fun K hK => ?_) AllReadyIn.nil
      go_simp
      refine hK _ _ ?_
      clear hK K
      refine wpAnyIn_ready (rs := [0, 2]) (by kernel_rfl) (by simp) ?_
      refine AllReadyIn.cons rfl (fun K hK => ?_) ?_
      · go_simp
        refine hK _ _ ?_
        clear hK K
        refine wpAnyIn_ready (rs := [2]) (by kernel_rfl) (by simp) ?_
        refine AllReadyIn.cons rfl (fun K hK => ?_) AllReadyIn.nil
        go_simp
        refine hK _ _ ?_
        clear hK K
        refine wpAnyIn_ready (rs := [4]) (by kernel_rfl) (by simp) ?_
        refine AllReadyIn.cons rfl (fun K hK => ?_) AllReadyIn.nil
        refine step_tree_append (W'.drew.alloc (.cells #[.int .i64 t.1, .slice pk t.2.len ck] 27)) rfl (.tmp 27) (.tmp 28) rfl (fun c => ¬ C' c ∧ c < W'.heap.size) W'.heap.size t.1 t.2 R _ _ rfl rfl (Blk.new W'.drew _ _) hwf (HUK.out.kp (((Kp.refl _ _).drew).alloc _)) (HUR.out.kp (((Kp.refl _ _).drew).alloc _)) (fun c h e => by have := h.2; omega) hRl ?_
        intro v' w' hv hkv
        obtain ⟨hgw, hYY⟩ := HYA.out v' w' hv hkv
        have z1 := (hgw.kp.boxed HU4.out hn4).cell
        have HYY := Lib.hid hYY
        have HGW := Lib.hid hgw
        clear hv hkv hYY hgw
        refine hK _ _ ?_
        clear hK K
        refine wpAnyIn_ready (rs := [5]) (by kernel_rfl) (by simp) ?_
        refine AllReadyIn.cons rfl (fun K hK => ?_) AllReadyIn.nil
        refine step_yield _ rfl (.tmp 25) (.tmp 29) #[25] rfl L _ rfl rfl _ HYY.out ?_
        rintro e W3 ⟨C3, hg5, ⟨rfl, hj5⟩ | ⟨rfl, hx5⟩⟩
        · refine ⟨_, rfl, ?_⟩
          refine hK _ _ ?_
          clear hK K HYY z1 z2 z3 z4 z5
          refine wpAnyIn_ready (rs := [6]) (by kernel_rfl) (by simp) ?_
          refine AllReadyIn.cons rfl (fun K hK => ?_) AllReadyIn.nil
          go_simp
          refine hK _ _ ?_
          clear hK K
          refine wpAnyIn_done (by kernel_rfl) ?_ _
          gi_wp2
          exact ⟨C3, HGW.out.trans hg5, hj5⟩
        · refine ⟨_, rfl, ?_⟩
          refine hK _ _ ?_
          clear hK K HYY z1 z2 z3 z4 z5
          refine wpAnyIn_ready (rs := [6]) (by kernel_rfl) (by simp) ?_
          refine AllReadyIn.cons rfl (fun K hK => ?_) AllReadyIn.nil
          go_simp
          refine hK _ _ ?_
          clear hK K
          refine wpAnyIn_done (by kernel_rfl) ?_ _
          have b5 := (HGW.out.trans hg5).kp.boxed HU5.out hn5
          have c5 := b5.cell
          have f5 := b5.frozen
          have g5 := b5.lt
          gi_wp2
          exact ⟨C3, (HGW.out.trans hg5).same b5, rfl, HJX.out _ _ _ hx5 ((Kp.refl _ _).same b5)⟩
      refine AllReadyIn.cons rfl (fun K hK => ?_) AllReadyIn.nil
      go_simp
      refine hK _ _ ?_
      clear hK K
      refine wpAnyIn_ready (rs := [0, 4]) (by kernel_rfl) (by simp) ?_
      refine AllReadyIn.cons rfl (fun K hK => ?_) ?_
      · go_simp
        refine hK _ _ ?_
        clear hK K
        refine wpAnyIn_ready (rs := [4]) (by kernel_rfl) (by simp) ?_
        refine AllReadyIn.cons rfl (fun K hK => ?_) AllReadyIn.nil
        refine step_tree_append (W'.drew.alloc (.cells #[.int .i64 t.1, .slice pk t.2.len ck] 27)) rfl (.tmp 27) (.tmp 28) rfl (fun c => ¬ C' c ∧ c < W'.heap.size) W'.heap.size t.1 t.2 R _ _ rfl rfl (Blk.new W'.drew _ _) hwf (HUK.out.kp (((Kp.refl _ _).drew).alloc _)) (HUR.out.kp (((Kp.refl _ _).drew).alloc _)) (fun c h e => by have := h.2; omega) hRl ?_
        intro v' w' hv hkv
        obtain ⟨hgw, hYY⟩ := HYA.out v' w' hv hkv
        have z1 := (hgw.kp.boxed HU4.out hn4).cell
        have HYY := Lib.hid hYY
        have HGW := Lib.hid hgw
        clear hv hkv hYY hgw
        refine hK _ _ ?_
        clear hK K
        refine wpAnyIn_ready (rs := [5]) (by kernel_rfl) (by simp) ?_
        refine AllReadyIn.cons rfl (fun K hK => ?_) AllReadyIn.nil
        refine step_yield _ rfl (.tmp 25) (.tmp 29) #[25] rfl L _ rfl rfl _ HYY.out ?_
        rintro e W3 ⟨C3, hg5, ⟨rfl, hj5⟩ | ⟨rfl, hx5⟩⟩
        · refine ⟨_, rfl, ?_⟩
          refine hK _ _ ?_
          clear hK K HYY z1 z2 z3 z4 z5
          refine wpAnyIn_ready (rs := [6]) (by kernel_rfl) (by simp) ?_
          refine AllReadyIn.cons rfl (fun K hK => ?_) AllReadyIn.nil
          go_simp
          refine hK _ _ ?_
          clear hK K
          refine wpAnyIn_done (by kernel_rfl) ?_ _
          gi_wp2
          exact ⟨C3, HGW.out.trans hg5, hj5⟩
        · refine ⟨_, rfl, ?_⟩
          refine hK _ _ ?_
          clear hK K HYY z1 z2 z3 z4 z5
          refine wpAnyIn_ready (rs := [6]) (by kernel_rfl) (by simp) ?_
          refine AllReadyIn.cons rfl (fun K hK => ?_) AllReadyIn.nil
          go_simp
          refine hK _ _ ?_
          clear hK K
          refine wpAnyIn_done (by kernel_rfl) ?_ _
          have b5 := (HGW.out.trans hg5).kp.boxed HU5.out hn5
          have c5 := b5.cell
          have f5 := b5.frozen
          have g5 := b5.lt
          gi_wp2
          exact ⟨C3, (HGW.out.trans hg5).same b5, rfl, HJX.out _ _ _ hx5 ((Kp.refl _ _).same b5)⟩
      refine AllReadyIn.cons rfl (fun K hK => ?_) AllReadyIn.nil
      refine step_tree_append (W'.drew.alloc (.cells #[.int .i64 t.1, .slice pk t.2.len ck] 27)) rfl (.tmp 27) (.tmp 28) rfl (fun c => ¬ C' c ∧ c < W'.heap.size) W'.heap.size t.1 t.2 R _ _ rfl rfl (Blk.new W'.drew _ _) hwf (HUK.out.kp (((Kp.refl _ _).drew).alloc _)) (HUR.out.kp (((Kp.refl _ _).drew).alloc _)) (fun c h e => by have := h.2; omega) hRl ?_
      intro v' w' hv hkv
      obtain ⟨hgw, hYY⟩ := HYA.out v' w' hv hkv
      have z1 := (hgw.kp.boxed HU4.out hn4).cell
      have HYY := Lib.hid hYY
      have HGW := Lib.hid hgw
      clear hv hkv hYY hgw
      refine hK _ _ ?_
      clear hK K
      refine wpAnyIn_ready (rs := [0]) (by kernel_rfl) (by simp) ?_
      refine AllReadyIn.cons rfl (fun K hK => ?_) AllReadyIn.nil
      go_simp
      refine hK _ _ ?_
      clear hK K
      refine wpAnyIn_ready (rs := [5]) (by kernel_rfl) (by simp) ?_
      refine AllReadyIn.cons rfl (fun K hK => ?_) AllReadyIn.nil
      refine step_yield _ rfl (.tmp 25) (.tmp 29) #[25] rfl L _ rfl rfl _ HYY.out ?_
      rintro e W3 ⟨C3, hg5, ⟨rfl, hj5⟩ | ⟨rfl, hx5⟩⟩
      · refine ⟨_, rfl, ?_⟩
        refine hK _ _ ?_
        clear hK K HYY z1 z2 z3 z4 z5
        refine wpAnyIn_ready (rs := [6]) (by kernel_rfl) (by simp) ?_
        refine AllReadyIn.cons rfl (fun K hK => ?_) AllReadyIn.nil
        go_simp
        refine hK _ _ ?_
        clear hK K
        refine wpAnyIn_done (by kernel_rfl) ?_ _
        gi_wp2
        exact ⟨C3, HGW.out.trans hg5, hj5⟩
      · refine ⟨_, rfl, ?_⟩
        refine hK _ _ ?_
        clear hK K HYY z1 z2 z3 z4 z5
        refine wpAnyIn_ready (rs := [6]) (by kernel_rfl) (by simp) ?_
        refine AllReadyIn.cons rfl (fun K hK => ?_) AllReadyIn.nil
        go_simp
        refine hK _ _ ?_
        clear hK K
        refine wpAnyIn_done (by kernel_rfl) ?_ _
        have b5 := (HGW.out.trans hg5).kp.boxed HU5.out hn5
        have c5 := b5.cell
        have f5 := b5.frozen
        have g5 := b5.lt
        gi_wp2
        exact ⟨C3, (HGW.out.trans hg5).same b5, rfl, HJX.out _ _ _ hx5 ((Kp.refl _ _).same b5)⟩
    · rintro C' W' hg4 hj3
      gi_wp2
      refine ⟨C', Grow.start ftk hg4, ?_⟩
      show J (base + (j + 1) * (LL ranks (k - 1) (n - s)).length) C' W'
      rw [Nat.succ_mul, ← Nat.add_assoc]
      exact hj3
    · rintro c' C' W' hg4 ⟨rfl, hx⟩
      gi_wp2
      exact ⟨C', Grow.start ftk hg4, rfl, hx⟩
  · rintro D C' W' hg hj2 hD hDC hDs
    have b5 := hg.kp.boxed hq5 (hnew _ (by omega))
    have n5 : ¬ C' (W.heap.size + 1 + 1 + 1 + 1 + 1) := fun h => (hg.new _ h).elim (hnew _ (by omega)) (fun g => by omega)
    have c5 := b5.cell
    have f5 := b5.frozen
    have g5 := b5.lt
    have hdl := (Array.getElem?_eq_some_iff.1 hD).1
    have hBD : D ≠ (W.heap.size + 1 + 1 + 1 + 1 + 1) := by omega
    clear hq0 hq1 hq2 hq3 hq4 hq5 hq6 hq7 hIter
    gi_wp2
    have hj3 : J (base + (segL ranks (k - 1) n s).length) C' W' := by
      have : (segL ranks (k - 1) n s).length = (TT ranks s).length * (LL ranks (k - 1) (n - s)).length := flat_len (fun (t : Int × Hg) r => Hg.cons t.1 t.2 r) _ _
      rw [this]; exact hj2
    have hk1 : ∀ (S : Nat → Prop), (S (W.heap.size + 1 + 1 + 1 + 1 + 1) → False) → (S D → False) → Kp S W' ((W'.setCell ⟨(W.heap.size + 1 + 1 + 1 + 1 + 1), 0, none⟩ (.bool true)).putObj D (.deferred none)) := fun S h1 h2 =>
      ((Kp.refl _ _).setCell (fun h => (h1 h).elim) _).putObj (fun h => (h2 h).elim) _
    exact leaves_colv (v := .bool true) D _ ((Below.heap_setCell _ _ _ _ hBD).trans hD) (results_bool rfl _ _ _ rfl ((World.putObj_heap_other (Ne.symm hBD)).trans (b5.set (.bool true)))) ⟨C', (hg8.trans hg).own (hk1 _ (fun h => by omega) (fun h => by omega)), .inl ⟨rfl, HJ.out _ _ _ _ hj3 (hk1 _ n5 hDC)⟩⟩
  · rintro D c' C' W' hg ⟨rfl, hx⟩ hD hDC hDs
    have b5 := hg.kp.boxed hq5 (hnew _ (by omega))
    have n5 : ¬ C' (W.heap.size + 1 + 1 + 1 + 1 + 1) := fun h => (hg.new _ h).elim (hnew _ (by omega)) (fun g => by omega)
    have c5 := b5.cell
    have f5 := b5.frozen
    have g5 := b5.lt
    have hdl := (Array.getElem?_eq_some_iff.1 hD).1
    have hBD : D ≠ (W.heap.size + 1 + 1 + 1 + 1 + 1) := by omega
    clear hq0 hq1 hq2 hq3 hq4 hq5 hq6 hq7 hIter
    gi_wp2
    have hk1 : ∀ (S : Nat → Prop), (S D → False) → Kp S W' (W'.putObj D (.deferred none)) := fun S h2 =>
      (Kp.refl _ _).putObj (fun h => (h2 h).elim) _
    exact leaves_colv (v := .bool false) D _ hD (results_bool rfl _ _ _ rfl ((World.putObj_heap_other (Ne.symm hBD)).trans b5)) ⟨C', (hg8.trans hg).own (hk1 _ (fun h => by omega)), .inr ⟨rfl, HJX.out _ _ _ hx (hk1 _ hDC)⟩⟩

end Go.Proofs.YthhliogcafmnfaaDoor
