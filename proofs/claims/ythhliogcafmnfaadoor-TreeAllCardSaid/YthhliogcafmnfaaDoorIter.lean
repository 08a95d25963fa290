/- The iterators over trees and lists of trees: trees. -/
import Derived.Test.YthhliogcafmnfaaDoorTake
namespace Go.Proofs.YthhliogcafmnfaaDoor
open Go.RowKit Go.Shelf
attribute [local go_sem] Oper.semAt_some fwd fwf

/-- How a list of trees, or a tree, is handed to yield. -/
def FEnc (_ : Nat) (x : Hg) (vals : Array Value) (C : Nat → Prop) (W : World) : Prop := ∃ vk, vals = #[vk] ∧ IsHS (fun c => ¬ C c) W vk x
def QEnc (_ : Nat) (x : Int × Hg) (vals : Array Value) (C : Nat → Prop) (W : World) : Prop := ∃ vk, vals = #[.agg #[.int .i64 x.1, vk]] ∧ (Lit.int .i64 x.1).wf = true ∧ IsHS (fun c => ¬ C c) W vk x.2
theorem FEnc.mono {k : Nat} {x : Hg} {vals : Array Value} {C C' : Nat → Prop} {W : World} (h : ∀ c, C c → C' c) (e : FEnc k x vals C' W) : FEnc k x vals C W := by
  obtain ⟨vk, e1, h1⟩ := e
  exact ⟨vk, e1, h1.mono (fun c _ hn hc => hn (h c hc))⟩
theorem QEnc.mono {k : Nat} {x : Int × Hg} {vals : Array Value} {C C' : Nat → Prop} {W : World} (h : ∀ c, C c → C' c) (e : QEnc k x vals C' W) : QEnc k x vals C W := by
  obtain ⟨vk, e1, e2, h1⟩ := e
  exact ⟨vk, e1, e2, h1.mono (fun c _ hn hc => hn (h c hc))⟩

/-- What stands throughout: the census and the ranks, in the old memory. -/
structure Cens (wB : World) (b : Nat) (rv : Value) (ranks : List Nat) : Prop where
  cn : Cn wB b rv (tgt ranks)
  ints : IsInts wB rv (ranks.map (fun r : Nat => (r : Int)))
  le : ∀ r ∈ ranks, r ≤ 3
  len : ranks.length ≤ 12

/-- forests(k, n) yields the lists of k trees with n nodes together. -/
def FIter (wB : World) (ranks : List Nat) (b k n : Nat) : Prop :=
  ∀ (B1 B2 B3 : Nat) (C0 : Nat → Prop) (w0 : World), Below wB.heap.size wB w0 → (∀ c, C0 c → wB.heap.size ≤ c) → (∀ c, C0 c → c < w0.heap.size) →
    Boxed w0 B1 146 (.pointer (some ⟨b, 0, none⟩)) → Boxed w0 B2 3 (.int .i64 (k : Nat)) → Boxed w0 B3 3 (.int .i64 (n : Nat)) → ¬ C0 B1 → ¬ C0 B2 → ¬ C0 B3 →
    IterD Tryd.prog 146 #[.pointer (some ⟨B1, 0, none⟩), .pointer (some ⟨B2, 0, none⟩), .pointer (some ⟨B3, 0, none⟩)] FEnc (LL ranks k n) C0 w0
def TIter (wB : World) (ranks : List Nat) (b m : Nat) : Prop :=
  ∀ (B1 B2 : Nat) (C0 : Nat → Prop) (w0 : World), Below wB.heap.size wB w0 → (∀ c, C0 c → wB.heap.size ≤ c) → (∀ c, C0 c → c < w0.heap.size) →
    Boxed w0 B1 146 (.pointer (some ⟨b, 0, none⟩)) → Boxed w0 B2 3 (.int .i64 (m : Nat)) → ¬ C0 B1 → ¬ C0 B2 →
    IterD Tryd.prog 120 #[.pointer (some ⟨B1, 0, none⟩), .pointer (some ⟨B2, 0, none⟩)] QEnc (TT ranks m) C0 w0

set_option maxHeartbeats 1000000 in
theorem forests_any (b : Nat) (k n : Int) (w : World) :
    Calls Tryd.prog 121 #[.pointer (some ⟨b, 0, none⟩), .int .i64 k, .int .i64 n] w fun e w' => e = .returned (.func (.func 146) #[] #[.pointer (some ⟨w.heap.size, 0, none⟩), .pointer (some ⟨w.heap.size + 1, 0, none⟩), .pointer (some ⟨w.heap.size + 1 + 1, 0, none⟩)]) ∧
      w' = ((w.alloc (.cells #[.pointer (some ⟨b, 0, none⟩)] 146)).alloc (.cells #[.int .i64 k] 3)).alloc (.cells #[.int .i64 n] 3) := by
  go_enter Tryd.func121, Tryd.ntmps121
  go_wp2
  go_ret
  exact ⟨rfl, rfl⟩
set_option maxHeartbeats 1000000 in
theorem trees_any (b : Nat) (n : Int) (w : World) :
    Calls Tryd.prog 77 #[.pointer (some ⟨b, 0, none⟩), .int .i64 n] w fun e w' => e = .returned (.func (.func 120) #[] #[.pointer (some ⟨w.heap.size, 0, none⟩), .pointer (some ⟨w.heap.size + 1, 0, none⟩)]) ∧
      w' = (w.alloc (.cells #[.pointer (some ⟨b, 0, none⟩)] 146)).alloc (.cells #[.int .i64 n] 3) := by
  go_enter Tryd.func77, Tryd.ntmps77
  go_wp2
  go_ret
  exact ⟨rfl, rfl⟩

/-- How many trees there are before symbol j. -/
def offT (ranks : List Nat) (m j : Nat) : Nat := ((ranks.zipIdx.take j).flatMap fun x => (LL ranks x.1 (m - 1)).map fun K => ((x.2 : Int), K)).length
theorem TT_at (ranks : List Nat) (m j r i : Nat) (K : Hg) (hr : ranks[j]? = some r) (hK : (LL ranks r (m - 1))[i]? = some K) : (TT ranks m)[offT ranks m j + i]? = some ((j : Int), K) := by
  have hz : ranks.zipIdx[j]? = some (r, j) := by rw [List.getElem?_zipIdx, hr]; simp
  have hd : ranks.zipIdx.drop j = (r, j) :: ranks.zipIdx.drop (j + 1) := by
    obtain ⟨hj, e⟩ := List.getElem?_eq_some_iff.1 hz
    rw [List.drop_eq_getElem_cons hj, e]
  have hz2 : ranks.zipIdx = ranks.zipIdx.take j ++ ((r, j) :: ranks.zipIdx.drop (j + 1)) := by rw [← hd, List.take_append_drop]
  have hs : TT ranks m = ((ranks.zipIdx.take j).flatMap fun x => (LL ranks x.1 (m - 1)).map fun K => ((x.2 : Int), K)) ++ (((LL ranks r (m - 1)).map fun K => ((j : Int), K)) ++ ((ranks.zipIdx.drop (j + 1)).flatMap fun x => (LL ranks x.1 (m - 1)).map fun K => ((x.2 : Int), K))) := by
    unfold TT
    conv => lhs; rw [hz2]
    rw [List.flatMap_append, List.flatMap_cons]
  have hi := (List.getElem?_eq_some_iff.1 hK).1
  rw [hs, List.getElem?_append_right (by unfold offT; omega), show offT ranks m j + i - ((ranks.zipIdx.take j).flatMap fun x => (LL ranks x.1 (m - 1)).map fun K => ((x.2 : Int), K)).length = i by unfold offT; omega,
    List.getElem?_append_left (by simpa using hi), List.getElem?_map, hK]
  rfl
theorem offT_succ (ranks : List Nat) (m j r : Nat) (hr : ranks[j]? = some r) : offT ranks m (j + 1) = offT ranks m j + (LL ranks r (m - 1)).length := by
  have hz : ranks.zipIdx[j]? = some (r, j) := by rw [List.getElem?_zipIdx, hr]; simp
  unfold offT
  rw [List.take_add_one, hz]
  simp
theorem offT_end (ranks : List Nat) (m : Nat) : offT ranks m ranks.length = (TT ranks m).length := by
  unfold offT TT
  rw [List.take_of_length_le (by simp)]

theorem wf_nat {m : Nat} (h1 : m ≤ 1000000) : (Lit.int .i64 (m : Int)).wf = true := by
  have e1 : IntKind.i64.min = -9223372036854775808 := by decide
  have e2 : IntKind.i64.max = 9223372036854775807 := by decide
  simp only [Lit.wf, Bool.and_eq_true, decide_eq_true_eq, e1, e2]
  omega
def col (D : Nat) : Deferred := { target := .collected D, args := #[] }

theorem leaves_col {P : Program} {F : Fence} {n : Nat} {fn : Func} {tmps : Array Value} {R : Ending → World → Prop} {v : Value} (hres : ∀ W, (results fn tmps).run P W = .ok v W) (Inv : World → Prop) (hR : ∀ W, Inv W → R (.returned v) W) :
    ∀ (Ds : List Nat) (W : World), Inv W → (∀ D ∈ Ds, W.heap[D]? = some (.deferred (some []))) → Ds.Nodup → (∀ D ∈ Ds, ∀ W, Inv W → Inv (W.putObj D (.deferred none))) → LeavesInM F n P fn tmps R (Ds.map col) .returning W := by
  intro Ds
  induction Ds with
  | nil => intro W hi _ _ _; exact ⟨v, hres W, hR W hi⟩
  | cons D Ds ih =>
    intro W hi hd hn hp
    rw [List.nodup_cons] at hn
    refine ⟨by simp, .inl ⟨D, _, rfl, run_takeDeferred (hd D (List.mem_cons_self ..)), ih _ (hp D (List.mem_cons_self ..) W hi) (fun E hE => ?_) hn.2 (fun E hE => hp E (List.mem_cons_of_mem _ hE))⟩⟩
    have hne : E ≠ D := fun e => hn.1 (e ▸ hE)
    exact (World.putObj_heap_other hne).trans (hd E (List.mem_cons_of_mem _ hE))

/-- The state of trees(m)'s loop, behind j symbols. -/
structure TSt (ranks : List Nat) (m L Y : Nat) (J : Nat → (Nat → Prop) → World → Prop) (C1 : Nat → Prop) (W1 : World) (j : Nat) (C : Nat → Prop) (Ds : List Nat) (W : World) : Prop where
  grow : Grow C1 W1 C W
  at_ : J (offT ranks m j) C W
  yl : Boxed W Y 141 (.func (.yield L) #[] #[])
  nY : ¬ C Y
  ds : ∀ D ∈ Ds, W.heap[D]? = some (.deferred (some [])) ∧ ¬ C D ∧ W1.heap.size ≤ D
  nd : Ds.Nodup

set_option maxRecDepth 100000 in
set_option maxHeartbeats 4000000 in
theorem trees_iter (wB : World) (b : Nat) (rv : Value) (ranks : List Nat) (hB : Cens wB b rv ranks) (m : Nat) (hm1 : 1 ≤ m) (hm12 : m ≤ 12) (hF : ∀ r, r ∈ ranks → FIter wB ranks b r (m - 1)) : TIter wB ranks b m := by
  intro B1 B2 C0 w0 hw0 hC0 hC0' hb1 hb2 hn1 hn2 L J Jx C1 W1 hC1 hlt hkp hJ hJx hY h0
  have hw1 : Below wB.heap.size wB W1 := hw0.trans (hkp.below hw0.size (fun _ _ => trivial))
  have hC1' : ∀ c, C1 c → wB.heap.size ≤ c := fun c hc => (hC1 c hc).elim (hC0 c) (fun h => Nat.le_trans hw0.size h)
  have hb1' := hkp.boxed hb1 trivial
  have hb2' := hkp.boxed hb2 trivial
  have hn1' : ¬ C1 B1 := fun h => (hC1 _ h).elim hn1 (fun g => by have := hb1.lt; omega)
  have hn2' : ¬ C1 B2 := fun h => (hC1 _ h).elim hn2 (fun g => by have := hb2.lt; omega)
  have hcn1 := hB.cn.below hw1 hB.cn.lt
  have x1 := hb1'.cell
  have x2 := hb2'.cell
  have x3 := hcn1.ranks
  have l1 := hb1'.lt
  have l2 := hb2'.lt
  have l3 := hcn1.lt
  have HBB := Lib.hid hB
  obtain ⟨p, c, rfl, hc1, hc2, hcell⟩ := hB.ints
  have hlm : (ranks.map (fun r : Nat => (r : Int))).length = ranks.length := List.length_map ..
  rw [hlm] at x3 hc1 HBB
  unfold maxLen at hc2
  have HCL := Lib.hid hcell
  have HY := Lib.hid hY
  have HJ := Lib.hid hJ
  have HJX := Lib.hid hJx
  have HF := Lib.hid hF
  have HW1 := Lib.hid hw1
  have HKP := Lib.hid hkp
  have HB1 := Lib.hid hb1'
  have HB2 := Lib.hid hb2'
  have HC1 := Lib.hid hC1'
  have HLT := Lib.hid hlt
  have H0 := Lib.hid h0
  clear hY hJ hJx hF hw1 hkp hb1' hb2' hC1' hlt h0 hw0 hC0 hC0' hb1 hb2 hn1 hn2 hC1 hB hcell hcn1
  refine Calls.of_callsIn (ro := none) (m := 0) ?_
  refine callsIn_of_wp_marks Tryd.func120 rfl trivial ?_ rfl
  simp only [Tryd.ntmps120, List.size_toArray, List.length_cons, List.length_nil, Nat.reduceAdd, Nat.reduceSub, Array.replicate_succ, Array.replicate_zero, List.push_toArray, List.append_toArray, List.nil_append, List.cons_append]
  gi_wp2_with fail
  have hst0 : TSt ranks m L W1.heap.size J C1 W1 0 C1 [] (W1.alloc (.cells #[.func (.yield L) #[] #[]] 141)) :=
    ⟨(Grow.refl HLT.out).alloc_ _, HJ.out _ _ _ _ H0.out ((Kp.refl _ _).alloc _), Boxed.new W1 _ _, (fun h => by have := HLT.out _ h; omega), (fun D h => by cases h), List.nodup_nil⟩
  have HST0 := Lib.hid hst0
  clear hst0 H0
  refine wpIn_loop (fun a' w' => ∃ (j : Nat) (C : Nat → Prop) (Ds : List Nat) (u4 u5 u6 u13 u14 u15 u16 u17 u18 u19 u20 u21 u22 u23 u24 u25 u26 u27 u28 u29 : Value), a' = { tmps := #[Value.func (Fn.yield L) #[] #[], .pointer (some ⟨B1, 0, none⟩), .pointer (some ⟨B2, 0, none⟩), .pointer (some ⟨W1.heap.size, 0, none⟩), u4, u5, u6, .pointer (some ⟨b, 0, none⟩), .pointer (some ⟨b, 0, none⟩), .pointer (some ⟨b, 0, none⟩), .slice p ranks.length c, .int .i64 (ranks.length : Nat), .int .i64 (j : Nat), u13, u14, u15, u16, u17, u18, u19, u20, u21, u22, u23, u24, u25, u26, u27, u28, u29], defers := Ds.map col } ∧ j ≤ ranks.length ∧ Hid (TSt ranks m L W1.heap.size J C1 W1 j C Ds w')) (fun a' _ => ranks.length - (intOf (a'.tmps.getD 12 undef)).toNat) ?_ ?_
  · exact ⟨0, C1, [], _, _, _, _, _, _, _, _, _, _, _, _, _, _, _, _, _, _, _, _, rfl, by omega, HST0⟩
  rintro a0 wr ⟨j, C, Ds, u4, u5, u6, u13, u14, u15, u16, u17, u18, u19, u20, u21, u22, u23, u24, u25, u26, u27, u28, u29, rfl, hj, HST⟩
  dsimp only
  have hbw : Below wB.heap.size wB wr := HW1.out.trans (HST.out.grow.below HW1.out.size HC1.out)
  have b1 := HST.out.grow.kp.boxed HB1.out hn1'
  have b2 := HST.out.grow.kp.boxed HB2.out hn2'
  have HBW := Lib.hid hbw
  have y1 := b1.cell
  have y2 := b2.cell
  have y3 := b1.lt
  have y4 := b2.lt
  clear hbw b1 b2 x1 x2 x3 l1 l2 l3
  by_cases hlt : j < ranks.length
  · obtain ⟨r, hri⟩ : ∃ r, ranks[j]? = some r := ⟨_, List.getElem?_eq_getElem hlt⟩
    have hrm := List.mem_of_getElem? hri
    obtain ⟨br, o, rfl, hcl⟩ := HCL.out (fun h => by simp at h; simp [h] at hlt)
    have c1 := cell_later HBW.out (hcl j (r : Int) (by simp [hri]))
    have hbl := World.block_lt_of_cell? _ _ c1
    simp only at hbl
    have hlti : (j : Int) < (ranks.length : Int) := by omega
    have hdi : decide ((j : Int) < (ranks.length : Int)) = true := decide_eq_true hlti
    have hdn : decide (j < ranks.length) = true := decide_eq_true hlt
    have HRI := Lib.hid hri
    have HRM := Lib.hid hrm
    clear hri hrm hcl
    gi_wp2_with fail
    refine (CallsIn.of_calls (forests_any b _ _ _)).mono ?_
    rintro e w2 ⟨rfl, rfl⟩
    have hme : ((m : Int) - 1) = ((m - 1 : Nat) : Int) := by omega
    have hs1 : Boxed (((((wr.alloc (.cells #[.int .i64 (j : Nat)] 3)).alloc (.cells #[.pointer (some ⟨b, 0, none⟩)] 146)).alloc (.cells #[.int .i64 (r : Nat)] 3)).alloc (.cells #[.int .i64 ((m - 1 : Nat) : Int)] 3))) wr.heap.size 3 (.int .i64 (j : Nat)) := (((Boxed.new wr _ _).alloc _).alloc _).alloc _
    have hs2 : Boxed (((((wr.alloc (.cells #[.int .i64 (j : Nat)] 3)).alloc (.cells #[.pointer (some ⟨b, 0, none⟩)] 146)).alloc (.cells #[.int .i64 (r : Nat)] 3)).alloc (.cells #[.int .i64 ((m - 1 : Nat) : Int)] 3))) (wr.heap.size + 1) 146 (.pointer (some ⟨b, 0, none⟩)) := by
      have := ((Boxed.new (wr.alloc (.cells #[.int .i64 (j : Nat)] 3)) 146 (.pointer (some ⟨b, 0, none⟩))).alloc (.cells #[.int .i64 (r : Nat)] 3)).alloc (.cells #[.int .i64 ((m - 1 : Nat) : Int)] 3); simpa using this
    have hs3 : Boxed (((((wr.alloc (.cells #[.int .i64 (j : Nat)] 3)).alloc (.cells #[.pointer (some ⟨b, 0, none⟩)] 146)).alloc (.cells #[.int .i64 (r : Nat)] 3)).alloc (.cells #[.int .i64 ((m - 1 : Nat) : Int)] 3))) (wr.heap.size + 1 + 1) 3 (.int .i64 (r : Nat)) := by
      have := (Boxed.new ((wr.alloc (.cells #[.int .i64 (j : Nat)] 3)).alloc (.cells #[.pointer (some ⟨b, 0, none⟩)] 146)) 3 (.int .i64 (r : Nat))).alloc (.cells #[.int .i64 ((m - 1 : Nat) : Int)] 3); simpa using this
    have hs4 : Boxed (((((wr.alloc (.cells #[.int .i64 (j : Nat)] 3)).alloc (.cells #[.pointer (some ⟨b, 0, none⟩)] 146)).alloc (.cells #[.int .i64 (r : Nat)] 3)).alloc (.cells #[.int .i64 ((m - 1 : Nat) : Int)] 3))) (wr.heap.size + 1 + 1 + 1) 3 (.int .i64 ((m - 1 : Nat) : Int)) := by
      have := Boxed.new (((wr.alloc (.cells #[.int .i64 (j : Nat)] 3)).alloc (.cells #[.pointer (some ⟨b, 0, none⟩)] 146)).alloc (.cells #[.int .i64 (r : Nat)] 3)) 3 (.int .i64 ((m - 1 : Nat) : Int)); simpa using this
    have hkw : Kp (fun _ => True) wr (((((wr.alloc (.cells #[.int .i64 (j : Nat)] 3)).alloc (.cells #[.pointer (some ⟨b, 0, none⟩)] 146)).alloc (.cells #[.int .i64 (r : Nat)] 3)).alloc (.cells #[.int .i64 ((m - 1 : Nat) : Int)] 3))) := ((((Kp.refl _ wr).alloc _).alloc _).alloc _).alloc _
    have hsz : wr.heap.size + 1 + 1 + 1 + 1 = (((((wr.alloc (.cells #[.int .i64 (j : Nat)] 3)).alloc (.cells #[.pointer (some ⟨b, 0, none⟩)] 146)).alloc (.cells #[.int .i64 (r : Nat)] 3)).alloc (.cells #[.int .i64 ((m - 1 : Nat) : Int)] 3))).heap.size := by simp
    gi_wp2_with fail
    generalize (((((wr.alloc (.cells #[.int .i64 (j : Nat)] 3)).alloc (.cells #[.pointer (some ⟨b, 0, none⟩)] 146)).alloc (.cells #[.int .i64 (r : Nat)] 3)).alloc (.cells #[.int .i64 ((m - 1 : Nat) : Int)] 3))) = w5 at hs1 hs2 hs3 hs4 hkw hsz ⊢
    have hg5 : Grow C1 W1 C w5 := HST.out.grow.own (hkw.mono fun _ _ _ => trivial)
    have hCl : ∀ c, C c → c < w5.heap.size := hg5.lt
    have hCw : ∀ c, C c → wB.heap.size ≤ c := fun c hc => (hg5.new c hc).elim (HC1.out c) (fun h => Nat.le_trans HW1.out.size h)
    have hnew : ∀ c, wr.heap.size ≤ c → ¬ C c := fun c hc h => by have := HST.out.grow.lt c h; omega
    have hIter := HF.out r HRM.out (wr.heap.size + 1) (wr.heap.size + 1 + 1) (wr.heap.size + 1 + 1 + 1) C w5 (HBW.out.trans (hkw.below HBW.out.size (fun _ _ => trivial))) hCw hCl hs2 hs3 hs4 (hnew _ (by omega)) (hnew _ (by omega)) (hnew _ (by omega))
    refine rd_outer (gf := 146) (lb := #[.pointer (some ⟨wr.heap.size + 1, 0, none⟩), .pointer (some ⟨wr.heap.size + 1 + 1, 0, none⟩), .pointer (some ⟨wr.heap.size + 1 + 1 + 1, 0, none⟩)]) (Enc := FEnc) rfl (enters_of Tryd.func146 (by kernel_rfl) rfl) ?_ (fun k x vals C C' W h e => e.mono h) (LL ranks r (m - 1)) C hCl
      (fun i C' W => J (offT ranks m j + i) C' W) (fun c' C' W => c' = .ret ∧ Jx C' W)
      (fun L2 i a' C' W => J (offT ranks m j + i) C' W ∧ ∃ (K : Hg) (vk : Value), (LL ranks r (m - 1))[i]? = some K ∧ IsHS (fun c => ¬ (C' c ∨ c = L2)) W vk K ∧ a' = { tmps := #[Value.func (Fn.yield L) #[] #[], .pointer (some ⟨B1, 0, none⟩), .pointer (some ⟨B2, 0, none⟩), .pointer (some ⟨W1.heap.size, 0, none⟩), .pointer (some ⟨wr.heap.size, 0, none⟩), .int .i64 (r : Nat), vk, .pointer (some ⟨b, 0, none⟩), .pointer (some ⟨b, 0, none⟩), .pointer (some ⟨b, 0, none⟩), .slice (some ⟨br, o, none⟩) ranks.length c, .int .i64 (ranks.length : Nat), .int .i64 (j : Nat), .bool true, .int .i64 (j : Nat), .pointer (some ⟨br, o + j, none⟩), .int .i64 (r : Nat), .pointer (some ⟨b, 0, none⟩), .int .i64 (r : Nat), .int .i64 (m : Nat), .int .i64 ((m - 1 : Nat) : Int), .func (.func 146) #[] #[.pointer (some ⟨wr.heap.size + 1, 0, none⟩), .pointer (some ⟨wr.heap.size + 1 + 1, 0, none⟩), .pointer (some ⟨wr.heap.size + 1 + 1 + 1, 0, none⟩)], vk, u23, u24, u25, u26, u27, u28, u29], defers := [] })
      (fun k C' W W' h hk => HJ.out _ _ _ _ h hk) (fun c' C' W W' h hk => ⟨h.1, HJX.out _ _ _ h.2 hk⟩) ?_ hIter ?_ ?_ ?_ ?_ ?_
    · rintro k x vals C' W ⟨vk, rfl, _⟩; rfl
    · rintro L2 k a' C' W W' hL hn ⟨h1, K, vk, h2, h3, h4⟩ hk
      exact ⟨HJ.out _ _ _ _ h1 (hk.mono (fun c _ hc e => hn (e ▸ hc))), K, vk, h2, h3.kp (hk.mono (fun c _ hc e => hc (.inr e))), h4⟩
    · exact HJ.out _ _ _ _ HST.out.at_ (hkw.mono fun _ _ _ => trivial)
    · rintro L2 k x vals C' W K' hx ⟨vk, rfl, hks⟩ hj2 hg hn hr hK
      gi_wp2
      exact hK _ C' W (Grow.refl hg.lt) ⟨hj2, x, vk, hx, hks, rfl⟩
    · rintro L2 k a' C' W hlt2 ⟨hj2, K, vk, hK, hks, rfl⟩ hg hn hr
      have v1 := (hg.kp.boxed (hkw.boxed HST.out.yl trivial) HST.out.nY)
      have v2 := (hg.kp.boxed hs1 (hnew _ (Nat.le_refl _)))
      obtain ⟨fn, tmps, assign, body, hy, hRd⟩ := HY.out (offT ranks m j + k) ((j : Int), K) #[.agg #[.int .i64 (j : Nat), vk]] C' W (TT_at ranks m j r k K HRI.out hK) ⟨vk, rfl, wf_nat (by have := HBB.out.len; omega), hks.mono (fun c _ h hc => h (.inl hc))⟩ (hg5.trans hg) hj2
      have z1 := v1.cell
      have z2 := v2.cell
      have z3 := v1.lt
      have z4 := v2.lt
      obtain ⟨pk, ck, rfl, _, _, _⟩ := hks
      have HRd := Lib.hid hRd
      clear hRd v1 v2 hj2 hg hr hs1 hs2 hs3 hs4 hkw hg5 hCl hCw hnew hIter
      gi_wp2
      refine (RoundIn.anyDepth HRd.out).mono ?_
      rintro e W3 ⟨C3, hg3, ⟨rfl, hj3⟩ | ⟨rfl, hx3⟩⟩
      · gi_wp2
        exact ⟨C3, hg3, hj3⟩
      · gi_wp2
        exact ⟨C3, hg3, rfl, hx3⟩
    · rintro D C' W hg hj2 hD hDC hDs
      have hst : TSt ranks m L W1.heap.size J C1 W1 (j + 1) C' (D :: Ds) W := by
        have hold : ∀ E ∈ Ds, E < wr.heap.size := fun E hE => (Array.getElem?_eq_some_iff.1 (HST.out.ds E hE).1).1
        have h5 := hkw.size
        refine ⟨hg5.trans hg, by rw [offT_succ ranks m j r HRI.out]; exact hj2, hg.kp.boxed (hkw.boxed HST.out.yl trivial) HST.out.nY, fun h => (hg.new _ h).elim HST.out.nY (fun g => by have := HST.out.yl.lt; omega), fun E hE => ?_, ?_⟩
        · rcases List.mem_cons.1 hE with rfl | hE
          · exact ⟨hD, hDC, by have := HST.out.grow.kp.size; omega⟩
          · obtain ⟨e1, e2, e3⟩ := HST.out.ds E hE
            exact ⟨hg.kp.heap (hkw.heap e1 trivial) e2, fun h => (hg.new _ h).elim e2 (fun g => by have := hold E hE; omega), e3⟩
        · rw [List.nodup_cons]
          exact ⟨fun hE => by have := hold D hE; omega, HST.out.nd⟩
      have HSTN := Lib.hid hst
      clear hst hs1 hs2 hs3 hs4 hkw hg5 hCl hCw hnew hIter hg hj2 hD hDC
      gi_wp2
      rw [show ((j : Int) + 1) = ((j + 1 : Nat) : Int) by omega]
      refine ⟨⟨j + 1, C', D :: Ds, _, _, _, _, _, _, _, _, _, _, _, _, _, _, _, _, _, _, _, _, rfl, by omega, HSTN⟩, ?_⟩
      show ranks.length - (intOf (Value.int .i64 ((j + 1 : Nat) : Int))).toNat < ranks.length - (intOf (Value.int .i64 ((j : Nat) : Int))).toNat
      simp [intOf]; omega
    · rintro D c' C' W hg ⟨rfl, hx⟩ hD hDC hDs
      have h5 := hkw.size
      have hW1 := HST.out.grow.kp.size
      have hold : ∀ E ∈ Ds, E < wr.heap.size := fun E hE => (Array.getElem?_eq_some_iff.1 (HST.out.ds E hE).1).1
      have hall : ∀ E ∈ D :: Ds, W.heap[E]? = some (.deferred (some [])) ∧ ¬ C' E ∧ W1.heap.size ≤ E := fun E hE => by
        rcases List.mem_cons.1 hE with rfl | hE
        · exact ⟨hD, hDC, by omega⟩
        · obtain ⟨e1, e2, e3⟩ := HST.out.ds E hE
          exact ⟨hg.kp.heap (hkw.heap e1 trivial) e2, fun h => (hg.new _ h).elim e2 (fun g => by have := hold E hE; omega), e3⟩
      have hnd : (D :: Ds).Nodup := by
        rw [List.nodup_cons]
        exact ⟨fun hE => by have := hold D hE; omega, HST.out.nd⟩
      have hgf := hg5.trans hg
      clear hs1 hs2 hs3 hs4 hIter
      gi_wp2
      exact leaves_col (v := .tuple #[]) (fun W => results_none rfl _ _ _) (fun W' => Grow C1 W1 C' W' ∧ Jx C' W') (fun W' h => ⟨⟨_, rfl⟩, C', h.1, .inr h.2⟩) (D :: Ds) W ⟨hgf, hx⟩ (fun E hE => (hall E hE).1) hnd
        (fun E hE W' h => ⟨h.1.own ((Kp.refl _ W').putObj (fun hl => by have := (hall E hE).2.2; omega) _), HJX.out _ _ _ h.2 ((Kp.refl _ W').putObj (fun hc => absurd hc (hall E hE).2.1) _)⟩)
  · have hnl : ¬ (j : Int) < (ranks.length : Int) := by omega
    have hdi : decide ((j : Int) < (ranks.length : Int)) = false := decide_eq_false hnl
    have hdn : decide (j < ranks.length) = false := decide_eq_false hlt
    have hje : j = ranks.length := by omega
    have hJ2 : J (TT ranks m).length C wr := by rw [← offT_end, ← hje]; exact HST.out.at_
    have HJ2 := Lib.hid hJ2
    clear hje hJ2
    gi_wp2_with fail
    exact leaves_col (v := .tuple #[]) (fun W => results_none rfl _ _ _) (fun W' => Grow C1 W1 C W' ∧ J (TT ranks m).length C W') (fun W' h => ⟨⟨_, rfl⟩, C, h.1, .inl h.2⟩) Ds wr ⟨HST.out.grow, HJ2.out⟩ (fun E hE => (HST.out.ds E hE).1) HST.out.nd
      (fun E hE W' h => ⟨h.1.own ((Kp.refl _ W').putObj (fun hl => by have := (HST.out.ds E hE).2.2; omega) _), HJ.out _ _ _ _ h.2 ((Kp.refl _ W').putObj (fun hc => absurd hc (HST.out.ds E hE).2.1) _)⟩)

end Go.Proofs.YthhliogcafmnfaaDoor
