/- The reference's maker of trees in memory, and its lists under way. -/
import Derived.Test.YthhliogcafmnfaaDoorMany
import Derived.Test.YthhliogcafmnfaaDoorMp
import Derived.Test.YthhliogcafmnfaaDoorTLL
namespace Go.Proofs.YthhliogcafmnfaaDoor
open Go.RowKit Go.Shelf

/-- A list of lists of trees. -/
def IsHL (S : Nat → Prop) (w : World) (v : Value) (L : List Hg) : Prop :=
  ∃ p c, v = .slice p L.length c ∧ L.length ≤ c ∧ c ≤ maxLen ∧ (L ≠ [] → ∃ b, p = some ⟨b, 0, none⟩ ∧ S b ∧ ∀ (i : Nat) (x : Hg), L[i]? = some x → ∃ u, w.cell? ⟨b, i, none⟩ = some u ∧ IsHS S w u x)
theorem IsHL.kp {S : Nat → Prop} {w w' : World} {v : Value} {L : List Hg} (h : IsHL S w v L) (hk : Kp S w w') : IsHL S w' v L := by
  obtain ⟨p, c, e, h1, h2, h3⟩ := h
  refine ⟨p, c, e, h1, h2, fun hne => ?_⟩
  obtain ⟨b, e, hb, hc⟩ := h3 hne
  refine ⟨b, e, hb, fun i x hx => ?_⟩
  obtain ⟨u, h4, h5⟩ := hc i x hx
  exact ⟨u, hk.cell h4 hb, h5.kp hk⟩
theorem IsHL.mono {S S' : Nat → Prop} {w : World} {v : Value} {L : List Hg} (h : IsHL S w v L) (hS : ∀ c, c < w.heap.size → S c → S' c) : IsHL S' w v L := by
  obtain ⟨p, c, e, h1, h2, h3⟩ := h
  refine ⟨p, c, e, h1, h2, fun hne => ?_⟩
  obtain ⟨b, e, hb, hc⟩ := h3 hne
  refine ⟨b, e, hS b ?_ hb, fun i x hx => ?_⟩
  · cases L with
    | nil => exact absurd rfl hne
    | cons x l =>
      obtain ⟨u, h4, _⟩ := hc 0 x rfl
      exact World.block_lt_of_cell? _ _ h4
  · obtain ⟨u, h4, h5⟩ := hc i x hx
    exact ⟨u, h4, h5.mono hS⟩

theorem RowS_toH {S : Nat → Prop} {w : World} {b : Nat} : ∀ (T : List (Int × Hg)) (o : Nat), RowS S w (toH T) b o → ∀ (a : Nat) (t : Int × Hg), T[a]? = some t →
    w.cell? ⟨b, o + a * 2, none⟩ = some (.int .i64 t.1) ∧ (Lit.int .i64 t.1).wf = true ∧ ∃ vk, w.cell? ⟨b, o + a * 2 + 1, none⟩ = some vk ∧ IsHS S w vk t.2
  | [], _, _, a, t, h => by simp at h
  | x :: T, o, h, a, t, ht => by
    rw [toH, RowS.cons_iff] at h
    obtain ⟨_, c0, hwf, ⟨vk, c1, hk⟩, hr⟩ := h
    cases a with
    | zero =>
      simp at ht; subst ht
      exact ⟨by simpa using c0, hwf, vk, by simpa using c1, hk⟩
    | succ a =>
      have := RowS_toH T (o + 2) hr a t (by simpa using ht)
      rw [show o + (a + 1) * 2 = o + 2 + a * 2 by omega]
      exact this

/-! ### the data -/
def TTp (ranks : List Nat) (m j : Nat) : List (Int × Hg) := (ranks.zipIdx.take j).flatMap fun x => (LL ranks x.1 m).map fun K => ((x.2 : Int), K)
theorem TTp_0 (ranks : List Nat) (m : Nat) : TTp ranks m 0 = [] := rfl
theorem TTp_succ {ranks : List Nat} {m j r : Nat} (h : ranks[j]? = some r) : TTp ranks m (j + 1) = TTp ranks m j ++ (LL ranks r m).map fun K => ((j : Int), K) := by
  have h1 : ranks.zipIdx[j]? = some (r, j) := by simp [List.getElem?_zipIdx, h]
  unfold TTp
  rw [List.take_add_one, h1]
  simp
theorem TTp_all (ranks : List Nat) (m : Nat) : TTp ranks m ranks.length = TT ranks (m + 1) := by
  unfold TTp TT
  rw [List.take_of_length_le (by simp)]
  rfl
theorem TTp_le (ranks : List Nat) (m : Nat) : ∀ j, (TTp ranks m j).length ≤ (TT ranks (m + 1)).length := by
  intro j
  rw [← TTp_all]
  unfold TTp
  have : ∀ (l : List (Nat × Nat)) (j k : Nat), j ≤ k → ((l.take j).flatMap fun x => (LL ranks x.1 m).map fun K => ((x.2 : Int), K)).length ≤ ((l.take k).flatMap fun x => (LL ranks x.1 m).map fun K => ((x.2 : Int), K)).length := by
    intro l
    induction l with
    | nil => intro j k _; simp
    | cons a l ih =>
      intro j k hjk
      cases j with
      | zero => simp
      | succ j =>
        obtain ⟨k, rfl⟩ : ∃ q, k = q + 1 := ⟨k - 1, by omega⟩
        have := ih j k (by omega)
        simp only [List.take_succ_cons, List.flatMap_cons, List.length_append]
        omega
  by_cases hj : j ≤ ranks.length
  · exact this _ _ _ hj
  · rw [List.take_of_length_le (by simp; omega), List.take_of_length_le (by simp)]
    exact Nat.le_refl _
theorem LL_le_TT {ranks : List Nat} {m r : Nat} (h : r ∈ ranks) : (LL ranks r m).length ≤ (TT ranks (m + 1)).length := by
  obtain ⟨j, hj⟩ := List.getElem?_of_mem h
  have h1 := TTp_le ranks m (j + 1)
  rw [TTp_succ hj, List.length_append, List.length_map] at h1
  omega

/-- The lists whose first tree is one of T. -/
def conL (T : List (Int × Hg)) (R : List Hg) : List Hg := T.flatMap fun t => R.map fun r => Hg.cons t.1 t.2 r
theorem conL_nil (R : List Hg) : conL [] R = [] := rfl
theorem conL_snoc (T : List (Int × Hg)) (t : Int × Hg) (R : List Hg) : conL (T ++ [t]) R = conL T R ++ R.map fun r => Hg.cons t.1 t.2 r := by simp [conL]
theorem conL_len (T : List (Int × Hg)) (R : List Hg) : (conL T R).length = T.length * R.length := by
  unfold conL
  rw [flatMap_len]
  simp only [List.length_map]
  exact sumL_const _ _
def LLp (ranks : List Nat) (k n i : Nat) : List Hg := (List.range i).flatMap fun x => conL (TT ranks (x + 1)) (LL ranks k (n - (x + 1)))
theorem LLp_0 (ranks : List Nat) (k n : Nat) : LLp ranks k n 0 = [] := rfl
theorem LLp_succ (ranks : List Nat) (k n i : Nat) : LLp ranks k n (i + 1) = LLp ranks k n i ++ conL (TT ranks (i + 1)) (LL ranks k (n - (i + 1))) := by
  unfold LLp; rw [List.range_succ]; simp
theorem LLp_all {ranks : List Nat} (hr : ∀ r ∈ ranks, r ≤ 3) (k n : Nat) : LLp ranks k n n = LL ranks (k + 1) n := by rw [LL_succ hr]; rfl
theorem LLp_le (ranks : List Nat) (k n : Nat) {i j : Nat} (h : i ≤ j) : (LLp ranks k n i).length ≤ (LLp ranks k n j).length := by
  induction j with
  | zero => rw [show i = 0 by omega]; exact Nat.le_refl _
  | succ j ih =>
    by_cases e : i = j + 1
    · subst e; exact Nat.le_refl _
    · rw [LLp_succ, List.length_append]
      have := ih (by omega)
      omega
theorem LLp_part {ranks : List Nat} (hr : ∀ r ∈ ranks, r ≤ 3) {k n i : Nat} (h : i < n) : (LLp ranks k n i).length + (TT ranks (i + 1)).length * (LL ranks k (n - (i + 1))).length ≤ (LL ranks (k + 1) n).length := by
  have := LLp_le ranks k n (show i + 1 ≤ n by omega)
  rw [LLp_succ, List.length_append, conL_len, LLp_all hr] at this
  exact this

/-! ### the maker -/
def keysM : List Lit := (List.range 12).map fun i : Nat => Lit.int .i64 ((i : Int) + 1)
theorem keysM_mem {m : Nat} (h : m < 12) : Lit.int .i64 ((m : Int) + 1) ∈ keysM := List.mem_map.2 ⟨m, List.mem_range.2 h, rfl⟩

structure Mk (ranks : List Nat) (N0 : Nat) (p : Option Addr) (c M Bk : Nat) (S : Nat → Prop) (w : World) : Prop where
  lM : M < N0
  lB : Bk < N0
  ne : M ≠ Bk
  blk : Blk w M 107 #[.slice p ranks.length c, .map (some Bk)]
  map : ∃ f, IsMp Tryd.prog 3 keysM w Bk f ∧ ∀ (m : Nat) v, f (.int .i64 ((m : Int) + 1)) = some v → IsHS S w v (toH (TT ranks (m + 1)))
  al : IsIntsS (fun c => c < N0 ∧ c ≠ Bk) w (.slice p ranks.length c) (ranks.map (fun r : Nat => (r : Int)))

theorem Mk.move {ranks : List Nat} {N0 : Nat} {p : Option Addr} {c M Bk : Nat} {S S' T : Nat → Prop} {W W' : World} (h : Mk ranks N0 p c M Bk S W) (hk : Kp T W W') (hT : ∀ c, c < N0 → T c) (hS : ∀ c, c < W.heap.size → S c → T c ∧ S' c) : Mk ranks N0 p c M Bk S' W' := by
  obtain ⟨h1, h2, h3, h4, ⟨f, h5, h6⟩, h7⟩ := h
  refine ⟨h1, h2, h3, h4.kp hk (hT _ h1), ⟨f, h5.kp hk (hT _ h2), fun m v hv => ?_⟩, h7.kp (hk.mono fun c _ hc => hT c hc.1)⟩
  exact (((h6 m v hv).mono hS).kp (hk.mono fun c _ hc => hc.1)).mono (fun c _ hc => hc.2)
theorem Mk.mono {ranks : List Nat} {N0 : Nat} {p : Option Addr} {c M Bk : Nat} {S S' : Nat → Prop} {W : World} (h : Mk ranks N0 p c M Bk S W) (hS : ∀ c, c < W.heap.size → S c → S' c) : Mk ranks N0 p c M Bk S' W :=
  h.move (Kp.refl (fun _ => True) W) (fun _ _ => trivial) (fun c hc hs => ⟨trivial, hS c hc hs⟩)

/-- What an activation that began at heap size N1 may use beside the list that it makes. -/
def Gs (S : Nat → Prop) (N1 : Nat) (va : Value) (c : Nat) : Prop := (S c ∨ N1 ≤ c) ∧ va.ownBlock ≠ some c
theorem Gs.step {S : Nat → Prop} {N1 : Nat} {va v' : Value} {W : World} (hat : v'.ownBlock = va.ownBlock ∨ v'.ownBlock = some W.heap.size) (c : Nat) (hc : c < W.heap.size) (h : Gs S N1 va c) : Gs S N1 va c ∧ Gs S N1 v' c := by
  refine ⟨h, h.1, ?_⟩
  rcases hat with e | e
  · rw [e]; exact h.2
  · rw [e]; intro e2; cases e2; omega

/-- A list of trees under way. -/
structure OT (S : Nat → Prop) (N1 : Nat) (P : List (Int × Hg)) (W : World) (D : DL) (va : Value) : Prop where
  eq : D.map (fun x => (x.1, x.2.1)) = P
  own : W.ownsRow N1 27 2 va D.length (dcells D)
  kids : DIn (Gs S N1 va) W D
theorem OT.kp {S T : Nat → Prop} {N1 : Nat} {P : List (Int × Hg)} {W W' : World} {D : DL} {va : Value} (h : OT S N1 P W D va) (hk : Kp T W W') (hT : ∀ c, c < W.heap.size → (Gs S N1 va c ∨ va.ownBlock = some c) → T c) : OT S N1 P W' D va :=
  ⟨h.eq, ownsRow_heap h.own (fun g hg => hk.block g (h.own.lt g hg).2 (hT g (h.own.lt g hg).2 (.inr hg))), h.kids.kp (hk.mono fun c hc hg => hT c hc (.inl hg))⟩
theorem OT.step {S : Nat → Prop} {N1 : Nat} {P : List (Int × Hg)} {W W' : World} {D : DL} {va v' kv : Value} {l : Int} {K : Hg} (h : OT S N1 P W D va) (hwf : (Lit.int .i64 l).wf = true) (hkv : IsHS (Gs S N1 va) W kv K)
    (hk : Kp (fun c => va.ownBlock ≠ some c) W W') (hat : v'.ownBlock = va.ownBlock ∨ v'.ownBlock = some W.heap.size) (hown : W'.ownsRow N1 27 2 v' (D.length + 1) (dcells D ++ [.int .i64 l, kv])) :
    OT S N1 (P ++ [(l, K)]) W' (D ++ [(l, K, kv)]) v' := by
  refine ⟨by rw [List.map_append, h.eq]; rfl, by rw [dcells_snoc, List.length_append]; exact hown, DIn.snoc ?_ ⟨hwf, ?_⟩⟩
  · exact ((h.kids.mono (Gs.step hat)).kp (hk.mono fun c _ g => g.1.2)).mono (fun c _ g => g.2)
  · exact ((hkv.mono (Gs.step hat)).kp (hk.mono fun c _ g => g.1.2)).mono (fun c _ g => g.2)

/-- A list of lists of trees under way. -/
structure OL (S : Nat → Prop) (N1 : Nat) (P : List Hg) (W : World) (D : List (Hg × Value)) (va : Value) : Prop where
  eq : D.map (·.1) = P
  own : W.ownsRow N1 25 1 va D.length (D.map (·.2))
  kids : ∀ x ∈ D, IsHS (Gs S N1 va) W x.2 x.1
theorem OL.kp {S T : Nat → Prop} {N1 : Nat} {P : List Hg} {W W' : World} {D : List (Hg × Value)} {va : Value} (h : OL S N1 P W D va) (hk : Kp T W W') (hT : ∀ c, c < W.heap.size → (Gs S N1 va c ∨ va.ownBlock = some c) → T c) : OL S N1 P W' D va :=
  ⟨h.eq, ownsRow_heap h.own (fun g hg => hk.block g (h.own.lt g hg).2 (hT g (h.own.lt g hg).2 (.inr hg))), fun x hx => (h.kids x hx).kp (hk.mono fun c hc hg => hT c hc (.inl hg))⟩
theorem OL.step {S : Nat → Prop} {N1 : Nat} {P : List Hg} {W W' : World} {D : List (Hg × Value)} {va v' kv : Value} {K : Hg} (h : OL S N1 P W D va) (hkv : IsHS (Gs S N1 va) W kv K)
    (hk : Kp (fun c => va.ownBlock ≠ some c) W W') (hat : v'.ownBlock = va.ownBlock ∨ v'.ownBlock = some W.heap.size) (hown : W'.ownsRow N1 25 1 v' (D.length + 1) (D.map (·.2) ++ [kv])) :
    OL S N1 (P ++ [K]) W' (D ++ [(K, kv)]) v' := by
  refine ⟨by rw [List.map_append, h.eq]; rfl, by rw [List.map_append, List.length_append]; exact hown, fun x hx => ?_⟩
  rcases List.mem_append.1 hx with hx | hx
  · exact (((h.kids x hx).mono (Gs.step hat)).kp (hk.mono fun c _ g => g.1.2)).mono (fun c _ g => g.2)
  · rw [List.mem_singleton] at hx; subst hx
    exact ((hkv.mono (Gs.step hat)).kp (hk.mono fun c _ g => g.1.2)).mono (fun c _ g => g.2)
theorem OL.isHL {S : Nat → Prop} {N1 : Nat} {P : List Hg} {W : World} {D : List (Hg × Value)} {va : Value} (h : OL S N1 P W D va) : IsHL (fun c => S c ∨ N1 ≤ c) W va P := by
  have hl : P.length = D.length := by rw [← h.eq, List.length_map]
  rcases h.own.2 with ⟨e, hn⟩ | ⟨g, cap, cur, e, hg, _, h1, h2, _⟩
  · have hnil : P = [] := List.eq_nil_of_length_eq_zero (by omega)
    rw [hnil, e]
    exact ⟨none, 0, rfl, Nat.le_refl _, by decide, fun h => absurd rfl h⟩
  · rw [e]
    refine ⟨some ⟨g, 0, none⟩, cap, by rw [hl], by omega, h2, fun _ => ⟨g, rfl, .inr hg, fun i x hx => ?_⟩⟩
    have hi : i < D.length := by rw [← hl]; exact (List.getElem?_eq_some_iff.1 hx).1
    rw [← h.eq, List.getElem?_map, Option.map_eq_some_iff] at hx
    obtain ⟨y, hy, rfl⟩ := hx
    have hown := h.own
    rw [e] at hown
    exact ⟨y.2, by rw [hown.cellAt i (by omega), List.getElem?_map, hy]; rfl, (h.kids y (List.mem_of_getElem? hy)).mono (fun c _ g => g.1)⟩
theorem OT.isHS {S : Nat → Prop} {N1 : Nat} {P : List (Int × Hg)} {W : World} {D : DL} {va : Value} (h : OT S N1 P W D va) : IsHS (fun c => S c ∨ N1 ≤ c) W va (toH P) := by
  have := h.kids.isHS (S' := fun c => S c ∨ N1 ≤ c) h.own (fun c _ g => g.1) (fun c hc => .inr hc)
  rwa [dapp_toH, h.eq] at this

/-! ### laws at the operations -/
theorem wpList_mp_put {P : Program} (w : World) {ops : Array Oper} {rest : List Oper} {o : Oper} {a : Act} {Q : Exit → Act → World → Prop}
    (hg : o.guard = none) (m x v : Operand) (t : TypeId) (hop : o.op = Op.mapUpdate t m x v)
    (k e : TypeId) (K : Maps.Keyed P k) (ht : P.underlying t = some (.map k e)) (ks : List Lit) (b : Nat) (f : Lit → Option Value)
    (hm : a.eval m = .map (some b)) (hown : IsMp P k ks w b f) (hn : ks.length < maxLen) (key val : Value) (kl : Lit) (hx : a.eval x = key) (hv : a.eval v = val) (hkey : keyOf P k key = some kl) (hks : kl ∈ ks)
    (hK : ∀ w', IsMp P k ks w' b (putF f kl val) → w.grownBy w' (some b) → wpList P ops Q rest (a.put o.dst undef) w') :
    wpList P ops Q (o :: rest) a w := by
  refine wpList_plain hg fun K' hK' => ?_
  obtain ⟨w', hrun, r1, r2⟩ := hown.put K ht (val := val) hkey hks hn
  unfold Oper.wp
  simp [execOp, hop, hm, hx, hv, hrun, Result.andThen]
  exact hK' _ _ (hK w' r1 r2)

theorem wpList_tree_append {ops : Array Oper} {rest : List Oper} {o : Oper} {a : Act} {Q : Exit → Act → World → Prop} (w : World) (hgd : o.guard = none) (s x : Operand)
    (ho : o.op = .call { callee := .builtin .append, args := #[s, x], argTypes := #[25, 25] })
    (S : Nat → Prop) (g : Nat) (l : Int) (Kh R : Hg) (kv xv : Value) (hs : a.eval s = .slice (some ⟨g, 0, none⟩) 1 1) (hx : a.eval x = xv)
    (hB : Blk w g 27 #[.int .i64 l, kv]) (hwf : (Lit.int .i64 l).wf = true) (hkv : IsHS S w kv Kh) (hxv : IsHS S w xv R)
    (hS : ∀ c, S c → c ≠ g) (hR : R.len ≤ 1000000)
    (h : ∀ v' w', IsHS (fun c => S c ∨ g ≤ c) w' v' (.cons l Kh R) → Kp (fun c => c ≠ g) w w' → wpList Tryd.prog ops Q rest (a.put o.dst v') w') :
    wpList Tryd.prog ops Q (o :: rest) a w := by
  refine wpList_plain hgd fun K hK => ?_
  obtain ⟨v', w', hr, h2, h3⟩ := tree_append S w g l Kh R kv xv hB hwf hkv hxv hS hR o.type
  unfold Oper.wp execOp
  simp only [ho, resolve, invoke, builtin, Sem.run_bind, Sem.run_pure, Result.andThen_ok, List.map_toArray, List.map_cons, List.map_nil, hs, hx, hr]
  exact hK _ _ (h v' w' h2 h3)

/-- What trees and lists promise. -/
def PTm (ranks : List Nat) (N0 : Nat) (p : Option Addr) (c M Bk : Nat) (S : Nat → Prop) (w : World) (T : List (Int × Hg)) (e : Ending) (w' : World) : Prop :=
  ∃ v, e = .returned v ∧ IsHS (fun c => S c ∨ w.heap.size ≤ c) w' v (toH T) ∧ Mk ranks N0 p c M Bk (fun c => S c ∨ w.heap.size ≤ c) w' ∧ Kp (fun c => c ≠ Bk) w w'
def PL' (ranks : List Nat) (N0 : Nat) (p : Option Addr) (c M Bk : Nat) (S : Nat → Prop) (w : World) (L : List Hg) (e : Ending) (w' : World) : Prop :=
  ∃ v, e = .returned v ∧ IsHL (fun c => S c ∨ w.heap.size ≤ c) w' v L ∧ Mk ranks N0 p c M Bk (fun c => S c ∨ w.heap.size ≤ c) w' ∧ Kp (fun c => c ≠ Bk) w w'
def CT (ranks : List Nat) (N0 : Nat) (p : Option Addr) (c M Bk m : Nat) : Prop :=
  ∀ (S : Nat → Prop) (w : World) (x : Int), x = (m : Int) + 1 → N0 ≤ w.heap.size → (∀ c, S c → c ≠ Bk) → Mk ranks N0 p c M Bk S w →
    Calls Tryd.prog 79 #[.pointer (some ⟨M, 0, none⟩), .int .i64 x] w (PTm ranks N0 p c M Bk S w (TT ranks (m + 1)))
def CL (ranks : List Nat) (N0 : Nat) (p : Option Addr) (c M Bk k n : Nat) : Prop :=
  ∀ (S : Nat → Prop) (w : World) (x y : Int), x = (k : Int) → y = (n : Int) → N0 ≤ w.heap.size → (∀ c, S c → c ≠ Bk) → Mk ranks N0 p c M Bk S w →
    Calls Tryd.prog 123 #[.pointer (some ⟨M, 0, none⟩), .int .i64 x, .int .i64 y] w (PL' ranks N0 p c M Bk S w (LL ranks k n))

end Go.Proofs.YthhliogcafmnfaaDoor
