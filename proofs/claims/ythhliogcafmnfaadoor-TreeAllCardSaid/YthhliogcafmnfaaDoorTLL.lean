/- Lists of positions in memory; slices.Clone of a position. -/
import Derived.Test.YthhliogcafmnfaaDoorTPos
import Derived.Test.YthhliogcafmnfaaDoorCloneT
namespace Go.Proofs.YthhliogcafmnfaaDoor
open Go.RowKit Go.Shelf

def toI (p : List Nat) : List Int := p.map (fun i : Nat => (i : Int))
theorem toI_length (p : List Nat) : (toI p).length = p.length := by simp [toI]
def IsIntsS (S : Nat → Prop) (w : World) (v : Value) (l : List Int) : Prop :=
  ∃ p c, v = .slice p l.length c ∧ l.length ≤ c ∧ c ≤ maxLen ∧ (l ≠ [] → ∃ b o, p = some ⟨b, o, none⟩ ∧ S b ∧ ∀ (i : Nat) (x : Int), l[i]? = some x → w.cell? ⟨b, o + i, none⟩ = some (.int .i64 x))
theorem IsIntsS.isInts {S : Nat → Prop} {w : World} {v : Value} {l : List Int} (h : IsIntsS S w v l) : IsInts w v l := by
  obtain ⟨p, c, e, h1, h2, h3⟩ := h
  refine ⟨p, c, e, h1, h2, fun hne => ?_⟩
  obtain ⟨b, o, e, _, hc⟩ := h3 hne
  exact ⟨b, o, e, hc⟩
theorem IsIntsS.kp {S : Nat → Prop} {w w' : World} {v : Value} {l : List Int} (h : IsIntsS S w v l) (hk : Kp S w w') : IsIntsS S w' v l := by
  obtain ⟨p, c, e, h1, h2, h3⟩ := h
  refine ⟨p, c, e, h1, h2, fun hne => ?_⟩
  obtain ⟨b, o, e, hb, hc⟩ := h3 hne
  exact ⟨b, o, e, hb, fun i x hx => hk.cell (hc i x hx) hb⟩
theorem IsIntsS.mono {S S' : Nat → Prop} {w : World} {v : Value} {l : List Int} (h : IsIntsS S w v l) (hS : ∀ c, c < w.heap.size → S c → S' c) : IsIntsS S' w v l := by
  obtain ⟨p, c, e, h1, h2, h3⟩ := h
  refine ⟨p, c, e, h1, h2, fun hne => ?_⟩
  obtain ⟨b, o, e, hb, hc⟩ := h3 hne
  refine ⟨b, o, e, hS b ?_ hb, hc⟩
  cases l with
  | nil => exact absurd rfl hne
  | cons x l => exact World.block_lt_of_cell? _ _ (hc 0 x rfl)
theorem IsIntsS.of_own {S : Nat → Prop} {W : World} {base : Nat} {v : Value} {path : List Nat} (h : W.ownsRow base 3 1 v path.length (ints path)) (hS : ∀ g, base ≤ g → S g) : IsIntsS S W v (toI path) := by
  rcases h.2 with ⟨rfl, hl⟩ | ⟨g, cap', cur, rfl, hb, _, h1, h2, _⟩
  · have : path = [] := List.eq_nil_of_length_eq_zero hl
    subst this
    exact ⟨_, _, rfl, Nat.le_refl _, by decide, fun hne => absurd rfl hne⟩
  · refine ⟨_, _, by rw [toI_length], by rw [toI_length]; exact h1, h2, fun _ => ⟨g, 0, rfl, hS g hb, fun i x hx => ?_⟩⟩
    have hi := (List.getElem?_eq_some_iff.1 hx).1
    rw [toI_length] at hi
    rw [Nat.zero_add, h.cellAt i (by omega)]
    simp only [toI, List.getElem?_map, Option.map_eq_some_iff] at hx
    obtain ⟨y, hy, rfl⟩ := hx
    simp [ints, hy]

theorem ispos_below {w w' : World} {v : Value} {l : List Nat} (h : IsPos w v l) (hb : Below w.heap.size w w') : IsPos w' v l := by
  obtain ⟨A, cap, e, h1, h2, h3⟩ := h
  refine ⟨A, cap, e, h1, h2, fun hne => ?_⟩
  obtain ⟨g, e, hc⟩ := h3 hne
  exact ⟨g, e, fun i x hx => cell_later hb (hc i x hx)⟩

/-- A list of lists of numbers. -/
def IsLL (w : World) (v : Value) (L : List (List Int)) : Prop :=
  ∃ p c, v = .slice p L.length c ∧ L.length ≤ c ∧ c ≤ maxLen ∧ (L ≠ [] → ∃ b o, p = some ⟨b, o, none⟩ ∧ ∀ (i : Nat) (x : List Int), L[i]? = some x → ∃ u, w.cell? ⟨b, o + i, none⟩ = some u ∧ IsInts w u x)
theorem IsLL.below {w w' : World} {v : Value} {L : List (List Int)} (h : IsLL w v L) (hb : Below w.heap.size w w') : IsLL w' v L := by
  obtain ⟨p, c, e, h1, h2, h3⟩ := h
  refine ⟨p, c, e, h1, h2, fun hne => ?_⟩
  obtain ⟨b, o, e, hc⟩ := h3 hne
  refine ⟨b, o, e, fun i x hx => ?_⟩
  obtain ⟨u, h4, h5⟩ := hc i x hx
  exact ⟨u, cell_later hb h4, h5.below hb⟩

/-- A list of lists under way: each with its value. -/
abbrev PL := List (List Int × Value)
structure PJ (T : List (List Int)) (base B k : Nat) (C : Nat → Prop) (W : World) (D : PL) (va : Value) : Prop where
  cb : C B
  len : D.length = k
  eq : D.map (·.1) = T.take k
  box : Boxed W B 38 va
  own : W.ownsRow base 22 1 va k (D.map (·.2))
  blk : ∀ g, va.ownBlock = some g → C g ∧ g ≠ B
  kids : ∀ x ∈ D, IsIntsS (fun c => C c ∧ c ≠ B ∧ va.ownBlock ≠ some c) W x.2 x.1

theorem PJ.kp {T : List (List Int)} {base B k : Nat} {C : Nat → Prop} {W W' : World} {D : PL} {va : Value} (h : PJ T base B k C W D va) (hk : Kp C W W') : PJ T base B k C W' D va :=
  ⟨h.cb, h.len, h.eq, hk.boxed h.box h.cb, ownsRow_heap h.own (fun g hg => hk.block g ((h.own.lt g hg).2) (h.blk g hg).1), h.blk, fun x hx => (h.kids x hx).kp (hk.mono (fun _ _ h => h.1))⟩

theorem PJ.step {T : List (List Int)} {base B k : Nat} {C : Nat → Prop} {W : World} {D : PL} {va : Value} (h : PJ T base B k C W D va) {t : List Int} (hT : T[k]? = some t) (hC : ∀ c, C c → c < W.heap.size)
    {w4 w5 w6 : World} {v' kv : Value} (h4 : Kp (fun _ => True) W w4) (hkv : IsIntsS (fun c => W.heap.size ≤ c ∧ c < w4.heap.size) w4 kv t)
    (h5 : Kp (fun c => va.ownBlock ≠ some c) w4 w5) (hat : v'.ownBlock = va.ownBlock ∨ v'.ownBlock = some w4.heap.size) (h6 : Kp (fun c => c ≠ B) w5 w6)
    (hbox : Boxed w6 B 38 v') (hown : w6.ownsRow base 22 1 v' (k + 1) ((D ++ [(t, kv)]).map (·.2))) :
    ∃ C', Grow C W C' w6 ∧ PJ T base B (k + 1) C' w6 (D ++ [(t, kv)]) v' := by
  have s4 := h4.size
  have s5 := h5.size
  have s6 := h6.size
  have hB := hC _ h.cb
  have hnot : ∀ c, va.ownBlock = some c → C c := fun c e => (h.blk c e).1
  have hnv : ∀ c, c < W.heap.size → va.ownBlock ≠ some c → v'.ownBlock ≠ some c := fun c hc hn e => by
    rcases hat with e' | e'
    · exact hn (e' ▸ e)
    · rw [e'] at e; cases e; omega
  refine ⟨fun c => C c ∨ (W.heap.size ≤ c ∧ c < w6.heap.size), ⟨fun c h => .inl h, fun c h => h.imp id (fun g => g.1), fun c h => h.elim (fun g => by have := hC c g; omega) (fun g => g.2), ?_⟩, ?_⟩
  · refine ⟨h6.os.trans (h5.os.trans h4.os), h6.tape.trans (h5.tape.trans h4.tape), h6.output.trans (h5.output.trans h4.output), by omega, fun c hc hn => ?_⟩
    have e1 : va.ownBlock ≠ some c := fun e => hn (hnot c e)
    rw [h6.block c (by omega) (fun e => hn (e ▸ h.cb)), h5.block c (by omega) e1, h4.block c hc trivial]
  · refine ⟨.inl h.cb, by simp [h.len], ?_, hbox, hown, fun g hg => ?_, ?_⟩
    · rw [List.map_append, h.eq, List.take_add_one, hT]; rfl
    · rcases hat with e' | e'
      · have := h.blk g (e' ▸ hg); exact ⟨.inl this.1, this.2⟩
      · rw [e'] at hg
        cases hg
        have := (hown.lt _ e').2
        exact ⟨.inr ⟨s4, this⟩, by omega⟩
    · intro x hx
      rcases List.mem_append.1 hx with hx | hx
      · exact ((((h.kids x hx).kp (h4.mono fun _ _ _ => trivial)).kp (h5.mono fun _ _ g => g.2.2)).kp (h6.mono fun c _ g => g.2.1)).mono (fun c hc g => ⟨.inl g.1, g.2.1, hnv c (hC c g.1) g.2.2⟩)
      · rw [List.mem_singleton] at hx
        subst hx
        refine ((hkv.kp (h5.mono fun c _ g e => by have := hC c (hnot c e); omega)).kp (h6.mono fun c _ g => by omega)).mono (fun c hc g => ⟨.inr ⟨g.1, by omega⟩, by omega, fun e => ?_⟩)
        rcases hat with e' | e'
        · have := hC c (hnot c (e' ▸ e)); omega
        · rw [e'] at e; cases e; omega

theorem PJ.isLL {T : List (List Int)} {base B k : Nat} {C : Nat → Prop} {W : World} {D : PL} {va : Value} (h : PJ T base B k C W D va) : IsLL W va (T.take k) := by
  have hl : (T.take k).length = k := by rw [← h.eq, List.length_map, h.len]
  rcases h.own.2 with ⟨e, hn⟩ | ⟨g, cap, cur, e, _, _, h1, h2, _⟩
  · have hnil : T.take k = [] := List.eq_nil_of_length_eq_zero (by omega)
    rw [hnil, e]
    exact ⟨none, 0, rfl, Nat.le_refl _, by decide, fun h => absurd rfl h⟩
  · rw [e]
    refine ⟨some ⟨g, 0, none⟩, cap, by rw [hl], by omega, h2, fun _ => ⟨g, 0, rfl, fun i x hx => ?_⟩⟩
    have hi : i < k := by rw [← hl]; exact (List.getElem?_eq_some_iff.1 hx).1
    rw [← h.eq, List.getElem?_map, Option.map_eq_some_iff] at hx
    obtain ⟨y, hy, rfl⟩ := hx
    have hown := h.own
    rw [e] at hown
    refine ⟨y.2, ?_, (h.kids y (List.mem_of_getElem? hy)).isInts⟩
    rw [Nat.zero_add, hown.cellAt i (by omega), List.getElem?_map, hy]; rfl

theorem Tryd.infoInts : (Tryd.prog.info? 22).map (fun i => (i.zero, i.size, i.bytes)) = some (some (.slice none 0 0), 1, 24) := by kernel_rfl

set_option maxRecDepth 100000 in
set_option maxHeartbeats 1000000 in
theorem iclone_any (w : World) (v : Value) (path : List Nat) (hv : IsPos w v path) (hsz : path.length ≤ 1000000) :
    Calls Tryd.prog 69 #[v] w fun e w' => Below w.heap.size w w' ∧ ∃ v', e = .returned v' ∧ w'.ownsRow w.heap.size 3 1 v' path.length (ints path) := by
  obtain ⟨i0, hi, hz0, hz1, hz2⟩ := info_parts Tryd.infoInt
  obtain ⟨p, c, rfl, hc1, hc2, hrow⟩ := hv
  have HC := Lib.hid hrow
  have HI := Lib.hid hi
  clear hi
  cases p with
  | none =>
    have hn : path = [] := by
      rcases Classical.em (path = []) with h | h
      · exact h
      · obtain ⟨g, h, _⟩ := hrow h
        cases h
    have HN := Lib.hid hn
    clear hrow hn
    have heq : ∀ (W : World), (binOp .eql 22 (.slice none path.length c) (.slice none 0 0)).run Tryd.prog W = .ok (.bool true) W := fun W => (Go.Lib.run_eql_slice_nil W 22 3 _ _ _ _ _ Tryd.underlying22)
    go_enter Tryd.func69, Tryd.ntmps69
    go_wp2
    go_ret
    refine ⟨Below.refl _ _, ?_⟩
    exact ⟨_, rfl, by rw [ints_length, Nat.mul_one], .inl ⟨rfl, by rw [HN.out]; rfl⟩⟩
  | some ad =>
    clear hrow
    have heq : ∀ (W : World), (binOp .eql 22 (.slice (some ad) path.length c) (.slice none 0 0)).run Tryd.prog W = .ok (.bool false) W := fun W => (Go.Lib.run_eql_slice_nil W 22 3 _ _ _ _ _ Tryd.underlying22)
    have hnews : ∀ j u, (ints path)[j]? = some u → (w.alloc (.cells #[] 3)).cell? (ad.add j) = some u := fun j u hu => by
      simp only [ints, List.getElem?_map, Option.map_eq_some_iff] at hu
      obtain ⟨x, hx, rfl⟩ := hu
      obtain ⟨g, e, h⟩ := HC.out (fun h => by rw [h] at hx; simp at hx)
      cases e
      have e : ((⟨g, 0, none⟩ : Addr).add j) = ⟨g, j, none⟩ := by unfold Addr.add; split <;> simp_all
      rw [e]
      exact cell_later ((Below.refl _ w).alloc (Nat.le_refl _) _) (h j x hx)
    have hone : ∀ u ∈ ints path, u.oneCell' = true := fun u hu => by
      simp only [ints, List.mem_map] at hu
      obtain ⟨x, _, rfl⟩ := hu
      rfl
    have HNW := Lib.hid hnews
    have HON := Lib.hid hone
    clear hnews hone
    go_enter Tryd.func69, Tryd.ntmps69
    go_wp2_with (at_builtin; refine wpList_append_own_at _ rfl (.tmp 5) (.tmp 6) 22 rfl w.heap.size 3 i0 _ 1 8 Tryd.underlying22 HI.out hz0 hz1 hz2 rfl (by decide) (.slice (some ⟨w.heap.size, 0, none⟩) 0 0) 0 [] rfl ⟨rfl, .inr ⟨w.heap.size, 0, #[], rfl, Nat.le_refl _, World.alloc_heap_new w _, Nat.le_refl _, by simp [maxLen], rfl, rfl⟩⟩ ad path.length c (ints path) rfl (by rw [ints_length, Nat.mul_one]) HNW.out HON.out (by simp only [maxLen]; omega) (by omega) (by simp) ?_)
    intro v' w' ho hg _ hat
    have HO := Lib.hid ho
    clear ho
    go_wp2
    go_ret
    have hbel : Below w.heap.size w w' := ((Below.refl _ w).alloc (Nat.le_refl _) _).grown hg (by simp) (fun j e => by simp [Value.ownBlock] at e; omega)
    refine ⟨hbel, v', by simp, ?_⟩
    simpa using HO.out

/-- An append of one list, at a step of a region that draws its order, within a round. -/
theorem step_ints_append {ro : Option Nat} {n : Nat} {ops : Array Oper} {o : Oper} {a : Act} {K : Act → World → Prop} {Q : Exit → Act → World → Prop} {E : Prop} (w : World) (hgd : o.guard = none) (s x : Operand)
    (ho : o.op = .call { callee := .builtin .append, args := #[s, x], argTypes := #[38, 38] })
    (base : Nat) (v : Value) (k : Nat) (xs : List Value) (hs : a.eval s = v) (hown : w.ownsRow base 22 1 v k xs) (g : Nat) (u : Value) (hx : a.eval x = .slice (some ⟨g, 0, none⟩) 1 1)
    (hB : Blk w g 22 #[u]) (hu : u.oneCell' = true) (hk : k ≤ 5000) (hbase : base ≤ w.heap.size)
    (h : ∀ v' w', w'.ownsRow base 22 1 v' (k + 1) (xs ++ [u]) → Kp (fun c => v.ownBlock ≠ some c) w w' → (v'.ownBlock = v.ownBlock ∨ v'.ownBlock = some w.heap.size) → K (a.put o.dst v') w') :
    if Region.wanted o (yielded ops a.tmps) = true then Oper.wpIn (fnc ro) n Tryd.prog o a w K Q else E := by
  have hw : Region.wanted o (yielded ops a.tmps) = true := by simp [Region.wanted, hgd]
  rw [if_pos hw]
  obtain ⟨i0, hi, hz0, hz1, hz2⟩ := info_parts Tryd.infoInts
  obtain ⟨v', w', hr, h2, h3, _, h4⟩ := run_append_own_at (P := Tryd.prog) w base 38 o.type 22 i0 _ 1 24 Tryd.underlying38 hi hz0 hz1 hz2 rfl (by decide) v k xs hown
      ⟨g, 0, none⟩ 1 1 [u] rfl (fun j u' hu' => by
        have e : ((⟨g, 0, none⟩ : Addr).add j) = ⟨g, j, none⟩ := by unfold Addr.add; split <;> simp_all
        rw [e, hB.cell]; simpa using hu') (by simpa using hu) (by simp only [maxLen]; omega) (by omega) hbase
  unfold Oper.wpIn
  refine ⟨fun _ _ => trivial, ?_⟩
  rw [Oper.semAt_plain _ _ _ (by rw [ho]; intro c hc'; cases hc')]
  simp [execOp, ho, resolve, invoke, builtin, hs, hx, hr, Result.andThen]
  exact h v' w' h2 ((Kp.refl _ w).grown h3 (fun k e hs => absurd e hs)) h4

end Go.Proofs.YthhliogcafmnfaaDoor
