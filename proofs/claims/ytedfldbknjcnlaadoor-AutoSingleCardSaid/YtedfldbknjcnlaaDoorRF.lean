/- A law for a range over a function whose iterator keeps memory of its own: the caller's blocks are a set that grows. -/
import Derived.RangeFuncNested
import Derived.RangeFuncBound
import Derived.RangeFuncCalls
import Derived.RangeFuncLeaves
import Derived.WalkKit
import Derived.WalkSpells
import Derived.OwnWalkIn
import Derived.TacticsInMore
import Derived.LoopNIn
import Derived.LoopIn
import Derived.Lib.Hide
import Derived.Laws.EntriesVeiled
import Derived.Deep.Draws
namespace Go.Proofs.YtedfldbknjcnlaaDoor
open Go.RowKit

/-- The blocks of S (those that there are) lie as they lay. -/
structure Kp (S : Nat → Prop) (w w' : World) : Prop where
  os : w'.os = w.os
  tape : w'.tape = w.tape
  output : w'.output = w.output
  size : w.heap.size ≤ w'.heap.size
  block : ∀ k, k < w.heap.size → S k → w'.heap[k]? = w.heap[k]?

theorem Kp.refl (S : Nat → Prop) (w : World) : Kp S w w := ⟨rfl, rfl, rfl, Nat.le_refl _, fun _ _ _ => rfl⟩
theorem Kp.trans {S : Nat → Prop} {a b c : World} (h : Kp S a b) (k : Kp S b c) : Kp S a c :=
  ⟨k.os.trans h.os, k.tape.trans h.tape, k.output.trans h.output, Nat.le_trans h.size k.size, fun i hi hS => (k.block i (Nat.lt_of_lt_of_le hi h.size) hS).trans (h.block i hi hS)⟩
theorem Kp.mono {S S' : Nat → Prop} {w w' : World} (h : Kp S w w') (hS : ∀ k, k < w.heap.size → S' k → S k) : Kp S' w w' := ⟨h.os, h.tape, h.output, h.size, fun k hk hs => h.block k hk (hS k hk hs)⟩
theorem Kp.alloc {S : Nat → Prop} {a w : World} (h : Kp S a w) (o : Obj) : Kp S a (w.alloc o) :=
  ⟨h.os, h.tape, h.output, Nat.le_trans h.size (by simp), fun k hk hS => (Below.heap_alloc w o k (Nat.lt_of_lt_of_le hk h.size)).trans (h.block k hk hS)⟩
theorem Kp.setCell {S : Nat → Prop} {a w : World} (h : Kp S a w) {p : Addr} (hp : S p.block → a.heap.size ≤ p.block) (u : Value) : Kp S a (w.setCell p u) :=
  ⟨h.os, h.tape, h.output, Nat.le_trans h.size (by simp [World.setCell]), fun k hk hS => (Below.heap_setCell w p u k (fun e => by subst e; have := hp hS; omega)).trans (h.block k hk hS)⟩
theorem Kp.putObj {S : Nat → Prop} {a w : World} (h : Kp S a w) {l : Nat} (hp : S l → a.heap.size ≤ l) (o : Obj) : Kp S a (w.putObj l o) :=
  ⟨h.os, h.tape, h.output, by simpa using h.size, fun k hk hS => (World.putObj_heap_other (fun e => by subst e; have := hp hS; omega)).trans (h.block k hk hS)⟩
theorem Kp.drew {S : Nat → Prop} {a w : World} (h : Kp S a w) : Kp S a w.drew := ⟨h.os, h.tape, h.output, h.size, h.block⟩
theorem Kp.drewN {S : Nat → Prop} {a w : World} (h : Kp S a w) (n : Nat) : Kp S a (w.drewN n) := ⟨h.os, h.tape, h.output, h.size, h.block⟩
theorem Kp.grown {S : Nat → Prop} {a w w' : World} {row : Option Nat} (h : Kp S a w) (hg : w.grownBy w' row) (hr : ∀ k, row = some k → S k → a.heap.size ≤ k) : Kp S a w' :=
  ⟨hg.os.trans h.os, hg.tape.trans h.tape, hg.output.trans h.output, Nat.le_trans h.size hg.size, fun k hk hS =>
    (hg.block k (Nat.lt_of_lt_of_le hk h.size) (fun e => by have := hr k e.symm hS; omega)).trans (h.block k hk hS)⟩
theorem Kp.of_below {S : Nat → Prop} {B : Nat} {w w' : World} (h : Below B w w') (hS : ∀ k, k < w.heap.size → S k → k < B) : Kp S w w' :=
  ⟨h.os, h.tape, h.output, h.size, fun k hk hs => h.block k (hS k hk hs)⟩
theorem Kp.below {S : Nat → Prop} {B : Nat} {w w' : World} (h : Kp S w w') (hB : B ≤ w.heap.size) (hS : ∀ k, k < B → S k) : Below B w w' :=
  ⟨h.os, h.tape, h.output, h.size, fun k hk => h.block k (by omega) (hS k hk)⟩
theorem Kp.heap {S : Nat → Prop} {w w' : World} (h : Kp S w w') {k : Nat} {o : Obj} (hk : w.heap[k]? = some o) (hS : S k) : w'.heap[k]? = some o :=
  (h.block k (Array.getElem?_eq_some_iff.1 hk).1 hS).trans hk
theorem Kp.cell {S : Nat → Prop} {w w' : World} (h : Kp S w w') {a : Addr} {v : Value} (hc : w.cell? a = some v) (hS : S a.block) : w'.cell? a = some v :=
  (World.cell?_of_block (h.block a.block (World.block_lt_of_cell? _ _ hc) hS)).trans hc
theorem Kp.boxed {S : Nat → Prop} {w w' : World} (h : Kp S w w') {B : Nat} {t : TypeId} {v : Value} (hb : Boxed w B t v) (hS : S B) : Boxed w' B t v :=
  h.heap hb hS

theorem below_drewN {B : Nat} {a w : World} (h : Below B a w) (n : Nat) : Below B a (w.drewN n) := ⟨h.os, h.tape, h.output, h.size, h.block⟩
theorem boxed_far {W : World} {B : Nat} {t : TypeId} {v : Value} (h : Boxed W B t v) {p : Addr} (hne : B ≠ p.block) (u : Value) : Boxed (W.setCell p u) B t v :=
  (Below.heap_setCell W p u B hne).trans h

/-- From C and w to C' and w': only the blocks of C and new ones have turned; what joined C is new. -/
structure Grow (C : Nat → Prop) (w : World) (C' : Nat → Prop) (w' : World) : Prop where
  sub : ∀ c, C c → C' c
  new : ∀ c, C' c → C c ∨ w.heap.size ≤ c
  lt : ∀ c, C' c → c < w'.heap.size
  kp : Kp (fun k => ¬ C k) w w'

theorem Grow.refl {C : Nat → Prop} {w : World} (h : ∀ c, C c → c < w.heap.size) : Grow C w C w := ⟨fun _ h => h, fun _ h => .inl h, h, Kp.refl _ _⟩
theorem Grow.trans {C C' C'' : Nat → Prop} {a b c : World} (h : Grow C a C' b) (k : Grow C' b C'' c) : Grow C a C'' c :=
  ⟨fun x hx => k.sub x (h.sub x hx), fun x hx => (k.new x hx).elim (h.new x) (fun g => .inr (Nat.le_trans h.kp.size g)), k.lt,
   k.kp.os.trans h.kp.os, k.kp.tape.trans h.kp.tape, k.kp.output.trans h.kp.output, Nat.le_trans h.kp.size k.kp.size,
   fun i hi hn => (k.kp.block i (Nat.lt_of_lt_of_le hi h.kp.size) (fun hc => (h.new i hc).elim hn (fun g => by omega))).trans (h.kp.block i hi hn)⟩
/-- A step that turns only new blocks, or blocks laid since. -/
theorem Grow.own {C C' : Nat → Prop} {a b c : World} (h : Grow C a C' b) (k : Kp (fun k => k < a.heap.size) b c) : Grow C a C' c :=
  ⟨h.sub, h.new, fun x hx => Nat.lt_of_lt_of_le (h.lt x hx) k.size,
   k.os.trans h.kp.os, k.tape.trans h.kp.tape, k.output.trans h.kp.output, Nat.le_trans h.kp.size k.size,
   fun i hi hn => (k.block i (Nat.lt_of_lt_of_le hi h.kp.size) hi).trans (h.kp.block i hi hn)⟩
theorem Grow.start {C C' : Nat → Prop} {a b c : World} (k : Kp (fun _ => True) a b) (h : Grow C b C' c) : Grow C a C' c :=
  ⟨h.sub, fun x hx => (h.new x hx).imp id (Nat.le_trans k.size), h.lt,
   h.kp.os.trans k.os, h.kp.tape.trans k.tape, h.kp.output.trans k.output, Nat.le_trans k.size h.kp.size,
   fun i hi hn => (h.kp.block i (Nat.lt_of_lt_of_le hi k.size) hn).trans (k.block i hi trivial)⟩
theorem Grow.setCell {C C' : Nat → Prop} {w w' : World} (h : Grow C w C' w') {p : Addr} (hp : C' p.block) (u : Value) : Grow C w C' (w'.setCell p u) :=
  ⟨h.sub, h.new, fun c hc => by simpa [World.setCell] using h.lt c hc, h.kp.setCell (fun hn => (h.new _ hp).elim (fun g => absurd g hn) id) u⟩
/-- A new block that joins the caller's. -/
theorem Grow.alloc {C C' : Nat → Prop} {w w' : World} (h : Grow C w C' w') (o : Obj) : Grow C w (fun c => C' c ∨ c = w'.heap.size) (w'.alloc o) :=
  ⟨fun c hc => .inl (h.sub c hc), fun c hc => hc.elim (h.new c) (fun e => .inr (e ▸ h.kp.size)), fun c hc => hc.elim (fun g => by have := h.lt c g; simp; omega) (fun e => by subst e; simp), h.kp.alloc o⟩
theorem Grow.alloc_ {C C' : Nat → Prop} {w w' : World} (h : Grow C w C' w') (o : Obj) : Grow C w C' (w'.alloc o) :=
  ⟨h.sub, h.new, fun c hc => by have := h.lt c hc; simp; omega, h.kp.alloc o⟩
theorem Grow.more {C C' : Nat → Prop} {w w' w'' : World} (h : Grow C w C' w') (hb : Below w'.heap.size w' w'') : Grow C w C' w'' :=
  ⟨h.sub, h.new, fun c hc => Nat.lt_of_lt_of_le (h.lt c hc) hb.size, hb.os.trans h.kp.os, hb.tape.trans h.kp.tape, hb.output.trans h.kp.output, Nat.le_trans h.kp.size hb.size,
   fun i hi hn => (hb.block i (Nat.lt_of_lt_of_le hi h.kp.size)).trans (h.kp.block i hi hn)⟩
theorem Grow.drew {C C' : Nat → Prop} {w w' : World} (h : Grow C w C' w') : Grow C w C' w'.drew := ⟨h.sub, h.new, h.lt, h.kp.drew⟩
theorem Grow.below {C C' : Nat → Prop} {w w' : World} {B : Nat} (h : Grow C w C' w') (hB : B ≤ w.heap.size) (hC : ∀ c, C c → B ≤ c) : Below B w w' :=
  h.kp.below hB fun k hk hc => by have := hC k hc; omega

/-- The fence under which all is said: no bound; in a round of l, or in none. -/
abbrev fnc (ro : Option Nat) : Fence := { Fence.wide with round := ro }

theorem RoundIn.anyDepth {ro ro' : Option Nat} {m m' : Nat} {P : Program} {l : Nat} {f : FuncId} {tmps : Array Value} {assign body : Code} {w : World} {R : Ending → World → Prop}
    (h : RoundIn (fnc ro) m P l f tmps assign body w R) : RoundIn (fnc ro') m' P l f tmps assign body w R := ⟨h.1, fun c cs _ => h.2 c cs (fun d h => by cases h)⟩
theorem CallsIn.any {ro ro' : Option Nat} {m m' : Nat} {P : Program} {f : FuncId} {args : Array Value} {w : World} {R : Ending → World → Prop}
    (h : CallsIn (fnc ro) m P f args w R) : CallsIn (fnc ro') m' P f args w R := ⟨h.1, fun cs _ => h.2 cs (fun d h => by cases h)⟩
theorem CallsIn.of_calls {ro : Option Nat} {m : Nat} {P : Program} {f : FuncId} {args : Array Value} {w : World} {R : Ending → World → Prop}
    (h : Calls P f args w R) : CallsIn (fnc ro) m P f args w R := CallsIn.any (ro := none) (m := 0) (callsIn_wide.2 h)
theorem Calls.of_callsIn {ro : Option Nat} {m : Nat} {P : Program} {f : FuncId} {args : Array Value} {w : World} {R : Ending → World → Prop}
    (h : CallsIn (fnc ro) m P f args w R) : Calls P f args w R := callsIn_wide.1 (CallsIn.any (ro' := none) (m' := 0) h)

theorem fwd : Fence.wide.depth = none := rfl
theorem fwf (f : FuncId) : Fence.wide.fn f = True := rfl

/-- A call of yield of loop L: what a round answers. -/
def Yields (P : Program) (L : Nat) (vals : Array Value) (W : World) (R : Ending → World → Prop) : Prop := YieldAt (fnc none) 0 P L vals W R

/-- What an iterator that is to give xs promises to every caller. Enc: how an element is handed to yield. -/
def IterC {α : Type} (P : Program) (gf : Nat) (lb : Array Value) (Enc : Nat → α → Array Value → World → Prop) (xs : List α) (C0 : Nat → Prop) (w0 : World) : Prop :=
  ∀ (L : Nat) (J : Nat → (Nat → Prop) → World → Prop) (Jx : (Nat → Prop) → World → Prop) (C1 : Nat → Prop) (W1 : World),
    (∀ c, C1 c → C0 c ∨ w0.heap.size ≤ c) → (∀ c, C1 c → c < W1.heap.size) → Kp (fun _ => True) w0 W1 →
    (∀ k C W W', J k C W → Kp C W W' → J k C W') → (∀ C W W', Jx C W → Kp C W W' → Jx C W') →
    (∀ k x vals C W, xs[k]? = some x → Enc k x vals W → Grow C1 W1 C W → J k C W →
      Yields P L vals W fun e W' => ∃ C', Grow C W C' W' ∧ ((e = .returned (.bool true) ∧ J (k + 1) C' W') ∨ (e = .returned (.bool false) ∧ Jx C' W'))) →
    J 0 C1 W1 →
    Calls P gf (#[.func (.yield L) #[] #[]] ++ lb) W1 fun e W' => (∃ v, e = .returned v) ∧ ∃ C', Grow C1 W1 C' W' ∧ (J xs.length C' W' ∨ Jx C' W')

def rfPost (C : Nat → Prop) (W : World) (J : Nat → (Nat → Prop) → World → Prop) (Jx : Code → (Nat → Prop) → World → Prop) (k : Nat) : Exit → Act → World → Prop
  | .normal, _, W' => ∃ C', Grow C W C' W' ∧ J (k + 1) C' W'
  | .ret, _, W' => ∃ C', Grow C W C' W' ∧ Jx .ret C' W'
  | .exit id, _, W' => ∃ C', Grow C W C' W' ∧ Jx (.exit id) C' W'
  | .goto t, _, W' => ∃ C', Grow C W C' W' ∧ Jx (.goto t) C' W'
  | .panic _, _, _ => False
  | .outgrown, _, _ => False

section
variable {P : Program} {n : Nat}

theorem rf_core {α : Type} (ro : Option Nat) {g : Operand} {ps : Array Tmp} {assign body : Code} {Q : Exit → Act → World → Prop} {a : Act} {w : World}
    {gf : Nat} {lb : Array Value} (hg : a.eval g = .func (.func gf) #[] lb) (eg : ∀ args w, (callFunc gf args).run P w = .ok (.enter gf args) w)
    {Enc : Nat → α → Array Value → World → Prop} (hps : ∀ k x vals W, Enc k x vals W → vals.size = ps.size) (xs : List α)
    (C0 : Nat → Prop) (hC0 : ∀ c, C0 c → c < w.heap.size)
    (L dd : Nat) (mark : List Deferred) (K : Nat → Prop) (hL : w.heap.size ≤ L) (hK : ∀ c, K c → w.heap.size ≤ c ∧ c ≠ L) (W1 : FuncId → World)
    (he : ∀ fn, (Instr.enterLoop fn a.tmps ps assign body ro).run P w = .ok (L, mark) (W1 fn))
    (hW1 : ∀ fn, (W1 fn).heap[L]? = some (.loop { state := .ready, pending := none, fn, tmps := a.tmps, params := ps, assign, body, defers := dd }))
    (hkp1 : ∀ fn, Kp (fun _ => True) w (W1 fn)) (hKlt : ∀ fn c, K c → c < (W1 fn).heap.size)
    (J : Nat → (Nat → Prop) → World → Prop) (Jx : Code → (Nat → Prop) → World → Prop) (JA : Nat → Act → (Nat → Prop) → World → Prop)
    (hJ : ∀ k C W W', J k C W → Kp C W W' → J k C W') (hJx : ∀ c C W W', Jx c C W → Kp C W W' → Jx c C W')
    (hJA : ∀ k a' C W W', ¬ C L → JA k a' C W → Kp (fun c => c ≠ L) W W' → JA k a' C W')
    (hseq : IterC P gf lb Enc xs C0 w) (h0 : J 0 C0 w)
    (hassign : ∀ k x vals C W (K' : Act → World → Prop), xs[k]? = some x → Enc k x vals W → J k C W → Grow C0 w C W → ¬ C L → (∃ r, W.heap[L]? = some (.loop r)) →
      (∀ a' C' W', Grow C W C' W' → JA k a' C' W' → K' a' W') →
      assign.wpIn (fnc (some L)) n P (Exit.then K' (fun _ _ _ => False)) { tmps := (ps.zip vals).foldl (fun t (p, v) => t.setIfInBounds p v) a.tmps, defers := [] } W)
    (hbody : ∀ k a' C W, k < xs.length → JA k a' C W → Grow C0 w C W → ¬ C L → (∃ r, W.heap[L]? = some (.loop r)) →
      body.wpIn (fnc (some L)) n P (rfPost C W J Jx k) a' W)
    (hdone : ∀ C W, Grow C0 w C W → J xs.length C W → (∃ fn, ∀ c, K c → W.heap[c]? = (W1 fn).heap[c]?) → Q .normal { a with defers := mark ++ a.defers } W)
    (hstop : ∀ c C W, Grow C0 w C W → Jx c C W → (∃ fn, ∀ c, K c → W.heap[c]? = (W1 fn).heap[c]?) → c.wpIn (fnc ro) n P Q { a with defers := mark ++ a.defers } W) :
    (Code.rangeFunc g ps assign body).wpIn (fnc ro) n P Q a w := by
  refine wpIn_rangeFunc ?_
  intro fn _
  obtain ⟨rec, hrec⟩ : ∃ rec : LoopState → Option Code → Loop, rec = fun st pe => { state := st, pending := pe, fn, tmps := a.tmps, params := ps, assign, body, defers := dd } := ⟨_, rfl⟩
  have hl1 : (W1 fn).heap[L]? = some (.loop (rec .ready none)) := by rw [hrec]; exact hW1 fn
  have hk1 := hkp1 fn
  have hKl := hKlt fn
  have hex : ∃ fn', ∀ c, K c → (W1 fn).heap[c]? = (W1 fn').heap[c]? := ⟨fn, fun _ _ => rfl⟩
  have he1 := he fn
  clear hW1 hkp1 hKlt he
  generalize hWW : W1 fn = V1 at *
  have hLlt : L < V1.heap.size := (Array.getElem?_eq_some_iff.1 hl1).1
  refine ⟨L, mark, V1, { target := .fn (.func gf) lb, args := #[.func (.yield L) #[] #[]] }, V1, gf, #[.func (.yield L) #[] #[]] ++ lb, V1, he1, ?_, ?_, ?_, (fun h => by cases h), ?_⟩
  · simp only [resolve, hg]
    simp [go_sem]
  · intro f' hf'; trivial
  · simp [invoke, go_sem, eg]
  · refine CallsIn.of_calls ((hseq L
      (fun k Cb W => ∃ C, (∀ c, Cb c ↔ C c ∨ c = L ∨ K c) ∧ (∀ c, C c → c ≠ L ∧ ¬ K c) ∧ J k C W ∧ W.heap[L]? = some (.loop (rec .ready none)) ∧ (∀ c, K c → W.heap[c]? = V1.heap[c]?))
      (fun Cb W => ∃ C j, (∀ c, Cb c ↔ C c ∨ c = L ∨ K c) ∧ (∀ c, C c → c ≠ L ∧ ¬ K c) ∧ Jx j C W ∧ W.heap[L]? = some (.loop (rec .done (some j))) ∧ (∀ c, K c → W.heap[c]? = V1.heap[c]?))
      (fun c => C0 c ∨ c = L ∨ K c) V1 ?_ ?_ hk1 ?_ ?_ ?_ ?_).mono ?_)
    · rintro c (h | rfl | h)
      · exact .inl h
      · exact .inr hL
      · exact .inr (hK c h).1
    · rintro c (h | rfl | h)
      · exact Nat.lt_of_lt_of_le (hC0 c h) hk1.size
      · exact hLlt
      · exact hKl c h
    · rintro k Cb W W' ⟨C, h1, h2, h3, h4, h5⟩ hk
      refine ⟨C, h1, h2, hJ k C W W' h3 (hk.mono fun i _ hi => (h1 i).2 (.inl hi)), hk.heap h4 ((h1 L).2 (.inr (.inl rfl))), fun c hc => ?_⟩
      have hv := h5 c hc
      have hlt := hKl c hc
      exact (hk.heap (hv.trans (Array.getElem?_eq_getElem hlt)) ((h1 c).2 (.inr (.inr hc)))).trans (Array.getElem?_eq_getElem hlt).symm
    · rintro Cb W W' ⟨C, j, h1, h2, h3, h4, h5⟩ hk
      refine ⟨C, j, h1, h2, hJx j C W W' h3 (hk.mono fun i _ hi => (h1 i).2 (.inl hi)), hk.heap h4 ((h1 L).2 (.inr (.inl rfl))), fun c hc => ?_⟩
      have hv := h5 c hc
      have hlt := hKl c hc
      exact (hk.heap (hv.trans (Array.getElem?_eq_getElem hlt)) ((h1 c).2 (.inr (.inr hc)))).trans (Array.getElem?_eq_getElem hlt).symm
    · rintro k x vals Cb W hx henc hgr ⟨C, h1, h2, h3, h4, h5⟩
      have hlt : L < W.heap.size := (Array.getElem?_eq_some_iff.1 h4).1
      have hCL : ¬ C L := fun h => (h2 L h).1 rfl
      have hgw : Grow C0 w C W := by
        refine ⟨fun c hc => ?_, fun c hc => ?_, fun c hc => hgr.lt c ((h1 c).2 (.inl hc)), hgr.kp.os.trans hk1.os, hgr.kp.tape.trans hk1.tape, hgr.kp.output.trans hk1.output, Nat.le_trans hk1.size hgr.kp.size, fun i hi hn => ?_⟩
        · rcases (h1 c).1 (hgr.sub c (.inl hc)) with h | h | h
          · exact h
          · subst h; have := hC0 _ hc; omega
          · have := hC0 _ hc; have := (hK c h).1; omega
        · rcases hgr.new c ((h1 c).2 (.inl hc)) with (h | h | h) | h
          · exact .inl h
          · exact absurd h (h2 c hc).1
          · exact absurd h (h2 c hc).2
          · exact .inr (Nat.le_trans hk1.size h)
        · refine (hgr.kp.block i (Nat.lt_of_lt_of_le hi hk1.size) ?_).trans (hk1.block i hi trivial)
          rintro (h | h | h)
          · exact hn h
          · omega
          · have := (hK i h).1; omega
      have hy := run_yield (P := P) (args := vals) h4 (by rw [hrec]; exact hps k x vals W henc)
      rw [hrec] at hy
      refine ⟨fn, _, assign, body, hy, RoundIn.anyDepth (ro := none) (m := n) (roundIn_of_wpIn trivial ?_)⟩
      refine hassign k x vals C W _ hx henc h3 hgw hCL ⟨_, h4⟩ ?_
      intro a' C' Wa hga hja
      have h4a : Wa.heap[L]? = some (.loop (rec .ready none)) := hga.kp.heap h4 hCL
      have hlta : L < Wa.heap.size := (Array.getElem?_eq_some_iff.1 h4a).1
      have hCL' : ¬ C' L := fun h => (hga.new L h).elim hCL (fun g => by omega)
      refine ⟨_, run_beginRound h4a (by rw [hrec]), ?_⟩
      have hput : ∀ (V : World) (o : Obj), Kp (fun c => c ≠ L) V (V.putObj L o) := fun V o => (Kp.refl _ V).putObj (fun h => absurd rfl h) o
      have hl2 : (Wa.putObj L (.loop { rec .ready none with state := .busy })).heap[L]? = some (.loop { rec .ready none with state := .busy }) := World.putObj_heap_same hlta
      have hgp : ∀ {C : Nat → Prop} {V V' : World} , Grow C0 w C V → Kp (fun c => c ≠ L) V V' → Grow C0 w C V' := fun hg hk => hg.own (hk.mono fun i _ hi e => by subst e; omega)
      refine wpIn_mono (hbody k a' C' _ (List.getElem?_eq_some_iff.1 hx).1 (hJA k a' C' _ _ hCL' hja (hput _ _)) (hgp (hgw.trans hga) (hput _ _)) hCL' ⟨_, hl2⟩) ?_
      have hKC : ∀ c, K c → ¬ C c := fun c hc h => (h2 c h).2 hc
      have hKlW : ∀ c, K c → c < W.heap.size := fun c hc => Nat.lt_of_lt_of_le (hKl c hc) hgr.kp.size
      have fin : ∀ (C'' : Nat → Prop) (W3 : World) (st : LoopState) (pe : Option Code), Grow C' (Wa.putObj L (.loop { rec .ready none with state := .busy })) C'' W3 →
          W3.heap[L]? = some (.loop { rec .ready none with state := .busy }) ∧
          ¬ C'' L ∧ Grow Cb W (fun c => C'' c ∨ c = L ∨ K c) (W3.putObj L (.loop (rec st pe))) ∧ (∀ c, C'' c → c ≠ L ∧ ¬ K c) ∧
          Kp C'' W3 (W3.putObj L (.loop (rec st pe))) ∧
          (W3.putObj L (.loop (rec st pe))).heap[L]? = some (.loop (rec st pe)) ∧ (∀ c, K c → (W3.putObj L (.loop (rec st pe))).heap[c]? = V1.heap[c]?) := by
        intro C'' W3 st pe hg3
        have hsz : (Wa.putObj L (.loop { rec .ready none with state := .busy })).heap.size = Wa.heap.size := World.putObj_size
        have hl3 := hg3.kp.heap hl2 hCL'
        have hlt3 : L < W3.heap.size := (Array.getElem?_eq_some_iff.1 hl3).1
        have hCL'' : ¬ C'' L := fun h => (hg3.new L h).elim hCL' (fun g => by omega)
        have hs1 := hga.kp.size
        have hs3 := hg3.kp.size
        have hKC' : ∀ c, K c → ¬ C' c := fun c hc h => (hga.new c h).elim (hKC c hc) (fun g => by have := hKlW c hc; omega)
        have hKC'' : ∀ c, K c → ¬ C'' c := fun c hc h => (hg3.new c h).elim (hKC' c hc) (fun g => by have := hKlW c hc; omega)
        have hblk : ∀ i, i < W.heap.size → i ≠ L → ¬ C i → (W3.putObj L (.loop (rec st pe))).heap[i]? = W.heap[i]? := fun i hi hiL hiC =>
          (World.putObj_heap_other hiL).trans ((hg3.kp.block i (by omega) (fun h => (hga.new i h).elim hiC (fun g => by omega))).trans
            ((World.putObj_heap_other hiL).trans (hga.kp.block i hi hiC)))
        refine ⟨hl3, hCL'', ⟨fun c hc => ?_, fun c hc => ?_, fun c hc => ?_, hg3.kp.os.trans hga.kp.os, hg3.kp.tape.trans hga.kp.tape, hg3.kp.output.trans hga.kp.output, by simp; omega, fun i hi hn => ?_⟩, fun c hc => ?_, ?_, World.putObj_heap_same hlt3, fun c hc => ?_⟩
        · rcases (h1 c).1 hc with h | h | h
          · exact .inl (hg3.sub c (hga.sub c h))
          · exact .inr (.inl h)
          · exact .inr (.inr h)
        · rcases hc with h | h | h
          · rcases hg3.new c h with h | h
            · rcases hga.new c h with h | h
              · exact .inl ((h1 c).2 (.inl h))
              · exact .inr h
            · exact .inr (by omega)
          · exact .inl ((h1 c).2 (.inr (.inl h)))
          · exact .inl ((h1 c).2 (.inr (.inr h)))
        · rcases hc with h | h | h
          · simpa using hg3.lt c h
          · subst h; simpa using hlt3
          · have := hKlW c h; simp; omega
        · exact hblk i hi (fun e => hn ((h1 i).2 (.inr (.inl e)))) (fun e => hn ((h1 i).2 (.inl e)))
        · exact ⟨fun e => hCL'' (e ▸ hc), fun h => hKC'' c h hc⟩
        · exact (Kp.refl _ _).putObj (fun h => absurd h hCL'') _
        · exact (hblk c (hKlW c hc) (hK c hc).2 (hKC c hc)).trans (h5 c hc)
      have hrun : ∀ (jump : Option Code) (W3 : World), W3.heap[L]? = some (.loop { rec .ready none with state := .busy }) →
          (Instr.endRound L jump).run P W3 = .ok (.bool jump.isNone) (W3.putObj L (.loop (rec (if jump.isNone then .ready else .done) jump))) := by
        intro jump W3 hl3
        have := run_endRound (P := P) jump hl3
        rw [hrec] at this ⊢
        exact this
      rintro e a3 W3 hp
      cases e with
      | normal =>
        obtain ⟨C'', hg3, hj3⟩ := hp
        obtain ⟨hl3, hC3, hgb, hd3, hkj, hl4, hk4⟩ := fin C'' W3 .ready none hg3
        exact ⟨_, _, hrun none W3 hl3, _, hgb, .inl ⟨rfl, C'', fun c => Iff.rfl, hd3, hJ _ _ _ _ hj3 hkj, hl4, hk4⟩⟩
      | ret =>
        obtain ⟨C'', hg3, hj3⟩ := hp
        obtain ⟨hl3, hC3, hgb, hd3, hkj, hl4, hk4⟩ := fin C'' W3 .done (some .ret) hg3
        exact ⟨_, _, hrun (some .ret) W3 hl3, _, hgb, .inr ⟨rfl, C'', .ret, fun c => Iff.rfl, hd3, hJx _ _ _ _ hj3 hkj, hl4, hk4⟩⟩
      | exit id =>
        obtain ⟨C'', hg3, hj3⟩ := hp
        obtain ⟨hl3, hC3, hgb, hd3, hkj, hl4, hk4⟩ := fin C'' W3 .done (some (.exit id)) hg3
        exact ⟨_, _, hrun (some (.exit id)) W3 hl3, _, hgb, .inr ⟨rfl, C'', .exit id, fun c => Iff.rfl, hd3, hJx _ _ _ _ hj3 hkj, hl4, hk4⟩⟩
      | goto t =>
        obtain ⟨C'', hg3, hj3⟩ := hp
        obtain ⟨hl3, hC3, hgb, hd3, hkj, hl4, hk4⟩ := fin C'' W3 .done (some (.goto t)) hg3
        exact ⟨_, _, hrun (some (.goto t)) W3 hl3, _, hgb, .inr ⟨rfl, C'', .goto t, fun c => Iff.rfl, hd3, hJx _ _ _ _ hj3 hkj, hl4, hk4⟩⟩
      | panic ch => exact hp.elim
      | outgrown => exact hp.elim
    · exact ⟨C0, fun c => Iff.rfl, fun c hc => ⟨fun e => by subst e; have := hC0 _ hc; omega, fun h => by have := hC0 _ hc; have := (hK c h).1; omega⟩, hJ 0 C0 w V1 h0 (hk1.mono fun _ _ _ => trivial), hl1, fun _ _ => rfl⟩
    · rintro e W2 ⟨⟨v, rfl⟩, Cb, hgr, hj⟩
      have hend : ∀ (C : Nat → Prop) (st : LoopState) (pe : Option Code), (∀ c, Cb c ↔ C c ∨ c = L ∨ K c) → (∀ c, C c → c ≠ L ∧ ¬ K c) → W2.heap[L]? = some (.loop (rec st pe)) → (∀ c, K c → W2.heap[c]? = V1.heap[c]?) →
          Grow C0 w C (W2.putObj L (.loop (rec .exhausted pe))) ∧ Kp C W2 (W2.putObj L (.loop (rec .exhausted pe))) ∧ (∃ fn', ∀ c, K c → (W2.putObj L (.loop (rec .exhausted pe))).heap[c]? = (W1 fn').heap[c]?) := by
        intro C st pe h1 h2 hl hk
        refine ⟨⟨fun c hc => ?_, fun c hc => ?_, fun c hc => by simpa using hgr.lt c ((h1 c).2 (.inl hc)), hgr.kp.os.trans hk1.os, hgr.kp.tape.trans hk1.tape, hgr.kp.output.trans hk1.output, by have := hk1.size; have := hgr.kp.size; simp; omega, fun i hi hn => ?_⟩, (Kp.refl _ _).putObj (fun h => absurd rfl (h2 L h).1) _, fn, fun c hc => ?_⟩
        · rcases (h1 c).1 (hgr.sub c (.inl hc)) with h | h | h
          · exact h
          · subst h; have := hC0 _ hc; omega
          · have := hC0 _ hc; have := (hK c h).1; omega
        · rcases hgr.new c ((h1 c).2 (.inl hc)) with (h | h | h) | h
          · exact .inl h
          · exact absurd h (h2 c hc).1
          · exact absurd h (h2 c hc).2
          · exact .inr (Nat.le_trans hk1.size h)
        · refine (World.putObj_heap_other (by omega)).trans ((hgr.kp.block i (Nat.lt_of_lt_of_le hi hk1.size) ?_).trans (hk1.block i hi trivial))
          rintro (h | h | h)
          · exact hn h
          · omega
          · have := (hK i h).1; omega
        · rw [hWW]
          exact (World.putObj_heap_other (hK c hc).2).trans (hk c hc)
      rcases hj with ⟨C, h1, h2, h3, h4, h5⟩ | ⟨C, j, h1, h2, h3, h4, h5⟩
      · obtain ⟨g1, g2, g3⟩ := hend C _ _ h1 h2 h4 h5
        exact ⟨none, _, by have := run_endLoop (P := P) h4 (by rw [hrec]; simp); rw [hrec] at this ⊢; exact this, hdone C _ g1 (hJ _ _ _ _ h3 g2) g3⟩
      · obtain ⟨g1, g2, g3⟩ := hend C _ _ h1 h2 h4 h5
        exact ⟨some j, _, by have := run_endLoop (P := P) h4 (by rw [hrec]; simp); rw [hrec] at this ⊢; exact this, hstop j C _ g1 (hJx _ _ _ _ h3 g2) g3⟩

/-- A range over a function, at the outermost. -/
theorem rf_outer {α : Type} {g : Operand} {ps : Array Tmp} {assign body : Code} {Q : Exit → Act → World → Prop} {a : Act} {w : World}
    {gf : Nat} {lb : Array Value} (hg : a.eval g = .func (.func gf) #[] lb) (eg : ∀ args w, (callFunc gf args).run P w = .ok (.enter gf args) w)
    {Enc : Nat → α → Array Value → World → Prop} (hps : ∀ k x vals W, Enc k x vals W → vals.size = ps.size) (xs : List α)
    (C0 : Nat → Prop) (hC0 : ∀ c, C0 c → c < w.heap.size)
    (J : Nat → (Nat → Prop) → World → Prop) (Jx : Code → (Nat → Prop) → World → Prop) (JA : Nat → Act → (Nat → Prop) → World → Prop)
    (hJ : ∀ k C W W', J k C W → Kp C W W' → J k C W') (hJx : ∀ c C W W', Jx c C W → Kp C W W' → Jx c C W')
    (hJA : ∀ L k a' C W W', w.heap.size ≤ L → ¬ C L → JA k a' C W → Kp (fun c => c ≠ L) W W' → JA k a' C W')
    (hseq : IterC P gf lb Enc xs C0 w) (h0 : J 0 C0 w)
    (hassign : ∀ L k x vals C W (K' : Act → World → Prop), xs[k]? = some x → Enc k x vals W → J k C W → Grow C0 w C W → ¬ C L → (∃ r, W.heap[L]? = some (.loop r)) →
      (∀ a' C' W', Grow C W C' W' → JA k a' C' W' → K' a' W') →
      assign.wpIn (fnc (some L)) n P (Exit.then K' (fun _ _ _ => False)) { tmps := (ps.zip vals).foldl (fun t (p, v) => t.setIfInBounds p v) a.tmps, defers := [] } W)
    (hbody : ∀ L k a' C W, k < xs.length → JA k a' C W → Grow C0 w C W → ¬ C L → (∃ r, W.heap[L]? = some (.loop r)) →
      body.wpIn (fnc (some L)) n P (rfPost C W J Jx k) a' W)
    (hdone : ∀ D C W, Grow C0 w C W → J xs.length C W → W.heap[D]? = some (.deferred (some [])) → ¬ C D → w.heap.size ≤ D → Q .normal { a with defers := { target := .collected D, args := #[] } :: a.defers } W)
    (hstop : ∀ D c C W, Grow C0 w C W → Jx c C W → W.heap[D]? = some (.deferred (some [])) → ¬ C D → w.heap.size ≤ D → c.wpIn (fnc none) n P Q { a with defers := { target := .collected D, args := #[] } :: a.defers } W) :
    (Code.rangeFunc g ps assign body).wpIn (fnc none) n P Q a w := by
  refine rf_core none hg eg hps xs C0 hC0 (w.heap.size + 1) w.heap.size [{ target := .collected w.heap.size, args := #[] }] (fun c => c = w.heap.size) (by omega) (fun c hc => by omega)
    (fun fn => (w.alloc (.deferred (some []))).alloc (.loop { state := .ready, pending := none, fn, tmps := a.tmps, params := ps, assign, body, defers := w.heap.size }))
    (fun fn => run_enterLoop_outer _ _ _ _ _) (fun fn => ?_) (fun fn => ((Kp.refl _ w).alloc _).alloc _) (fun fn c hc => by subst hc; simp; omega)
    (fun k C W => J k C W ∧ (¬ C w.heap.size)) (fun c C W => Jx c C W ∧ (¬ C w.heap.size)) (fun k a' C W => JA k a' C W ∧ (¬ C w.heap.size))
    (fun k C W W' h hk => ⟨hJ k C W W' h.1 hk, h.2⟩) (fun c C W W' h hk => ⟨hJx c C W W' h.1 hk, h.2⟩)
    (fun k a' C W W' hn h hk => ⟨hJA _ k a' C W W' (by omega) hn h.1 hk, h.2⟩) hseq ⟨h0, fun h => by have := hC0 _ h; omega⟩ ?_ ?_ ?_ ?_
  · have := World.alloc_heap_new (w.alloc (.deferred (some []))) (.loop { state := .ready, pending := none, fn, tmps := a.tmps, params := ps, assign, body, defers := w.heap.size })
    rwa [World.size_alloc] at this
  · intro k x vals C W K' hx henc hj hg hn hr hK
    refine hassign _ k x vals C W K' hx henc hj.1 hg hn hr (fun a' C' W' hg' hja => hK a' C' W' hg' ⟨hja, fun h => (hg'.new _ h).elim hj.2 (fun g => ?_)⟩)
    obtain ⟨r, hr⟩ := hr
    have := (Array.getElem?_eq_some_iff.1 hr).1
    omega
  · intro k a' C W hk hja hg hn hr
    refine wpIn_mono (hbody _ k a' C W hk hja.1 hg hn hr) ?_
    have hfr : ∀ C' W', Grow C W C' W' → ¬ C' w.heap.size := fun C' W' hg' h => (hg'.new _ h).elim hja.2 (fun g => by
      obtain ⟨r, hr⟩ := hr
      have := (Array.getElem?_eq_some_iff.1 hr).1
      omega)
    rintro e a3 W3 hp
    cases e with
    | normal => obtain ⟨C', hg', hj⟩ := hp; exact ⟨C', hg', hj, hfr _ _ hg'⟩
    | ret => obtain ⟨C', hg', hj⟩ := hp; exact ⟨C', hg', hj, hfr _ _ hg'⟩
    | exit id => obtain ⟨C', hg', hj⟩ := hp; exact ⟨C', hg', hj, hfr _ _ hg'⟩
    | goto t => obtain ⟨C', hg', hj⟩ := hp; exact ⟨C', hg', hj, hfr _ _ hg'⟩
    | panic ch => exact hp.elim
    | outgrown => exact hp.elim
  · rintro C W hg ⟨hj, hn⟩ ⟨fn, hk⟩
    refine hdone _ C W hg hj ?_ hn (Nat.le_refl _)
    rw [hk _ rfl]
    exact (Below.heap_alloc _ _ _ (by simp)).trans (World.alloc_heap_new w _)
  · rintro c C W hg ⟨hj, hn⟩ ⟨fn, hk⟩
    refine hstop _ c C W hg hj ?_ hn (Nat.le_refl _)
    rw [hk _ rfl]
    exact (Below.heap_alloc _ _ _ (by simp)).trans (World.alloc_heap_new w _)

/-- A range over a function, in a round of another. -/
theorem rf_inner {α : Type} {l₀ : Nat} {r₀ : Loop} {g : Operand} {ps : Array Tmp} {assign body : Code} {Q : Exit → Act → World → Prop} {a : Act} {w : World} (hl₀ : w.heap[l₀]? = some (.loop r₀))
    {gf : Nat} {lb : Array Value} (hg : a.eval g = .func (.func gf) #[] lb) (eg : ∀ args w, (callFunc gf args).run P w = .ok (.enter gf args) w)
    {Enc : Nat → α → Array Value → World → Prop} (hps : ∀ k x vals W, Enc k x vals W → vals.size = ps.size) (xs : List α)
    (C0 : Nat → Prop) (hC0 : ∀ c, C0 c → c < w.heap.size)
    (J : Nat → (Nat → Prop) → World → Prop) (Jx : Code → (Nat → Prop) → World → Prop) (JA : Nat → Act → (Nat → Prop) → World → Prop)
    (hJ : ∀ k C W W', J k C W → Kp C W W' → J k C W') (hJx : ∀ c C W W', Jx c C W → Kp C W W' → Jx c C W')
    (hJA : ∀ L k a' C W W', w.heap.size ≤ L → ¬ C L → JA k a' C W → Kp (fun c => c ≠ L) W W' → JA k a' C W')
    (hseq : IterC P gf lb Enc xs C0 w) (h0 : J 0 C0 w)
    (hassign : ∀ L k x vals C W (K' : Act → World → Prop), xs[k]? = some x → Enc k x vals W → J k C W → Grow C0 w C W → ¬ C L → (∃ r, W.heap[L]? = some (.loop r)) →
      (∀ a' C' W', Grow C W C' W' → JA k a' C' W' → K' a' W') →
      assign.wpIn (fnc (some L)) n P (Exit.then K' (fun _ _ _ => False)) { tmps := (ps.zip vals).foldl (fun t (p, v) => t.setIfInBounds p v) a.tmps, defers := [] } W)
    (hbody : ∀ L k a' C W, k < xs.length → JA k a' C W → Grow C0 w C W → ¬ C L → (∃ r, W.heap[L]? = some (.loop r)) →
      body.wpIn (fnc (some L)) n P (rfPost C W J Jx k) a' W)
    (hdone : ∀ C W, Grow C0 w C W → J xs.length C W → Q .normal a W)
    (hstop : ∀ c C W, Grow C0 w C W → Jx c C W → c.wpIn (fnc (some l₀)) n P Q a W) :
    (Code.rangeFunc g ps assign body).wpIn (fnc (some l₀)) n P Q a w :=
  rf_core (some l₀) hg eg hps xs C0 hC0 w.heap.size r₀.defers [] (fun _ => False) (Nat.le_refl _) (fun c hc => hc.elim)
    (fun fn => w.alloc (.loop { state := .ready, pending := none, fn, tmps := a.tmps, params := ps, assign, body, defers := r₀.defers }))
    (fun fn => run_enterLoop_inner hl₀ _ _ _ _ _) (fun fn => World.alloc_heap_new w _) (fun fn => (Kp.refl _ w).alloc _) (fun fn c hc => hc.elim)
    J Jx JA hJ hJx (fun k a' C W W' hn h hk => hJA _ k a' C W W' (Nat.le_refl _) hn h hk) hseq h0 (fun k x vals C W K' => hassign _ k x vals C W K') (fun k a' C W => hbody _ k a' C W)
    (fun C W hg hj _ => hdone C W hg hj) (fun c C W hg hj _ => hstop c C W hg hj)
end
end Go.Proofs.YtedfldbknjcnlaaDoor
