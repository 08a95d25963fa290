/- Range over a function whose iterator shares its queue with the loop's body. (*work.List[int]).All: the iterator over the queue. (*work.List[int]).All, and what a reachability pass keeps, as data. The states of a reachability pass, as data. -/
import Derived.Test.YtedfldbknjcnlaaDoorRF
import Derived.Test.YtedfldbknjcnlaaDoorFG15
import Derived.Sort.LoopGhostIn
import Derived.Test.YtedfldbknjcnlaaDoorFG12
namespace Go.Proofs.YtedfldbknjcnlaaDoor
section
open Go.RowKit

/-- What an iterator over a shared queue promises. pend: the next item; Φ: the queue in memory; Pop: what taking an item does to the world. -/
def IterQ {σ α : Type} (P : Program) (gf : Nat) (lb : Array Value) (pend : σ → Option α) (Enc : α → Array Value) (Φ : σ → World → Prop) (Pop : σ → World → World → Prop) (C0 : Nat → Prop) (w0 : World) : Prop :=
  ∀ (L : Nat) (J JP : σ → (Nat → Prop) → World → Prop) (C1 : Nat → Prop) (W1 : World) (μ : σ → Nat) (s0 : σ),
    (∀ c, C1 c → C0 c ∨ w0.heap.size ≤ c) → (∀ c, C1 c → c < W1.heap.size) → Kp (fun _ => True) w0 W1 →
    (∀ s C W, J s C W → Φ s W) →
    (∀ s x C W W', J s C W → pend s = some x → Pop s W W' → JP s C W' ∧ Kp (fun k => ¬ C k) W W') →
    (∀ s x C W, pend s = some x → Grow C1 W1 C W → JP s C W →
      Yields P L (Enc x) W fun e W' => ∃ C' s', Grow C W C' W' ∧ μ s' < μ s ∧ e = .returned (.bool true) ∧ J s' C' W') →
    J s0 C1 W1 →
    Calls P gf (#[.func (.yield L) #[] #[]] ++ lb) W1 fun e W' => (∃ v, e = .returned v) ∧ ∃ C' s, Grow C1 W1 C' W' ∧ pend s = none ∧ J s C' W'

def rqPost {σ : Type} (C : Nat → Prop) (W : World) (J : σ → (Nat → Prop) → World → Prop) (μ : σ → Nat) (k : σ) : Exit → Act → World → Prop
  | .normal, _, W' => ∃ C' s', Grow C W C' W' ∧ J s' C' W' ∧ μ s' < μ k
  | _, _, _ => False

section
variable {P : Program} {n : Nat}

theorem rq_core {σ α : Type} (ro : Option Nat) {g : Operand} {ps : Array Tmp} {assign body : Code} {Q : Exit → Act → World → Prop} {a : Act} {w : World}
    {gf : Nat} {lb : Array Value} (hg : a.eval g = .func (.func gf) #[] lb) (eg : ∀ args w, (callFunc gf args).run P w = .ok (.enter gf args) w)
    {Enc : α → Array Value} (hps : ∀ x, (Enc x).size = ps.size) {pend : σ → Option α} {Φ : σ → World → Prop} {Pop : σ → World → World → Prop} (μ : σ → Nat) (s0 : σ)
    (C0 : Nat → Prop) (hC0 : ∀ c, C0 c → c < w.heap.size)
    (L dd : Nat) (mark : List Deferred) (K : Nat → Prop) (hL : w.heap.size ≤ L) (hK : ∀ c, K c → w.heap.size ≤ c ∧ c ≠ L) (W1 : FuncId → World)
    (he : ∀ fn, (Instr.enterLoop fn a.tmps ps assign body ro).run P w = .ok (L, mark) (W1 fn))
    (hW1 : ∀ fn, (W1 fn).heap[L]? = some (.loop { state := .ready, pending := none, fn, tmps := a.tmps, params := ps, assign, body, defers := dd }))
    (hkp1 : ∀ fn, Kp (fun _ => True) w (W1 fn)) (hKlt : ∀ fn c, K c → c < (W1 fn).heap.size)
    (J JP : σ → (Nat → Prop) → World → Prop) (JA : σ → Act → (Nat → Prop) → World → Prop)
    (hJ : ∀ k C W W', J k C W → Kp C W W' → J k C W')
    (hJA : ∀ k a' C W W', ¬ C L → JA k a' C W → Kp (fun c => c ≠ L) W W' → JA k a' C W')
    (hΦ : ∀ s C W, J s C W → Φ s W)
    (hpop : ∀ s x C W W', J s C W → pend s = some x → Pop s W W' → JP s C W' ∧ Kp (fun k => ¬ C k) W W')
    (hseq : IterQ P gf lb pend Enc Φ Pop C0 w) (h0 : J s0 C0 w)
    (hassign : ∀ k x C W (K' : Act → World → Prop), pend k = some x → JP k C W → Grow C0 w C W → ¬ C L → (∃ r, W.heap[L]? = some (.loop r)) →
      (∀ a' C' W', Grow C W C' W' → JA k a' C' W' → K' a' W') →
      assign.wpIn (fnc (some L)) n P (Exit.then K' (fun _ _ _ => False)) { tmps := (ps.zip (Enc x)).foldl (fun t (p, v) => t.setIfInBounds p v) a.tmps, defers := [] } W)
    (hbody : ∀ k a' C W, JA k a' C W → Grow C0 w C W → ¬ C L → (∃ r, W.heap[L]? = some (.loop r)) →
      body.wpIn (fnc (some L)) n P (rqPost C W J μ k) a' W)
    (hdone : ∀ s C W, Grow C0 w C W → pend s = none → J s C W → (∃ fn, ∀ c, K c → W.heap[c]? = (W1 fn).heap[c]?) → Q .normal { a with defers := mark ++ a.defers } W) :
    (Code.rangeFunc g ps assign body).wpIn (fnc ro) n P Q a w := by
  refine wpIn_rangeFunc ?_
  intro fn _
  obtain ⟨rec, hrec⟩ : ∃ rec : LoopState → Option Code → Loop, rec = fun st pe => { state := st, pending := pe, fn, tmps := a.tmps, params := ps, assign, body, defers := dd } := ⟨_, rfl⟩
  have hl1 : (W1 fn).heap[L]? = some (.loop (rec .ready none)) := by rw [hrec]; exact hW1 fn
  have hk1 := hkp1 fn
  have hKl := hKlt fn
  have hex : ∃ fn', ∀ c, K c → (W1 fn).heap[c]? = (W1 fn').heap[c]? := ⟨fn, fun _ _ => rfl⟩
  have he1 := he fn
  clear hW1 hkp1 hKlt he
  generalize hWW : W1 fn = V1 at *
  have hLlt : L < V1.heap.size := (Array.getElem?_eq_some_iff.1 hl1).1
  refine ⟨L, mark, V1, { target := .fn (.func gf) lb, args := #[.func (.yield L) #[] #[]] }, V1, gf, #[.func (.yield L) #[] #[]] ++ lb, V1, he1, ?_, ?_, ?_, (fun h => by cases h), ?_⟩
  · simp only [resolve, hg]
    simp [go_sem]
  · intro f' hf'; trivial
  · simp [invoke, go_sem, eg]
  · refine CallsIn.of_calls ((hseq L
      (fun k Cb W => ∃ C, (∀ c, Cb c ↔ C c ∨ c = L ∨ K c) ∧ (∀ c, C c → c ≠ L ∧ ¬ K c) ∧ J k C W ∧ W.heap[L]? = some (.loop (rec .ready none)) ∧ (∀ c, K c → W.heap[c]? = V1.heap[c]?))
      (fun k Cb W => ∃ C, (∀ c, Cb c ↔ C c ∨ c = L ∨ K c) ∧ (∀ c, C c → c ≠ L ∧ ¬ K c) ∧ JP k C W ∧ W.heap[L]? = some (.loop (rec .ready none)) ∧ (∀ c, K c → W.heap[c]? = V1.heap[c]?))
      (fun c => C0 c ∨ c = L ∨ K c) V1 μ s0 ?_ ?_ hk1 ?_ ?_ ?_ ?_).mono ?_)
    · rintro c (h | rfl | h)
      · exact .inl h
      · exact .inr hL
      · exact .inr (hK c h).1
    · rintro c (h | rfl | h)
      · exact Nat.lt_of_lt_of_le (hC0 c h) hk1.size
      · exact hLlt
      · exact hKl c h
    · rintro k Cb W ⟨C, h1, h2, h3, h4, h5⟩
      exact hΦ k C W h3
    · rintro k x Cb W W' ⟨C, h1, h2, h3, h4, h5⟩ hx hp
      obtain ⟨q1, q2⟩ := hpop k x C W W' h3 hx hp
      refine ⟨⟨C, h1, h2, q1, q2.heap h4 (fun h => (h2 L h).1 rfl), fun c hc => ?_⟩, q2.mono fun i _ hi hc => hi ((h1 i).2 (.inl hc))⟩
      have hv := h5 c hc
      have hlt := hKl c hc
      exact (q2.heap (hv.trans (Array.getElem?_eq_getElem hlt)) (fun h => (h2 c h).2 hc)).trans (Array.getElem?_eq_getElem hlt).symm
    · rintro k x Cb W hx hgr ⟨C, h1, h2, h3, h4, h5⟩
      have hlt : L < W.heap.size := (Array.getElem?_eq_some_iff.1 h4).1
      have hCL : ¬ C L := fun h => (h2 L h).1 rfl
      have hgw : Grow C0 w C W := by
        refine ⟨fun c hc => ?_, fun c hc => ?_, fun c hc => hgr.lt c ((h1 c).2 (.inl hc)), hgr.kp.os.trans hk1.os, hgr.kp.tape.trans hk1.tape, hgr.kp.output.trans hk1.output, Nat.le_trans hk1.size hgr.kp.size, fun i hi hn => ?_⟩
        · rcases (h1 c).1 (hgr.sub c (.inl hc)) with h | h | h
          · exact h
          · subst h; have := hC0 _ hc; omega
          · have := hC0 _ hc; have := (hK c h).1; omega
        · rcases hgr.new c ((h1 c).2 (.inl hc)) with (h | h | h) | h
          · exact .inl h
          · exact absurd h (h2 c hc).1
          · exact absurd h (h2 c hc).2
          · exact .inr (Nat.le_trans hk1.size h)
        · refine (hgr.kp.block i (Nat.lt_of_lt_of_le hi hk1.size) ?_).trans (hk1.block i hi trivial)
          rintro (h | h | h)
          · exact hn h
          · omega
          · have := (hK i h).1; omega
      have hy := run_yield (P := P) (args := Enc x) h4 (by rw [hrec]; exact hps x)
      rw [hrec] at hy
      refine ⟨fn, _, assign, body, hy, RoundIn.anyDepth (ro := none) (m := n) (roundIn_of_wpIn trivial ?_)⟩
      refine hassign k x C W _ hx h3 hgw hCL ⟨_, h4⟩ ?_
      intro a' C' Wa hga hja
      have h4a : Wa.heap[L]? = some (.loop (rec .ready none)) := hga.kp.heap h4 hCL
      have hlta : L < Wa.heap.size := (Array.getElem?_eq_some_iff.1 h4a).1
      have hCL' : ¬ C' L := fun h => (hga.new L h).elim hCL (fun g => by omega)
      refine ⟨_, run_beginRound h4a (by rw [hrec]), ?_⟩
      have hput : ∀ (V : World) (o : Obj), Kp (fun c => c ≠ L) V (V.putObj L o) := fun V o => (Kp.refl _ V).putObj (fun h => absurd rfl h) o
      have hl2 : (Wa.putObj L (.loop { rec .ready none with state := .busy })).heap[L]? = some (.loop { rec .ready none with state := .busy }) := World.putObj_heap_same hlta
      have hgp : ∀ {C : Nat → Prop} {V V' : World} , Grow C0 w C V → Kp (fun c => c ≠ L) V V' → Grow C0 w C V' := fun hg hk => hg.own (hk.mono fun i _ hi e => by subst e; omega)
      refine wpIn_mono (hbody k a' C' _ (hJA k a' C' _ _ hCL' hja (hput _ _)) (hgp (hgw.trans hga) (hput _ _)) hCL' ⟨_, hl2⟩) ?_
      have hKC : ∀ c, K c → ¬ C c := fun c hc h => (h2 c h).2 hc
      have hKlW : ∀ c, K c → c < W.heap.size := fun c hc => Nat.lt_of_lt_of_le (hKl c hc) hgr.kp.size
      have fin : ∀ (C'' : Nat → Prop) (W3 : World) (st : LoopState) (pe : Option Code), Grow C' (Wa.putObj L (.loop { rec .ready none with state := .busy })) C'' W3 →
          W3.heap[L]? = some (.loop { rec .ready none with state := .busy }) ∧
          ¬ C'' L ∧ Grow Cb W (fun c => C'' c ∨ c = L ∨ K c) (W3.putObj L (.loop (rec st pe))) ∧ (∀ c, C'' c → c ≠ L ∧ ¬ K c) ∧
          Kp C'' W3 (W3.putObj L (.loop (rec st pe))) ∧
          (W3.putObj L (.loop (rec st pe))).heap[L]? = some (.loop (rec st pe)) ∧ (∀ c, K c → (W3.putObj L (.loop (rec st pe))).heap[c]? = V1.heap[c]?) := by
        intro C'' W3 st pe hg3
        have hsz : (Wa.putObj L (.loop { rec .ready none with state := .busy })).heap.size = Wa.heap.size := World.putObj_size
        have hl3 := hg3.kp.heap hl2 hCL'
        have hlt3 : L < W3.heap.size := (Array.getElem?_eq_some_iff.1 hl3).1
        have hCL'' : ¬ C'' L := fun h => (hg3.new L h).elim hCL' (fun g => by omega)
        have hs1 := hga.kp.size
        have hs3 := hg3.kp.size
        have hKC' : ∀ c, K c → ¬ C' c := fun c hc h => (hga.new c h).elim (hKC c hc) (fun g => by have := hKlW c hc; omega)
        have hKC'' : ∀ c, K c → ¬ C'' c := fun c hc h => (hg3.new c h).elim (hKC' c hc) (fun g => by have := hKlW c hc; omega)
        have hblk : ∀ i, i < W.heap.size → i ≠ L → ¬ C i → (W3.putObj L (.loop (rec st pe))).heap[i]? = W.heap[i]? := fun i hi hiL hiC =>
          (World.putObj_heap_other hiL).trans ((hg3.kp.block i (by omega) (fun h => (hga.new i h).elim hiC (fun g => by omega))).trans
            ((World.putObj_heap_other hiL).trans (hga.kp.block i hi hiC)))
        refine ⟨hl3, hCL'', ⟨fun c hc => ?_, fun c hc => ?_, fun c hc => ?_, hg3.kp.os.trans hga.kp.os, hg3.kp.tape.trans hga.kp.tape, hg3.kp.output.trans hga.kp.output, by simp; omega, fun i hi hn => ?_⟩, fun c hc => ?_, ?_, World.putObj_heap_same hlt3, fun c hc => ?_⟩
        · rcases (h1 c).1 hc with h | h | h
          · exact .inl (hg3.sub c (hga.sub c h))
          · exact .inr (.inl h)
          · exact .inr (.inr h)
        · rcases hc with h | h | h
          · rcases hg3.new c h with h | h
            · rcases hga.new c h with h | h
              · exact .inl ((h1 c).2 (.inl h))
              · exact .inr h
            · exact .inr (by omega)
          · exact .inl ((h1 c).2 (.inr (.inl h)))
          · exact .inl ((h1 c).2 (.inr (.inr h)))
        · rcases hc with h | h | h
          · simpa using hg3.lt c h
          · subst h; simpa using hlt3
          · have := hKlW c h; simp; omega
        · exact hblk i hi (fun e => hn ((h1 i).2 (.inr (.inl e)))) (fun e => hn ((h1 i).2 (.inl e)))
        · exact ⟨fun e => hCL'' (e ▸ hc), fun h => hKC'' c h hc⟩
        · exact (Kp.refl _ _).putObj (fun h => absurd h hCL'') _
        · exact (hblk c (hKlW c hc) (hK c hc).2 (hKC c hc)).trans (h5 c hc)
      have hrun : ∀ (jump : Option Code) (W3 : World), W3.heap[L]? = some (.loop { rec .ready none with state := .busy }) →
          (Instr.endRound L jump).run P W3 = .ok (.bool jump.isNone) (W3.putObj L (.loop (rec (if jump.isNone then .ready else .done) jump))) := by
        intro jump W3 hl3
        have := run_endRound (P := P) jump hl3
        rw [hrec] at this ⊢
        exact this
      rintro e a3 W3 hp
      cases e with
      | normal =>
        obtain ⟨C'', s', hg3, hj3, hμ⟩ := hp
        obtain ⟨hl3, hC3, hgb, hd3, hkj, hl4, hk4⟩ := fin C'' W3 .ready none hg3
        exact ⟨_, _, hrun none W3 hl3, _, s', hgb, hμ, rfl, C'', fun c => Iff.rfl, hd3, hJ _ _ _ _ hj3 hkj, hl4, hk4⟩
      | ret => exact hp.elim
      | exit id => exact hp.elim
      | goto t => exact hp.elim
      | panic ch => exact hp.elim
      | outgrown => exact hp.elim
    · exact ⟨C0, fun c => Iff.rfl, fun c hc => ⟨fun e => by subst e; have := hC0 _ hc; omega, fun h => by have := hC0 _ hc; have := (hK c h).1; omega⟩, hJ s0 C0 w V1 h0 (hk1.mono fun _ _ _ => trivial), hl1, fun _ _ => rfl⟩
    · rintro e W2 ⟨⟨v, rfl⟩, Cb, sx, hgr, hpe, hj⟩
      have hend : ∀ (C : Nat → Prop) (st : LoopState) (pe : Option Code), (∀ c, Cb c ↔ C c ∨ c = L ∨ K c) → (∀ c, C c → c ≠ L ∧ ¬ K c) → W2.heap[L]? = some (.loop (rec st pe)) → (∀ c, K c → W2.heap[c]? = V1.heap[c]?) →
          Grow C0 w C (W2.putObj L (.loop (rec .exhausted pe))) ∧ Kp C W2 (W2.putObj L (.loop (rec .exhausted pe))) ∧ (∃ fn', ∀ c, K c → (W2.putObj L (.loop (rec .exhausted pe))).heap[c]? = (W1 fn').heap[c]?) := by
        intro C st pe h1 h2 hl hk
        refine ⟨⟨fun c hc => ?_, fun c hc => ?_, fun c hc => by simpa using hgr.lt c ((h1 c).2 (.inl hc)), hgr.kp.os.trans hk1.os, hgr.kp.tape.trans hk1.tape, hgr.kp.output.trans hk1.output, by have := hk1.size; have := hgr.kp.size; simp; omega, fun i hi hn => ?_⟩, (Kp.refl _ _).putObj (fun h => absurd rfl (h2 L h).1) _, fn, fun c hc => ?_⟩
        · rcases (h1 c).1 (hgr.sub c (.inl hc)) with h | h | h
          · exact h
          · subst h; have := hC0 _ hc; omega
          · have := hC0 _ hc; have := (hK c h).1; omega
        · rcases hgr.new c ((h1 c).2 (.inl hc)) with (h | h | h) | h
          · exact .inl h
          · exact absurd h (h2 c hc).1
          · exact absurd h (h2 c hc).2
          · exact .inr (Nat.le_trans hk1.size h)
        · refine (World.putObj_heap_other (by omega)).trans ((hgr.kp.block i (Nat.lt_of_lt_of_le hi hk1.size) ?_).trans (hk1.block i hi trivial))
          rintro (h | h | h)
          · exact hn h
          · omega
          · have := (hK i h).1; omega
        · rw [hWW]
          exact (World.putObj_heap_other (hK c hc).2).trans (hk c hc)
      obtain ⟨C, h1, h2, h3, h4, h5⟩ := hj
      obtain ⟨g1, g2, g3⟩ := hend C _ _ h1 h2 h4 h5
      exact ⟨none, _, by have := run_endLoop (P := P) h4 (by rw [hrec]; simp); rw [hrec] at this ⊢; exact this, hdone sx C _ g1 hpe (hJ _ _ _ _ h3 g2) g3⟩

/-- A range over a shared queue, at the outermost. -/
theorem rq_outer {σ α : Type} {g : Operand} {ps : Array Tmp} {assign body : Code} {Q : Exit → Act → World → Prop} {a : Act} {w : World}
    {gf : Nat} {lb : Array Value} (hg : a.eval g = .func (.func gf) #[] lb) (eg : ∀ args w, (callFunc gf args).run P w = .ok (.enter gf args) w)
    {Enc : α → Array Value} (hps : ∀ x, (Enc x).size = ps.size) {pend : σ → Option α} {Φ : σ → World → Prop} {Pop : σ → World → World → Prop} (μ : σ → Nat) (s0 : σ)
    (C0 : Nat → Prop) (hC0 : ∀ c, C0 c → c < w.heap.size)
    (J JP : σ → (Nat → Prop) → World → Prop) (JA : σ → Act → (Nat → Prop) → World → Prop)
    (hJ : ∀ k C W W', J k C W → Kp C W W' → J k C W')
    (hJA : ∀ L k a' C W W', w.heap.size ≤ L → ¬ C L → JA k a' C W → Kp (fun c => c ≠ L) W W' → JA k a' C W')
    (hΦ : ∀ s C W, J s C W → Φ s W)
    (hpop : ∀ s x C W W', J s C W → pend s = some x → Pop s W W' → JP s C W' ∧ Kp (fun k => ¬ C k) W W')
    (hseq : IterQ P gf lb pend Enc Φ Pop C0 w) (h0 : J s0 C0 w)
    (hassign : ∀ L k x C W (K' : Act → World → Prop), pend k = some x → JP k C W → Grow C0 w C W → ¬ C L → (∃ r, W.heap[L]? = some (.loop r)) →
      (∀ a' C' W', Grow C W C' W' → JA k a' C' W' → K' a' W') →
      assign.wpIn (fnc (some L)) n P (Exit.then K' (fun _ _ _ => False)) { tmps := (ps.zip (Enc x)).foldl (fun t (p, v) => t.setIfInBounds p v) a.tmps, defers := [] } W)
    (hbody : ∀ L k a' C W, JA k a' C W → Grow C0 w C W → ¬ C L → (∃ r, W.heap[L]? = some (.loop r)) →
      body.wpIn (fnc (some L)) n P (rqPost C W J μ k) a' W)
    (hdone : ∀ D s C W, Grow C0 w C W → pend s = none → J s C W → W.heap[D]? = some (.deferred (some [])) → ¬ C D → w.heap.size ≤ D → Q .normal { a with defers := { target := .collected D, args := #[] } :: a.defers } W) :
    (Code.rangeFunc g ps assign body).wpIn (fnc none) n P Q a w := by
  refine rq_core none hg eg hps μ s0 C0 hC0 (w.heap.size + 1) w.heap.size [{ target := .collected w.heap.size, args := #[] }] (fun c => c = w.heap.size) (by omega) (fun c hc => by omega)
    (fun fn => (w.alloc (.deferred (some []))).alloc (.loop { state := .ready, pending := none, fn, tmps := a.tmps, params := ps, assign, body, defers := w.heap.size }))
    (fun fn => run_enterLoop_outer _ _ _ _ _) (fun fn => ?_) (fun fn => ((Kp.refl _ w).alloc _).alloc _) (fun fn c hc => by subst hc; simp; omega)
    (fun k C W => J k C W ∧ (¬ C w.heap.size)) (fun k C W => JP k C W ∧ (¬ C w.heap.size)) (fun k a' C W => JA k a' C W ∧ (¬ C w.heap.size))
    (fun k C W W' h hk => ⟨hJ k C W W' h.1 hk, h.2⟩)
    (fun k a' C W W' hn h hk => ⟨hJA _ k a' C W W' (by omega) hn h.1 hk, h.2⟩) (fun s C W h => hΦ s C W h.1)
    (fun s x C W W' h hx hp => ⟨⟨(hpop s x C W W' h.1 hx hp).1, h.2⟩, (hpop s x C W W' h.1 hx hp).2⟩) hseq ⟨h0, fun h => by have := hC0 _ h; omega⟩ ?_ ?_ ?_
  · have := World.alloc_heap_new (w.alloc (.deferred (some []))) (.loop { state := .ready, pending := none, fn, tmps := a.tmps, params := ps, assign, body, defers := w.heap.size })
    rwa [World.size_alloc] at this
  · intro k x C W K' hx hj hg hn hr hK
    refine hassign _ k x C W K' hx hj.1 hg hn hr (fun a' C' W' hg' hja => hK a' C' W' hg' ⟨hja, fun h => (hg'.new _ h).elim hj.2 (fun g => ?_)⟩)
    obtain ⟨r, hr⟩ := hr
    have := (Array.getElem?_eq_some_iff.1 hr).1
    omega
  · intro k a' C W hja hg hn hr
    refine wpIn_mono (hbody _ k a' C W hja.1 hg hn hr) ?_
    have hfr : ∀ C' W', Grow C W C' W' → ¬ C' w.heap.size := fun C' W' hg' h => (hg'.new _ h).elim hja.2 (fun g => by
      obtain ⟨r, hr⟩ := hr
      have := (Array.getElem?_eq_some_iff.1 hr).1
      omega)
    rintro e a3 W3 hp
    cases e with
    | normal => obtain ⟨C', s', hg', hj, hμ⟩ := hp; exact ⟨C', s', hg', ⟨hj, hfr _ _ hg'⟩, hμ⟩
    | ret => exact hp.elim
    | exit id => exact hp.elim
    | goto t => exact hp.elim
    | panic ch => exact hp.elim
    | outgrown => exact hp.elim
  · rintro s C W hg hpe ⟨hj, hn⟩ ⟨fn, hk⟩
    refine hdone _ s C W hg hpe hj ?_ hn (Nat.le_refl _)
    rw [hk _ rfl]
    exact (Below.heap_alloc _ _ _ (by simp)).trans (World.alloc_heap_new w _)
end
end

section
open Go.RowKit Go.Shelf Go.Maps Go.WideElems
attribute [local go_sem] Oper.semAt_some fwd fwf

def qV (I : List Nat) : List Value := I.map fun q : Nat => Value.int .i64 (q : Int)
/-- The queue of the list at block Lb. -/
def QAt (W : World) (Lb : Nat) (I : List Nat) : Prop := I.length ≤ 1000 ∧ ∃ v mv, Blk W Lb 113 #[v, mv] ∧ ownsQ W 0 3 v I.length (qV I)
/-- Its head is taken. -/
def PopQ (Lb : Nat) (I : List Nat) (W W' : World) : Prop :=
  ∃ v v' mv, Blk W Lb 113 #[v, mv] ∧ W' = (W.setCell ⟨Lb, 0, none⟩ v').drew ∧ ownsQ W' 0 3 v' I.tail.length (qV I.tail) ∧ v'.ownBlock = v.ownBlock

theorem ownsQ.len_ {w : World} {base n : Nat} {e : TypeId} {v : Value} {xs : List Value} (h : ownsQ w base e v n xs) : ∃ a c, v = .slice a n c := by
  rcases h.2 with ⟨rfl, rfl⟩ | ⟨g, o, cap, cur, rfl, _⟩
  · exact ⟨_, _, rfl⟩
  · exact ⟨_, _, rfl⟩
theorem ownsQ.cons_ {w : World} {base n : Nat} {e : TypeId} {v : Value} {xs : List Value} (h : ownsQ w base e v (n + 1) xs) : ∃ g o c, v = .slice (some ⟨g, o, none⟩) (n + 1) c ∧ n + 1 ≤ c ∧ c ≤ maxLen := by
  rcases h.2 with ⟨_, h⟩ | ⟨g, o, cap, cur, rfl, _, _, h1, h2, _⟩
  · omega
  · exact ⟨_, _, _, rfl, h1, h2⟩

set_option maxRecDepth 100000 in
set_option maxHeartbeats 4000000 in
theorem all_iter {σ : Type} (I : σ → List Nat) (Lb hb : Nat) (C0 : Nat → Prop) (w0 : World) (hbx : Blk w0 hb 138 #[.pointer (some ⟨Lb, 0, none⟩)]) (hC0 : ¬ C0 hb) :
    IterQ Tryd.prog 102 #[.pointer (some ⟨hb, 0, none⟩)] (fun s : σ => (I s).head?) (fun q : Nat => #[.int .i64 (q : Int)]) (fun s W => QAt W Lb (I s)) (fun s W W' => PopQ Lb (I s) W W') C0 w0 := by
  intro L J JP C1 W1 μ s0 hC1 hlt hkp hΦ hpop hY h0
  have hbl := hbx.lt
  have HBX := Lib.hid (hbx.kp hkp trivial)
  have HC1 : Hid (¬ C1 hb) := Lib.hid (fun h => (hC1 hb h).elim hC0 (fun g => by omega))
  have hbl1 := HBX.out.lt
  have HY := Lib.hid hY
  have HPO := Lib.hid hpop
  have HPH := Lib.hid hΦ
  have HJ0 := Lib.hid h0
  have HG0 := Lib.hid (Grow.refl hlt)
  clear hbx hC0 hC1 hlt hkp hΦ hpop hY h0 hbl
  refine Calls.of_callsIn (ro := none) (m := 0) ?_
  refine callsIn_of_wp Tryd.func102 rfl trivial ?_ rfl
  simp only [Tryd.ntmps102, List.size_toArray, List.length_cons, List.length_nil, Nat.reduceAdd, Nat.reduceSub, Array.replicate_succ, Array.replicate_zero, List.push_toArray, List.append_toArray, List.nil_append, List.cons_append]
  gi_wp2
  gi_loopg [] (μ s0) (fun k wr => ∃ (s : σ) (C' : Nat → Prop), k = μ s ∧ Hid (Grow C1 W1 C' wr) ∧ Hid (J s C' wr))
  case atStart => exact ⟨s0, C1, rfl, HG0, HJ0⟩
  case round =>
    obtain ⟨s, C', rfl, HG, HJ⟩ := hrel
    obtain ⟨hle, v, mv, hL, hv⟩ := HPH.out s C' wr HJ.out
    have HBR := Lib.hid (HBX.out.kp HG.out.kp HC1.out)
    have x1 : wr.cell? ⟨hb, 0, none⟩ = some (.pointer (some ⟨Lb, 0, none⟩)) := by rw [HBR.out.cell]; rfl
    have x2 := HBR.out.lt
    have l0 : wr.cell? ⟨Lb, 0, none⟩ = some v := by rw [hL.cell]; rfl
    have l1 := hL.lt
    have l2 := hL.frozen 0
    have HL := Lib.hid hL
    have HV := Lib.hid hv
    clear hL
    cases hI : I s with
    | nil =>
      have HIS := Lib.hid hI
      rw [hI] at hv
      obtain ⟨a, c, rfl⟩ := hv.len_
      clear hv hI hle
      simp only [List.length_nil] at l0
      gi_wp2
      go_end0
      exact ⟨⟨_, rfl⟩, C', s, HG.out, by rw [HIS.out]; rfl, HJ.out⟩
    | cons q T =>
      have HIS := Lib.hid hI
      rw [hI] at hv hle
      simp only [List.length_cons] at hv hle
      obtain ⟨g, o, c, rfl, hc1, hc2⟩ := hv.cons_
      have c0 : wr.cell? ⟨g, o, none⟩ = some (.int .i64 (q : Int)) := by have := hv.cell 0 (.int .i64 (q : Int)) rfl; simpa using this
      have c1 := World.block_lt_of_cell? _ _ c0
      simp only at c1
      have hq0 : (0 : Int) < ((T.length : Int) + 1) := by omega
      unfold maxLen at hc2
      have HT := Lib.hid hv.tail
      clear hv hI
      obtain ⟨o', c', hoc, HTQ⟩ : ∃ o' c', ((c = 1 ∧ o' = o ∧ c' = 0) ∨ (¬ c = 1 ∧ o' = o + 1 ∧ c' = c - 1)) ∧ Hid (ownsQ wr 0 3 (.slice (some ⟨g, o', none⟩) T.length c') T.length (qV T)) := by
        by_cases h : c = 1
        · exact ⟨o, 0, .inl ⟨h, rfl, rfl⟩, Lib.hid (by have := HT.out; simp only [h, if_true, Nat.sub_self] at this; exact this)⟩
        · exact ⟨o + 1, c - 1, .inr ⟨h, rfl, rfl⟩, Lib.hid (by have := HT.out; rwa [if_neg h] at this)⟩
      clear HT
      rcases hoc with ⟨rfl, rfl, rfl⟩ | ⟨hcn, rfl, rfl⟩
      · obtain rfl : T = [] := List.eq_nil_of_length_eq_zero (by omega)
        simp only [List.length_nil, Nat.zero_add] at *
        have hpp := HPO.out s q C' wr (wr.setCell ⟨Lb, 0, none⟩ (.slice (some ⟨g, o', none⟩) 0 0)).drew HJ.out (by rw [HIS.out]; rfl) ⟨_, _, mv, HL.out, rfl, by
          rw [HIS.out]
          exact HTQ.out.heap (fun k hk => Below.heap_setCell wr _ _ k (fun e => HV.out.ne_blk HL.out (by decide) (by first | exact hk.trans (congrArg some e) | exact hk.trans (congrArg some e.symm)))), rfl⟩
        have hgp : Grow C1 W1 C' (wr.setCell ⟨Lb, 0, none⟩ (.slice (some ⟨g, o', none⟩) 0 0)).drew := HG.out.trans ⟨fun _ h => h, fun _ h => .inl h, fun x hx => Nat.lt_of_lt_of_le (HG.out.lt x hx) hpp.2.size, hpp.2⟩
        obtain ⟨fn, tmps, assign, body, hy, hRd⟩ := HY.out s q C' (wr.setCell ⟨Lb, 0, none⟩ (.slice (some ⟨g, o', none⟩) 0 0)).drew (by rw [HIS.out]; rfl) hgp hpp.1
        have HGP := Lib.hid hgp
        have HRd := Lib.hid hRd
        clear hpp hgp hRd
        gi_wp2
        gi_region
        gi_wp2
        refine (RoundIn.anyDepth HRd.out).mono ?_
        rintro e W3 ⟨C3, s3, hg3, hμ, rfl, hj3⟩
        have HG3 := Lib.hid (HGP.out.trans hg3)
        have HJ3 := Lib.hid hj3
        have HMU := Lib.hid hμ
        clear hg3 hj3 hμ hy
        gi_wp2
        gi_roundg (μ s3)
        case rel => exact ⟨s3, C3, rfl, HG3, HJ3⟩
        case measure => exact HMU.out
      · have hcn2 := hcn
        have hpp := HPO.out s q C' wr (wr.setCell ⟨Lb, 0, none⟩ (.slice (some ⟨g, o + 1, none⟩) T.length (c - 1))).drew HJ.out (by rw [HIS.out]; rfl) ⟨_, _, mv, HL.out, rfl, by
          rw [HIS.out]
          exact HTQ.out.heap (fun k hk => Below.heap_setCell wr _ _ k (fun e => HV.out.ne_blk HL.out (by decide) (by first | exact hk.trans (congrArg some e) | exact hk.trans (congrArg some e.symm)))), rfl⟩
        have hgp : Grow C1 W1 C' (wr.setCell ⟨Lb, 0, none⟩ (.slice (some ⟨g, o + 1, none⟩) T.length (c - 1))).drew := HG.out.trans ⟨fun _ h => h, fun _ h => .inl h, fun x hx => Nat.lt_of_lt_of_le (HG.out.lt x hx) hpp.2.size, hpp.2⟩
        obtain ⟨fn, tmps, assign, body, hy, hRd⟩ := HY.out s q C' (wr.setCell ⟨Lb, 0, none⟩ (.slice (some ⟨g, o + 1, none⟩) T.length (c - 1))).drew (by rw [HIS.out]; rfl) hgp hpp.1
        have HGP := Lib.hid hgp
        have HRd := Lib.hid hRd
        clear hpp hgp hRd
        gi_wp2
        gi_region
        gi_wp2
        refine (RoundIn.anyDepth HRd.out).mono ?_
        rintro e W3 ⟨C3, s3, hg3, hμ, rfl, hj3⟩
        have HG3 := Lib.hid (HGP.out.trans hg3)
        have HJ3 := Lib.hid hj3
        have HMU := Lib.hid hμ
        clear hg3 hj3 hμ hy
        gi_wp2
        gi_roundg (μ s3)
        case rel => exact ⟨s3, C3, rfl, HG3, HJ3⟩
        case measure => exact HMU.out
end

section
open Go.RowKit Go.Shelf Go.Maps Go.WideElems

set_option maxHeartbeats 1000000 in
theorem all_any (Lb : Nat) (w : World) :
    Calls Tryd.prog 83 #[.pointer (some ⟨Lb, 0, none⟩)] w fun e w' => e = .returned (.func (.func 102) #[] #[.pointer (some ⟨w.heap.size, 0, none⟩)]) ∧ w' = w.alloc (.cells #[.pointer (some ⟨Lb, 0, none⟩)] 138) := by
  go_enter Tryd.func83, Tryd.ntmps83
  go_wp2
  go_ret
  exact ⟨rfl, rfl⟩

/-- The list keeps its queue. -/
theorem WL.queue {w : World} {C : Nat → Prop} {n L : Nat} {S I : List Nat} (h : WL w C n L S I) (hI : I.length ≤ 1000) : QAt w L I := by
  obtain ⟨v, mv, hL, _, hv, _⟩ := h
  exact ⟨hI, v, mv, hL, hv⟩
/-- The list, its head taken. -/
theorem WL.popped {w w' : World} {C : Nat → Prop} {n L : Nat} {S I : List Nat} (h : WL w C n L S I) (hp : PopQ L I w w') : WL w' C n L S I.tail ∧ Kp (fun k => ¬ C k) w w' := by
  obtain ⟨v, mv, hL, hCL, hv, hvC, hm⟩ := h
  obtain ⟨v1, v', mv', hL', rfl, hv', hvo⟩ := hp
  have e : #[v, mv] = #[v1, mv'] := by
    unfold Blk at hL hL'
    rw [hL] at hL'
    simpa using hL'
  simp only [Array.mk.injEq, List.cons.injEq, and_true] at e
  obtain ⟨rfl, rfl⟩ := e
  refine ⟨⟨v', mv, ?_, hCL, hv', fun k hk => hvC k (hvo ▸ hk), ?_⟩, ((Kp.refl _ w).setCell (p := ⟨L, 0, none⟩) (fun hS => absurd hCL hS) v').drew⟩
  · have := (hL.set_ 0 v').drew
    simpa using this
  · rcases hm with h | ⟨mb, f, h1, h2, h3, h4⟩
    · exact .inl h
    · exact .inr ⟨mb, f, h1, h2, h3.heap (Below.heap_setCell w _ _ mb (fun e => h3.ne_blk hL (by first | exact e | exact e.symm))), h4⟩
theorem WL.kp {w w' : World} {C : Nat → Prop} {n L : Nat} {S I : List Nat} (h : WL w C n L S I) (hk : Kp C w w') : WL w' C n L S I := by
  obtain ⟨v, mv, hL, hCL, hv, hvC, hm⟩ := h
  refine ⟨v, mv, hL.kp hk hCL, hCL, hv.heap (fun k hk2 => hk.block k (hv.lt k hk2).2 (hvC k hk2)), hvC, ?_⟩
  rcases hm with h | ⟨mb, f, h1, h2, h3, h4⟩
  · exact .inl h
  · exact .inr ⟨mb, f, h1, h2, h3.kp hk h2, h4⟩

/-- How many states of a list are not marked. -/
def unm (M : List Bool) (l : List Int) : Nat := l.countP fun s => !M.getD s.toNat false
theorem unm_zero (M : List Bool) (l : List Int) : unm M l = 0 ↔ mkd M l = true := by
  unfold unm mkd
  rw [List.countP_eq_zero, List.all_eq_true]
  simp
theorem unm_set {M : List Bool} {q : Nat} (hq : q < M.length) (hf : M.getD q false = false) : ∀ l : List Int, unm M l = unm (M.set q true) l + l.countP (fun s => s.toNat == q)
  | [] => rfl
  | s :: l => by
    have ih := unm_set hq hf l
    unfold unm at ih ⊢
    rw [List.countP_cons, List.countP_cons, List.countP_cons, ih, getD_set2 M q s.toNat true hq]
    by_cases h : q = s.toNat
    · subst h
      rw [hf, if_pos rfl]
      simp only [Bool.not_false, Bool.not_true, beq_self_eq_true, if_true, Bool.false_eq_true, if_false]
      omega
    · have h2 : ¬ s.toNat = q := fun e => h e.symm
      rw [if_neg h]
      have h3 : (s.toNat == q) = false := by simpa using h2
      rw [h3]
      simp only [Bool.false_eq_true, if_false]
      omega
end

section
open Go.RowKit Go.Shelf Go.Maps Go.WideElems

/-- What is marked, seen and left; D: the rules whose turn may still come. -/
structure RMid (R : List Ru) (n : Nat) (M : List Bool) (S I : List Nat) (D : Nat → Prop) : Prop where
  len : M.length = n
  lt : ∀ q ∈ S, q < n
  mrk : ∀ q, q < n → (M.getD q false = true ↔ q ∈ S ∧ ¬ q ∈ I)
  sub : ∀ q ∈ I, q ∈ S
  nod : I.Pairwise (fun a b => a ≠ b)
  snd : ∀ q ∈ S, Rch R q
  cls : ∀ i r, R[i]? = some r → unm M r.fr = 0 → ¬ D i → r.to.toNat ∈ S

theorem RMid.start (R : List Ru) (n : Nat) : RMid R n (List.replicate n false) [] [] (fun _ => True) where
  len := by simp
  lt q h := by cases h
  mrk q hq := by rw [List.getD_eq_getElem?_getD, List.getElem?_replicate, if_pos hq]; simp
  sub q h := by cases h
  nod := List.Pairwise.nil
  snd q h := by cases h
  cls _ _ _ _ h := absurd trivial h
theorem mem_addS {S : List Nat} {q x : Nat} : x ∈ addS S q ↔ x = q ∨ x ∈ S := by
  unfold addS
  split
  · rename_i h
    exact ⟨.inr, fun h2 => h2.elim (fun e => e ▸ h) id⟩
  · exact List.mem_cons
theorem RMid.add {R : List Ru} {n : Nat} {M : List Bool} {S I : List Nat} {D : Nat → Prop} (h : RMid R n M S I D) {q : Nat} (hq : q < n) (hr : Rch R q) : RMid R n M (addS S q) (addI S I q) D where
  len := h.len
  lt x hx := (mem_addS.1 hx).elim (fun e => e ▸ hq) (h.lt x)
  mrk x hx := by
    rw [h.mrk x hx, mem_addS]
    unfold addI
    by_cases hs : q ∈ S
    · rw [if_pos hs]
      constructor
      · rintro ⟨a, b⟩; exact ⟨.inr a, b⟩
      · rintro ⟨a | a, b⟩
        · subst a; exact ⟨hs, b⟩
        · exact ⟨a, b⟩
    · rw [if_neg hs, List.mem_append, List.mem_singleton]
      constructor
      · rintro ⟨a, b⟩
        exact ⟨.inr a, fun c => c.elim b (fun e => hs (e ▸ a))⟩
      · rintro ⟨a | a, b⟩
        · exact absurd (.inr a) b
        · exact ⟨a, fun c => b (.inl c)⟩
  sub x hx := by
    rw [mem_addS]
    unfold addI at hx
    split at hx
    · exact .inr (h.sub x hx)
    · rcases List.mem_append.1 hx with a | a
      · exact .inr (h.sub x a)
      · exact .inl (List.mem_singleton.1 a)
  nod := by
    unfold addI
    split
    · exact h.nod
    · rename_i hs
      rw [List.pairwise_append]
      refine ⟨h.nod, List.pairwise_singleton _ _, fun a ha b hb e => ?_⟩
      rw [List.mem_singleton] at hb
      subst hb
      exact hs (e ▸ h.sub a ha)
  snd x hx := (mem_addS.1 hx).elim (fun e => e ▸ hr) (h.snd x)
  cls i r hi hu hd := mem_addS.2 (.inr (h.cls i r hi hu hd))
theorem RMid.less {R : List Ru} {n : Nat} {M : List Bool} {S I : List Nat} {D D' : Nat → Prop} (h : RMid R n M S I D) (hd : ∀ i r, R[i]? = some r → unm M r.fr = 0 → D i → ¬ D' i → r.to.toNat ∈ S) : RMid R n M S I D' :=
  ⟨h.len, h.lt, h.mrk, h.sub, h.nod, h.snd, fun i r hi hu hn => by
    by_cases hD : D i
    · exact hd i r hi hu hD hn
    · exact h.cls i r hi hu hD⟩
/-- A rule all of whose states are marked. -/
theorem RMid.reach {R : List Ru} {n : Nat} {M : List Bool} {S I : List Nat} {D : Nat → Prop} (h : RMid R n M S I D) {r : Ru} (hr : r ∈ R) (hlt : ∀ s ∈ r.fr, s.toNat < n) (hu : unm M r.fr = 0) : Rch R r.to.toNat :=
  Rch.mk r hr (fun s hs => h.snd _ ((h.mrk _ (hlt s hs)).1 (List.all_eq_true.1 ((unm_zero M r.fr).1 hu) s hs)).1)
/-- The next state is marked: the rules that use it come again. -/
theorem RMid.pop {R : List Ru} {n : Nat} {M : List Bool} {S T : List Nat} {q : Nat} (h : RMid R n M S (q :: T) (fun _ => False)) : q < n ∧ M.getD q false = false ∧ RMid R n (M.set q true) S T (fun i => ∃ r, R[i]? = some r ∧ ∃ s ∈ r.fr, s.toNat = q) := by
  have hqS := h.sub q (List.mem_cons_self ..)
  have hq := h.lt q hqS
  have hqm : M.getD q false = false := by
    cases hm : M.getD q false with
    | false => rfl
    | true => exact absurd (List.mem_cons_self ..) ((h.mrk q hq).1 hm).2
  have hnd := List.pairwise_cons.1 h.nod
  refine ⟨hq, hqm, ?_⟩
  exact {
    len := by rw [List.length_set]; exact h.len
    lt := h.lt
    mrk := fun x hx => by
      rw [getD_set2 M q x true (by rw [h.len]; exact hq)]
      by_cases e : q = x
      · subst e
        rw [if_pos rfl]
        exact ⟨fun _ => ⟨hqS, fun hT => hnd.1 q hT rfl⟩, fun _ => rfl⟩
      · rw [if_neg e, h.mrk x hx, List.mem_cons]
        exact ⟨fun ⟨a, b⟩ => ⟨a, fun c => b (.inr c)⟩, fun ⟨a, b⟩ => ⟨a, fun c => c.elim (fun e2 => e e2.symm) b⟩⟩
    sub := fun x hx => h.sub x (List.mem_cons_of_mem _ hx)
    nod := hnd.2
    snd := h.snd
    cls := fun i r hi hu hn => by
      refine h.cls i r hi ?_ (fun hf => hf)
      rw [unm_set (by rw [h.len]; exact hq) hqm, hu, Nat.zero_add, List.countP_eq_zero]
      intro s hs hc
      exact hn ⟨r, hi, s, hs, by simpa using hc⟩ }
/-- Nothing is left: what is marked is what is reachable. -/
theorem RMid.done {R : List Ru} {n : Nat} {M : List Bool} {S : List Nat} (h : RMid R n M S [] (fun _ => False)) : IsRch R n M := by
  refine isRch_of h.len (fun i hi => ?_) (fun r hr hm => ?_)
  · have hin : i < n := by
      rcases Nat.lt_or_ge i n with h1 | h1
      · exact h1
      · rw [List.getD_eq_getElem?_getD, List.getElem?_eq_none (by rw [h.len]; exact h1)] at hi
        cases hi
    exact h.snd i ((h.mrk i hin).1 hi).1
  · obtain ⟨i, hi, hri⟩ := List.getElem_of_mem hr
    have hs := h.cls i r (by rw [List.getElem?_eq_getElem hi, hri]) ((unm_zero M r.fr).2 hm) (fun hf => hf)
    exact (h.mrk _ (h.lt _ hs)).2 ⟨hs, fun hn => by cases hn⟩
end

end Go.Proofs.YtedfldbknjcnlaaDoor
