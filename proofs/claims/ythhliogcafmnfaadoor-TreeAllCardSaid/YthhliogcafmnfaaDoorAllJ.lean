/- The state of tree.All's loop. -/
import Derived.Test.YthhliogcafmnfaaDoorAllLaws
namespace Go.Proofs.YthhliogcafmnfaaDoor
open Go.RowKit Go.Shelf

structure AJ (T : List (Int × Hg)) (base B7 k : Nat) (C : Nat → Prop) (W : World) (D : DL) (va : Value) : Prop where
  cb : C B7
  len : D.length = k
  eq : D.map (fun x => (x.1, x.2.1)) = T.take k
  box : Boxed W B7 25 va
  own : W.ownsRow base 27 2 va k (dcells D)
  blk : ∀ g, va.ownBlock = some g → C g ∧ g ≠ B7
  kids : DIn (fun c => C c ∧ c ≠ B7 ∧ va.ownBlock ≠ some c) W D

theorem AJ.kp {T : List (Int × Hg)} {base B7 k : Nat} {C : Nat → Prop} {W W' : World} {D : DL} {va : Value} (h : AJ T base B7 k C W D va) (hk : Kp C W W') : AJ T base B7 k C W' D va :=
  ⟨h.cb, h.len, h.eq, hk.boxed h.box h.cb, ownsRow_heap h.own (fun g hg => hk.block g ((h.own.lt g hg).2) (h.blk g hg).1), h.blk, h.kids.kp (hk.mono (fun _ _ h => h.1))⟩

theorem AJ.step {T : List (Int × Hg)} {base B7 k : Nat} {C : Nat → Prop} {W : World} {D : DL} {va : Value} (h : AJ T base B7 k C W D va) {t : Int × Hg} (hT : T[k]? = some t) (hC : ∀ c, C c → c < W.heap.size)
    {w4 w5 w6 : World} {v' kv : Value} (h4 : Kp (fun _ => True) W w4) (hwf : (Lit.int .i64 t.1).wf = true) (hkv : IsHS (fun c => W.heap.size ≤ c ∧ c < w4.heap.size) w4 kv t.2)
    (h5 : Kp (fun c => va.ownBlock ≠ some c) w4 w5) (hat : v'.ownBlock = va.ownBlock ∨ v'.ownBlock = some w4.heap.size) (h6 : Kp (fun c => c ≠ B7 ∧ v'.ownBlock ≠ some c) w5 w6)
    (hbox : Boxed w6 B7 25 v') (hown : w6.ownsRow base 27 2 v' (k + 1) (dcells (D ++ [(t.1, t.2, kv)]))) :
    ∃ C', Grow C W C' w6 ∧ AJ T base B7 (k + 1) C' w6 (D ++ [(t.1, t.2, kv)]) v' := by
  have s4 := h4.size
  have s5 := h5.size
  have s6 := h6.size
  have hB7 := hC _ h.cb
  have hnot : ∀ c, va.ownBlock = some c → C c := fun c e => (h.blk c e).1
  have hnv : ∀ c, c < W.heap.size → va.ownBlock ≠ some c → v'.ownBlock ≠ some c := fun c hc hn e => by
    rcases hat with e' | e'
    · exact hn (e' ▸ e)
    · rw [e'] at e; cases e; omega
  refine ⟨fun c => C c ∨ (W.heap.size ≤ c ∧ c < w6.heap.size), ⟨fun c h => .inl h, fun c h => h.imp id (fun g => g.1), fun c h => h.elim (fun g => by have := hC c g; omega) (fun g => g.2), ?_⟩, ?_⟩
  · refine ⟨h6.os.trans (h5.os.trans h4.os), h6.tape.trans (h5.tape.trans h4.tape), h6.output.trans (h5.output.trans h4.output), by omega, fun c hc hn => ?_⟩
    have e1 : va.ownBlock ≠ some c := fun e => hn (hnot c e)
    rw [h6.block c (by omega) ⟨fun e => hn (e ▸ h.cb), hnv c hc e1⟩, h5.block c (by omega) e1, h4.block c hc trivial]
  · refine ⟨.inl h.cb, by simp [h.len], ?_, hbox, hown, fun g hg => ?_, ?_⟩
    · rw [List.map_append, h.eq, List.take_add_one, hT]; rfl
    · rcases hat with e' | e'
      · have := h.blk g (e' ▸ hg); exact ⟨.inl this.1, this.2⟩
      · rw [e'] at hg
        cases hg
        have := (hown.lt _ e').2
        exact ⟨.inr ⟨s4, this⟩, by omega⟩
    · have hold : DIn (fun c => C c ∧ c ≠ B7 ∧ va.ownBlock ≠ some c) w6 D :=
        ((h.kids.kp (h4.mono fun _ _ _ => trivial)).kp (h5.mono fun _ _ g => g.2.2)).kp (h6.mono fun c hc g => ⟨g.2.1, hnv c (hC c g.1) g.2.2⟩)
      have hnew : IsHS (fun c => W.heap.size ≤ c ∧ c < w4.heap.size) w6 kv t.2 :=
        (hkv.kp (h5.mono fun c _ g e => by have := hC c (hnot c e); omega)).kp (h6.mono fun c _ g => ⟨by omega, fun e => by
          rcases hat with e' | e'
          · have := hC c (hnot c (e' ▸ e)); omega
          · rw [e'] at e; cases e; omega⟩)
      refine DIn.snoc (hold.mono (fun c hc g => ⟨.inl g.1, g.2.1, hnv c (hC c g.1) g.2.2⟩)) ⟨hwf, hnew.mono (fun c hc g => ⟨.inr ⟨g.1, by omega⟩, by omega, fun e => ?_⟩)⟩
      rcases hat with e' | e'
      · have := hC c (hnot c (e' ▸ e)); omega
      · rw [e'] at e; cases e; omega

end Go.Proofs.YthhliogcafmnfaaDoor
