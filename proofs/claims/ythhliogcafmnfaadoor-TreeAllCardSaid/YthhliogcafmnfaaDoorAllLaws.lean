/- Steps of tree.All's drawn region: a call of a Go function, an append of a zero tree. -/
import Derived.Test.YthhliogcafmnfaaDoorAllMath
namespace Go.Proofs.YthhliogcafmnfaaDoor
open Go.RowKit Go.Shelf

theorem step_call {ro : Option Nat} {n : Nat} {P : Program} {ops : Array Oper} {o : Oper} {a : Act} {K : Act → World → Prop} {Q : Exit → Act → World → Prop} {E : Prop} (w : World) (hgd : o.guard = none) (f : FuncId) (x : Operand) (ts : Array TypeId)
    (ho : o.op = .call { callee := .value (.func f), args := #[x], argTypes := ts }) (v : Value) (hx : a.eval x = v) (R : Ending → World → Prop) (eg : ∀ args w, (callFunc f args).run P w = .ok (.enter f args) w)
    (hc : Calls P f #[v] w R) (h : ∀ e W', R e W' → ∃ u, e = .returned u ∧ K (a.put o.dst u) W') :
    if Region.wanted o (yielded ops a.tmps) = true then Oper.wpIn (fnc ro) n P o a w K Q else E := by
  have hw : Region.wanted o (yielded ops a.tmps) = true := by simp [Region.wanted, hgd]
  rw [if_pos hw]
  unfold Oper.wpIn
  refine ⟨fun _ _ => trivial, ?_⟩
  rw [Oper.semAt_plain _ _ _ (by rw [ho]; intro c hc'; cases hc')]
  have hr : (execOp a.eval o).run P w = .ok (.enter f #[v]) w := by
    have hf : a.eval (.func f) = .func (.func f) #[] #[] := rfl
    simp [execOp, ho, resolve, invoke, hx, hf, Deferred.ofValue, Result.andThen]
    exact eg _ _
  rw [hr, Oper.uponIn_enter]
  refine ⟨fun hd => (by simp [fwd] at hd), (CallsIn.of_calls hc).mono ?_⟩
  rintro e W' hR
  obtain ⟨u, rfl, hk⟩ := h e W' hR
  exact hk

theorem step_zero_append {ro : Option Nat} {n : Nat} {ops : Array Oper} {o : Oper} {a : Act} {K : Act → World → Prop} {Q : Exit → Act → World → Prop} {E : Prop} (w : World) (hgd : o.guard = none) (s x : Operand)
    (ho : o.op = .call { callee := .builtin .append, args := #[s, x], argTypes := #[25, 25] })
    (base : Nat) (v : Value) (k : Nat) (xs : List Value) (hs : a.eval s = v) (hown : w.ownsRow base 27 2 v k xs) (g : Nat) (hx : a.eval x = .slice (some ⟨g, 0, none⟩) 1 1)
    (hB : Blk w g 27 #[.int .i64 0, .slice none 0 0]) (hk : k ≤ 5000) (hbase : base ≤ w.heap.size)
    (h : ∀ v' w', w'.ownsRow base 27 2 v' (k + 1) (xs ++ [.int .i64 0, .slice none 0 0]) → Kp (fun c => v.ownBlock ≠ some c) w w' → (v'.ownBlock = v.ownBlock ∨ v'.ownBlock = some w.heap.size) → K (a.put o.dst v') w') :
    if Region.wanted o (yielded ops a.tmps) = true then Oper.wpIn (fnc ro) n Tryd.prog o a w K Q else E := by
  have hw : Region.wanted o (yielded ops a.tmps) = true := by simp [Region.wanted, hgd]
  rw [if_pos hw]
  obtain ⟨i0, hi, hz0, hz1, hz2⟩ := info_parts Tryd.infoTree
  obtain ⟨v', w', hr, h2, h3, _, h4⟩ := run_append_own_at (P := Tryd.prog) w base 25 o.type 27 i0 _ 2 32 Tryd.underlying25 hi hz0 hz1 hz2 rfl (by decide) v k xs hown
      ⟨g, 0, none⟩ 1 1 [.int .i64 0, .slice none 0 0] rfl (fun j u hu => by
        have e : ((⟨g, 0, none⟩ : Addr).add j) = ⟨g, j, none⟩ := by unfold Addr.add; split <;> simp_all
        rw [e, hB.cell]; simpa using hu) (by simp [Value.oneCell']) (by simp only [maxLen]; omega) (by omega) hbase
  unfold Oper.wpIn
  refine ⟨fun _ _ => trivial, ?_⟩
  rw [Oper.semAt_plain _ _ _ (by rw [ho]; intro c hc'; cases hc')]
  simp [execOp, ho, resolve, invoke, builtin, hs, hx, hr, Result.andThen]
  exact h v' w' h2 ((Kp.refl _ w).grown h3 (fun k e hs => absurd e hs)) h4

end Go.Proofs.YthhliogcafmnfaaDoor
