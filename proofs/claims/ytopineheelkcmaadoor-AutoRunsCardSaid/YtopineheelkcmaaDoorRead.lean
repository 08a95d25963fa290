/- How an argument that came in reads: a node or a tree. -/
import Derived.Test.YtopineheelkcmaaDoorHg
import Derived.Test.YtopineheelkcmaaDoorHgS
import Derived.ProofKit
namespace Go.Proofs.YtopineheelkcmaaDoor
open Go.RowKit Go.ChangeShapes Go.WideShapes

section
variable {H : Type} {enc : TypeId × Value → H} {P : Program} {w : World} {base : Nat} {spare : Nat → Bool} {held : Bool}

theorem cell_none_spot {w : World} {a : Addr} {v : Value} (h : w.cell? a = some v) : a.spot = none := by
  unfold World.cell? at h
  split at h
  · cases hs : a.spot with
    | none => rfl
    | some _ => simp [hs] at h
  · cases h
theorem addr_eta {a : Addr} (h : a.spot = none) : a = ⟨a.block, a.off, none⟩ := by
  obtain ⟨b, o, s⟩ := a; simp at h; subst h; rfl
theorem addr_add_plain (b o n : Nat) : (⟨b, o, none⟩ : Addr).add n = ⟨b, o + n, none⟩ := by
  unfold Addr.add; split
  · next h => subst h; rfl
  · rfl

theorem read_row (b o len : Nat) (f : Nat → Int) (hf : ∀ i, i < len → ∃ v K, w.cell? ⟨b, o + i * 2, none⟩ = some (.int .i64 (f i)) ∧ (Lit.int .i64 (f i)).wf = true ∧ w.cell? ⟨b, o + i * 2 + 1, none⟩ = some v ∧ IsH w v K) :
    ∀ d, d ≤ len → ∃ h, h.len = d ∧ Row w h b (o + (len - d) * 2) := by
  intro d
  induction d with
  | zero => intro _; exact ⟨.nil, rfl, trivial⟩
  | succ d ih =>
    intro hd
    obtain ⟨h, hl, hr⟩ := ih (by omega)
    obtain ⟨v, K, c1, hwf, c2, hv⟩ := hf (len - (d + 1)) (by omega)
    refine ⟨.cons (f (len - (d + 1))) K h, by simp [Hg.len, hl], ?_⟩
    rw [Row.cons_iff]
    refine ⟨c1, hwf, ⟨v, c2, hv⟩, ?_⟩
    rw [show o + (len - (d + 1)) * 2 + 2 = o + (len - d) * 2 by omega]
    exact hr

theorem read_hedge {ts tn ti : TypeId} {n1 n2 g1 g2 q1 q2 : String} {m1 m2 : Bool} {z1 z2 : Nat} (hts : P.underlying ts = some (.slice tn)) (htn : P.underlying tn = some (.struct #[⟨n1, ti, 0, m1, g1, q1, z1⟩, ⟨n2, ts, 1, m2, g2, q2, z2⟩])) (hti : P.underlying ti = some (.int .i64))
    (hc : P.cellsOf tn = 2) (hci : P.cellsOf ti = 1) (hcs : P.cellsOf ts = 1) : ∀ (fuel : Nat) (cs : List Value) (x : DataW H × List MemPlace), DataW.trod enc P w base spare held fuel ts cs = some x → ∃ v h, cs = [v] ∧ IsH w v h := by
  intro fuel
  induction fuel using Nat.strongRecOn with
  | _ fuel ih =>
    intro cs x hx
    rcases DataW.trod_slice hts hx with ⟨rfl, _⟩ | ⟨a, len, cap, elems, rest, n, rfl, rfl, _, _, hl, hm, hlen, hel, _, _⟩
    · exact ⟨_, .nil, rfl, none, 0, rfl, Nat.le_refl _, by decide, fun h => absurd rfl h⟩
    · have key : ∀ i, i < len → ∃ l v K, w.cell? (a.add (i * 2)) = some (.int .i64 l) ∧ (Lit.int .i64 l).wf = true ∧ w.cell? ((a.add (i * 2)).add 1) = some v ∧ IsH w v K := by
        intro i hi
        have h1 := hel i hi
        rw [hc, List.getElem?_eq_getElem (by omega)] at h1
        simp only [Option.bind_eq_some_iff] at h1
        obtain ⟨cs', hcells, ht⟩ := h1
        obtain ⟨_, hcl, hat⟩ := World.cells?_some hcells
        obtain ⟨xs, n', rfl, _, _, hxl, hf⟩ := DataW.trod_struct htn ht
        simp at hxl
        match cs', hcl with
        | [c0, c1], _ =>
          have f0 := hf 0 _ rfl
          have f1 := hf 1 _ rfl
          have f0 : DataW.trod enc P w base spare held n' ti (List.take (P.cellsOf ti) [c0, c1]) = xs[0]? := f0
          have f1 : DataW.trod enc P w base spare held n' ts (List.take (P.cellsOf ts) [c1]) = xs[1]? := f1
          rw [hci] at f0
          rw [hcs] at f1
          have f0 : DataW.trod enc P w base spare held n' ti [c0] = xs[0]? := f0
          have f1 : DataW.trod enc P w base spare held n' ts [c1] = xs[1]? := f1
          have hxs0 : (DataW.trod enc P w base spare held n' ti [c0]).isSome = true := by
            rw [f0]; simp; omega
          have hxs1 : (DataW.trod enc P w base spare held n' ts [c1]).isSome = true := by
            rw [f1]; simp; omega
          obtain ⟨y0, hy0⟩ := Option.isSome_iff_exists.1 hxs0
          obtain ⟨y1, hy1⟩ := Option.isSome_iff_exists.1 hxs1
          obtain ⟨l, e0, _, hwf⟩ := DataW.trod_int hti hy0
          simp at e0
          subst e0
          obtain ⟨v, K, e1, hv⟩ := ih n' (by omega) [c1] y1 hy1
          simp at e1
          subst e1
          have a0 := hat 0 (by omega)
          have a1 := hat 1 (by omega)
          simp only [List.getElem?_cons_zero, List.getElem?_cons_succ] at a0 a1
          refine ⟨l, c1, K, ?_, hwf, a1, hv⟩
          simpa [Addr.add] using a0
      refine ⟨.slice (some a) len cap, ?_⟩
      by_cases h0 : len = 0
      · subst h0
        exact ⟨.nil, rfl, _, _, rfl, hl, hm, fun h => absurd rfl h⟩
      · obtain ⟨l0, v0, K0, q0, _⟩ := key 0 (by omega)
        have hsp : a.spot = none := by
          have := cell_none_spot q0
          simpa [Addr.add] using this
        rw [addr_eta hsp]
        have key2 : ∀ i, ∃ l : Int, i < len → ∃ v K, w.cell? ⟨a.block, a.off + i * 2, none⟩ = some (.int .i64 l) ∧ (Lit.int .i64 l).wf = true ∧ w.cell? ⟨a.block, a.off + i * 2 + 1, none⟩ = some v ∧ IsH w v K := by
          intro i
          by_cases hi : i < len
          · obtain ⟨l, v, K, h1, h2, h3, h4⟩ := key i hi
            rw [addr_eta hsp, addr_add_plain] at h1 h3
            rw [addr_add_plain] at h3
            exact ⟨l, fun _ => ⟨v, K, h1, h2, h3, h4⟩⟩
          · exact ⟨0, fun h => absurd h hi⟩
        obtain ⟨h, hh, hr⟩ := read_row (w := w) a.block a.off len (fun i => (key2 i).choose) (fun i hi => (key2 i).choose_spec hi) len (Nat.le_refl _)
        refine ⟨h, rfl, some ⟨a.block, a.off, none⟩, cap, by rw [hh], by omega, hm, fun _ => ⟨_, _, rfl, ?_⟩⟩
        simpa using hr
end

end Go.Proofs.YtopineheelkcmaaDoor
