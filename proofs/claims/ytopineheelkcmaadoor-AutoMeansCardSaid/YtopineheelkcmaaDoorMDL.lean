/- append([]Tree{x}, rest...), and a call of yield, at a step of a region that draws its order, within a round. -/
import Derived.Test.YtopineheelkcmaaDoorMPos
import Derived.Maps.AppendAt
import Derived.Shelf.RegionOpen
namespace Go.Proofs.YtopineheelkcmaaDoor
open Go.RowKit Go.Shelf

/-- A list of nodes under way: label, kids, the kids' value. -/
abbrev DL := List (Int × Hg × Value)
def dcells (D : DL) : List Value := D.flatMap fun x => [.int .i64 x.1, x.2.2]
def dapp : DL → Hg → Hg
  | [], R => R
  | x :: D, R => .cons x.1 x.2.1 (dapp D R)
theorem dapp_snoc (D : DL) (x : Int × Hg × Value) (R : Hg) : dapp (D ++ [x]) R = dapp D (.cons x.1 x.2.1 R) := by
  induction D with
  | nil => rfl
  | cons y D ih => simp only [List.cons_append, dapp, ih]
theorem dapp_len (D : DL) (R : Hg) : (dapp D R).len = D.length + R.len := by
  induction D with
  | nil => simp [dapp]
  | cons y D ih => simp only [dapp, Hg.len, ih, List.length_cons]; omega
theorem dapp_size (D : DL) (R : Hg) : R.size + D.length ≤ (dapp D R).size := by
  induction D with
  | nil => simp [dapp]
  | cons y D ih => simp only [dapp, Hg.size, List.length_cons]; omega
theorem dcells_snoc (D : DL) (x : Int × Hg × Value) : dcells (D ++ [x]) = dcells D ++ [.int .i64 x.1, x.2.2] := by simp [dcells]
theorem dcells_length (D : DL) : (dcells D).length = D.length * 2 := by
  induction D with
  | nil => rfl
  | cons x D ih => simp only [dcells, List.flatMap_cons, List.length_append, List.length_cons, List.length_nil] at *; omega

/-- The kids of a list of nodes under way lie in S. -/
def DIn (S : Nat → Prop) (w : World) (D : DL) : Prop := ∀ x ∈ D, (Lit.int .i64 x.1).wf = true ∧ IsHS S w x.2.2 x.2.1
theorem DIn.kp {S : Nat → Prop} {w w' : World} {D : DL} (h : DIn S w D) (hk : Kp S w w') : DIn S w' D := fun x hx => ⟨(h x hx).1, (h x hx).2.kp hk⟩
theorem DIn.mono {S S' : Nat → Prop} {w : World} {D : DL} (h : DIn S w D) (hS : ∀ b, b < w.heap.size → S b → S' b) : DIn S' w D := fun x hx => ⟨(h x hx).1, (h x hx).2.mono hS⟩
theorem DIn.snoc {S : Nat → Prop} {w : World} {D : DL} {x : Int × Hg × Value} (h : DIn S w D) (hx : (Lit.int .i64 x.1).wf = true ∧ IsHS S w x.2.2 x.2.1) : DIn S w (D ++ [x]) := fun y hy => by
  rcases List.mem_append.1 hy with hy | hy
  · exact h y hy
  · rw [List.mem_singleton] at hy; subst hy; exact hx

theorem DIn.row {S S' : Nat → Prop} {w : World} {g : Nat} (hg : S' g) (hS : ∀ c, c < w.heap.size → S c → S' c) : ∀ (D : DL) (o : Nat), DIn S w D → (∀ i u, (dcells D)[i]? = some u → w.cell? ⟨g, o + i, none⟩ = some u) → RowS S' w (dapp D .nil) g o
  | [], _, _, _ => trivial
  | (l, K, kv) :: D, o, h, hc => by
    have h0 := h _ (List.mem_cons_self ..)
    rw [dapp, RowS.cons_iff]
    refine ⟨hg, ?_, h0.1, ⟨kv, ?_, h0.2.mono hS⟩, ?_⟩
    · simpa using hc 0 (.int .i64 l) (by simp [dcells])
    · exact hc 1 kv (by simp [dcells])
    · refine DIn.row hg hS D (o + 2) (fun x hx => h x (List.mem_cons_of_mem _ hx)) (fun i u hu => ?_)
      have := hc (2 + i) u (by simpa [dcells, List.getElem?_cons, Nat.add_comm 2 i] using hu)
      rw [show o + 2 + i = o + (2 + i) by omega]; exact this

theorem DIn.isHS {S S' : Nat → Prop} {w : World} {base : Nat} {t : TypeId} {v : Value} {D : DL} (h : DIn S w D) (ho : w.ownsRow base t 2 v D.length (dcells D)) (hS : ∀ c, c < w.heap.size → S c → S' c) (hb : ∀ c, base ≤ c → S' c) : IsHS S' w v (dapp D .nil) := by
  have ho' := ho
  rcases ho.2 with ⟨rfl, hn⟩ | ⟨g, cap, cur, rfl, hbg, hg, hcap, hmax, _, _⟩
  · have : D = [] := List.eq_nil_of_length_eq_zero hn
    subst this
    exact ⟨none, 0, rfl, by simp [dapp, Hg.len], by simp [maxLen], fun h => absurd rfl h⟩
  · refine ⟨some ⟨g, 0, none⟩, cap, by rw [dapp_len]; rfl, by rw [dapp_len]; simpa [Hg.len] using hcap, hmax, fun _ => ⟨g, 0, rfl, ?_⟩⟩
    refine DIn.row (hb g hbg) hS D 0 h (fun i u hu => ?_)
    have hi : i < D.length * 2 := by
      have := (List.getElem?_eq_some_iff.1 hu).1
      rwa [dcells_length] at this
    rw [Nat.zero_add, ho'.cellAt i hi, hu]

theorem hg_list {S : Nat → Prop} {w : World} {b : Nat} : ∀ (h : Hg) (o : Nat), RowS S w h b o → ∃ D : DL, dapp D .nil = h ∧ D.length = h.len ∧ DIn S w D ∧ (∀ i u, (dcells D)[i]? = some u → w.cell? ⟨b, o + i, none⟩ = some u) ∧ (∀ u ∈ dcells D, u.oneCell' = true)
  | .nil, _, _ => ⟨[], rfl, rfl, fun x hx => (by cases hx), fun i u h => (by simp [dcells] at h), fun u hu => (by simp [dcells] at hu)⟩
  | .cons l K R, o, h => by
    rw [RowS.cons_iff] at h
    obtain ⟨_, c0, hwf, ⟨kv, c1, hkv⟩, hr⟩ := h
    obtain ⟨D, e1, e2, e3, e4, e5⟩ := hg_list R (o + 2) hr
    refine ⟨(l, K, kv) :: D, by simp [dapp, e1], by simp [Hg.len, e2], ?_, ?_, ?_⟩
    · intro x hx
      rcases List.mem_cons.1 hx with rfl | hx
      · exact ⟨hwf, hkv⟩
      · exact e3 x hx
    · intro i u hu
      match i with
      | 0 => simp [dcells] at hu; subst hu; simpa using c0
      | 1 => simp [dcells] at hu; subst hu; exact c1
      | i + 2 =>
        have := e4 i u (by simpa [dcells] using hu)
        rw [show o + (i + 2) = o + 2 + i by omega]; exact this
    · intro u hu
      obtain ⟨p, c, rfl, _⟩ := hkv
      simp only [dcells, List.flatMap_cons, List.mem_append, List.mem_cons, List.not_mem_nil, or_false] at hu
      rcases hu with (rfl | rfl) | hu
      · rfl
      · rfl
      · exact e5 u hu

theorem run_append_empty (t ty e : TypeId) (i : TypeInfo) (ht : Tryd.prog.underlying t = some (.slice e)) (hi : Tryd.prog.info? e = some i) (w : World) (ad : Addr) (p : Option Addr) (c : Nat) :
    (Builtin.append_ #[t, t] ty #[.slice (some ad) 1 1, .slice p 0 c]).run Tryd.prog w = .ok (.slice (some ad) 1 1) w := by
  cases p with
  | none => simp [Builtin.append_, run_underlying ht, sizeOf, typeInfo, hi, Builtin.lenOf, Builtin.firstCells, loadCells, loadCellsFrom, storeCells]
  | some a => simp [Builtin.append_, run_underlying ht, sizeOf, typeInfo, hi, Builtin.lenOf, Builtin.firstCells, loadCells, loadCellsFrom, storeCells]

theorem Tryd.infoTree : (Tryd.prog.info? 43).map (fun i => (i.zero, i.size, i.bytes)) = some (some (.agg #[.int .i64 0, .slice none 0 0]), 2, 32) := by kernel_rfl

end Go.Proofs.YtopineheelkcmaaDoor
