/- append([]Node{x}, rest...). -/
import Derived.Test.YtkbcehapalcadabCodeMath
import Derived.Deep.AppendLies
import Derived.Deep.RegionHeld3
namespace Go.Proofs.Ytkbcehapalcadab
open Go.RowKit Go.Shelf

theorem hg_list {S : Nat → Prop} {w : World} {b : Nat} : ∀ (h : Hg) (o : Nat), RowS S w h b o → ∃ D : DL, dapp D .nil = h ∧ D.length = h.len ∧ DIn S w D ∧ (∀ i u, (dcells D)[i]? = some u → w.cell? ⟨b, o + i, none⟩ = some u) ∧ (∀ u ∈ dcells D, u.oneCell' = true)
  | .nil, _, _ => ⟨[], rfl, rfl, fun x hx => (by cases hx), fun i u h => (by simp [dcells] at h), fun u hu => (by simp [dcells] at hu)⟩
  | .cons l K R, o, h => by
    rw [RowS.cons_iff] at h
    obtain ⟨_, c0, hwf, ⟨kv, c1, hkv⟩, hr⟩ := h
    obtain ⟨D, e1, e2, e3, e4, e5⟩ := hg_list R (o + 2) hr
    refine ⟨(l, K, kv) :: D, by simp [dapp, e1], by simp [Hg.len, e2], ?_, ?_, ?_⟩
    · intro x hx
      rcases List.mem_cons.1 hx with rfl | hx
      · exact ⟨hwf, hkv⟩
      · exact e3 x hx
    · intro i u hu
      match i with
      | 0 => simp [dcells] at hu; subst hu; simpa using c0
      | 1 => simp [dcells] at hu; subst hu; exact c1
      | i + 2 =>
        have := e4 i u (by simpa [dcells] using hu)
        rw [show o + (i + 2) = o + 2 + i by omega]; exact this
    · intro u hu
      obtain ⟨p, c, rfl, _⟩ := hkv
      simp only [dcells, List.flatMap_cons, List.mem_append, List.mem_cons, List.not_mem_nil, or_false] at hu
      rcases hu with (rfl | rfl) | hu
      · rfl
      · rfl
      · exact e5 u hu

theorem run_append_empty (t ty e : TypeId) (i : TypeInfo) (ht : Try.prog.underlying t = some (.slice e)) (hi : Try.prog.info? e = some i) (w : World) (ad : Addr) (p : Option Addr) (c : Nat) :
    (Builtin.append_ #[t, t] ty #[.slice (some ad) 1 1, .slice p 0 c]).run Try.prog w = .ok (.slice (some ad) 1 1) w := by
  cases p with
  | none => simp [Builtin.append_, run_underlying ht, sizeOf, typeInfo, hi, Builtin.lenOf, Builtin.firstCells, loadCells, loadCellsFrom, storeCells]
  | some a => simp [Builtin.append_, run_underlying ht, sizeOf, typeInfo, hi, Builtin.lenOf, Builtin.firstCells, loadCells, loadCellsFrom, storeCells]

theorem node_append (base : Nat) (S : Nat → Prop) (w : World) (g : Nat) (l : Int) (Kh R : Hg) (kv xv : Value) (hB : Blk w g 24 #[.int .i64 l, kv]) (hwf : (Lit.int .i64 l).wf = true) (hkv : IsHS S w kv Kh) (hxv : IsHS S w xv R)
    (hS : ∀ c, S c → base ≤ c ∧ c ≠ g) (hg : base ≤ g) (hR : R.len ≤ 1000000) (ty : TypeId) :
    ∃ v' w', (Builtin.append_ #[22, 22] ty #[.slice (some ⟨g, 0, none⟩) 1 1, xv]).run Try.prog w = .ok v' w' ∧ IsHS (fun c => base ≤ c) w' v' (.cons l Kh R) ∧ Below base w w' := by
  obtain ⟨i0, hi, hz0, hz1, hz2⟩ := info_parts Try.infoNode
  obtain ⟨p, c, rfl, hc1, hc2, hrow⟩ := hxv
  by_cases hne : R = .nil
  · subst hne
    refine ⟨_, w, run_append_empty _ _ _ _ Try.underlying22 hi w _ _ _, ?_, Below.refl _ _⟩
    refine ⟨_, _, rfl, by simp [Hg.len], by simp [maxLen], fun _ => ⟨g, 0, rfl, ?_⟩⟩
    rw [RowS.cons_iff]
    exact ⟨hg, by rw [hB.cell]; rfl, hwf, ⟨kv, by rw [hB.cell]; rfl, hkv.mono (fun c _ h => (hS c h).1)⟩, trivial⟩
  · obtain ⟨b, o, rfl, hr⟩ := hrow hne
    obtain ⟨D, e1, e2, e3, e4, e5⟩ := hg_list R o hr
    have hkv' := hkv
    obtain ⟨pk, ck, rfl, _⟩ := hkv'
    have hown : w.ownsRow base 24 2 (.slice (some ⟨g, 0, none⟩) 1 1) 1 [.int .i64 l, .slice pk Kh.len ck] :=
      ⟨by simp, .inr ⟨g, 1, _, rfl, hg, hB, Nat.le_refl _, by simp [maxLen], by simp, by simp⟩⟩
    obtain ⟨v', w', hrun, ho, hgr, _, hat⟩ := run_append_own_at (P := Try.prog) w base 22 ty 24 i0 _ 2 32 Try.underlying22 hi hz0 hz1 hz2 rfl (by decide) _ 1 _ hown
      ⟨b, o, none⟩ R.len c (dcells D) (by rw [dcells_length, e2]) (fun j u hu => by
        have := e4 j u hu
        have e : ((⟨b, o, none⟩ : Addr).add j) = ⟨b, o + j, none⟩ := by unfold Addr.add; split <;> simp_all
        rw [e]; exact this) e5 (by simp only [maxLen]; omega) (by omega) (Nat.le_trans hg (Nat.le_of_lt hB.lt))
    refine ⟨v', w', hrun, ?_, ?_⟩
    · have hk : Kp S w w' := (Kp.refl S w).grown hgr (fun k e hs => by
        simp [Value.ownBlock] at e; exact absurd e.symm (hS k hs).2)
      have hD : DIn S w' ((l, Kh, .slice pk Kh.len ck) :: D) := by
        intro x hx
        rcases List.mem_cons.1 hx with rfl | hx
        · exact ⟨hwf, hkv.kp hk⟩
        · exact ⟨(e3 x hx).1, (e3 x hx).2.kp hk⟩
      have := hD.isHS (S' := fun c => base ≤ c) (base := base) (t := 24) (v := v') (by
        have h1 : dcells ((l, Kh, .slice pk Kh.len ck) :: D) = [.int .i64 l, .slice pk Kh.len ck] ++ dcells D := by simp [dcells]
        rw [h1, List.length_cons, e2, Nat.add_comm]; exact ho) (fun c _ h => (hS c h).1) (fun c h => h)
      simpa [dapp, e1] using this
    · exact (Below.refl base w).grown hgr (Nat.le_trans hg (Nat.le_of_lt hB.lt)) (fun j e => by simp [Value.ownBlock] at e; omega)

/-- At a step of a region that draws its order. -/
theorem step_node_append {ops : Array Oper} {o : Oper} {a : Act} {K : Act → World → Prop} {Q : Exit → Act → World → Prop} {E : Prop} (w : World) (hgd : o.guard = none) (s x : Operand)
    (ho : o.op = .call { callee := .builtin .append, args := #[s, x], argTypes := #[22, 22] })
    (base : Nat) (S : Nat → Prop) (g : Nat) (l : Int) (Kh R : Hg) (kv xv : Value) (hs : a.eval s = .slice (some ⟨g, 0, none⟩) 1 1) (hx : a.eval x = xv)
    (hB : Blk w g 24 #[.int .i64 l, kv]) (hwf : (Lit.int .i64 l).wf = true) (hkv : IsHS S w kv Kh) (hxv : IsHS S w xv R)
    (hS : ∀ c, S c → base ≤ c ∧ c ≠ g) (hg : base ≤ g) (hR : R.len ≤ 1000000)
    (h : ∀ v' w', Hid (IsHS (fun c => base ≤ c) w' v' (.cons l Kh R)) → Hid (Below base w w') → K (a.put o.dst v') w') :
    if Region.wanted o (yielded ops a.tmps) = true then Oper.wp Try.prog o a w K Q else E := by
  have hw : Region.wanted o (yielded ops a.tmps) = true := by simp [Region.wanted, hgd]
  rw [if_pos hw]
  obtain ⟨v', w', hr, h2, h3⟩ := node_append base S w g l Kh R kv xv hB hwf hkv hxv hS hg hR o.type
  unfold Oper.wp execOp
  simp only [ho, resolve, invoke, builtin, Sem.run_bind, Sem.run_pure, Result.andThen_ok, List.map_toArray, List.map_cons, List.map_nil, hs, hx, hr]
  exact h v' w' (Lib.hid h2) (Lib.hid h3)

end Go.Proofs.Ytkbcehapalcadab
