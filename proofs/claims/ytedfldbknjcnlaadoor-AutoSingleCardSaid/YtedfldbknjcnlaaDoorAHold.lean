/- What the proofs of this seat's rows share: the laid variable; how arguments read. -/
import Derived.Test.YtedfldbknjcnlaaDoorRows
import Derived.Test.YtedfldbknjcnlaaDoorFG25
import Derived.Test.YtedfldbknjcnlaaDoorFG1
import Derived.Deep.Strs
import Derived.Lib.LaidTab
import Derived.Stop.LaidErr
import Derived.Shelf.Spec.TrailingZeros
import Derived.ChangeSlices
import Derived.LaidMore
import Derived.OpenShut
import Derived.MakeChecks
import Derived.Stop.Joined
import Derived.Lib.SmallJoins
namespace Go.Proofs.YtedfldbknjcnlaaDoor
open Go.ChangeShapes Go.WideShapes Go.ChangeAt Go.RowKit

theorem Tryd.own : ownKnob Tryd.prog.godebug = none := by kernel_rfl
theorem Tryd.laidOut : laidOutB Tryd.prog = true := by kernel_rfl
theorem Tryd.cellsTree : Tryd.prog.cellsOf 43 = 2 := by kernel_rfl
theorem Tryd.cellsAlpha : Tryd.prog.cellsOf 24 = 1 := by kernel_rfl
theorem Tryd.cellsInt : Tryd.prog.cellsOf 3 = 1 := by kernel_rfl
theorem Tryd.cellsAu : Tryd.prog.cellsOf 27 = 3 := by kernel_rfl
theorem Tryd.cellsRule : Tryd.prog.cellsOf 70 = 3 := by kernel_rfl
theorem Tryd.cellsInts : Tryd.prog.cellsOf 22 = 1 := by kernel_rfl
theorem Tryd.cellsTrees : Tryd.prog.cellsOf 41 = 1 := by kernel_rfl
theorem Tryd.gAl : Tryd.prog.globalNamed "boskage/boskagelaw03.al" = some 0 := by kernel_rfl
theorem Tryd.tAl : (Tryd.prog.globals[0]?).map (·.type) = some 24 := by kernel_rfl

section
variable {H : Type} {enc : TypeId × Value → H} {P : Program}
theorem post_of_below {f : Func} {s : ChangeSpec} {apart fresh handsOn again : Bool} {W W' : World} {args : Array Value} {v : Value} {ds gs : List (DataW H)} {before pa pv : List MemPlace}
    (hW : DataW.Whole enc P f.params.toList s.vars apart W args.toList ds gs before)
    (hres : ∀ (b : Nat) (sp : Nat → Bool) (hd : Bool), DataW.TrodAll enc P W' b sp hd f.resultTypes.toList (v.resultList f.resultTypes.size) (s.fn H (ds ++ gs)).results [])
    (hargs : ∀ sp : Nat → Bool, (∀ p ∈ before, sp p.block = true) → DataW.TrodAll enc P W' 0 sp true f.params.toList args.toList (s.fn H (ds ++ gs)).args pa)
    (hvars : ∀ sp : Nat → Bool, (∀ p ∈ before, sp p.block = true) → DataW.TrodVars enc P W' sp s.vars (s.fn H (ds ++ gs)).vars pv)
    (hps : before = pa ++ pv) (hb : Below W.heap.size W W')
    (hok : ∀ (j : Nat) (t : TypeId) (r : Value), f.resultTypes[j]? = some t → (v.resultList f.resultTypes.size)[j]? = some r → Value.okWide P W' .any 0 t r) :
    s.post enc P f apart fresh handsOn again W args v W' := by
  have hlt : ∀ p ∈ before, p.block < W.heap.size := fun p hp => hW.lt p hp
  have hold : ∀ p ∈ before, (fun b => decide (b < W.heap.size)) p.block = true := fun p hp => by simpa using hlt p hp
  refine ⟨ds, gs, before, [], pa, pv, hW, hres _ _ _, hargs _ hold, hvars _ hold, World.keptBut_mono (fun p hp => ⟨hp, ?_⟩) (hb.frame (· ∈ before)), fun _ => ?_⟩
  · rw [hps, List.mem_append] at hp
    exact Or.inr hp
  · obtain ⟨_, _, _, _, _, hz, hn⟩ := hW
    refine ⟨hok, _, _, ([] ++ pa) ++ pv, ⟨[] ++ pa, pv, trodAll_append (hargs _ (fun _ _ => rfl)) (hres _ _ _), hvars _ (fun _ _ => rfl), rfl, ?_, ?_⟩, ?_⟩
    · intro b off hp
      have hin : MemPlace.cell b off ∈ before := by rw [hps]; simpa using hp
      rw [hb.frozen (hlt _ hin)]
      exact hz b off hin
    · intro ha
      have := hn ha
      rw [hps] at this
      simpa using this
    · intro p hp _
      rw [hps]
      simpa using hp
end

/-- A reading is the same behind a step that turns nothing of what was there. -/
theorem trod_kept {H : Type} {enc : TypeId × Value → H} {P : Program} {t : TypeId} (hl : laidOutB P = true) (hr : P.readableRec t = true) (hrow : t < P.types.size) {W W' : World} {v : Value} {d : DataW H} {ps : List MemPlace}
    (h : DataW.Trod enc P W 0 (fun _ => true) true t v d ps) (hb : Below W.heap.size W W') (hlt : ∀ x ∈ ps, x.block < W.heap.size) (sp : Nat → Bool) (hsp : ∀ x ∈ ps, sp x.block = true) :
    DataW.Trod enc P W' 0 sp true t v d ps :=
  WideElems.Trod_stays hl hr hrow h (fun x hx => hb.same (hlt x hx)) hsp

set_option maxRecDepth 100000 in
theorem read_tree {H : Type} {enc : TypeId × Value → H} {W : World} {base : Nat} {v : Value} {d : DataW H} {p : List MemPlace} (hval : Value.okWide Tryd.prog W .any base 43 v) (h : DataW.Trod enc Tryd.prog W 0 (fun _ => true) true 43 v d p) :
    ∃ l vk K, v = .agg #[.int .i64 l, vk] ∧ (Lit.int .i64 l).wf = true ∧ IsH W vk K := by
  obtain ⟨c0, c1, y0, y1, mm, rfl, rfl, rfl, hy0, hy1⟩ := Joins.open_agg2 Tryd.underlying43 (by kernel_rfl) Tryd.cellsTree hval h
  obtain ⟨l, e0, _, wl⟩ := DataW.trod_int Tryd.underlying3 hy0
  simp at e0
  subst e0
  obtain ⟨v, K, e1, hv⟩ := read_hedge Tryd.underlying41 Tryd.underlying43 Tryd.underlying3 Tryd.cellsTree Tryd.cellsInt Tryd.cellsTrees _ _ _ hy1
  simp at e1
  subst e1
  exact ⟨l, _, K, rfl, wl, hv⟩

theorem read_ints {H : Type} {enc : TypeId × Value → H} {P : Program} {w : World} {base : Nat} {spare : Nat → Bool} {held : Bool} {t e : TypeId} {fuel : Nat} {cs : List Value} {x : DataW H × List MemPlace} (ht : P.underlying t = some (.slice e)) (he : P.underlying e = some (.int .i64)) (hc : P.cellsOf e = 1)
    (h : DataW.trod enc P w base spare held fuel t cs = some x) :
    ∃ v l, cs = [v] ∧ IsInts w v l ∧ (∀ z ∈ l, (Lit.int .i64 z).wf = true) ∧ ((x.1 = .nil ∧ l = []) ∨ ∃ r, x.1 = .slice (lits .i64 l) r) := by
  rcases open_ints ht he hc h with ⟨rfl, rfl⟩ | ⟨a, len, cap, zs, rfl, _, hl, hm, hz, rfl, hcell, hwf⟩
  · exact ⟨_, [], rfl, ⟨none, 0, rfl, Nat.le_refl _, by decide, fun h => absurd rfl h⟩, (fun z hz => by cases hz), .inl ⟨rfl, rfl⟩⟩
  · have hzl : len ≤ zs.length := by rw [hz]; split <;> omega
    have hlen : (zs.take len).length = len := by rw [List.length_take]; omega
    refine ⟨_, zs.take len, rfl, ⟨some a, cap, by rw [hlen], by rw [hlen]; exact hl, hm, fun hne => ?_⟩, fun z hz => hwf z (List.mem_of_mem_take hz), .inr ⟨_, rfl⟩⟩
    have h0 : 0 < len := by
      rcases Nat.eq_zero_or_pos len with h | h
      · rw [h] at hne; simp at hne
      · exact h
    have cz := hcell 0 (by omega)
    rw [show a.add 0 = a by unfold Addr.add; simp] at cz
    have hsp := cell_none_spot cz
    refine ⟨a.block, a.off, congrArg some (addr_eta hsp), fun i x hx => ?_⟩
    have hi : i < len := by
      have := (List.getElem?_eq_some_iff.1 hx).1
      omega
    have hc := hcell i (by omega)
    rw [addr_eta hsp, addr_add_plain] at hc
    rw [hc]
    rw [List.getElem?_take_of_lt hi] at hx
    rw [List.getD, hx]; rfl

set_option maxRecDepth 100000 in
theorem read_alpha {H : Type} {enc : TypeId × Value → H} {W : World} {base : Nat} {v : Value} {d : DataW H} {p : List MemPlace} (hval : Value.okWide Tryd.prog W .any base 24 v) (h : DataW.Trod enc Tryd.prog W 0 (fun _ => true) true 24 v d p) :
    ∃ av l, v = .agg #[av] ∧ IsInts W av l ∧ (∀ z ∈ l, (Lit.int .i64 z).wf = true) := by
  obtain ⟨cs, rfl, hsz⟩ := okWide_struct Tryd.underlying24 hval
  rw [Tryd.cellsAlpha] at hsz
  obtain ⟨l⟩ := cs
  match l, hsz with
  | [c0], _ =>
    obtain ⟨fuel, hf⟩ := h
    obtain ⟨xs, n, _, _, _, hxl, hfs⟩ := DataW.trod_struct Tryd.underlying24 hf
    simp at hxl
    have f0 := hfs 0 _ rfl
    have hx0 : (xs[0]?).isSome = true := by simp; omega
    rw [← f0] at hx0
    obtain ⟨y0, hy0⟩ := Option.isSome_iff_exists.1 hx0
    have hy0 : DataW.trod enc Tryd.prog W 0 (fun _ => true) true n 22 [c0] = some y0 := hy0
    obtain ⟨v, l, e1, hv, hwf, _⟩ := read_ints Tryd.underlying22 Tryd.underlying3 Tryd.cellsInt hy0
    simp at e1
    subst e1
    exact ⟨_, l, rfl, hv, hwf⟩

set_option maxRecDepth 100000 in
theorem read_rus {H : Type} {enc : TypeId × Value → H} {W : World} {base : Nat} {spare : Nat → Bool} {held : Bool} {fuel : Nat} {cs : List Value} {x : DataW H × List MemPlace} (h : DataW.trod enc Tryd.prog W base spare held fuel 25 cs = some x) : ∃ v R, cs = [v] ∧ IsRus W v R := by
  rcases Go.Deep.open_slice Tryd.underlying25 h with ⟨rfl, _⟩ | ⟨a, len, cap, m, n, D, Pl, rfl, _, hl, hm, hmm, _, hel⟩
  · exact ⟨_, [], rfl, none, 0, rfl, Nat.le_refl _, by decide, fun h => absurd rfl h⟩
  · have hlm : len ≤ m := by rw [hmm]; split <;> omega
    have key : ∀ i, i < len → ∃ r : Ru, W.cell? (a.add (i * 3)) = some (.int .i64 r.sym) ∧ (∃ u, W.cell? ((a.add (i * 3)).add 1) = some u ∧ IsInts W u r.fr) ∧ W.cell? ((a.add (i * 3)).add 2) = some (.int .i64 r.to) := by
      intro i hi
      obtain ⟨cs', hcells, ht⟩ := hel i (by omega)
      rw [Tryd.cellsRule] at hcells
      obtain ⟨_, hcl, hat⟩ := World.cells?_some hcells
      obtain ⟨y0, y1, y2, n', _, _, h0, h1, h2⟩ := Go.Deep.trod_struct3 Tryd.underlying70 ht
      match cs', hcl with
      | [c0, c1, c2], _ =>
        have p0 : DataW.trod enc Tryd.prog W base spare held n' 3 (List.take (Tryd.prog.cellsOf 3) [c0, c1, c2]) = some y0 := h0
        have p1 : DataW.trod enc Tryd.prog W base spare held n' 22 (List.take (Tryd.prog.cellsOf 22) [c1, c2]) = some y1 := h1
        have p2 : DataW.trod enc Tryd.prog W base spare held n' 3 (List.take (Tryd.prog.cellsOf 3) [c2]) = some y2 := h2
        rw [Tryd.cellsInt] at p0 p2
        rw [Tryd.cellsInts] at p1
        have q0 : DataW.trod enc Tryd.prog W base spare held n' 3 [c0] = some y0 := p0
        have q1 : DataW.trod enc Tryd.prog W base spare held n' 22 [c1] = some y1 := p1
        have q2 : DataW.trod enc Tryd.prog W base spare held n' 3 [c2] = some y2 := p2
        clear h0 h1 h2 p0 p1 p2
        obtain ⟨sy, e0, _, _⟩ := DataW.trod_int Tryd.underlying3 q0
        obtain ⟨tz, e2, _, _⟩ := DataW.trod_int Tryd.underlying3 q2
        obtain ⟨v, l, e1, hv, _, _⟩ := read_ints Tryd.underlying22 Tryd.underlying3 Tryd.cellsInt q1
        simp at e0 e1 e2
        subst e0
        subst e1
        subst e2
        have a0 := hat 0 (by omega)
        have a1 := hat 1 (by omega)
        have a2 := hat 2 (by omega)
        simp only [List.getElem?_cons_zero, List.getElem?_cons_succ] at a0 a1 a2
        refine ⟨⟨sy, l, tz⟩, ?_, ⟨_, a1, hv⟩, a2⟩
        simpa [Addr.add] using a0
    refine ⟨.slice (some a) len cap, ?_⟩
    by_cases h0 : len = 0
    · subst h0
      exact ⟨[], rfl, _, _, rfl, hl, hm, fun h => absurd rfl h⟩
    · obtain ⟨r0, q0, _⟩ := key 0 (by omega)
      have hsp : a.spot = none := by
        have := cell_none_spot q0
        simpa [Addr.add] using this
      rw [addr_eta hsp]
      have key2 : ∀ i, ∃ r : Ru, i < len → IsRu W a.block (a.off + i * 3) r := by
        intro i
        by_cases hi : i < len
        · obtain ⟨r, h1, ⟨u, h2, h3⟩, h4⟩ := key i hi
          rw [addr_eta hsp, addr_add_plain] at h1 h2 h4
          rw [addr_add_plain] at h2 h4
          exact ⟨r, fun _ => ⟨h1, ⟨u, h2, h3⟩, h4⟩⟩
        · exact ⟨⟨0, [], 0⟩, fun h => absurd h hi⟩
      refine ⟨(List.range len).map (fun i => (key2 i).choose), rfl, some ⟨a.block, a.off, none⟩, cap, by simp, by simpa using hl, hm, fun _ => ⟨_, _, rfl, fun i r hr => ?_⟩⟩
      rw [List.getElem?_map] at hr
      by_cases hi : i < len
      · rw [List.getElem?_range hi] at hr
        simp only [Option.map_some, Option.some.injEq] at hr
        subst hr
        exact (key2 i).choose_spec hi
      · rw [List.getElem?_eq_none (by simpa using hi)] at hr
        simp at hr

set_option maxRecDepth 100000 in
theorem read_au {H : Type} {enc : TypeId × Value → H} {W : World} {base : Nat} {v : Value} {d : DataW H} {p : List MemPlace} (hval : Value.okWide Tryd.prog W .any base 27 v) (h : DataW.Trod enc Tryd.prog W 0 (fun _ => true) true 27 v d p) :
    ∃ A, IsAu W v A := by
  obtain ⟨c0, c1, c2, y0, y1, y2, mm, rfl, rfl, rfl, hy0, hy1, hy2⟩ := Joins.open_agg3 Tryd.underlying27 (by kernel_rfl) Tryd.cellsAu hval h
  obtain ⟨st, e0, _, _⟩ := DataW.trod_int Tryd.underlying3 hy0
  simp at e0
  subst e0
  obtain ⟨fv, l, e1, hf, _, _⟩ := read_ints Tryd.underlying22 Tryd.underlying3 Tryd.cellsInt hy1
  simp at e1
  subst e1
  obtain ⟨rv, R, e2, hr⟩ := read_rus hy2
  simp at e2
  subst e2
  exact ⟨⟨st, l, R⟩, _, _, rfl, hf, hr⟩

theorem lits_inj {H : Type} {k : IntKind} {a b : List Int} (h : lits (H := H) k a = lits k b) : a = b := by
  have := congrArg (List.map fun d : DataW H => match d with | .lit (.int _ n) => n | _ => 0) h
  simpa [lits, Function.comp_def] using this

/-- What the laid variable is. -/
def AlIs (W : World) : Prop := ∃ v, W.cell? ⟨0, 0, none⟩ = some v ∧ IsInts W v [0, 2]
theorem AlIs.below {W W' : World} (h : AlIs W) (hb : Below W.heap.size W W') : AlIs W' := by
  obtain ⟨v, hc, hi⟩ := h
  exact ⟨v, cell_later hb hc, hi.below hb⟩
set_option maxRecDepth 100000 in
theorem al_of_laid0 {W : World} (h : laidMet Tryd.prog [("boskage/boskagelaw03.al", Rows.laid_boskage_boskagelaw03_al)] W) : AlIs W := by
  obtain ⟨ps, ⟨g0, t0, cs0, f0, p0, q0, hg0, ht0, hv0, hd0, _, _⟩, _, _⟩ := h
  obtain rfl := Option.some.inj (Tryd.gAl.symm.trans hg0)
  obtain rfl := Option.some.inj (Tryd.tAl.symm.trans ht0)
  obtain ⟨xs, n, _, hx, hl, hxl, hfs⟩ := DataW.trod_struct Tryd.underlying24 hd0
  rw [Tryd.cellsAlpha] at hl
  obtain ⟨l⟩ := cs0
  match l, hl with
  | [c0], _ =>
    simp at hxl
    match xs, hxl with
    | [y0], _ =>
      have f0 := hfs 0 _ rfl
      have hy0 : DataW.trod _ Tryd.prog W 0 (fun _ => true) false n 22 [c0] = some y0 := f0
      obtain ⟨v, l, e1, hv, hwf, hdat⟩ := read_ints Tryd.underlying22 Tryd.underlying3 Tryd.cellsInt hy0
      simp at e1
      subst e1
      have hx1 : y0.1 = .slice [.lit (.int .i64 0), .lit (.int .i64 2)] [] := by
        have := congrArg Prod.fst hx
        simp only [Rows.laid_boskage_boskagelaw03_al, List.map_cons, List.map_nil, DataW.agg.injEq, List.cons.injEq, and_true] at this
        exact this.symm
      refine ⟨c0, by have := World.var?_cell hg0 hv0 0; simpa using this, ?_⟩
      rcases hdat with ⟨h, _⟩ | ⟨r, h⟩
      · rw [hx1] at h; cases h
      · rw [hx1] at h
        have h2 : lits (H := Unit) .i64 l = lits .i64 [0, 2] := by
          injection h with h _
          exact h.symm
        rw [lits_inj h2] at hv
        exact hv

theorem al_of_laid {W : World} (h : laidMetH Tryd.prog [("boskage/boskagelaw03.al", Rows.laid_boskage_boskagelaw03_al)] W) : AlIs W := by
  rw [MakeChecks.laidMetH_plain _ _ _ (by kernel_rfl)] at h
  exact al_of_laid0 h

theorem Tryd.gTab : Tryd.prog.globalNamed "math/bits.deBruijn64tab" = some 1 := by kernel_rfl
theorem Tryd.tTab : (Tryd.prog.globals[1]?).map (·.type) = some 146 := by kernel_rfl
theorem Tryd.cellsU8 : Tryd.prog.cellsOf 5 = 1 := by kernel_rfl
theorem Tryd.cellsTab : Tryd.prog.cellsOf 146 = 64 := by kernel_rfl
def laid2 : List (String × DataW Unit) := [("math/bits.deBruijn64tab", Rows.laid_math_bits_deBruijn64tab), ("boskage/boskagelaw03.al", Rows.laid_boskage_boskagelaw03_al)]
theorem al_of_laid2 {W : World} (h : laidMetH Tryd.prog laid2 W) : AlIs W := by
  rw [MakeChecks.laidMetH_plain _ _ _ (by kernel_rfl)] at h
  exact al_of_laid0 h.tail
theorem tab_data : (Rows.laid_math_bits_deBruijn64tab : DataW Unit) = Lib.tabData .u8 (Lib.deBruijn64tab.map (fun n : Nat => (n : Int))) := by rfl
theorem tab_of_laid2 {W : World} (h : laidMetH Tryd.prog laid2 W) : TabAt 1 Lib.deBruijn64tab W := by
  rw [MakeChecks.laidMetH_plain _ _ _ (by kernel_rfl)] at h
  unfold laid2 at h
  rw [tab_data] at h
  have ht := Lib.tabIs_of_head Tryd.gTab Tryd.tTab Tryd.underlying146 Tryd.underlying5 Tryd.cellsU8 Tryd.cellsTab h
  intro j hj
  have := ht.cell Tryd.gTab j (by simpa using hj)
  rw [this]
  simp [List.getD_eq_getElem?_getD, hj]
theorem door_met2 (os : Os) (args : Array Value) : laidMetH Tryd.prog laid2 ((World.doorLaid Tryd.prog 400 os).forCall (fun _ _ => 0) ⟨#[], args, []⟩).memory :=
  laidMetH_of_parts3 (fuel := 8) (laidMet_of_run' 8 (by kernel_rfl) (by kernel_rfl)) (by kernel_rfl) (by kernel_rfl)

/-- The door's own heap meets the condition. -/
theorem door_met (os : Os) (args : Array Value) : laidMetH Tryd.prog [("boskage/boskagelaw03.al", Rows.laid_boskage_boskagelaw03_al)] ((World.doorLaid Tryd.prog 400 os).forCall (fun _ _ => 0) ⟨#[], args, []⟩).memory :=
  laidMetH_of_parts3 (fuel := 8) (laidMet_of_run' 8 (by kernel_rfl) (by kernel_rfl)) (by kernel_rfl) (by kernel_rfl)

end Go.Proofs.YtedfldbknjcnlaaDoor
