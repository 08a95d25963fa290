/- Useful states as data; ref03.Used. ref03.Reachable, ref03.Useful; auto.allOf. -/
import Derived.Test.YtedfldbknjcnlaaDoorFG11
namespace Go.Proofs.YtedfldbknjcnlaaDoor
section
open Go.RowKit Go.Shelf Go.Maps Go.WideElems

/-- What occurs in runs that assign a final state to a root. -/
inductive Usd (R : List Ru) (F : List Int) : Nat → Prop
  | fin (s : Int) (h : s ∈ F) (hr : Rch R s.toNat) : Usd R F s.toNat
  | src (r : Ru) (hr : r ∈ R) (h : ∀ s ∈ r.fr, Rch R s.toNat) (ht : Usd R F r.to.toNat) (x : Int) (hx : x ∈ r.fr) : Usd R F x.toNat
def SoundU (R : List Ru) (F : List Int) (M : List Bool) : Prop := ∀ i, M.getD i false = true → Usd R F i
def ClosU (Q M : List Bool) (r : Ru) : Prop := M.getD r.to.toNat false = true → mkd Q r.fr = true → ∀ x ∈ r.fr, M.getD x.toNat false = true
structure IsUsd (R : List Ru) (F : List Int) (n : Nat) (M : List Bool) : Prop where
  len : M.length = n
  iff : ∀ i, M.getD i false = true ↔ Usd R F i
theorem IsRch.mk_iff {R : List Ru} {n : Nat} {Q : List Bool} (h : IsRch R n Q) (l : List Int) : mkd Q l = true ↔ ∀ s ∈ l, Rch R s.toNat := by
  unfold mkd
  rw [List.all_eq_true]
  exact ⟨fun h2 s hs => (h.iff _).1 (h2 s hs), fun h2 s hs => (h.iff _).2 (h2 s hs)⟩
theorem isUsd_of {R : List Ru} {F : List Int} {n : Nat} {Q M : List Bool} (hq : IsRch R n Q) (h : M.length = n) (hs : SoundU R F M) (hf : ∀ s ∈ F, Q.getD s.toNat false = true → M.getD s.toNat false = true) (hc : ∀ r ∈ R, ClosU Q M r) : IsUsd R F n M := by
  refine ⟨h, fun i => ⟨hs i, fun hr => ?_⟩⟩
  induction hr with
  | fin s h1 h2 => exact hf s h1 ((hq.iff _).2 h2)
  | src r hr h1 _ x hx ih => exact hc r hr ih ((hq.mk_iff _).2 h1) x hx
theorem IsUsd.uniq {R : List Ru} {F : List Int} {n : Nat} {M M' : List Bool} (h : IsUsd R F n M) (h' : IsUsd R F n M') : M = M' := by
  apply List.ext_getElem
  · rw [h.len, h'.len]
  · intro i h1 h2
    have e := (h.iff i).trans (h'.iff i).symm
    rw [List.getD_eq_getElem?_getD, List.getD_eq_getElem?_getD, List.getElem?_eq_getElem h1, List.getElem?_eq_getElem h2] at e
    simp only [Option.getD_some] at e
    exact Bool.eq_iff_iff.2 e
theorem getD_set2 (M : List Bool) (q i : Nat) (u : Bool) (hq : q < M.length) : (M.set q u).getD i false = if q = i then u else M.getD i false := by
  rw [List.getD_eq_getElem?_getD, List.getD_eq_getElem?_getD, List.getElem?_set]
  by_cases h : q = i
  · subst h; simp [hq]
  · simp [h]
theorem fin_in {st : Int} : ∀ (F : List Int) (last : Int), -1 ≤ last → finB st last F = true → ∀ s ∈ F, stIn st s = true
  | [], _, _, _, s, h => by cases h
  | x :: F, last, hl, h, s, hs => by
    unfold finB at h
    simp only [Bool.and_eq_true, decide_eq_true_eq] at h
    rcases List.mem_cons.1 hs with rfl | hs
    · unfold stIn
      simp only [Bool.and_eq_true, decide_eq_true_eq]
      omega
    · exact fin_in F x (by omega) h.2.2 s hs
/-- One round of the passes: as before and closed, or more. -/
def PassU (R : List Ru) (Q : List Bool) (k : Nat) (M0 M : List Bool) (m : Bool) : Prop :=
  (m = false → M = M0 ∧ ∀ r ∈ R.take k, ClosU Q M r) ∧ (m = true → M.count false < M0.count false) ∧ M.count false ≤ M0.count false
/-- Within a rule. -/
def PassI (R : List Ru) (Q : List Bool) (k : Nat) (M0 M1 : List Bool) (r : Ru) (j : Nat) (M : List Bool) (m : Bool) : Prop :=
  (m = false → M = M1 ∧ M = M0 ∧ (∀ r ∈ R.take k, ClosU Q M r) ∧ (M1.getD r.to.toNat false = true → mkd Q r.fr = true → ∀ x ∈ r.fr.take j, M.getD x.toNat false = true)) ∧ (m = true → M.count false < M0.count false) ∧ M.count false ≤ M0.count false
theorem PassU.start {R : List Ru} {Q M0 M : List Bool} {k : Nat} {m : Bool} (r : Ru) (h : PassU R Q k M0 M m) : PassI R Q k M0 M r 0 M m :=
  ⟨fun e => ⟨rfl, (h.1 e).1, (h.1 e).2, fun _ _ x hx => by simp at hx⟩, h.2⟩
theorem PassI.done {R : List Ru} {Q M0 M1 M : List Bool} {k : Nat} {m : Bool} {r : Ru} (h : PassI R Q k M0 M1 r r.fr.length M m) (hr : R[k]? = some r) : PassU R Q (k + 1) M0 M m := by
  refine ⟨fun e => ?_, h.2⟩
  obtain ⟨e1, e2, h1, h2⟩ := h.1 e
  refine ⟨e2, fun t ht => ?_⟩
  rw [List.take_add_one, hr, List.mem_append] at ht
  rcases ht with ht | ht
  · exact h1 t ht
  · simp only [Option.toList_some, List.mem_singleton] at ht
    subst ht
    intro a b
    rw [List.take_of_length_le (Nat.le_refl _)] at h2
    exact h2 (e1 ▸ a) b
theorem PassI.keep {R : List Ru} {Q M0 M1 M : List Bool} {k j : Nat} {m : Bool} {r : Ru} {x : Int} (h : PassI R Q k M0 M1 r j M m) (hx : r.fr[j]? = some x) (hc : M1.getD r.to.toNat false = true → mkd Q r.fr = true → M.getD x.toNat false = true) : PassI R Q k M0 M1 r (j + 1) M m := by
  refine ⟨fun e => ?_, h.2⟩
  obtain ⟨e1, e2, h1, h2⟩ := h.1 e
  refine ⟨e1, e2, h1, fun a b y hy => ?_⟩
  rw [List.take_add_one, hx, List.mem_append] at hy
  rcases hy with hy | hy
  · exact h2 a b y hy
  · simp only [Option.toList_some, List.mem_singleton] at hy
    subst hy
    exact hc a b
theorem PassI.more {R : List Ru} {Q M0 M1 M : List Bool} {k j : Nat} {m : Bool} {r : Ru} {q : Nat} (h : PassI R Q k M0 M1 r j M m) (hq : q < M.length) (hf : M.getD q false = false) : PassI R Q k M0 M1 r (j + 1) (M.set q true) true := by
  have := count_set M q hq hf
  exact ⟨fun e => (by cases e), fun _ => (by have := h.2.2; omega), (by have := h.2.2; omega)⟩

set_option maxRecDepth 100000 in
set_option maxHeartbeats 8000000 in
theorem used_ok (A : Au) (n : Nat) (hst : A.st = (n : Int)) (hn : n ≤ 300) (hlen : A.ru.length ≤ 20000) (hru : ∀ r ∈ A.ru, stIn A.st r.to = true ∧ ∀ x ∈ r.fr, stIn A.st x = true) (hfi : ∀ s ∈ A.fin, stIn A.st s = true) (v : Value) (w : World) (hA : IsAu w v A) :
    Calls Tryd.prog 60 #[v] w fun e w' => (∃ b M, e = .returned (.slice (some ⟨b, 0, none⟩) n n) ∧ BB w' b M ∧ IsUsd A.ru A.fin n M) ∧ Below w.heap.size w w' := by
  have HA := Lib.hid hA
  have HRU := Lib.hid hru
  have HFI0 := Lib.hid hfi
  have HST := Lib.hid hst
  obtain ⟨fv, uv, rfl, hf, hr⟩ := hA
  have HX0 := Lib.hid (Blk.new w 27 #[.int .i64 A.st, fv, uv])
  have HB := Lib.hid ((Below.refl _ w).alloc (Nat.le_refl _) (.cells #[.int .i64 A.st, fv, uv] 27))
  have hre := reached_ok A n hst hn hlen hru _ _ (HA.out.below HB.out)
  rw [World.size_alloc] at hre
  have HRE := Lib.hid hre
  obtain ⟨p1, c1, rfl, hf3, hf4, hfc⟩ := hf
  obtain ⟨p2, c2, rfl, hr3, hr4, hrc⟩ := hr
  obtain ⟨i0, hi, hz0, hz1, hz2⟩ := info_parts Tryd.infoBoolP
  have HI := Lib.hid hi
  unfold maxLen at hr4 hf4
  have HRC := Lib.hid hrc
  have HFC := Lib.hid hfc
  have x0 : (w.alloc (.cells #[.int .i64 A.st, .slice p1 A.fin.length c1, .slice p2 A.ru.length c2] 27)).cell? ⟨w.heap.size, 0, none⟩ = some (.int .i64 A.st) := by rw [HX0.out.cell]; rfl
  have x1 : (w.alloc (.cells #[.int .i64 A.st, .slice p1 A.fin.length c1, .slice p2 A.ru.length c2] 27)).cell? ⟨w.heap.size, 1, none⟩ = some (.slice p1 A.fin.length c1) := by rw [HX0.out.cell]; rfl
  have x2 : (w.alloc (.cells #[.int .i64 A.st, .slice p1 A.fin.length c1, .slice p2 A.ru.length c2] 27)).cell? ⟨w.heap.size, 2, none⟩ = some (.slice p2 A.ru.length c2) := by rw [HX0.out.cell]; rfl
  clear hrc hfc hru hst hi hfi hre
  go_enter Tryd.func60, Tryd.ntmps60
  go_wp2_with fail
  refine HRE.out.mono ?_
  rintro e w1 ⟨⟨Q, rfl, hQ, hIR⟩, hb1⟩
  have HIR := Lib.hid hIR
  have HX1 := Lib.hid (HX0.out.below (hb1) (by simp))
  have HB1 : Hid (Below w.heap.size w w1) := Lib.hid (HB.out.trans (hb1.mono (by simp)))
  have hgl : w.heap.size + 1 + 1 < w1.heap.size := Blk.lt (show Blk w1 (w.heap.size + 1 + 1) 4 (Q.map Value.bool).toArray from hQ)
  have HQ1 := Lib.hid hQ
  have z0 : w1.cell? ⟨w.heap.size, 0, none⟩ = some (.int .i64 (n : Int)) := by rw [HX1.out.cell, ← HST.out]; rfl
  clear hIR hb1 hQ x0 x1 x2
  generalize hgg : w.heap.size + 1 + 1 = g at *
  have hwg : w.heap.size < g := by omega
  clear hgg
  go_wp2_with (at_make; refine wpList_make_full _ rfl _ _ 34 rfl w1.heap.size 4 i0 _ 1 Tryd.underlying34 HI.out hz0 hz1 _ _ _ _ n rfl rfl rfl rfl (by rw [hz2]; omega) (by simp only [maxLen]; omega) (by simp) ?_)
  intro w2 hown hgrow
  have hG := own_full hown
  rw [toList_madeCells_one] at hG
  try simp only [World.size_alloc] at hG
  have hb12 : Below w1.heap.size w1 w2 := (Below.refl _ w1).grown hgrow (by simp) (fun j e => by simp at e)
  have HB2 : Hid (Below w.heap.size w w2) := Lib.hid (HB1.out.trans (hb12.mono HB1.out.size))
  have HX2 := Lib.hid (HX1.out.below hb12 HX1.out.lt)
  have HQ2 : Hid (BB w2 g Q) := Lib.hid (Blk.below (show Blk w1 g 4 (Q.map Value.bool).toArray from HQ1.out) hb12 hgl)
  have HM2 : Hid (BB w2 w1.heap.size (List.replicate n false)) := Lib.hid (by unfold BB; rw [List.map_replicate]; exact hG)
  have hw2 : w1.heap.size < w2.heap.size := Blk.lt (show Blk w2 w1.heap.size 4 _ from HM2.out)
  generalize w1.heap.size = ob at *
  have x21 : w2.cell? ⟨w.heap.size, 1, none⟩ = some (.slice p1 A.fin.length c1) := by rw [HX2.out.cell]; rfl
  clear hown hgrow hG z0 hb12 HQ1 HX1 HB1 HRE
  go_wp2_with fail
  go_loopw [23] (fun iv wr => ∃ (k : Nat) (M : List Bool), iv = .int .i64 (k : Nat) ∧ k ≤ A.fin.length ∧ Hid (M.length = n) ∧ Hid (SoundU A.ru A.fin M) ∧ Hid (∀ s ∈ A.fin.take k, Q.getD s.toNat false = true → M.getD s.toNat false = true) ∧ Hid (BB wr ob M) ∧ Hid (BB wr g Q) ∧ Hid (Below w.heap.size w wr) ∧ Hid (Blk wr w.heap.size 27 #[.int .i64 A.st, .slice p1 A.fin.length c1, .slice p2 A.ru.length c2]))
    (fun iv _ => A.fin.length - (intOf iv).toNat)
  case atStart => exact ⟨0, List.replicate n false, rfl, by omega, Lib.hid (by simp), Lib.hid (fun i hi => by
      rw [List.getD_eq_getElem?_getD, List.getElem?_replicate] at hi
      split at hi <;> simp at hi), Lib.hid (fun s hs => by simp at hs), HM2, HQ2, HB2, HX2⟩
  case round =>
    rename World => wr
    obtain ⟨k, M, rfl, hk, HL, HSO, HFK, HBM, HBQ, HBr, HXr⟩ := hrel
    have hs0 := HXr.out.lt
    have hs1 : ob < wr.heap.size := Blk.lt (show Blk wr ob 4 (M.map Value.bool).toArray from HBM.out)
    have hs2 : g < wr.heap.size := Blk.lt (show Blk wr g 4 (Q.map Value.bool).toArray from HBQ.out)
    by_cases hlt : k < A.fin.length
    · obtain ⟨x, hx⟩ : ∃ x, A.fin[k]? = some x := ⟨_, List.getElem?_eq_getElem hlt⟩
      have hxm := List.mem_of_getElem? hx
      obtain ⟨q, rfl, hq⟩ := st_nat HST.out (HFI0.out x hxm)
      obtain ⟨bf, of, rfl, hcf⟩ := HFC.out (fun h => by simp [h] at hlt)
      have u0 : wr.cell? ⟨bf, of + k, none⟩ = some (.int .i64 (q : Int)) := cell_later HBr.out (hcf k _ hx)
      have m0 : wr.cell? ⟨g, q, none⟩ = some (.bool (Q.getD q false)) := HBQ.out.at (by rw [HIR.out.len]; exact hq)
      have m1 : wr.cell? ⟨ob, q, none⟩ = some (.bool (M.getD q false)) := HBM.out.at (by rw [HL.out]; exact hq)
      have hmf : wr.frozen? ⟨ob, q, none⟩ = false := Blk.frozen (show Blk wr ob 4 (M.map Value.bool).toArray from HBM.out) q
      have hk1 : (k : Int) < (A.fin.length : Int) := by omega
      have hq1 : (q : Int) < (n : Int) := by omega
      have hql : q < M.length := by rw [HL.out]; exact hq
      have HL3 : Hid ((M.set q (Q.getD q false)).length = n) := Lib.hid (by rw [List.length_set]; exact HL.out)
      have HS3 : Hid (SoundU A.ru A.fin (M.set q (Q.getD q false))) := Lib.hid (fun i hi => by
        rw [getD_set2 M q i _ hql] at hi
        split at hi
        · rename_i e; subst e
          have := Usd.fin (R := A.ru) (F := A.fin) (q : Int) hxm (by rw [Int.toNat_natCast]; exact (HIR.out.iff q).1 hi)
          rwa [Int.toNat_natCast] at this
        · exact HSO.out i hi)
      have HF3 : Hid (∀ s ∈ A.fin.take (k + 1), Q.getD s.toNat false = true → (M.set q (Q.getD q false)).getD s.toNat false = true) := Lib.hid (fun s hs hqs => by
        rw [getD_set2 M q _ _ hql]
        split
        · rename_i e; rw [e]; exact hqs
        · rename_i e
          rw [List.take_add_one, hx, List.mem_append] at hs
          rcases hs with hs | hs
          · exact HFK.out s hs hqs
          · simp only [Option.toList_some, List.mem_singleton] at hs
            subst hs
            exact absurd (by simp) e)
      have HM3 := Lib.hid (HBM.out.set_ q (Q.getD q false))
      have HQ3 : Hid (BB (wr.setCell ⟨ob, q, none⟩ (.bool (Q.getD q false))) g Q) := Lib.hid (Blk.far (show Blk wr g 4 (Q.map Value.bool).toArray from HBQ.out) (p := ⟨ob, q, none⟩) (by simp only; omega) _)
      have HB3 := Lib.hid (HBr.out.setCell (p := ⟨ob, q, none⟩) (by simp only; omega) (.bool (Q.getD q false)))
      have HX3 := Lib.hid (HXr.out.far (p := ⟨ob, q, none⟩) (by simp only; omega) (.bool (Q.getD q false)))
      clear hcf hx hxm
      generalize Q.getD q false = u at *
      go_wp2_with fail
      go_roundw
      case rel => exact ⟨k + 1, M.set q u, by go_num, by omega, HL3, HS3, HF3, HM3, HQ3, HB3, HX3⟩
      case measure => simp [intOf]; omega
    · have HFF : Hid (∀ s ∈ A.fin, Q.getD s.toNat false = true → M.getD s.toNat false = true) := Lib.hid (by have := HFK.out; rwa [List.take_of_length_le (by omega)] at this)
      have hkd : decide (k < A.fin.length) = false := decide_eq_false hlt
      have hkd2 : decide ((k : Int) < (A.fin.length : Int)) = false := decide_eq_false (by omega)
      clear HFK
      go_wp2_with fail
      go_loopw [7] (fun mv wr => ∃ (m : Bool) (M : List Bool), mv = .bool m ∧ Hid (M.length = n) ∧ Hid (SoundU A.ru A.fin M) ∧ Hid (∀ s ∈ A.fin, Q.getD s.toNat false = true → M.getD s.toNat false = true) ∧ Hid (m = false → ∀ r ∈ A.ru, ClosU Q M r) ∧ Hid (BB wr ob M) ∧ Hid (BB wr g Q) ∧ Hid (Below w.heap.size w wr) ∧ Hid (Blk wr w.heap.size 27 #[.int .i64 A.st, .slice p1 A.fin.length c1, .slice p2 A.ru.length c2]))
        (fun mv wr => cntW wr ob n + mOf mv)
      case atStart => exact ⟨true, M, rfl, HL, HSO, HFF, Lib.hid (fun e => by cases e), HBM, HBQ, HBr, HXr⟩
      case round =>
        clear HL HSO HFF HBM HBQ HBr HXr hs0 hs1 hs2 hkd hkd2 hlt hk
        rename World => wp
        obtain ⟨m, M, rfl, HL, HSO, HFF, HCL, HBM, HBQ, HBr, HXr⟩ := hrel
        have hs0 := HXr.out.lt
        have hs1 : ob < wp.heap.size := Blk.lt (show Blk wp ob 4 (M.map Value.bool).toArray from HBM.out)
        have hs2 : g < wp.heap.size := Blk.lt (show Blk wp g 4 (Q.map Value.bool).toArray from HBQ.out)
        cases m with
        | false =>
          have HIS := Lib.hid (isUsd_of HIR.out HL.out HSO.out HFF.out (HCL.out rfl))
          go_wp2_with fail
          go_ret
          exact ⟨⟨ob, rfl, M, HBM.out, HIS.out⟩, HBr.out⟩
        | true =>
          have y2 : wp.cell? ⟨w.heap.size, 2, none⟩ = some (.slice p2 A.ru.length c2) := by rw [HXr.out.cell]; rfl
          go_wp2_with fail
          go_loopw [7, 39] (fun mv iv wk => ∃ (k : Nat) (m : Bool) (M2 : List Bool), iv = .int .i64 (k : Nat) ∧ mv = .bool m ∧ k ≤ A.ru.length ∧ Hid (M2.length = n) ∧ Hid (SoundU A.ru A.fin M2) ∧ Hid (∀ s ∈ A.fin, Q.getD s.toNat false = true → M2.getD s.toNat false = true) ∧ Hid (PassU A.ru Q k M M2 m) ∧ Hid (BB wk ob M2) ∧ Hid (BB wk g Q) ∧ Hid (Below w.heap.size w wk) ∧ Hid (Blk wk w.heap.size 27 #[.int .i64 A.st, .slice p1 A.fin.length c1, .slice p2 A.ru.length c2])) (fun _ iv _ => A.ru.length - (intOf iv).toNat)
          case atStart => exact ⟨0, false, M, rfl, rfl, by omega, HL, HSO, HFF, Lib.hid ⟨fun _ => ⟨rfl, fun r hr => by simp at hr⟩, fun e => (by cases e), Nat.le_refl _⟩, HBM, HBQ, HBr, HXr⟩
          case round =>
            rename World => wk
            obtain ⟨k, m, M2, rfl, rfl, hk, HL2, HS2, HF2, HP2, HBM2, HBQ2, HBk, HXk⟩ := hrel
            have hxl := HXk.out.lt
            have hml : ob < wk.heap.size := Blk.lt (show Blk wk ob 4 (M2.map Value.bool).toArray from HBM2.out)
            have hgl2 : g < wk.heap.size := Blk.lt (show Blk wk g 4 (Q.map Value.bool).toArray from HBQ2.out)
            by_cases hlt : k < A.ru.length
            · obtain ⟨r, hrk⟩ : ∃ r, A.ru[k]? = some r := ⟨_, List.getElem?_eq_getElem hlt⟩
              obtain ⟨b, o, rfl, hcl⟩ := HRC.out (fun h => by simp [h] at hlt)
              obtain ⟨q0w, ⟨u, q1w, hu⟩, q2w⟩ := hcl k r hrk
              have q0 := cell_later HBk.out q0w
              have q1 := cell_later HBk.out q1w
              have q2 := cell_later HBk.out q2w
              clear q0w q1w q2w
              have HU := Lib.hid hu
              obtain ⟨pu, cu, rfl, hu3, hu4, huc⟩ := hu
              unfold maxLen at hu4
              have HRK := Lib.hid hrk
              obtain ⟨rs, fr, rt⟩ := r
              have hin := HRU.out _ (List.mem_of_getElem? hrk)
              simp only at q0 q1 q2 hu3 HU hin huc
              obtain ⟨qt, hqt, hqn⟩ := st_nat HST.out hin.1
              subst hqt
              have HFI := Lib.hid hin.2
              have HUC := Lib.hid huc
              have hbl := World.block_lt_of_cell? _ _ q0
              simp only at hbl
              have hk1 : (k : Int) < (A.ru.length : Int) := by omega
              have hq1 : (qt : Int) < (n : Int) := by omega
              obtain ⟨wa, hwa⟩ : ∃ wa, wa = wk.alloc (.cells #[.int .i64 rs, .slice pu fr.length cu, .int .i64 (qt : Int)] 70) := ⟨_, rfl⟩
              have HBA : Hid (Below wk.heap.size wk wa) := Lib.hid (by rw [hwa]; exact (Below.refl _ wk).alloc (Nat.le_refl _) _)
              have HNA : Hid (Blk wa wk.heap.size 70 #[.int .i64 rs, .slice pu fr.length cu, .int .i64 (qt : Int)]) := Lib.hid (by rw [hwa]; exact Blk.new wk _ _)
              have HMA : Hid (BB wa ob M2) := Lib.hid (Blk.below (show Blk wk ob 4 (M2.map Value.bool).toArray from HBM2.out) HBA.out hml)
              have HQA : Hid (BB wa g Q) := Lib.hid (Blk.below (show Blk wk g 4 (Q.map Value.bool).toArray from HBQ2.out) HBA.out hgl2)
              have HXA := Lib.hid (HXk.out.below HBA.out HXk.out.lt)
              have HBWA := Lib.hid (HBk.out.trans (HBA.out.mono HBk.out.size))
              have n1 : wa.cell? ⟨wk.heap.size, 1, none⟩ = some (.slice pu fr.length cu) := by rw [HNA.out.cell]; rfl
              have n2 : wa.cell? ⟨wk.heap.size, 2, none⟩ = some (.int .i64 (qt : Int)) := by rw [HNA.out.cell]; rfl
              have nl := HNA.out.lt
              have m0 : wa.cell? ⟨ob, qt, none⟩ = some (.bool (M2.getD qt false)) := HMA.out.at (by rw [HL2.out]; exact hqn)
              obtain ⟨t0, ht0⟩ : ∃ t0, t0 = M2.getD qt false := ⟨_, rfl⟩
              rw [← ht0] at m0
              have HT0 := Lib.hid ht0
              rw [hwa] at n1 n2 nl m0
              have HWA := Lib.hid hwa
              clear hrk hcl hin huc ht0 hwa
              go_wp2_with fail
              have HWA' := HWA.out
              simp only [← HWA'] at *
              go_loopw [10, 51] (fun bv jv wj => ∃ (j : Nat) (β : Bool), jv = .int .i64 (j : Nat) ∧ bv = .bool β ∧ j ≤ fr.length ∧ Hid (β = (t0 && mkd Q (fr.take j))) ∧ wj = wa) (fun _ jv _ => fr.length - (intOf jv).toNat)
              case atStart => exact ⟨0, t0, rfl, rfl, by omega, Lib.hid (by simp [mkd]), rfl⟩
              case round =>
                rename World => wj
                obtain ⟨j, β, rfl, rfl, hj, HBE, hwj⟩ := hrel
                have hwj2 := hwj.symm
                clear hwj
                subst hwj2
                by_cases hjl : j < fr.length
                · obtain ⟨x, hx⟩ : ∃ x, fr[j]? = some x := ⟨_, List.getElem?_eq_getElem hjl⟩
                  obtain ⟨qx, rfl, hqx⟩ := st_nat HST.out (HFI.out x (List.mem_of_getElem? hx))
                  obtain ⟨bu, ou, rfl, hcu⟩ := HUC.out (fun h => by simp [h] at hjl)
                  have u0 : wa.cell? ⟨bu, ou + j, none⟩ = some (.int .i64 (qx : Int)) := cell_later HBWA.out (hcu j _ hx)
                  have m2 : wa.cell? ⟨g, qx, none⟩ = some (.bool (Q.getD qx false)) := HQA.out.at (by rw [HIR.out.len]; exact hqx)
                  have HT := Lib.hid (mkd_take (M := Q) hx)
                  rw [Int.toNat_natCast] at HT
                  have hj1 : (j : Int) < (fr.length : Int) := by omega
                  have hq1 : (qx : Int) < (n : Int) := by omega
                  clear hcu hx
                  generalize hg : Q.getD qx false = gq at *
                  cases β with
                  | false =>
                    have HE2 : Hid (false = (t0 && mkd Q (fr.take (j + 1)))) := Lib.hid (by rw [HT.out, ← Bool.and_assoc, ← HBE.out]; rfl)
                    clear hg
                    go_wp2_with fail
                    go_roundw
                    case rel => exact ⟨j + 1, false, by go_num, rfl, by omega, HE2, trivial⟩
                    case measure => simp [intOf]; omega
                  | true =>
                    have HE2 : Hid (gq = (t0 && mkd Q (fr.take (j + 1)))) := Lib.hid (by rw [HT.out, ← Bool.and_assoc, ← HBE.out]; rfl)
                    clear hg
                    go_wp2_with fail
                    go_roundw
                    case rel => exact ⟨j + 1, gq, by go_num, rfl, by omega, HE2, trivial⟩
                    case measure => simp [intOf]; omega
                · have HBF : Hid (β = (t0 && mkd Q fr)) := Lib.hid (by rw [HBE.out, List.take_of_length_le (by omega)])
                  have hjd : decide (j < fr.length) = false := decide_eq_false hjl
                  have hjd2 : decide ((j : Int) < (fr.length : Int)) = false := decide_eq_false (by omega)
                  have HSU : Hid (β = true → Usd A.ru A.fin qt ∧ ∀ s ∈ fr, Rch A.ru s.toNat) := Lib.hid (fun e => by
                    have h1 := HBF.out
                    rw [e, eq_comm, Bool.and_eq_true] at h1
                    exact ⟨HS2.out qt (by rw [← HT0.out]; exact h1.1), (HIR.out.mk_iff fr).1 h1.2⟩)
                  clear HBE hjl
                  go_wp2_with fail
                  go_loopw [7, 66] (fun mv jv wl => ∃ (j : Nat) (m3 : Bool) (M3 : List Bool), jv = .int .i64 (j : Nat) ∧ mv = .bool m3 ∧ j ≤ fr.length ∧ Hid (M3.length = n) ∧ Hid (SoundU A.ru A.fin M3) ∧ Hid (∀ s ∈ A.fin, Q.getD s.toNat false = true → M3.getD s.toNat false = true) ∧ Hid (PassI A.ru Q k M M2 ⟨rs, fr, (qt : Int)⟩ j M3 m3) ∧ Hid (BB wl ob M3) ∧ Hid (BB wl g Q) ∧ Hid (Below w.heap.size w wl) ∧ Hid (Blk wl w.heap.size 27 #[.int .i64 A.st, .slice p1 A.fin.length c1, .slice (some ⟨b, o, none⟩) A.ru.length c2])) (fun _ jv _ => fr.length - (intOf jv).toNat)
                  case atStart => exact ⟨0, m, M2, rfl, rfl, by omega, HL2, HS2, HF2, Lib.hid (HP2.out.start _), HMA, HQA, HBWA, HXA⟩
                  case round =>
                    rename World => wl
                    obtain ⟨j, m3, M3, rfl, rfl, hj3, HL3, HS3, HF3, HP3, HBM3, HBQ3, HBl, HXl⟩ := hrel
                    have hl0 := HXl.out.lt
                    have hl1 : ob < wl.heap.size := Blk.lt (show Blk wl ob 4 (M3.map Value.bool).toArray from HBM3.out)
                    by_cases hjl : j < fr.length
                    · obtain ⟨x, hx⟩ : ∃ x, fr[j]? = some x := ⟨_, List.getElem?_eq_getElem hjl⟩
                      have HXM := Lib.hid (List.mem_of_getElem? hx)
                      obtain ⟨qx, rfl, hqx⟩ := st_nat HST.out (HFI.out x (List.mem_of_getElem? hx))
                      obtain ⟨bu, ou, rfl, hcu⟩ := HUC.out (fun h => by simp [h] at hjl)
                      have u0 : wl.cell? ⟨bu, ou + j, none⟩ = some (.int .i64 (qx : Int)) := cell_later HBl.out (hcu j _ hx)
                      have m2 : wl.cell? ⟨ob, qx, none⟩ = some (.bool (M3.getD qx false)) := HBM3.out.at (by rw [HL3.out]; exact hqx)
                      have hmf : wl.frozen? ⟨ob, qx, none⟩ = false := Blk.frozen (show Blk wl ob 4 (M3.map Value.bool).toArray from HBM3.out) qx
                      have hj1 : (j : Int) < (fr.length : Int) := by omega
                      have hqx1 : (qx : Int) < (n : Int) := by omega
                      have HXX := Lib.hid hx
                      clear hcu hx
                      generalize hg : M3.getD qx false = gq at *
                      have HG := Lib.hid hg
                      clear hg
                      cases β with
                      | false =>
                        have HP4 : Hid (PassI A.ru Q k M M2 ⟨rs, fr, (qt : Int)⟩ (j + 1) M3 m3) := Lib.hid (HP3.out.keep HXX.out (fun a b => by
                          have h1 := HBF.out
                          rw [HT0.out] at h1
                          simp only [Int.toNat_natCast] at a b
                          rw [a, b] at h1
                          cases h1))
                        go_wp2_with fail
                        go_roundw
                        case rel => exact ⟨j + 1, m3, M3, by go_num, rfl, by omega, HL3, HS3, HF3, HP4, HBM3, HBQ3, HBl, HXl⟩
                        case measure => simp [intOf]; omega
                      | true =>
                        cases gq with
                        | true =>
                          have HP4 : Hid (PassI A.ru Q k M M2 ⟨rs, fr, (qt : Int)⟩ (j + 1) M3 m3) := Lib.hid (HP3.out.keep HXX.out (fun _ _ => by rw [Int.toNat_natCast]; exact HG.out))
                          go_wp2_with fail
                          go_roundw
                          case rel => exact ⟨j + 1, m3, M3, by go_num, rfl, by omega, HL3, HS3, HF3, HP4, HBM3, HBQ3, HBl, HXl⟩
                          case measure => simp [intOf]; omega
                        | false =>
                          have hql : qx < M3.length := by rw [HL3.out]; exact hqx
                          have HP4 : Hid (PassI A.ru Q k M M2 ⟨rs, fr, (qt : Int)⟩ (j + 1) (M3.set qx true) true) := Lib.hid (HP3.out.more hql HG.out)
                          have HS4 : Hid (SoundU A.ru A.fin (M3.set qx true)) := Lib.hid (fun i hi => by
                            rw [getD_set2 M3 qx i _ hql] at hi
                            split at hi
                            · rename_i e; subst e
                              have h2 := HSU.out rfl
                              have := Usd.src (R := A.ru) (F := A.fin) _ (List.mem_of_getElem? HRK.out) h2.2 (by simp only [Int.toNat_natCast]; exact h2.1) _ HXM.out
                              rwa [Int.toNat_natCast] at this
                            · exact HS3.out i hi)
                          have HF4 : Hid (∀ s ∈ A.fin, Q.getD s.toNat false = true → (M3.set qx true).getD s.toNat false = true) := Lib.hid (fun s hs hqs => by
                            rw [getD_set2 M3 qx _ _ hql]
                            split
                            · rfl
                            · exact HF3.out s hs hqs)
                          have HL4 : Hid ((M3.set qx true).length = n) := Lib.hid (by rw [List.length_set]; exact HL3.out)
                          have HM4 := Lib.hid (HBM3.out.set_ qx true)
                          have HQ4 : Hid (BB (wl.setCell ⟨ob, qx, none⟩ (.bool true)) g Q) := Lib.hid (Blk.far (show Blk wl g 4 (Q.map Value.bool).toArray from HBQ3.out) (p := ⟨ob, qx, none⟩) (by simp only; omega) _)
                          have HB4 := Lib.hid (HBl.out.setCell (p := ⟨ob, qx, none⟩) (by simp only; omega) (.bool true))
                          have HX4 := Lib.hid (HXl.out.far (p := ⟨ob, qx, none⟩) (by simp only; omega) (.bool true))
                          go_wp2_with fail
                          go_roundw
                          case rel => exact ⟨j + 1, true, M3.set qx true, by go_num, rfl, by omega, HL4, HS4, HF4, HP4, HM4, HQ4, HB4, HX4⟩
                          case measure => simp [intOf]; omega
                    · have hjd : decide (j < fr.length) = false := decide_eq_false hjl
                      have hjd2 : decide ((j : Int) < (fr.length : Int)) = false := decide_eq_false (by omega)
                      have hje : j = fr.length := by omega
                      have HP4 : Hid (PassU A.ru Q (k + 1) M M3 m3) := Lib.hid (PassI.done (by have := HP3.out; rw [hje] at this; exact this) HRK.out)
                      clear hje
                      go_wp2_with fail
                      go_roundw
                      case rel => exact ⟨k + 1, m3, M3, by go_num, rfl, by omega, HL3, HS3, HF3, HP4, HBM3, HBQ3, HBl, HXl⟩
                      case measure => simp [intOf]; omega
            · have hge : A.ru.length ≤ k := by omega
              have HPF : Hid ((m = false → ∀ r ∈ A.ru, ClosU Q M2 r) ∧ M2.count false + (if m then 1 else 0) < M.count false + 1) := Lib.hid (by
                have h := HP2.out
                unfold PassU at h
                rw [List.take_of_length_le hge] at h
                refine ⟨fun e => (h.1 e).2, ?_⟩
                cases m with
                | false => have := h.2.2; simp; omega
                | true => have := h.2.1 rfl; simp; omega)
              have hkd : decide (k < A.ru.length) = false := decide_eq_false hlt
              have hkd2 : decide ((k : Int) < (A.ru.length : Int)) = false := decide_eq_false (by omega)
              go_wp2_with fail
              go_roundw
              case rel => exact ⟨m, M2, rfl, HL2, HS2, HF2, Lib.hid HPF.out.1, HBM2, HBQ2, HBk, HXk⟩
              case measure =>
                have h1 := cntW_of HBM2.out
                have h2 := cntW_of HBM.out
                rw [HL2.out] at h1
                rw [HL.out] at h2
                rw [h1, h2]
                have := HPF.out.2
                cases m <;> simp [mOf] at this ⊢ <;> omega
end

section
open Go.RowKit Go.Shelf Go.Maps Go.WideElems

/-- A list of marks as a value: none when the question is not valid. -/
def IsMs (ok : Bool) (w : World) (v : Value) (n : Nat) (P : List Bool → Prop) : Prop :=
  (ok = false → v = .slice none 0 0) ∧ (ok = true → ∃ b M, v = .slice (some ⟨b, 0, none⟩) n n ∧ BB w b M ∧ P M)

set_option maxRecDepth 100000 in
set_option maxHeartbeats 2000000 in
theorem rreachable_ok (al : List Int) (A : Au) (av v : Value) (w : World) (ha : IsInts w av al) (hA : IsAu w v A) :
    Calls Tryd.prog 18 #[.agg #[av], v] w fun e w' => (∃ u, e = .returned (.tuple #[u, .int .i64 (vE al A)]) ∧ IsMs (validA al A) w' u A.st.toNat (IsRch A.ru A.st.toNat)) ∧ Below w.heap.size w w' := by
  have HA := Lib.hid hA
  have HAL := Lib.hid ha
  obtain ⟨fv, rv, rfl, hf, hr⟩ := hA
  have H2 := Lib.hid (two_boxes w #[av] #[.int .i64 A.st, fv, rv] 24 27)
  obtain ⟨p1, c1, rfl, _⟩ := hf
  obtain ⟨p2, c2, rfl, _⟩ := hr
  obtain ⟨pa, ca, rfl, _⟩ := ha
  have h0 := H2.out _ (Below.refl _ _)
  have HV := Lib.hid (rvalid_ok al A _ _ _ (HAL.out.below h0.2.2) (HA.out.below h0.2.2))
  clear h0
  go_enter Tryd.func18, Tryd.ntmps18
  go_wp2_with fail
  refine HV.out.mono ?_
  rintro e w1 ⟨rfl, hb1⟩
  have h1 := H2.out w1 hb1
  have HB1 := Lib.hid h1.2.2
  cases hva : validA al A with
  | false =>
    have HVA := Lib.hid hva
    have HE : Hid (vE al A = 1) := Lib.hid (by unfold vE; rw [hva]; rfl)
    clear h1 hb1 hva
    go_wp2_with fail
    go_ret2
    exact ⟨⟨_, by rw [HE.out]; rfl, ⟨fun _ => rfl, fun e => (by rw [HVA.out] at e; cases e)⟩⟩, HB1.out⟩
  | true =>
    have HVA := Lib.hid hva
    have HE : Hid (vE al A = 0) := Lib.hid (by unfold vE; rw [hva]; rfl)
    have HGD := Lib.hid (goodA_of hva)
    have x0 : w1.cell? ⟨w.heap.size + 1, 0, none⟩ = some (.int .i64 A.st) := by rw [h1.2.1.cell]; rfl
    have x1 : w1.cell? ⟨w.heap.size + 1, 1, none⟩ = some (.slice p1 A.fin.length c1) := by rw [h1.2.1.cell]; rfl
    have x2 : w1.cell? ⟨w.heap.size + 1, 2, none⟩ = some (.slice p2 A.ru.length c2) := by rw [h1.2.1.cell]; rfl
    have xl := h1.2.1.lt
    have HO := Lib.hid (reached_ok A A.st.toNat (by have := HGD.out.st; omega) (by have := HGD.out.st; omega) HGD.out.rlen HGD.out.sts _ w1 (HA.out.below HB1.out))
    clear h1 hb1 hva
    go_wp2_with fail
    refine HO.out.mono ?_
    rintro e w2 ⟨⟨M, rfl, hM, hI⟩, hb2⟩
    have HB2 := Lib.hid (HB1.out.trans (hb2.mono HB1.out.size))
    have HM := Lib.hid hM
    have HI := Lib.hid hI
    clear hb2 hM hI
    go_wp2_with fail
    go_ret2
    exact ⟨⟨_, by rw [HE.out]; rfl, ⟨fun e => (by rw [HVA.out] at e; cases e), fun _ => ⟨_, M, rfl, HM.out, HI.out⟩⟩⟩, HB2.out⟩

theorem fin_ok {al : List Int} {A : Au} (h : validA al A = true) : ∀ s ∈ A.fin, stIn A.st s = true := by
  unfold validA at h
  simp only [Bool.and_eq_true, decide_eq_true_eq] at h
  exact fin_in A.fin (-1) (Int.le_refl _) h.2.2.2.2.1

set_option maxRecDepth 100000 in
set_option maxHeartbeats 2000000 in
theorem ruseful_ok (al : List Int) (A : Au) (av v : Value) (w : World) (ha : IsInts w av al) (hA : IsAu w v A) :
    Calls Tryd.prog 20 #[.agg #[av], v] w fun e w' => (∃ u, e = .returned (.tuple #[u, .int .i64 (vE al A)]) ∧ IsMs (validA al A) w' u A.st.toNat (IsUsd A.ru A.fin A.st.toNat)) ∧ Below w.heap.size w w' := by
  have HA := Lib.hid hA
  have HAL := Lib.hid ha
  obtain ⟨fv, rv, rfl, hf, hr⟩ := hA
  have H2 := Lib.hid (two_boxes w #[av] #[.int .i64 A.st, fv, rv] 24 27)
  obtain ⟨p1, c1, rfl, _⟩ := hf
  obtain ⟨p2, c2, rfl, _⟩ := hr
  obtain ⟨pa, ca, rfl, _⟩ := ha
  have h0 := H2.out _ (Below.refl _ _)
  have HV := Lib.hid (rvalid_ok al A _ _ _ (HAL.out.below h0.2.2) (HA.out.below h0.2.2))
  clear h0
  go_enter Tryd.func20, Tryd.ntmps20
  go_wp2_with fail
  refine HV.out.mono ?_
  rintro e w1 ⟨rfl, hb1⟩
  have h1 := H2.out w1 hb1
  have HB1 := Lib.hid h1.2.2
  cases hva : validA al A with
  | false =>
    have HVA := Lib.hid hva
    have HE : Hid (vE al A = 1) := Lib.hid (by unfold vE; rw [hva]; rfl)
    clear h1 hb1 hva
    go_wp2_with fail
    go_ret2
    exact ⟨⟨_, by rw [HE.out]; rfl, ⟨fun _ => rfl, fun e => (by rw [HVA.out] at e; cases e)⟩⟩, HB1.out⟩
  | true =>
    have HVA := Lib.hid hva
    have HE : Hid (vE al A = 0) := Lib.hid (by unfold vE; rw [hva]; rfl)
    have HGD := Lib.hid (goodA_of hva)
    have x0 : w1.cell? ⟨w.heap.size + 1, 0, none⟩ = some (.int .i64 A.st) := by rw [h1.2.1.cell]; rfl
    have x1 : w1.cell? ⟨w.heap.size + 1, 1, none⟩ = some (.slice p1 A.fin.length c1) := by rw [h1.2.1.cell]; rfl
    have x2 : w1.cell? ⟨w.heap.size + 1, 2, none⟩ = some (.slice p2 A.ru.length c2) := by rw [h1.2.1.cell]; rfl
    have xl := h1.2.1.lt
    have HO := Lib.hid (used_ok A A.st.toNat (by have := HGD.out.st; omega) (by have := HGD.out.st; omega) HGD.out.rlen HGD.out.sts (fin_ok hva) _ w1 (HA.out.below HB1.out))
    clear h1 hb1 hva
    go_wp2_with fail
    refine HO.out.mono ?_
    rintro e w2 ⟨⟨b, M, rfl, hM, hI⟩, hb2⟩
    have HB2 := Lib.hid (HB1.out.trans (hb2.mono HB1.out.size))
    have HM := Lib.hid hM
    have HI := Lib.hid hI
    clear hb2 hM hI
    go_wp2_with fail
    go_ret2
    exact ⟨⟨_, by rw [HE.out]; rfl, ⟨fun e => (by rw [HVA.out] at e; cases e), fun _ => ⟨_, M, rfl, HM.out, HI.out⟩⟩⟩, HB2.out⟩

set_option maxRecDepth 100000 in
set_option maxHeartbeats 1000000 in
theorem allOf_ok (M : List Bool) (n : Nat) (l : List Int) (b : Nat) (v : Value) (w : World) (hM : BB w b M) (hn : M.length = n) (hn2 : n ≤ 300) (hv : IsInts w v l) (hl : ∀ x ∈ l, ∃ q : Nat, x = (q : Int) ∧ q < n) :
    Calls Tryd.prog 84 #[.slice (some ⟨b, 0, none⟩) n n, v] w fun e w' => e = .returned (.bool (mkd M l)) ∧ w' = w := by
  obtain ⟨p, c, rfl, h3, h4, hc⟩ := hv
  unfold maxLen at h4
  have HC := Lib.hid hc
  have HM := Lib.hid hM
  have HN := Lib.hid hn
  have HL := Lib.hid hl
  clear hc hM hn hl
  go_enter Tryd.func84, Tryd.ntmps84
  go_wp2_with fail
  go_loopw [9] (fun iv wr => ∃ k : Nat, iv = .int .i64 (k : Nat) ∧ k ≤ l.length ∧ Hid (mkd M (l.take k) = true) ∧ wr = w) (fun iv _ => l.length - (intOf iv).toNat)
  case atStart => exact ⟨0, rfl, by omega, Lib.hid rfl, rfl⟩
  case round =>
    rename World => wr
    obtain ⟨k, rfl, hk, HK, hwr⟩ := hrel
    have hwr2 := hwr.symm
    clear hwr
    subst hwr2
    by_cases hlt : k < l.length
    · obtain ⟨x, hx⟩ : ∃ x, l[k]? = some x := ⟨_, List.getElem?_eq_getElem hlt⟩
      obtain ⟨q, rfl, hq⟩ := HL.out x (List.mem_of_getElem? hx)
      obtain ⟨bu, ou, rfl, hcu⟩ := HC.out (fun h => by simp [h] at hlt)
      have u0 := hcu k _ hx
      have m0 : w.cell? ⟨b, q, none⟩ = some (.bool (M.getD q false)) := HM.out.at (by rw [HN.out]; exact hq)
      have HT := Lib.hid (mkd_take (M := M) hx)
      rw [Int.toNat_natCast] at HT
      have hk1 : (k : Int) < (l.length : Int) := by omega
      have hq1 : (q : Int) < (n : Int) := by omega
      have HXM := Lib.hid (List.mem_of_getElem? hx)
      clear hcu hx
      generalize hg : M.getD q false = g at *
      have HG := Lib.hid hg
      clear hg
      cases g with
      | true =>
        have HK2 : Hid (mkd M (l.take (k + 1)) = true) := Lib.hid (by rw [HT.out, HK.out]; rfl)
        go_wp2_with fail
        go_roundw
        case rel => exact ⟨k + 1, by go_num, by omega, HK2, by first | trivial | rfl⟩
        case measure => simp [intOf]; omega
      | false =>
        have HF : Hid (mkd M l = false) := Lib.hid (by
          cases h : mkd M l with
          | false => rfl
          | true =>
            have := List.all_eq_true.1 h _ HXM.out
            rw [Int.toNat_natCast, HG.out] at this
            cases this)
        go_wp2_with fail
        go_ret
        exact ⟨ret_bool HF.out.symm, rfl⟩
    · have HF : Hid (mkd M l = true) := Lib.hid (by have := HK.out; rwa [List.take_of_length_le (by omega)] at this)
      have hkd : decide (k < l.length) = false := decide_eq_false hlt
      have hkd2 : decide ((k : Int) < (l.length : Int)) = false := decide_eq_false (by omega)
      go_wp2_with fail
      go_ret
      exact ⟨ret_bool HF.out.symm, rfl⟩
end

end Go.Proofs.YtedfldbknjcnlaaDoor
