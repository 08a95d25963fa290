/- auto.Deterministic, ref03.Deterministic. Reachable states as data; ref03.Reached. ref03.Reached. -/
import Derived.Test.YtedfldbknjcnlaaDoorFG10
import Derived.Test.YtedfldbknjcnlaaDoorFG3
import Derived.Test.YtedfldbknjcnlaaDoorRAuV
import Derived.Deep.RegionHeld3
namespace Go.Proofs.YtedfldbknjcnlaaDoor
section
open Go.RowKit Go.Shelf

/-- The error beside an answer about an automaton. -/
def vE (al : List Int) (A : Au) : Int := if validA al A then 0 else 1

/-- Two boxes. -/
theorem two_boxes (w : World) (a b : Array Value) (ta tb : TypeId) : ∀ W, Below ((w.alloc (.cells a ta)).alloc (.cells b tb)).heap.size ((w.alloc (.cells a ta)).alloc (.cells b tb)) W →
    Blk W w.heap.size ta a ∧ Blk W (w.heap.size + 1) tb b ∧ Below w.heap.size w W := fun W hW => by
  refine ⟨?_, ?_, ?_⟩
  · exact ((Blk.new w _ _).alloc _).below hW (by simp; omega)
  · have := Blk.new (w.alloc (.cells a ta)) tb b
    rw [World.size_alloc] at this
    exact this.below hW (by simp)
  · exact (((Below.refl _ w).alloc (Nat.le_refl _) _).alloc (by simp) _).trans (hW.mono (by simp; omega))

/-- What a valid automaton says, as the program's contracts want it. -/
structure GoodA (al : List Int) (A : Au) : Prop where
  alen : al.length ≤ 1000
  rlen : A.ru.length ≤ 20000
  rus : ∀ r ∈ A.ru, RuV al.length r
  fin : ∃ F : List Nat, A.fin = F.map (fun q : Nat => (q : Int)) ∧ ∀ q ∈ F, q < 320
  fit : ∀ r ∈ A.ru, (r.fr.length : Int) = al.getD r.sym.toNat 0
  ranks : ∀ x ∈ al, 0 ≤ x ∧ x ≤ 3
  st : 0 ≤ A.st ∧ A.st ≤ 300
  sts : ∀ r ∈ A.ru, stIn A.st r.to = true ∧ ∀ x ∈ r.fr, stIn A.st x = true
theorem goodA_of {al : List Int} {A : Au} (h : validA al A = true) : GoodA al A := by
  unfold validA at h
  simp only [Bool.and_eq_true, decide_eq_true_eq] at h
  obtain ⟨h1, h2, h3, h4, h5, h6⟩ := h
  unfold validAl at h1
  simp only [Bool.and_eq_true, decide_eq_true_eq] at h1
  have hrk : ∀ x ∈ al, 0 ≤ x ∧ x ≤ 3 := fun x hx => by
    have := List.all_eq_true.1 h1.2 x hx
    unfold rok at this
    simp only [Bool.and_eq_true, decide_eq_true_eq] at this
    exact this
  have hst : ∀ x, stIn A.st x = true → 0 ≤ x ∧ x < 300 := fun x hx => by
    unfold stIn at hx
    simp only [Bool.and_eq_true, decide_eq_true_eq] at hx
    omega
  have hgd : ∀ i : Nat, al.getD i 0 ≤ 3 := fun i => by
    rw [List.getD_eq_getElem?_getD]
    cases h : al[i]? with
    | none => simp
    | some x => exact (hrk x (List.mem_of_getElem? h)).2
  have hsplit : ∀ r ∈ A.ru, 0 ≤ r.sym ∧ r.sym < al.length ∧ (r.fr.length : Int) = al.getD r.sym.toNat 0 ∧ stIn A.st r.to = true ∧ ∀ x ∈ r.fr, stIn A.st x = true := fun r hr => by
    have hb := List.all_eq_true.1 h6 r hr
    unfold ruB at hb
    simp only [Bool.and_eq_true, decide_eq_true_eq, beq_iff_eq] at hb
    obtain ⟨b1, b2, b3, b4, b5⟩ := hb
    exact ⟨b1, b2, b3, b4, fun x hx => List.all_eq_true.1 b5 x hx⟩
  refine ⟨by omega, by omega, fun r hr => ?_, fin_nat h3 (by omega) h5, fun r hr => (hsplit r hr).2.2.1, hrk, ⟨h2, h3⟩, fun r hr => (hsplit r hr).2.2.2⟩
  obtain ⟨b1, b2, b3, b4, b5⟩ := hsplit r hr
  refine ⟨⟨r.sym.toNat, by omega, by omega⟩, ⟨r.to.toNat, by have := hst _ b4; omega, by have := hst _ b4; omega⟩, ?_, fun x hx => hst x (b5 x hx)⟩
  have := hgd r.sym.toNat
  omega
theorem GoodA.same {al : List Int} {A : Au} (h : GoodA al A) : ∀ r ∈ A.ru, ∀ s ∈ A.ru, r.sym = s.sym → r.fr.length = s.fr.length := fun r hr s hs e => by
  have h1 := h.fit r hr
  have h2 := h.fit s hs
  rw [e] at h1
  omega

set_option maxRecDepth 100000 in
set_option maxHeartbeats 2000000 in
theorem det_ok (al : List Int) (A : Au) (av v : Value) (w : World) (ha : IsInts w av al) (hA : IsAu w v A) :
    Calls Tryd.prog 13 #[.agg #[av], v] w fun e w' => e = .returned (.tuple #[.bool (validA al A && oneB A.ru), .int .i64 (vE al A)]) ∧ Below w.heap.size w w' := by
  have HA := Lib.hid hA
  have HAL := Lib.hid ha
  obtain ⟨fv, rv, rfl, hf, hr⟩ := hA
  have H2 := Lib.hid (two_boxes w #[av] #[.int .i64 A.st, fv, rv] 24 27)
  obtain ⟨p1, c1, rfl, _⟩ := hf
  obtain ⟨p2, c2, rfl, _⟩ := hr
  obtain ⟨pa, ca, rfl, _⟩ := ha
  have h0 := H2.out _ (Below.refl _ _)
  have HV := Lib.hid (valid_ok al A _ _ _ (HAL.out.below h0.2.2) (HA.out.below h0.2.2))
  clear h0
  go_enter Tryd.func13, Tryd.ntmps13
  go_wp2_with fail
  refine HV.out.mono ?_
  rintro e w1 ⟨rfl, hb1⟩
  have h1 := H2.out w1 hb1
  have HB1 := Lib.hid h1.2.2
  cases hva : validA al A with
  | false =>
    have HVA := Lib.hid hva
    have HE : Hid (vE al A = 1) := Lib.hid (by unfold vE; rw [hva]; rfl)
    clear h1 hb1 hva
    go_wp2_with fail
    go_ret2
    exact ⟨by rw [HE.out, HVA.out]; rfl, HB1.out⟩
  | true =>
    have HVA := Lib.hid hva
    have HE : Hid (vE al A = 0) := Lib.hid (by unfold vE; rw [hva]; rfl)
    have HGD := Lib.hid (goodA_of hva)
    have HSS : Hid (∀ W, Below w1.heap.size w1 W → W.cell? ⟨w.heap.size, 0, none⟩ = some (.slice pa al.length ca) ∧ W.cell? ⟨w.heap.size + 1, 0, none⟩ = some (.int .i64 A.st) ∧ W.cell? ⟨w.heap.size + 1, 1, none⟩ = some (.slice p1 A.fin.length c1) ∧ W.cell? ⟨w.heap.size + 1, 2, none⟩ = some (.slice p2 A.ru.length c2)) := Lib.hid (fun W hW => by
      have h := H2.out W (hb1.trans (hW.mono hb1.size))
      exact ⟨by rw [h.1.cell]; rfl, by rw [h.2.1.cell]; rfl, by rw [h.2.1.cell]; rfl, by rw [h.2.1.cell]; rfl⟩)
    have HD0 : Hid (Below w1.heap.size w1 w1.drew) := Lib.hid (Below.refl _ _).drew
    clear h1 hb1 hva
    go_wp2_with fail
    go_region_held3 (fun W => W.cell? ⟨w.heap.size, 0, none⟩ = some (.slice pa al.length ca) ∧ W.cell? ⟨w.heap.size + 1, 0, none⟩ = some (.int .i64 A.st) ∧ W.cell? ⟨w.heap.size + 1, 1, none⟩ = some (.slice p1 A.fin.length c1) ∧ W.cell? ⟨w.heap.size + 1, 2, none⟩ = some (.slice p2 A.ru.length c2))
      (first | exact HSS.out _ HE3.out | exact HSS.out _ HD0.out)
      (first
        | (go_at_call 53; refine (newTable_ok al A _ _ _ (HAL.out.below (HB1.out.trans (HD0.out.mono HB1.out.size))) (HA.out.below (HB1.out.trans (HD0.out.mono HB1.out.size))) HGD.out.alen HGD.out.rlen HGD.out.rus).mono ?_; rintro e w3 ⟨⟨T, G, M, GL, rows, f, rfl, ht, hm, _⟩, hb3⟩; have HTB := Lib.hid ht; have HMN := Lib.hid hm; have HE3 : Hid (Below w1.heap.size w1 w3) := Lib.hid (HD0.out.trans (hb3.mono HD0.out.size)); clear ht hm hb3)
        | (go_at_call 54; refine (heads_ok HTB.out HMN.out).mono ?_; rintro e w4 ⟨rfl, rfl⟩))
    have HH : Hid (((GL.length : Int) == (A.ru.length : Int)) = oneB A.ru) := Lib.hid (by
      rw [Bool.eq_iff_iff, beq_iff_eq, ← heads_one HTB.out HMN.out HGD.out.rus HGD.out.alen HGD.out.same]
      omega)
    go_wp2_with fail
    go_ret2
    exact ⟨by rw [HE.out, HVA.out, ← HH.out]; rfl, HB1.out.trans (HE3.out.mono HB1.out.size)⟩

set_option maxRecDepth 100000 in
set_option maxHeartbeats 2000000 in
theorem rdet_ok (al : List Int) (A : Au) (hlen : A.ru.length ≤ 1000) (av v : Value) (w : World) (ha : IsInts w av al) (hA : IsAu w v A) :
    Calls Tryd.prog 14 #[.agg #[av], v] w fun e w' => e = .returned (.tuple #[.bool (validA al A && oneB A.ru), .int .i64 (vE al A)]) ∧ Below w.heap.size w w' := by
  have HA := Lib.hid hA
  have HAL := Lib.hid ha
  obtain ⟨fv, rv, rfl, hf, hr⟩ := hA
  have H2 := Lib.hid (two_boxes w #[av] #[.int .i64 A.st, fv, rv] 24 27)
  obtain ⟨p1, c1, rfl, _⟩ := hf
  obtain ⟨p2, c2, rfl, _⟩ := hr
  obtain ⟨pa, ca, rfl, _⟩ := ha
  have h0 := H2.out _ (Below.refl _ _)
  have HV := Lib.hid (rvalid_ok al A _ _ _ (HAL.out.below h0.2.2) (HA.out.below h0.2.2))
  clear h0
  go_enter Tryd.func14, Tryd.ntmps14
  go_wp2_with fail
  refine HV.out.mono ?_
  rintro e w1 ⟨rfl, hb1⟩
  have h1 := H2.out w1 hb1
  have HB1 := Lib.hid h1.2.2
  cases hva : validA al A with
  | false =>
    have HVA := Lib.hid hva
    have HE : Hid (vE al A = 1) := Lib.hid (by unfold vE; rw [hva]; rfl)
    clear h1 hb1 hva
    go_wp2_with fail
    go_ret2
    exact ⟨by rw [HE.out, HVA.out]; rfl, HB1.out⟩
  | true =>
    have HVA := Lib.hid hva
    have HE : Hid (vE al A = 0) := Lib.hid (by unfold vE; rw [hva]; rfl)
    have x0 : w1.cell? ⟨w.heap.size + 1, 0, none⟩ = some (.int .i64 A.st) := by rw [h1.2.1.cell]; rfl
    have x1 : w1.cell? ⟨w.heap.size + 1, 1, none⟩ = some (.slice p1 A.fin.length c1) := by rw [h1.2.1.cell]; rfl
    have x2 : w1.cell? ⟨w.heap.size + 1, 2, none⟩ = some (.slice p2 A.ru.length c2) := by rw [h1.2.1.cell]; rfl
    have xl := h1.2.1.lt
    have HO := Lib.hid (one_ok A hlen _ w1 (HA.out.below HB1.out))
    clear h1 hb1 hva
    generalize hone : oneB A.ru = one at HO
    have HON := Lib.hid hone
    clear hone
    go_wp2_with fail
    refine HO.out.mono ?_
    rintro e w2 ⟨rfl, hb2⟩
    have HB2 := Lib.hid (HB1.out.trans (hb2.mono HB1.out.size))
    clear hb2
    go_wp2_with fail
    go_ret2
    exact ⟨by rw [HE.out, HVA.out, HON.out]; rfl, HB2.out⟩
end

section
open Go.RowKit Go.Shelf Go.Maps Go.WideElems

/-- What runs assign to a root. -/
inductive Rch (R : List Ru) : Nat → Prop
  | mk (r : Ru) (hr : r ∈ R) (h : ∀ s ∈ r.fr, Rch R s.toNat) : Rch R r.to.toNat
/-- All states of a list are marked. -/
def mkd (M : List Bool) (l : List Int) : Bool := l.all fun s => M.getD s.toNat false
def SoundM (R : List Ru) (M : List Bool) : Prop := ∀ i, M.getD i false = true → Rch R i
def ClosedM (R : List Ru) (M : List Bool) : Prop := ∀ r ∈ R, mkd M r.fr = true → M.getD r.to.toNat false = true
structure IsRch (R : List Ru) (n : Nat) (M : List Bool) : Prop where
  len : M.length = n
  iff : ∀ i, M.getD i false = true ↔ Rch R i
theorem isRch_of {R : List Ru} {n : Nat} {M : List Bool} (h : M.length = n) (hs : SoundM R M) (hc : ClosedM R M) : IsRch R n M := by
  refine ⟨h, fun i => ⟨hs i, fun hr => ?_⟩⟩
  induction hr with
  | mk r hr _ ih => exact hc r hr (List.all_eq_true.2 ih)
theorem IsRch.uniq {R : List Ru} {n : Nat} {M M' : List Bool} (h : IsRch R n M) (h' : IsRch R n M') : M = M' := by
  apply List.ext_getElem
  · rw [h.len, h'.len]
  · intro i h1 h2
    have e := (h.iff i).trans (h'.iff i).symm
    rw [List.getD_eq_getElem?_getD, List.getD_eq_getElem?_getD, List.getElem?_eq_getElem h1, List.getElem?_eq_getElem h2] at e
    simp only [Option.getD_some] at e
    exact Bool.eq_iff_iff.2 e
theorem getD_set_ (M : List Bool) (q i : Nat) (hq : q < M.length) : (M.set q true).getD i false = (decide (q = i) || M.getD i false) := by
  rw [List.getD_eq_getElem?_getD, List.getD_eq_getElem?_getD, List.getElem?_set]
  by_cases h : q = i
  · subst h; simp [hq]
  · simp [h]
theorem sound_set {R : List Ru} {M : List Bool} {r : Ru} {q : Nat} (hs : SoundM R M) (hr : r ∈ R) (e : r.to = (q : Int)) (hq : q < M.length) (hm : mkd M r.fr = true) : SoundM R (M.set q true) := fun i hi => by
  rw [getD_set_ M q i hq, Bool.or_eq_true, decide_eq_true_eq] at hi
  rcases hi with rfl | hi
  · have := Rch.mk r hr (fun s hs2 => hs _ (List.all_eq_true.1 hm s hs2))
    rwa [e] at this
  · exact hs i hi
theorem count_set (M : List Bool) (q : Nat) (hq : q < M.length) (h : M.getD q false = false) : (M.set q true).count false + 1 = M.count false := by
  have h1 : M[q] = false := by
    rw [List.getD_eq_getElem?_getD, List.getElem?_eq_getElem hq] at h
    exact h
  rw [List.count_set hq, h1]
  have : 0 < M.count false := List.count_pos_iff.2 (h1 ▸ List.getElem_mem hq)
  simp
  omega

/-- A block of marks. -/
def BB (w : World) (b : Nat) (M : List Bool) : Prop := Blk w b 4 (M.map Value.bool).toArray
theorem BB.at {w : World} {b i : Nat} {M : List Bool} (h : BB w b M) (hi : i < M.length) : w.cell? ⟨b, i, none⟩ = some (.bool (M.getD i false)) := by
  have h1 : Blk w b 4 (M.map Value.bool).toArray := h
  rw [h1.cell, List.getD_eq_getElem?_getD]
  simp [hi]
theorem BB.set_ {w : World} {b : Nat} {M : List Bool} (h : BB w b M) (i : Nat) (u : Bool) : BB (w.setCell ⟨b, i, none⟩ (.bool u)) b (M.set i u) := by
  have h1 := Blk.set_ (show Blk w b 4 (M.map Value.bool).toArray from h) i (.bool u)
  rw [List.setIfInBounds_toArray] at h1
  unfold BB
  rwa [List.map_set]
/-- How many marks of a block are not set. -/
def cntW (w : World) (b n : Nat) : Nat := (List.range n).countP fun i => match w.cell? ⟨b, i, none⟩ with | some (.bool false) => true | _ => false
theorem cntW_of {w : World} {b : Nat} {M : List Bool} (h : BB w b M) : cntW w b M.length = M.count false := by
  have e : M = (List.range M.length).map (fun i => M.getD i false) := by
    apply List.ext_getElem
    · simp
    · intro i h1 h2
      simp [List.getD_eq_getElem?_getD, h1]
  unfold cntW
  conv => rhs; rw [e]
  rw [List.count, List.countP_map]
  refine List.countP_congr fun i hi => ?_
  rw [h.at (List.mem_range.1 hi)]
  simp only [Function.comp]
  cases M.getD i false <;> simp

theorem Tryd.infoBool : (Tryd.prog.info? 4).map (·.size) = some 1 := by kernel_rfl
end

section
open Go.RowKit Go.Shelf Go.Maps Go.WideElems

theorem Tryd.infoBoolP : (Tryd.prog.info? 4).map (fun i => (i.zero, i.size, i.bytes)) = some (some (.bool false), 1, 1) := by kernel_rfl
theorem st_nat {st x : Int} {n : Nat} (e : st = (n : Int)) (h : stIn st x = true) : ∃ q : Nat, x = (q : Int) ∧ q < n := by
  unfold stIn at h
  simp only [Bool.and_eq_true, decide_eq_true_eq] at h
  exact ⟨x.toNat, by omega, by omega⟩
theorem mkd_take {M : List Bool} {l : List Int} {j : Nat} {x : Int} (h : l[j]? = some x) : mkd M (l.take (j + 1)) = (mkd M (l.take j) && M.getD x.toNat false) := by
  unfold mkd
  rw [List.take_add_one, h, List.all_append]
  simp
/-- The marks are as before and closed under the first rules, or there are more of them. -/
def PassM (R : List Ru) (k : Nat) (M0 M : List Bool) (m : Bool) : Prop :=
  (m = false → M = M0 ∧ ∀ r ∈ R.take k, mkd M r.fr = true → M.getD r.to.toNat false = true) ∧ (m = true → M.count false < M0.count false) ∧ M.count false ≤ M0.count false
theorem PassM.keep {R : List Ru} {k : Nat} {M0 M : List Bool} {m : Bool} {r : Ru} (h : PassM R k M0 M m) (hr : R[k]? = some r) (hc : mkd M r.fr = true → M.getD r.to.toNat false = true) : PassM R (k + 1) M0 M m := by
  refine ⟨fun e => ⟨(h.1 e).1, fun t ht => ?_⟩, h.2⟩
  rw [List.take_add_one, hr, List.mem_append] at ht
  rcases ht with ht | ht
  · exact (h.1 e).2 t ht
  · simp only [Option.toList_some, List.mem_singleton] at ht
    subst ht
    exact hc
theorem PassM.more {R : List Ru} {k : Nat} {M0 M : List Bool} {m : Bool} {q : Nat} (h : PassM R k M0 M m) (hq : q < M.length) (hf : M.getD q false = false) : PassM R (k + 1) M0 (M.set q true) true := by
  have := count_set M q hq hf
  exact ⟨fun e => (by cases e), fun _ => (by have := h.2.2; omega), (by have := h.2.2; omega)⟩

def mOf : Value → Nat
  | .bool true => 1
  | _ => 0

set_option maxRecDepth 100000 in
set_option maxHeartbeats 4000000 in
theorem reached_ok (A : Au) (n : Nat) (hst : A.st = (n : Int)) (hn : n ≤ 300) (hlen : A.ru.length ≤ 20000) (hru : ∀ r ∈ A.ru, stIn A.st r.to = true ∧ ∀ x ∈ r.fr, stIn A.st x = true) (v : Value) (w : World) (hA : IsAu w v A) :
    Calls Tryd.prog 58 #[v] w fun e w' => (∃ M, e = .returned (.slice (some ⟨w.heap.size + 1, 0, none⟩) n n) ∧ BB w' (w.heap.size + 1) M ∧ IsRch A.ru n M) ∧ Below w.heap.size w w' := by
  have HA := Lib.hid hA
  have HRU := Lib.hid hru
  have HST := Lib.hid hst
  obtain ⟨fv, uv, rfl, hf, hr⟩ := hA
  have HX0 := Lib.hid (Blk.new w 27 #[.int .i64 A.st, fv, uv])
  have HB := Lib.hid ((Below.refl _ w).alloc (Nat.le_refl _) (.cells #[.int .i64 A.st, fv, uv] 27))
  obtain ⟨p1, c1, rfl, _⟩ := hf
  obtain ⟨p2, c2, rfl, hr3, hr4, hrc⟩ := hr
  obtain ⟨i0, hi, hz0, hz1, hz2⟩ := info_parts Tryd.infoBoolP
  have HI := Lib.hid hi
  unfold maxLen at hr4
  have HRC := Lib.hid hrc
  have x0 : (w.alloc (.cells #[.int .i64 A.st, .slice p1 A.fin.length c1, .slice p2 A.ru.length c2] 27)).cell? ⟨w.heap.size, 0, none⟩ = some (.int .i64 (n : Int)) := by rw [HX0.out.cell, ← HST.out]; rfl
  clear hrc hru hst hi
  go_enter Tryd.func58, Tryd.ntmps58
  go_wp2_with (at_make; refine wpList_make_full _ rfl _ _ 34 rfl (w.heap.size + 1) 4 i0 _ 1 Tryd.underlying34 HI.out hz0 hz1 _ _ _ _ n rfl rfl rfl rfl (by rw [hz2]; omega) (by simp only [maxLen]; omega) (by simp) ?_)
  intro w2 hown hgrow
  have hG := own_full hown
  rw [toList_madeCells_one] at hG
  try simp only [World.size_alloc] at hG
  have HB2 : Hid (Below w.heap.size w w2) := Lib.hid (HB.out.grown hgrow (by simp) (fun j e => by simp at e))
  have HX2 : Hid (Blk w2 w.heap.size 27 #[.int .i64 A.st, .slice p1 A.fin.length c1, .slice p2 A.ru.length c2]) := Lib.hid ((hgrow.block _ HX0.out.lt (by simp)).trans HX0.out)
  have HM2 : Hid (BB w2 (w.heap.size + 1) (List.replicate n false)) := Lib.hid (by unfold BB; rw [List.map_replicate]; exact hG)
  clear hown hgrow hG x0
  go_wp2_with fail
  go_loopw [4] (fun mv wr => ∃ (m : Bool) (M : List Bool), mv = .bool m ∧ Hid (M.length = n) ∧ Hid (SoundM A.ru M) ∧ Hid (m = false → ClosedM A.ru M) ∧ Hid (BB wr (w.heap.size + 1) M) ∧ Hid (Below w.heap.size w wr) ∧ Hid (Blk wr w.heap.size 27 #[.int .i64 A.st, .slice p1 A.fin.length c1, .slice p2 A.ru.length c2]))
    (fun mv wr => cntW wr (w.heap.size + 1) n + mOf mv)
  case atStart => exact ⟨true, List.replicate n false, rfl, Lib.hid (by simp), Lib.hid (fun i hi => by
      rw [List.getD_eq_getElem?_getD, List.getElem?_replicate] at hi
      split at hi <;> simp at hi), Lib.hid (fun e => by cases e), HM2, HB2, HX2⟩
  case round =>
    rename World => wr
    obtain ⟨m, M, rfl, HL, HSO, HCL, HBM, HBr, HXr⟩ := hrel
    have hs0 := HXr.out.lt
    have hs1 : w.heap.size + 1 < wr.heap.size := Blk.lt (show Blk wr (w.heap.size + 1) 4 (M.map Value.bool).toArray from HBM.out)
    cases m with
    | false =>
      have HIS := Lib.hid (isRch_of HL.out HSO.out (HCL.out rfl))
      go_wp2_with fail
      go_ret
      exact ⟨⟨rfl, M, HBM.out, HIS.out⟩, HBr.out⟩
    | true =>
      have y2 : wr.cell? ⟨w.heap.size, 2, none⟩ = some (.slice p2 A.ru.length c2) := by rw [HXr.out.cell]; rfl
      go_wp2_with fail
      go_loopw [4, 17] (fun mv iv wk => ∃ (k : Nat) (m : Bool) (M2 : List Bool), iv = .int .i64 (k : Nat) ∧ mv = .bool m ∧ k ≤ A.ru.length ∧ Hid (M2.length = n) ∧ Hid (SoundM A.ru M2) ∧ Hid (PassM A.ru k M M2 m) ∧ Hid (BB wk (w.heap.size + 1) M2) ∧ Hid (Below w.heap.size w wk) ∧ Hid (Blk wk w.heap.size 27 #[.int .i64 A.st, .slice p1 A.fin.length c1, .slice p2 A.ru.length c2])) (fun _ iv _ => A.ru.length - (intOf iv).toNat)
      case atStart => exact ⟨0, false, M, rfl, rfl, by omega, HL, HSO, Lib.hid ⟨fun _ => ⟨rfl, fun r hr => by simp at hr⟩, fun e => (by cases e), Nat.le_refl _⟩, HBM, HBr, HXr⟩
      case round =>
        rename World => wk
        obtain ⟨k, m, M2, rfl, rfl, hk, HL2, HS2, HP2, HBM2, HBk, HXk⟩ := hrel
        have hxl := HXk.out.lt
        have hml : w.heap.size + 1 < wk.heap.size := Blk.lt (show Blk wk (w.heap.size + 1) 4 (M2.map Value.bool).toArray from HBM2.out)
        by_cases hlt : k < A.ru.length
        · obtain ⟨r, hrk⟩ : ∃ r, A.ru[k]? = some r := ⟨_, List.getElem?_eq_getElem hlt⟩
          obtain ⟨b, o, rfl, hcl⟩ := HRC.out (fun h => by simp [h] at hlt)
          obtain ⟨q0, ⟨u, q1, hu⟩, q2⟩ := (hcl k r hrk).below HBk.out
          have HU := Lib.hid hu
          obtain ⟨pu, cu, rfl, hu3, hu4, huc⟩ := hu
          unfold maxLen at hu4
          have HRK := Lib.hid hrk
          obtain ⟨rs, fr, rt⟩ := r
          have hin := HRU.out _ (List.mem_of_getElem? hrk)
          simp only at q0 q1 q2 hu3 HU hin huc
          obtain ⟨qt, hqt, hqn⟩ := st_nat HST.out hin.1
          subst hqt
          have HFI := Lib.hid hin.2
          have HUC := Lib.hid huc
          have hbl := World.block_lt_of_cell? _ _ q0
          simp only at hbl
          have hk1 : (k : Int) < (A.ru.length : Int) := by omega
          have HBA := Lib.hid ((Below.refl _ wk).alloc (Nat.le_refl _) (.cells #[.int .i64 rs, .slice pu fr.length cu, .int .i64 (qt : Int)] 70))
          have HNA := Lib.hid (Blk.new wk 70 #[.int .i64 rs, .slice pu fr.length cu, .int .i64 (qt : Int)])
          clear hrk hcl hin huc
          go_wp2_with fail
          go_loopw [7, 24] (fun bv jv wj => ∃ (j : Nat) (β : Bool), jv = .int .i64 (j : Nat) ∧ bv = .bool β ∧ j ≤ fr.length ∧ Hid (β = mkd M2 (fr.take j)) ∧ Hid (∃ d, wj = (wk.alloc (.cells #[.int .i64 rs, .slice pu fr.length cu, .int .i64 (qt : Int)] 70)).drewN d)) (fun _ jv _ => fr.length - (intOf jv).toNat)
          case atStart => exact ⟨0, true, rfl, rfl, by omega, Lib.hid rfl, Lib.hid ⟨0, rfl⟩⟩
          case round =>
            rename World => wj
            obtain ⟨j, β, rfl, rfl, hj, HBE, HD⟩ := hrel
            have HBj : Hid (Below wk.heap.size wk wj) := Lib.hid (by obtain ⟨d, rfl⟩ := HD.out; exact below_drewN HBA.out d)
            have HNj : Hid (Blk wj wk.heap.size 70 #[.int .i64 rs, .slice pu fr.length cu, .int .i64 (qt : Int)]) := Lib.hid (by obtain ⟨d, rfl⟩ := HD.out; exact HNA.out.below (below_drewN (Below.refl _ _) d) HNA.out.lt)
            have HMj : Hid (BB wj (w.heap.size + 1) M2) := Lib.hid (Blk.below (show Blk wk (w.heap.size + 1) 4 (M2.map Value.bool).toArray from HBM2.out) HBj.out hml)
            have HXj := Lib.hid (HXk.out.below HBj.out HXk.out.lt)
            have HBWj := Lib.hid (HBk.out.trans (HBj.out.mono HBk.out.size))
            have hnl := HNj.out.lt
            have hmj : w.heap.size + 1 < wj.heap.size := Nat.lt_of_lt_of_le hml (Nat.le_trans (Nat.le_of_lt hnl) (Nat.le_refl _))
            by_cases hjl : j < fr.length
            · obtain ⟨x, hx⟩ : ∃ x, fr[j]? = some x := ⟨_, List.getElem?_eq_getElem hjl⟩
              obtain ⟨qx, rfl, hqx⟩ := st_nat HST.out (HFI.out x (List.mem_of_getElem? hx))
              obtain ⟨bu, ou, rfl, hcu⟩ := HUC.out (fun h => by simp [h] at hjl)
              have u0 : wj.cell? ⟨bu, ou + j, none⟩ = some (.int .i64 (qx : Int)) := cell_later HBj.out (hcu j _ hx)
              have m0 : wj.cell? ⟨w.heap.size + 1, qx, none⟩ = some (.bool (M2.getD qx false)) := HMj.out.at (by rw [HL2.out]; exact hqx)
              have HT := Lib.hid (mkd_take (M := M2) hx)
              rw [Int.toNat_natCast] at HT
              have hj1 : (j : Int) < (fr.length : Int) := by omega
              have hq1 : (qx : Int) < (n : Int) := by omega
              clear hcu hx
              generalize hg : M2.getD qx false = g at *
              cases β with
              | false =>
                have HE2 : Hid (false = mkd M2 (fr.take (j + 1))) := Lib.hid (by rw [HT.out, ← HBE.out]; rfl)
                clear hg
                go_wp2_with fail
                go_roundw
                case rel => exact ⟨j + 1, false, by go_num, rfl, by omega, HE2, Lib.hid (by obtain ⟨d, rfl⟩ := HD.out; exact ⟨_, rfl⟩)⟩
                case measure => simp [intOf]; omega
              | true =>
                have HE2 : Hid (g = mkd M2 (fr.take (j + 1))) := Lib.hid (by rw [HT.out, ← HBE.out]; rfl)
                clear hg
                go_wp2_with fail
                go_roundw
                case rel => exact ⟨j + 1, g, by go_num, rfl, by omega, HE2, Lib.hid (by obtain ⟨d, rfl⟩ := HD.out; exact ⟨_, rfl⟩)⟩
                case measure => simp [intOf]; omega
            · have HBF : Hid (β = mkd M2 fr) := Lib.hid (by rw [HBE.out, List.take_of_length_le (by omega)])
              have hjd : decide (j < fr.length) = false := decide_eq_false hjl
              have hjd2 : decide ((j : Int) < (fr.length : Int)) = false := decide_eq_false (by omega)
              have n2 : wj.cell? ⟨wk.heap.size, 2, none⟩ = some (.int .i64 (qt : Int)) := by rw [HNj.out.cell]; rfl
              have m0 : wj.cell? ⟨w.heap.size + 1, qt, none⟩ = some (.bool (M2.getD qt false)) := HMj.out.at (by rw [HL2.out]; exact hqn)
              have hq1 : (qt : Int) < (n : Int) := by omega
              have hmf : wj.frozen? ⟨w.heap.size + 1, qt, none⟩ = false := Blk.frozen (show Blk wj (w.heap.size + 1) 4 (M2.map Value.bool).toArray from HMj.out) qt
              generalize hg : M2.getD qt false = g at *
              have HG := Lib.hid hg
              clear hg
              cases β with
              | false =>
                have HP3 : Hid (PassM A.ru (k + 1) M M2 m) := Lib.hid (HP2.out.keep HRK.out (fun h => by simp only at h; rw [← HBF.out] at h; cases h))
                go_wp2_with fail
                go_roundw
                case rel => exact ⟨k + 1, m, M2, by go_num, rfl, by omega, HL2, HS2, HP3, HMj, HBWj, HXj⟩
                case measure => simp [intOf]; omega
              | true =>
                cases g with
                | true =>
                  have HP3 : Hid (PassM A.ru (k + 1) M M2 m) := Lib.hid (HP2.out.keep HRK.out (fun _ => by simp only [Int.toNat_natCast]; exact HG.out))
                  go_wp2_with fail
                  go_roundw
                  case rel => exact ⟨k + 1, m, M2, by go_num, rfl, by omega, HL2, HS2, HP3, HMj, HBWj, HXj⟩
                  case measure => simp [intOf]; omega
                | false =>
                  have HP3 : Hid (PassM A.ru (k + 1) M (M2.set qt true) true) := Lib.hid (HP2.out.more (by rw [HL2.out]; exact hqn) HG.out)
                  have HS3 : Hid (SoundM A.ru (M2.set qt true)) := Lib.hid (sound_set HS2.out (List.mem_of_getElem? HRK.out) rfl (by rw [HL2.out]; exact hqn) HBF.out.symm)
                  have HL3 : Hid ((M2.set qt true).length = n) := Lib.hid (by rw [List.length_set]; exact HL2.out)
                  have HM3 := Lib.hid (HMj.out.set_ qt true)
                  have HB3 := Lib.hid (HBWj.out.setCell (p := ⟨w.heap.size + 1, qt, none⟩) (by simp only; omega) (.bool true))
                  have HX3 := Lib.hid (HXj.out.far (p := ⟨w.heap.size + 1, qt, none⟩) (by simp only; omega) (.bool true))
                  go_wp2_with fail
                  go_roundw
                  case rel => exact ⟨k + 1, true, M2.set qt true, by go_num, rfl, by omega, HL3, HS3, HP3, HM3, HB3, HX3⟩
                  case measure => simp [intOf]; omega
        · have hge : A.ru.length ≤ k := by omega
          have HPF : Hid ((m = false → ClosedM A.ru M2) ∧ M2.count false + (if m then 1 else 0) < M.count false + 1) := Lib.hid (by
            have h := HP2.out
            unfold PassM at h
            rw [List.take_of_length_le hge] at h
            refine ⟨fun e => (h.1 e).2, ?_⟩
            cases m with
            | false => have := h.2.2; simp; omega
            | true => have := h.2.1 rfl; simp; omega)
          have hkd : decide (k < A.ru.length) = false := decide_eq_false hlt
          have hkd2 : decide ((k : Int) < (A.ru.length : Int)) = false := decide_eq_false (by omega)
          go_wp2_with fail
          go_roundw
          case rel => exact ⟨m, M2, rfl, HL2, HS2, Lib.hid HPF.out.1, HBM2, HBk, HXk⟩
          case measure =>
            have h1 := cntW_of HBM2.out
            have h2 := cntW_of HBM.out
            rw [HL2.out] at h1
            rw [HL.out] at h2
            rw [h1, h2]
            have := HPF.out.2
            cases m <;> simp [mOf] at this ⊢ <;> omega
end

end Go.Proofs.YtedfldbknjcnlaaDoor
