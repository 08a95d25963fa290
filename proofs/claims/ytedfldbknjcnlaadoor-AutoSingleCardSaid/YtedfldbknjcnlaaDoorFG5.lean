/- Runs as data; ref01.List at any two lists. ref03.One. -/
import Derived.Test.YtedfldbknjcnlaaDoorFG4
import Derived.BigQuiet
import Derived.Test.YtedfldbknjcnlaaDoorFG1
namespace Go.Proofs.YtedfldbknjcnlaaDoor
section
open Go.RowKit Go.Shelf

/-- A rule of this symbol, these states, this state. -/
def ruIs (l to : Int) (fr : List Int) (r : Ru) : Bool := r.sym == l && (r.to == to && r.fr == fr)
def ruHas (R : List Ru) (l to : Int) (fr : List Int) : Bool := R.any (ruIs l to fr)

/-- A run's elements from the first on: the states of the roots of the trees, and what is left. -/
def wkH (R : List Ru) : Hg → List Int → Option (List Int × List Int)
  | .nil, run => some ([], run)
  | .cons _ _ _, [] => none
  | .cons l k r, to :: run =>
    match wkH R k run with
    | none => none
    | some (fr, rest) => if ruHas R l to fr = true then (match wkH R r rest with
      | none => none
      | some (fs, rest') => some (to :: fs, rest')) else none
def wkT (R : List Ru) (l : Int) (K : Hg) : List Int → Option (List Int)
  | [] => none
  | to :: run =>
    match wkH R K run with
    | none => none
    | some (fr, rest) => if ruHas R l to fr = true then some rest else none

theorem wkH_len (R : List Ru) : ∀ (h : Hg) (run : List Int) (fs rest : List Int), wkH R h run = some (fs, rest) → run.length = h.size + rest.length ∧ fs.length = h.len
  | .nil, run, fs, rest, e => by
    simp only [wkH, Option.some.injEq, Prod.mk.injEq] at e
    obtain ⟨rfl, rfl⟩ := e
    simp [Hg.size, Hg.len]
  | .cons l k r, [], fs, rest, e => by simp [wkH] at e
  | .cons l k r, to :: run, fs, rest, e => by
    simp only [wkH] at e
    cases h1 : wkH R k run with
    | none => rw [h1] at e; cases e
    | some x =>
      obtain ⟨fr, rs⟩ := x
      rw [h1] at e
      simp only at e
      split at e
      · cases h2 : wkH R r rs with
        | none => rw [h2] at e; cases e
        | some y =>
          obtain ⟨f2, r2⟩ := y
          rw [h2] at e
          simp only [Option.some.injEq, Prod.mk.injEq] at e
          obtain ⟨rfl, rfl⟩ := e
          have a := wkH_len R k run fr rs h1
          have b := wkH_len R r rs f2 r2 h2
          simp only [Hg.size, Hg.len, List.length_cons]
          omega
      · cases e
theorem wkT_len (R : List Ru) {l : Int} {K : Hg} {run rest : List Int} (e : wkT R l K run = some rest) : run.length = K.size + 1 + rest.length := by
  cases run with
  | nil => simp [wkT] at e
  | cons to run =>
    simp only [wkT] at e
    cases h1 : wkH R K run with
    | none => rw [h1] at e; cases e
    | some x =>
      obtain ⟨fr, rs⟩ := x
      rw [h1] at e
      simp only at e
      split at e
      · simp only [Option.some.injEq] at e
        subst e
        have := wkH_len R K run fr rs h1
        simp only [List.length_cons]
        omega
      · cases e
/-- One tree more. -/
theorem wkH_cons (R : List Ru) (l : Int) (k r : Hg) (to : Int) (run : List Int) : wkH R (.cons l k r) (to :: run) = (match wkT R l k (to :: run) with
    | none => none
    | some rest => (match wkH R r rest with
      | none => none
      | some (fs, rest') => some (to :: fs, rest'))) := by
  simp only [wkH, wkT]
  cases wkH R k run with
  | none => rfl
  | some x =>
    simp only
    split <;> rfl
/-- What the run says of the rest of the trees, behind those that are done. -/
def addF (fs : List Int) : Option (List Int × List Int) → Option (List Int × List Int)
  | none => none
  | some (x, r) => some (fs ++ x, r)
theorem addF_nil (o : Option (List Int × List Int)) : addF [] o = o := by cases o <;> rfl
theorem addF_none (R : List Ru) {l : Int} {k r : Hg} {to : Int} {run fs : List Int} (h : wkT R l k (to :: run) = none) : addF fs (wkH R (.cons l k r) (to :: run)) = none := by
  rw [wkH_cons, h]; rfl
theorem addF_some (R : List Ru) {l : Int} {k r : Hg} {to : Int} {run rest fs : List Int} (h : wkT R l k (to :: run) = some rest) : addF fs (wkH R (.cons l k r) (to :: run)) = addF (fs ++ [to]) (wkH R r rest) := by
  rw [wkH_cons, h]
  simp only
  cases wkH R r rest with
  | none => rfl
  | some x => simp [addF]

/-- Two lists: the same? -/
def eqL (l l' : List Int) : Bool := l == l'

set_option maxRecDepth 100000 in
set_option maxHeartbeats 1000000 in
theorem listE_ok (l l' : List Int) (v v' : Value) (w : World) (hv : IsInts w v l) (hv' : IsInts w v' l') :
    Calls Tryd.prog 29 #[v, v'] w fun e w' => e = .returned (.bool (eqL l l')) ∧ Below w.heap.size w w' := by
  obtain ⟨p, c, rfl, hc1, hc2, hcell⟩ := hv
  obtain ⟨p', c', rfl, hc1', hc2', hcell'⟩ := hv'
  unfold maxLen at hc2 hc2'
  have HC := Lib.hid hcell
  have HC' := Lib.hid hcell'
  clear hcell hcell'
  by_cases hlen : l.length = l'.length
  · have hd : ((l.length : Int) != (l'.length : Int)) = false := by simp [hlen]
    have hd2 : ((l.length : Int) == (l'.length : Int)) = true := by simp [hlen]
    have HLEN := Lib.hid hlen
    clear hlen
    go_enter Tryd.func29, Tryd.ntmps29
    go_wp2_with fail
    go_loopw [13] (fun i wr => ∃ k : Nat, i = .int .i64 k ∧ k ≤ l.length ∧ Hid (l.take k = l'.take k) ∧ Hid (Below w.heap.size w wr)) (fun i _ => l.length - (intOf i).toNat)
    case atStart => exact ⟨0, rfl, by omega, Lib.hid rfl, Lib.hid (Below.refl _ _)⟩
    case round =>
      obtain ⟨k, rfl, hk, HE, HB⟩ := hrel
      by_cases hlt : k < l.length
      · have hlt' : k < l'.length := by have := HLEN.out; omega
        obtain ⟨r, hr⟩ : ∃ r, l[k]? = some r := ⟨_, List.getElem?_eq_getElem hlt⟩
        obtain ⟨r', hr'⟩ : ∃ r, l'[k]? = some r := ⟨_, List.getElem?_eq_getElem hlt'⟩
        obtain ⟨b, o, rfl, hcl⟩ := HC.out (fun h => by simp [h] at hlt)
        obtain ⟨b', o', rfl, hcl'⟩ := HC'.out (fun h => by simp [h] at hlt')
        have c1 := cell_later HB.out (hcl k r hr)
        have c2 := cell_later HB.out (hcl' k r' hr')
        have hbl := World.block_lt_of_cell? _ _ c1
        have hbl' := World.block_lt_of_cell? _ _ c2
        simp only at hbl hbl'
        have hi1 : (k : Int) < (l.length : Int) := by omega
        have hi2 : (k : Int) < (l'.length : Int) := by omega
        by_cases hx : r = r'
        · subst hx
          have HN : Hid (l.take (k + 1) = l'.take (k + 1)) := Lib.hid (by rw [List.take_add_one, List.take_add_one, HE.out, hr, hr'])
          have e1 : (r != r) = false := by simp
          clear hr hr' hcl hcl'
          go_wp2_with fail
          go_quiet (fail)
          go_wp2_with fail
          go_roundw
          case rel => exact ⟨k + 1, by go_num, by omega, HN, Lib.hid (below_drewN HB.out _)⟩
          case measure => simp [intOf]; omega
        · have HN : Hid (eqL l l' = false) := Lib.hid (by
            unfold eqL
            rw [beq_eq_false_iff_ne]
            intro h
            rw [h, hr'] at hr
            exact hx (Option.some.inj hr).symm)
          have e1 : (r != r') = true := by simpa using hx
          have e2 : (r == r') = false := by simpa using hx
          clear hr hr' hcl hcl' hx
          go_wp2_with fail
          go_quiet (fail)
          go_wp2_with fail
          go_ret
          exact ⟨ret_bool HN.out.symm, below_drewN HB.out _⟩
      · have hge : l.length ≤ k := by omega
        have HN : Hid (eqL l l' = true) := Lib.hid (by
          unfold eqL
          rw [beq_iff_eq]
          have := HE.out
          rwa [List.take_of_length_le hge, List.take_of_length_le (by have := HLEN.out; omega)] at this)
        clear hlt
        go_wp2_with fail
        go_ret
        exact ⟨ret_bool HN.out.symm, HB.out⟩
  · have hd : ((l.length : Int) != (l'.length : Int)) = true := by simp; omega
    have hd2 : ((l.length : Int) == (l'.length : Int)) = false := by simp; omega
    have HN : Hid (eqL l l' = false) := Lib.hid (by
      unfold eqL
      rw [beq_eq_false_iff_ne]
      intro h
      exact hlen (by rw [h]))
    clear hlen
    go_enter Tryd.func29, Tryd.ntmps29
    go_wp2_with fail
    go_ret
    exact ⟨ret_bool HN.out.symm, Below.refl _ _⟩
end

section
open Go.RowKit Go.Shelf

/-- Two rules with one head. -/
def sameH (r s : Ru) : Bool := r.sym == s.sym && eqL r.fr s.fr
def oneB' : List Ru → List Ru → Bool
  | _, [] => true
  | pre, r :: R => pre.all (fun s => !sameH r s) && oneB' (pre ++ [r]) R
/-- No two rules have one head. -/
def oneB (R : List Ru) : Bool := oneB' [] R
theorem oneB'_iff : ∀ (R pre : List Ru), oneB' pre R = true ↔ ∀ (i : Nat) (r : Ru), R[i]? = some r → (∀ s ∈ pre ++ R.take i, sameH r s = false)
  | [], pre => by simp [oneB']
  | x :: R, pre => by
    rw [oneB', Bool.and_eq_true, oneB'_iff R (pre ++ [x]), List.all_eq_true]
    constructor
    · rintro ⟨h1, h2⟩ i r hr
      cases i with
      | zero =>
        simp at hr; subst hr
        intro s hs
        simp at hs
        simpa using h1 s hs
      | succ i =>
        intro s hs
        refine h2 i r (by simpa using hr) s ?_
        simp only [List.take_succ_cons] at hs
        simpa using hs
    · intro h
      refine ⟨fun s hs => ?_, fun i r hr s hs => ?_⟩
      · have := h 0 x rfl s (by simpa using hs)
        simpa using this
      · refine h (i + 1) r (by simpa using hr) s ?_
        simp only [List.take_succ_cons]
        simpa using hs
theorem oneB_drop {R : List Ru} {k : Nat} {r : Ru} (h : R[k]? = some r) : oneB' (R.take k) (R.drop k) = ((R.take k).all (fun s => !sameH r s) && oneB' (R.take (k + 1)) (R.drop (k + 1))) := by
  have hk : k < R.length := (List.getElem?_eq_some_iff.1 h).1
  have e : R.drop k = r :: R.drop (k + 1) := by
    rw [List.drop_eq_getElem_cons hk]
    congr 1
    exact (List.getElem?_eq_some_iff.1 h).2
  rw [e, oneB', List.take_add_one, h]
  rfl

set_option maxRecDepth 100000 in
set_option maxHeartbeats 4000000 in
theorem one_ok (A : Au) (hlen : A.ru.length ≤ 1000) (v : Value) (w : World) (hA : IsAu w v A) :
    Calls Tryd.prog 38 #[v] w fun e w' => e = .returned (.bool (oneB A.ru)) ∧ Below w.heap.size w w' := by
  have HA := Lib.hid hA
  obtain ⟨fv, uv, rfl, hf, hr⟩ := hA
  have HX := Lib.hid (Blk.new w 27 #[.int .i64 A.st, fv, uv])
  have HB := Lib.hid ((Below.refl _ w).alloc (Nat.le_refl _) (.cells #[.int .i64 A.st, fv, uv] 27))
  obtain ⟨p1, c1, rfl, _⟩ := hf
  obtain ⟨p2, c2, rfl, hr3, hr4, hrc⟩ := hr
  unfold maxLen at hr4
  have HRC := Lib.hid hrc
  clear hrc
  go_enter Tryd.func38, Tryd.ntmps38
  go_wp2_with fail
  go_loopw [10] (fun iv wr => ∃ k : Nat, iv = .int .i64 (k : Nat) ∧ k ≤ A.ru.length ∧ Hid (oneB A.ru = oneB' (A.ru.take k) (A.ru.drop k)) ∧ Hid (Below w.heap.size w wr) ∧ Hid (Blk wr w.heap.size 27 #[.int .i64 A.st, .slice p1 A.fin.length c1, .slice p2 A.ru.length c2])) (fun iv _ => A.ru.length - (intOf iv).toNat)
  case atStart => exact ⟨0, rfl, by omega, Lib.hid rfl, HB, HX⟩
  case round =>
    rename World => wr
    obtain ⟨k, rfl, hk, HE, HBr, HXr⟩ := hrel
    have hxl := HXr.out.lt
    have y2 : wr.cell? ⟨w.heap.size, 2, none⟩ = some (.slice p2 A.ru.length c2) := by rw [HXr.out.cell]; rfl
    by_cases hlt : k < A.ru.length
    · obtain ⟨r, hrk⟩ : ∃ r, A.ru[k]? = some r := ⟨_, List.getElem?_eq_getElem hlt⟩
      obtain ⟨b, o, rfl, hcl⟩ := HRC.out (fun h => by simp [h] at hlt)
      obtain ⟨q0, ⟨u, q1, hu⟩, q2⟩ := (hcl k r hrk).below HBr.out
      have HU := Lib.hid hu
      obtain ⟨pu, cu, rfl, hu3, hu4, _⟩ := hu
      unfold maxLen at hu4
      have HRK := Lib.hid hrk
      have HD := Lib.hid (oneB_drop hrk)
      have HCL := Lib.hid hcl
      obtain ⟨rs, fr, rt⟩ := r
      simp only at q0 q1 q2 hu3 HU
      have hbl := World.block_lt_of_cell? _ _ q0
      simp only at hbl
      have hlt1 : (k : Int) < (A.ru.length : Int) := by omega
      have hk1 : (k : Int) ≤ (A.ru.length : Int) := by omega
      have hk2 : (0 : Int) ≤ (k : Int) := by omega
      have hk3 : (k : Int) ≤ (c2 : Int) := by omega
      have hk4 : k ≤ c2 := by omega
      have HBA := Lib.hid ((Below.refl _ wr).alloc (Nat.le_refl _) (.cells #[.int .i64 rs, .slice pu fr.length cu, .int .i64 rt] 70))
      have HNA := Lib.hid (Blk.new wr 70 #[.int .i64 rs, .slice pu fr.length cu, .int .i64 rt])
      have HXA := Lib.hid (HXr.out.alloc (.cells #[.int .i64 rs, .slice pu fr.length cu, .int .i64 rt] 70))
      clear hrk hcl
      go_wp2_with fail
      go_loopw [20] (fun jv wj => ∃ j : Nat, jv = .int .i64 (j : Nat) ∧ j ≤ k ∧ Hid ((A.ru.take j).all (fun s => !sameH ⟨rs, fr, rt⟩ s) = true) ∧ Hid (Below wr.heap.size wr wj) ∧ Hid (Blk wj wr.heap.size 70 #[.int .i64 rs, .slice pu fr.length cu, .int .i64 rt])) (fun jv _ => k - (intOf jv).toNat)
      case atStart => exact ⟨0, rfl, by omega, Lib.hid rfl, HBA, HNA⟩
      case round =>
        rename World => wj
        obtain ⟨j, rfl, hj, HS, HBj, HNj⟩ := hrel
        have hnl := HNj.out.lt
        have z0 : wj.cell? ⟨wr.heap.size, 0, none⟩ = some (.int .i64 rs) := by rw [HNj.out.cell]; rfl
        have z1 : wj.cell? ⟨wr.heap.size, 1, none⟩ = some (.slice pu fr.length cu) := by rw [HNj.out.cell]; rfl
        have HBW := Lib.hid (HBr.out.trans (HBj.out.mono HBr.out.size))
        by_cases hjl : j < k
        · obtain ⟨t, htj⟩ : ∃ t, A.ru[j]? = some t := ⟨_, List.getElem?_eq_getElem (by omega)⟩
          obtain ⟨t0, ⟨ut, t1, hut⟩, t2⟩ := (HCL.out j t htj).below HBW.out
          have HUT := Lib.hid hut
          obtain ⟨pt, ct, rfl, ht3, ht4, _⟩ := hut
          have HTJ := Lib.hid htj
          obtain ⟨ts, tf, tt⟩ := t
          simp only at t0 t1 t2 ht3 HUT
          have htl := World.block_lt_of_cell? _ _ t0
          simp only at htl
          have hjl1 : (j : Int) < (k : Int) := by omega
          have HBB := Lib.hid ((Below.refl _ wj).alloc (Nat.le_refl _) (.cells #[.int .i64 ts, .slice pt tf.length ct, .int .i64 tt] 70))
          have HLE := Lib.hid (listE_ok fr tf (.slice pu fr.length cu) (.slice pt tf.length ct) (wj.alloc (.cells #[.int .i64 ts, .slice pt tf.length ct, .int .i64 tt] 70)) ((HU.out.below HBj.out).below HBB.out) (HUT.out.below HBB.out))
          clear htj
          by_cases h1 : rs = ts
          · subst h1
            have e1 : (rs == rs) = true := by simp
            go_wp2_with fail
            refine HLE.out.mono ?_
            rintro e w6 ⟨rfl, hb6⟩
            have HE6 := Lib.hid (HBj.out.trans ((HBB.out.trans (hb6.mono HBB.out.size)).mono HBj.out.size))
            have HN6 := Lib.hid ((HNj.out.below HBB.out HNj.out.lt).below hb6 (by have := HNj.out.lt; simp; omega))
            clear hb6
            cases heq : eqL fr tf with
            | true =>
              have HF : Hid (oneB A.ru = false) := Lib.hid (by
                rw [HE.out, HD.out, Bool.and_eq_false_iff]
                left
                rw [List.all_eq_false]
                refine ⟨⟨rs, tf, tt⟩, List.mem_iff_getElem?.2 ⟨j, ?_⟩, by simp [sameH, heq]⟩
                rw [List.getElem?_take_of_lt hjl]; exact HTJ.out)
              clear heq
              go_wp2_with fail
              go_ret
              exact ⟨ret_bool HF.out.symm, HBr.out.trans (HE6.out.mono HBr.out.size)⟩
            | false =>
              have HS2 : Hid ((A.ru.take (j + 1)).all (fun s => !sameH ⟨rs, fr, rt⟩ s) = true) := Lib.hid (by rw [List.take_add_one, HTJ.out, List.all_append, HS.out]; simp [sameH, heq])
              clear heq
              go_wp2_with fail
              go_roundw
              case rel => exact ⟨j + 1, by go_num, by omega, HS2, HE6, HN6⟩
              case measure => simp [intOf]; omega
          · have e1 : (rs == ts) = false := by simpa using h1
            have HS2 : Hid ((A.ru.take (j + 1)).all (fun s => !sameH ⟨rs, fr, rt⟩ s) = true) := Lib.hid (by rw [List.take_add_one, HTJ.out, List.all_append, HS.out]; simp [sameH, e1])
            have HE6 := Lib.hid (HBj.out.trans (HBB.out.mono HBj.out.size))
            have HN6 := Lib.hid (HNj.out.below HBB.out HNj.out.lt)
            clear h1 HLE
            go_wp2_with fail
            go_roundw
            case rel => exact ⟨j + 1, by go_num, by omega, HS2, HE6, HN6⟩
            case measure => simp [intOf]; omega
        · have hge : k ≤ j := by omega
          have hjk : j = k := by omega
          subst hjk
          have HE2 : Hid (oneB A.ru = oneB' (A.ru.take (j + 1)) (A.ru.drop (j + 1))) := Lib.hid (by rw [HE.out, HD.out, HS.out, Bool.true_and])
          have HX2 := Lib.hid (HXr.out.below HBj.out HXr.out.lt)
          clear hjl
          go_wp2_with fail
          go_roundw
          case rel => exact ⟨j + 1, by go_num, by omega, HE2, HBW, HX2⟩
          case measure => simp [intOf]; omega
    · have hge : A.ru.length ≤ k := by omega
      have HT : Hid (oneB A.ru = true) := Lib.hid (by rw [HE.out, List.drop_eq_nil_iff.2 hge]; rfl)
      clear hlt
      go_wp2_with fail
      go_ret
      exact ⟨ret_bool HT.out.symm, HBr.out⟩
end

end Go.Proofs.YtedfldbknjcnlaaDoor
