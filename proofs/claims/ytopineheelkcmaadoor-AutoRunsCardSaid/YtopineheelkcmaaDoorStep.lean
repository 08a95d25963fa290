/- ref03.Step. -/
import Derived.Test.YtopineheelkcmaaDoorIns
namespace Go.Proofs.YtopineheelkcmaaDoor
open Go.RowKit Go.Shelf

/-- A list of lists of numbers. -/
def IsLs (w : World) (v : Value) (L : List (List Int)) : Prop :=
  ∃ p c, v = .slice p L.length c ∧ L.length ≤ c ∧ c ≤ maxLen ∧ (L ≠ [] → ∃ b o, p = some ⟨b, o, none⟩ ∧ ∀ (i : Nat) (x : List Int), L[i]? = some x → ∃ u, w.cell? ⟨b, o + i, none⟩ = some u ∧ IsInts w u x)
theorem IsLs.below {w w' : World} {v : Value} {L : List (List Int)} (h : IsLs w v L) (hb : Below w.heap.size w w') : IsLs w' v L := by
  obtain ⟨p, c, e, h1, h2, h3⟩ := h
  refine ⟨p, c, e, h1, h2, fun hne => ?_⟩
  obtain ⟨b, o, e, hc⟩ := h3 hne
  refine ⟨b, o, e, fun i x hx => ?_⟩
  obtain ⟨u, h4, h5⟩ := hc i x hx
  exact ⟨u, cell_later hb h4, h5.below hb⟩

theorem stepL_snoc (sym : Int) (S : List (List Int)) (r : Ru) : ∀ (R : List Ru) (out : List Int), stepL (R ++ [r]) sym S out = if stepF sym S r = true then insL r.to (stepL R sym S out) else stepL R sym S out
  | [], out => rfl
  | x :: R, out => by rw [List.cons_append, stepL, stepL_snoc sym S r R, stepL]
theorem fitsL_drop {S : List (List Int)} {F : List Int} {j : Nat} {s : List Int} {f : Int} (h1 : S[j]? = some s) (h2 : F[j]? = some f) : fitsL (S.drop j) (F.drop j) = (inB s f && fitsL (S.drop (j + 1)) (F.drop (j + 1))) := by
  have l1 := (List.getElem?_eq_some_iff.1 h1).1
  have l2 := (List.getElem?_eq_some_iff.1 h2).1
  rw [List.drop_eq_getElem_cons l1, List.drop_eq_getElem_cons l2, (List.getElem?_eq_some_iff.1 h1).2, (List.getElem?_eq_some_iff.1 h2).2]
  rfl
theorem fitsL_end {S : List (List Int)} {F : List Int} {j : Nat} (h : S.length ≤ j) : fitsL (S.drop j) F = true := by
  rw [List.drop_eq_nil_iff.2 h]; rfl
theorem insL_ne (n : Int) (l : List Int) : insL n l ≠ [] := by
  cases l with
  | nil => simp [insL]
  | cons x l => unfold insL; split <;> (try split) <;> simp

set_option maxRecDepth 100000 in
set_option maxHeartbeats 2000000 in
theorem step_ok (A : Au) (v sv : Value) (sym : Int) (S : List (List Int)) (w : World) (h : IsAu w v A) (hs : IsLs w sv S) (hfit : ∀ r ∈ A.ru, r.sym = sym → S.length ≤ r.fr.length) (hlen : A.ru.length ≤ 100) :
    Calls Tryd.prog 96 #[v, .int .i64 sym, sv] w fun e w' => (∃ u, e = .returned u ∧ IsIntsS (fun c => w.heap.size ≤ c) w' u (stepL A.ru sym S []) ∧ (stepL A.ru sym S [] = [] → u = .slice none 0 0)) ∧ Below w.heap.size w w' := by
  obtain ⟨fv, rv, rfl, hf, hr⟩ := h
  obtain ⟨st, fin, ru⟩ := A
  simp only at *
  have hbw : Below w.heap.size w (w.alloc (.cells #[.int .i64 st, fv, rv] 27)) := (Below.refl _ w).alloc (Nat.le_refl _) _
  have HX := Lib.hid (Blk.new w 27 #[.int .i64 st, fv, rv])
  have HRU := Lib.hid hr
  have HS := Lib.hid hs
  have HFIT := Lib.hid hfit
  have HB := Lib.hid hbw
  obtain ⟨p1, c1, rfl, _⟩ := hf
  obtain ⟨pr, cr, rfl, hr3, hr4, _⟩ := hr
  obtain ⟨ps, cs, rfl, hs3, hs4, _⟩ := hs
  unfold maxLen at hr4 hs4
  clear hbw hfit
  go_enter Tryd.func96, Tryd.ntmps96
  go_wp2_with fail
  go_loopw [7, 15] (fun ov iv wr => ∃ k : Nat, iv = .int .i64 (k : Nat) ∧ k ≤ ru.length ∧ Hid (IsIntsS (fun c => w.heap.size ≤ c) wr ov (stepL (ru.take k) sym S [])) ∧ Hid (stepL (ru.take k) sym S [] = [] → ov = .slice none 0 0) ∧ Hid (Below w.heap.size w wr) ∧ Hid (Blk wr w.heap.size 27 #[.int .i64 st, .slice p1 fin.length c1, .slice pr ru.length cr]))
    (fun _ iv _ => ru.length - (intOf iv).toNat)
  case atStart => exact ⟨0, rfl, by omega, Lib.hid ⟨none, 0, rfl, Nat.le_refl _, by decide, fun h => absurd rfl h⟩, Lib.hid (fun _ => rfl), HB, HX⟩
  case round =>
    rename World => wr
    obtain ⟨k, rfl, hk, HO, HN, HBr, HXr⟩ := hrel
    have hs0 := HXr.out.lt
    by_cases hlt : k < ru.length
    · obtain ⟨r, hrk⟩ : ∃ r, ru[k]? = some r := ⟨_, List.getElem?_eq_getElem hlt⟩
      obtain ⟨pr', cr', e1, -, -, hcl⟩ := HRU.out
      simp only [Value.slice.injEq] at e1
      obtain ⟨rfl, -, rfl⟩ := e1
      obtain ⟨b, o, e2, hcl2⟩ := hcl (fun h => by simp [h] at hlt)
      subst e2
      obtain ⟨q0, ⟨u, q1, hu⟩, q2⟩ := (hcl2 k r hrk).below HBr.out
      have HU := Lib.hid hu
      obtain ⟨pu, cu, rfl, hu3, hu4, _⟩ := hu
      unfold maxLen at hu4
      have HSN : Hid (stepL (ru.take (k + 1)) sym S [] = if stepF sym S r = true then insL r.to (stepL (ru.take k) sym S []) else stepL (ru.take k) sym S []) := Lib.hid (by rw [List.take_add_one, hrk]; exact stepL_snoc _ _ _ _ _)
      have HFR : Hid (r.sym = sym → S.length ≤ r.fr.length) := Lib.hid (HFIT.out r (List.mem_of_getElem? hrk))
      have HLL : Hid ((stepL (ru.take k) sym S []).length ≤ 1000) := Lib.hid (by
        have := stepL_len sym S (ru.take k) []
        simp only [List.length_nil, List.length_take] at this
        omega)
      obtain ⟨rs, fr, to⟩ := r
      simp only at q0 q1 q2 hu3 HU HFR HSN
      have hbl := World.block_lt_of_cell? _ _ q0
      simp only at hbl
      have hlt1 : (k : Int) < (ru.length : Int) := by omega
      clear hrk hcl hcl2
      go_wp2_with fail
      have HB0 := Lib.hid ((Below.refl _ wr).alloc (Nat.le_refl _) (.cells #[.int .i64 rs, .slice pu fr.length cu, .int .i64 to] 70))
      have HN0 := Lib.hid (Blk.new wr 70 #[.int .i64 rs, .slice pu fr.length cu, .int .i64 to])
      clear q0 q1 q2
      go_loopw [10, 11] (fun fv jv wj => ∃ (β : Bool) (j : Nat), fv = .bool β ∧ jv = .int .i64 (j : Nat) ∧ j ≤ S.length ∧ Hid (stepF sym S ⟨rs, fr, to⟩ = (β && fitsL (S.drop j) (fr.drop j))) ∧ Hid (β = true → rs = sym) ∧ Hid (Below (wr.heap.size + 1) (wr.alloc (.cells #[.int .i64 rs, .slice pu fr.length cu, .int .i64 to] 70)) wj))
        (fun _ jv _ => S.length - (intOf jv).toNat)
      case atStart => exact ⟨_, 0, rfl, rfl, by omega, Lib.hid rfl, Lib.hid (fun h => by simpa using h), Lib.hid (Below.refl _ _)⟩
      case round =>
        rename World => wj
        obtain ⟨β, j, rfl, rfl, hj, HEj, HRS, HBj⟩ := hrel
        have hsj := HBj.out.size
        rw [World.size_alloc] at hsj
        have HNj := Lib.hid (HN0.out.below HBj.out (by omega))
        have HBwj := Lib.hid (HB0.out.trans (HBj.out.mono (by omega)))
        have r0 : wj.cell? ⟨wr.heap.size, 1, none⟩ = some (.slice pu fr.length cu) := by rw [HNj.out.cell]; rfl
        have r2 : wj.cell? ⟨wr.heap.size, 2, none⟩ = some (.int .i64 to) := by rw [HNj.out.cell]; rfl
        have rl : wr.heap.size < wj.heap.size := by omega
        cases β with
        | false =>
          have HF : Hid (stepF sym S ⟨rs, fr, to⟩ = false) := Lib.hid (by rw [HEj.out]; rfl)
          go_wp2_with fail
          go_roundw
          case rel => exact ⟨k + 1, by go_num, by omega, Lib.hid (by rw [HSN.out, HF.out]; exact HO.out.below HBwj.out), Lib.hid (by rw [HSN.out, HF.out]; exact HN.out), Lib.hid (HBr.out.trans (HBwj.out.mono HBr.out.size)), Lib.hid (HXr.out.below HBwj.out hs0)⟩
          case measure => simp [intOf]; omega
        | true =>
          have hrs := HRS.out rfl
          by_cases hjl : j < S.length
          · have hfl := HFR.out hrs
            obtain ⟨s, hs⟩ : ∃ s, S[j]? = some s := ⟨_, List.getElem?_eq_getElem hjl⟩
            obtain ⟨f, hf⟩ : ∃ f, fr[j]? = some f := ⟨_, List.getElem?_eq_getElem (by omega)⟩
            obtain ⟨ps', cs', e1, -, -, hsc⟩ := HS.out
            simp only [Value.slice.injEq] at e1
            obtain ⟨rfl, -, rfl⟩ := e1
            obtain ⟨bs, os, e2, hsc2⟩ := hsc (fun h => by simp [h] at hjl)
            subst e2
            obtain ⟨us, t0, hus⟩ := hsc2 j s hs
            have HBW := Lib.hid (HBr.out.trans (HBwj.out.mono HBr.out.size))
            have t1 := cell_later HBW.out t0
            have tl := World.block_lt_of_cell? _ _ t1
            simp only at tl
            have HUS := Lib.hid (hus.below HBW.out)
            obtain ⟨pq, cq, rfl, _⟩ := hus
            obtain ⟨pu', cu', e1, -, -, huc⟩ := HU.out
            simp only [Value.slice.injEq] at e1
            obtain ⟨rfl, -, rfl⟩ := e1
            obtain ⟨bu, ou, e2, huc2⟩ := huc (fun h => by rw [h] at hf; simp at hf)
            subst e2
            have t2 := cell_later HBwj.out (huc2 j f hf)
            have tl2 := World.block_lt_of_cell? _ _ t2
            simp only at tl2
            have HST := Lib.hid (fitsL_drop hs hf)
            have hjl1 : (j : Int) < (S.length : Int) := by omega
            have hjl2 : (j : Int) < (fr.length : Int) := by omega
            have hj0 : (0 : Int) ≤ (j : Int) := by omega
            have HRS2 := Lib.hid hrs
            clear hs hf hsc hsc2 huc huc2 t0 hrs hfl
            go_wp2_with fail
            go_quiet ((go_at_call 43; exact Calls.quiet_of_same ((in_ok s _ f _ (HUS.out.below (below_drewN (Below.refl _ _) _))).mono fun _ _ h => ⟨h.1, h.2.symm⟩)))
            go_wp2_with fail
            go_roundw
            case rel => exact ⟨inB s f, j + 1, rfl, by go_num, by omega, Lib.hid (by rw [HEj.out, HST.out]; rfl), Lib.hid (fun _ => HRS2.out), Lib.hid (below_drewN HBj.out _)⟩
            case measure => simp [intOf]; omega
          · have hjn : S.length ≤ j := by omega
            have HT : Hid (stepF sym S ⟨rs, fr, to⟩ = true) := Lib.hid (by rw [HEj.out, fitsL_end hjn]; rfl)
            have HRS2 := Lib.hid hrs
            have HINS := Lib.hid (insert_ok (fun c => w.heap.size ≤ c) _ u7 to wj (HO.out.below HBwj.out) HLL.out HN.out)
            clear hrs hjl
            go_wp2_with fail
            refine HINS.out.mono ?_
            rintro e w3 ⟨⟨u3, rfl, hu3⟩, hb3⟩
            have HB3 := Lib.hid (HBwj.out.trans (hb3.mono HBwj.out.size))
            have HU3 := Lib.hid (hu3.mono (fun c _ h => h.elim id (fun h => by have := HBr.out.size; omega)))
            clear hb3 hu3
            go_wp2_with fail
            go_roundw
            case rel => exact ⟨k + 1, by go_num, by omega, Lib.hid (by rw [HSN.out, HT.out]; exact HU3.out), Lib.hid (by rw [HSN.out, HT.out]; intro h; exact absurd h (insL_ne _ _)), Lib.hid (HBr.out.trans (HB3.out.mono HBr.out.size)), Lib.hid (HXr.out.below HB3.out hs0)⟩
            case measure => simp [intOf]; omega
    · have hke : k = ru.length := by omega
      subst hke
      rw [List.take_length] at HO HN
      clear hlt
      go_wp2_with fail
      go_ret
      exact ⟨⟨_, rfl, HO.out, HN.out⟩, HBr.out⟩

end Go.Proofs.YtopineheelkcmaaDoor
