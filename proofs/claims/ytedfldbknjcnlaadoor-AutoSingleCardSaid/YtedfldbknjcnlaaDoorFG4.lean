/- ref03.Step. ref03.Of, Has. -/
import Derived.Test.YtedfldbknjcnlaaDoorIns
import Derived.OwnWalk
namespace Go.Proofs.YtedfldbknjcnlaaDoor
section
open Go.RowKit Go.Shelf

/-- A list of lists of numbers. -/
def IsLs (w : World) (v : Value) (L : List (List Int)) : Prop :=
  ∃ p c, v = .slice p L.length c ∧ L.length ≤ c ∧ c ≤ maxLen ∧ (L ≠ [] → ∃ b o, p = some ⟨b, o, none⟩ ∧ ∀ (i : Nat) (x : List Int), L[i]? = some x → ∃ u, w.cell? ⟨b, o + i, none⟩ = some u ∧ IsInts w u x)
theorem IsLs.below {w w' : World} {v : Value} {L : List (List Int)} (h : IsLs w v L) (hb : Below w.heap.size w w') : IsLs w' v L := by
  obtain ⟨p, c, e, h1, h2, h3⟩ := h
  refine ⟨p, c, e, h1, h2, fun hne => ?_⟩
  obtain ⟨b, o, e, hc⟩ := h3 hne
  refine ⟨b, o, e, fun i x hx => ?_⟩
  obtain ⟨u, h4, h5⟩ := hc i x hx
  exact ⟨u, cell_later hb h4, h5.below hb⟩

theorem stepL_snoc (sym : Int) (S : List (List Int)) (r : Ru) : ∀ (R : List Ru) (out : List Int), stepL (R ++ [r]) sym S out = if stepF sym S r = true then insL r.to (stepL R sym S out) else stepL R sym S out
  | [], out => rfl
  | x :: R, out => by rw [List.cons_append, stepL, stepL_snoc sym S r R, stepL]
theorem fitsL_drop {S : List (List Int)} {F : List Int} {j : Nat} {s : List Int} {f : Int} (h1 : S[j]? = some s) (h2 : F[j]? = some f) : fitsL (S.drop j) (F.drop j) = (inB s f && fitsL (S.drop (j + 1)) (F.drop (j + 1))) := by
  have l1 := (List.getElem?_eq_some_iff.1 h1).1
  have l2 := (List.getElem?_eq_some_iff.1 h2).1
  rw [List.drop_eq_getElem_cons l1, List.drop_eq_getElem_cons l2, (List.getElem?_eq_some_iff.1 h1).2, (List.getElem?_eq_some_iff.1 h2).2]
  rfl
theorem fitsL_end {S : List (List Int)} {F : List Int} {j : Nat} (h : S.length ≤ j) : fitsL (S.drop j) F = true := by
  rw [List.drop_eq_nil_iff.2 h]; rfl
theorem insL_ne (n : Int) (l : List Int) : insL n l ≠ [] := by
  cases l with
  | nil => simp [insL]
  | cons x l => unfold insL; split <;> (try split) <;> simp

set_option maxRecDepth 100000 in
set_option maxHeartbeats 2000000 in
theorem step_ok (A : Au) (v sv : Value) (sym : Int) (S : List (List Int)) (w : World) (h : IsAu w v A) (hs : IsLs w sv S) (hfit : ∀ r ∈ A.ru, r.sym = sym → S.length ≤ r.fr.length) (hlen : A.ru.length ≤ 1000) :
    Calls Tryd.prog 96 #[v, .int .i64 sym, sv] w fun e w' => (∃ u, e = .returned u ∧ IsIntsS (fun c => w.heap.size ≤ c) w' u (stepL A.ru sym S []) ∧ (stepL A.ru sym S [] = [] → u = .slice none 0 0)) ∧ Below w.heap.size w w' := by
  obtain ⟨fv, rv, rfl, hf, hr⟩ := h
  obtain ⟨st, fin, ru⟩ := A
  simp only at *
  have hbw : Below w.heap.size w (w.alloc (.cells #[.int .i64 st, fv, rv] 27)) := (Below.refl _ w).alloc (Nat.le_refl _) _
  have HX := Lib.hid (Blk.new w 27 #[.int .i64 st, fv, rv])
  have HRU := Lib.hid hr
  have HS := Lib.hid hs
  have HFIT := Lib.hid hfit
  have HB := Lib.hid hbw
  obtain ⟨p1, c1, rfl, _⟩ := hf
  obtain ⟨pr, cr, rfl, hr3, hr4, _⟩ := hr
  obtain ⟨ps, cs, rfl, hs3, hs4, _⟩ := hs
  unfold maxLen at hr4 hs4
  clear hbw hfit
  go_enter Tryd.func96, Tryd.ntmps96
  go_wp2_with fail
  go_loopw [7, 15] (fun ov iv wr => ∃ k : Nat, iv = .int .i64 (k : Nat) ∧ k ≤ ru.length ∧ Hid (IsIntsS (fun c => w.heap.size ≤ c) wr ov (stepL (ru.take k) sym S [])) ∧ Hid (stepL (ru.take k) sym S [] = [] → ov = .slice none 0 0) ∧ Hid (Below w.heap.size w wr) ∧ Hid (Blk wr w.heap.size 27 #[.int .i64 st, .slice p1 fin.length c1, .slice pr ru.length cr]))
    (fun _ iv _ => ru.length - (intOf iv).toNat)
  case atStart => exact ⟨0, rfl, by omega, Lib.hid ⟨none, 0, rfl, Nat.le_refl _, by decide, fun h => absurd rfl h⟩, Lib.hid (fun _ => rfl), HB, HX⟩
  case round =>
    rename World => wr
    obtain ⟨k, rfl, hk, HO, HN, HBr, HXr⟩ := hrel
    have hs0 := HXr.out.lt
    by_cases hlt : k < ru.length
    · obtain ⟨r, hrk⟩ : ∃ r, ru[k]? = some r := ⟨_, List.getElem?_eq_getElem hlt⟩
      obtain ⟨pr', cr', e1, -, -, hcl⟩ := HRU.out
      simp only [Value.slice.injEq] at e1
      obtain ⟨rfl, -, rfl⟩ := e1
      obtain ⟨b, o, e2, hcl2⟩ := hcl (fun h => by simp [h] at hlt)
      subst e2
      obtain ⟨q0, ⟨u, q1, hu⟩, q2⟩ := (hcl2 k r hrk).below HBr.out
      have HU := Lib.hid hu
      obtain ⟨pu, cu, rfl, hu3, hu4, _⟩ := hu
      unfold maxLen at hu4
      have HSN : Hid (stepL (ru.take (k + 1)) sym S [] = if stepF sym S r = true then insL r.to (stepL (ru.take k) sym S []) else stepL (ru.take k) sym S []) := Lib.hid (by rw [List.take_add_one, hrk]; exact stepL_snoc _ _ _ _ _)
      have HFR : Hid (r.sym = sym → S.length ≤ r.fr.length) := Lib.hid (HFIT.out r (List.mem_of_getElem? hrk))
      have HLL : Hid ((stepL (ru.take k) sym S []).length ≤ 1000) := Lib.hid (by
        have := stepL_len sym S (ru.take k) []
        simp only [List.length_nil, List.length_take] at this
        omega)
      obtain ⟨rs, fr, to⟩ := r
      simp only at q0 q1 q2 hu3 HU HFR HSN
      have hbl := World.block_lt_of_cell? _ _ q0
      simp only at hbl
      have hlt1 : (k : Int) < (ru.length : Int) := by omega
      clear hrk hcl hcl2
      go_wp2_with fail
      have HB0 := Lib.hid ((Below.refl _ wr).alloc (Nat.le_refl _) (.cells #[.int .i64 rs, .slice pu fr.length cu, .int .i64 to] 70))
      have HN0 := Lib.hid (Blk.new wr 70 #[.int .i64 rs, .slice pu fr.length cu, .int .i64 to])
      clear q0 q1 q2
      go_loopw [10, 11] (fun fv jv wj => ∃ (β : Bool) (j : Nat), fv = .bool β ∧ jv = .int .i64 (j : Nat) ∧ j ≤ S.length ∧ Hid (stepF sym S ⟨rs, fr, to⟩ = (β && fitsL (S.drop j) (fr.drop j))) ∧ Hid (β = true → rs = sym) ∧ Hid (Below (wr.heap.size + 1) (wr.alloc (.cells #[.int .i64 rs, .slice pu fr.length cu, .int .i64 to] 70)) wj))
        (fun _ jv _ => S.length - (intOf jv).toNat)
      case atStart => exact ⟨_, 0, rfl, rfl, by omega, Lib.hid rfl, Lib.hid (fun h => by simpa using h), Lib.hid (Below.refl _ _)⟩
      case round =>
        rename World => wj
        obtain ⟨β, j, rfl, rfl, hj, HEj, HRS, HBj⟩ := hrel
        have hsj := HBj.out.size
        rw [World.size_alloc] at hsj
        have HNj := Lib.hid (HN0.out.below HBj.out (by omega))
        have HBwj := Lib.hid (HB0.out.trans (HBj.out.mono (by omega)))
        have r0 : wj.cell? ⟨wr.heap.size, 1, none⟩ = some (.slice pu fr.length cu) := by rw [HNj.out.cell]; rfl
        have r2 : wj.cell? ⟨wr.heap.size, 2, none⟩ = some (.int .i64 to) := by rw [HNj.out.cell]; rfl
        have rl : wr.heap.size < wj.heap.size := by omega
        cases β with
        | false =>
          have HF : Hid (stepF sym S ⟨rs, fr, to⟩ = false) := Lib.hid (by rw [HEj.out]; rfl)
          go_wp2_with fail
          go_roundw
          case rel => exact ⟨k + 1, by go_num, by omega, Lib.hid (by rw [HSN.out, HF.out]; exact HO.out.below HBwj.out), Lib.hid (by rw [HSN.out, HF.out]; exact HN.out), Lib.hid (HBr.out.trans (HBwj.out.mono HBr.out.size)), Lib.hid (HXr.out.below HBwj.out hs0)⟩
          case measure => simp [intOf]; omega
        | true =>
          have hrs := HRS.out rfl
          by_cases hjl : j < S.length
          · have hfl := HFR.out hrs
            obtain ⟨s, hs⟩ : ∃ s, S[j]? = some s := ⟨_, List.getElem?_eq_getElem hjl⟩
            obtain ⟨f, hf⟩ : ∃ f, fr[j]? = some f := ⟨_, List.getElem?_eq_getElem (by omega)⟩
            obtain ⟨ps', cs', e1, -, -, hsc⟩ := HS.out
            simp only [Value.slice.injEq] at e1
            obtain ⟨rfl, -, rfl⟩ := e1
            obtain ⟨bs, os, e2, hsc2⟩ := hsc (fun h => by simp [h] at hjl)
            subst e2
            obtain ⟨us, t0, hus⟩ := hsc2 j s hs
            have HBW := Lib.hid (HBr.out.trans (HBwj.out.mono HBr.out.size))
            have t1 := cell_later HBW.out t0
            have tl := World.block_lt_of_cell? _ _ t1
            simp only at tl
            have HUS := Lib.hid (hus.below HBW.out)
            obtain ⟨pq, cq, rfl, _⟩ := hus
            obtain ⟨pu', cu', e1, -, -, huc⟩ := HU.out
            simp only [Value.slice.injEq] at e1
            obtain ⟨rfl, -, rfl⟩ := e1
            obtain ⟨bu, ou, e2, huc2⟩ := huc (fun h => by rw [h] at hf; simp at hf)
            subst e2
            have t2 := cell_later HBwj.out (huc2 j f hf)
            have tl2 := World.block_lt_of_cell? _ _ t2
            simp only at tl2
            have HST := Lib.hid (fitsL_drop hs hf)
            have hjl1 : (j : Int) < (S.length : Int) := by omega
            have hjl2 : (j : Int) < (fr.length : Int) := by omega
            have hj0 : (0 : Int) ≤ (j : Int) := by omega
            have HRS2 := Lib.hid hrs
            clear hs hf hsc hsc2 huc huc2 t0 hrs hfl
            go_wp2_with fail
            go_quiet ((go_at_call 43; exact Calls.quiet_of_same ((in_ok s _ f _ (HUS.out.below (below_drewN (Below.refl _ _) _))).mono fun _ _ h => ⟨h.1, h.2.symm⟩)))
            go_wp2_with fail
            go_roundw
            case rel => exact ⟨inB s f, j + 1, rfl, by go_num, by omega, Lib.hid (by rw [HEj.out, HST.out]; rfl), Lib.hid (fun _ => HRS2.out), Lib.hid (below_drewN HBj.out _)⟩
            case measure => simp [intOf]; omega
          · have hjn : S.length ≤ j := by omega
            have HT : Hid (stepF sym S ⟨rs, fr, to⟩ = true) := Lib.hid (by rw [HEj.out, fitsL_end hjn]; rfl)
            have HRS2 := Lib.hid hrs
            have HINS := Lib.hid (insert_ok (fun c => w.heap.size ≤ c) _ u7 to wj (HO.out.below HBwj.out) HLL.out HN.out)
            clear hrs hjl
            go_wp2_with fail
            refine HINS.out.mono ?_
            rintro e w3 ⟨⟨u3, rfl, hu3⟩, hb3⟩
            have HB3 := Lib.hid (HBwj.out.trans (hb3.mono HBwj.out.size))
            have HU3 := Lib.hid (hu3.mono (fun c _ h => h.elim id (fun h => by have := HBr.out.size; omega)))
            clear hb3 hu3
            go_wp2_with fail
            go_roundw
            case rel => exact ⟨k + 1, by go_num, by omega, Lib.hid (by rw [HSN.out, HT.out]; exact HU3.out), Lib.hid (by rw [HSN.out, HT.out]; intro h; exact absurd h (insL_ne _ _)), Lib.hid (HBr.out.trans (HB3.out.mono HBr.out.size)), Lib.hid (HXr.out.below HB3.out hs0)⟩
            case measure => simp [intOf]; omega
    · have hke : k = ru.length := by omega
      subst hke
      rw [List.take_length] at HO HN
      clear hlt
      go_wp2_with fail
      go_ret
      exact ⟨⟨_, rfl, HO.out, HN.out⟩, HBr.out⟩
end

section
open Go.RowKit Go.Shelf

/-- The states at the roots of a list of trees. -/
def ofL (R : List Ru) : Hg → List (List Int)
  | .nil => []
  | .cons l k r => stepL R l (ofL R k) [] :: ofL R r
theorem ofL_len (R : List Ru) (h : Hg) : (ofL R h).length = h.len := by
  induction h with
  | nil => rfl
  | cons l k r _ ih => simp [ofL, Hg.len, ih]
/-- Rules have as many states as nodes with their symbol have subtrees, at least. -/
def OkH (R : List Ru) : Hg → Prop
  | .nil => True
  | .cons l k r => (∀ x ∈ R, x.sym = l → k.len ≤ x.fr.length) ∧ OkH R k ∧ OkH R r

theorem ownsRow_below {w w' : World} {base : Nat} {e : TypeId} {size n : Nat} {v : Value} {xs : List Value} (h : w.ownsRow base e size v n xs) (hb : Below w.heap.size w w') : w'.ownsRow base e size v n xs := by
  refine ⟨h.1, ?_⟩
  rcases h.2 with hn | ⟨g, cap, cur, rfl, hbg, hg, rest⟩
  · exact .inl hn
  · exact .inr ⟨g, cap, cur, rfl, hbg, (hb.block g (Array.getElem?_eq_some_iff.1 hg).1).trans hg, rest⟩

/-- A list of lists of numbers under way. -/
structure OS (N1 : Nat) (P : List (List Int)) (W : World) (D : List (List Int × Value)) (va : Value) : Prop where
  eq : D.map (·.1) = P
  own : W.ownsRow N1 22 1 va D.length (D.map (·.2))
  kids : ∀ x ∈ D, IsIntsS (fun c => N1 ≤ c ∧ va.ownBlock ≠ some c) W x.2 x.1
theorem OS.below {N1 : Nat} {P : List (List Int)} {W W' : World} {D : List (List Int × Value)} {va : Value} (h : OS N1 P W D va) (hb : Below W.heap.size W W') : OS N1 P W' D va :=
  ⟨h.eq, ownsRow_below h.own hb, fun x hx => (h.kids x hx).below hb⟩
theorem OS.step {N1 : Nat} {P : List (List Int)} {W W' : World} {D : List (List Int × Value)} {va v' u : Value} {l : List Int} (h : OS N1 P W D va) (hu : IsIntsS (fun c => N1 ≤ c ∧ va.ownBlock ≠ some c) W u l)
    (hg : W.grownBy W' va.ownBlock) (hat : v'.ownBlock = va.ownBlock ∨ v'.ownBlock = some W.heap.size) (hown : W'.ownsRow N1 22 1 v' (D.length + 1) (D.map (·.2) ++ [u])) :
    OS N1 (P ++ [l]) W' (D ++ [(l, u)]) v' := by
  have hk : Kp (fun c => va.ownBlock ≠ some c) W W' := (Kp.refl _ _).grown hg (fun k e hs => absurd e hs)
  have hmv : ∀ {x y}, IsIntsS (fun c => N1 ≤ c ∧ va.ownBlock ≠ some c) W x y → IsIntsS (fun c => N1 ≤ c ∧ v'.ownBlock ≠ some c) W' x y := fun hx =>
    ((hx.mono (S' := fun c => (N1 ≤ c ∧ va.ownBlock ≠ some c) ∧ v'.ownBlock ≠ some c) (fun c hc h => ⟨h, by
      rcases hat with e | e
      · rw [e]; exact h.2
      · rw [e]; intro e2; cases e2; omega⟩)).kp (hk.mono fun c _ g => g.1.2)).mono (fun c _ g => ⟨g.1.1, g.2⟩)
  refine ⟨by rw [List.map_append, h.eq]; rfl, by rw [List.map_append, List.length_append]; exact hown, fun x hx => ?_⟩
  rcases List.mem_append.1 hx with hx | hx
  · exact hmv (h.kids x hx)
  · rw [List.mem_singleton] at hx; subst hx; exact hmv hu
theorem OS.isLs {N1 : Nat} {P : List (List Int)} {W : World} {D : List (List Int × Value)} {va : Value} (h : OS N1 P W D va) : IsLs W va P := by
  have hl : P.length = D.length := by rw [← h.eq, List.length_map]
  rcases h.own.2 with ⟨e, hn⟩ | ⟨g, cap, cur, e, hg, _, h1, h2, _⟩
  · have hnil : P = [] := List.eq_nil_of_length_eq_zero (by omega)
    rw [hnil, e]
    exact ⟨none, 0, rfl, Nat.le_refl _, by decide, fun h => absurd rfl h⟩
  · rw [e]
    refine ⟨some ⟨g, 0, none⟩, cap, by rw [hl], by omega, h2, fun _ => ⟨g, 0, rfl, fun i x hx => ?_⟩⟩
    have hi : i < D.length := by rw [← hl]; exact (List.getElem?_eq_some_iff.1 hx).1
    rw [← h.eq, List.getElem?_map, Option.map_eq_some_iff] at hx
    obtain ⟨y, hy, rfl⟩ := hx
    have hown := h.own
    rw [e] at hown
    exact ⟨y.2, by rw [Nat.zero_add, hown.cellAt i (by omega), List.getElem?_map, hy]; rfl, (h.kids y (List.mem_of_getElem? hy)).isInts⟩

theorem Tryd.infoInts : (Tryd.prog.info? 22).map (fun i => (i.zero, i.size, i.bytes)) = some (some (.slice none 0 0), 1, 24) := by kernel_rfl

set_option maxRecDepth 100000 in
set_option maxHeartbeats 2000000 in
theorem of_ok (A : Au) (hlen : A.ru.length ≤ 1000) : ∀ (N : Nat) (l : Int) (K : Hg) (v vk : Value) (w : World), K.size < N → K.size ≤ 2000 → IsAu w v A → IsH w vk K → (∀ x ∈ A.ru, x.sym = l → K.len ≤ x.fr.length) → OkH A.ru K →
    Calls Tryd.prog 66 #[v, .agg #[.int .i64 l, vk]] w fun e w' => (∃ u, e = .returned u ∧ IsIntsS (fun c => w.heap.size ≤ c) w' u (stepL A.ru l (ofL A.ru K) []) ∧ (stepL A.ru l (ofL A.ru K) [] = [] → u = .slice none 0 0)) ∧ Below w.heap.size w w' := by
  intro N
  induction N with
  | zero => intro l K v vk w h; omega
  | succ N ih =>
    intro l K v vk w hN h2000 hA hK hfit hok
    obtain ⟨i0, hi, hz0, hz1, hz2⟩ := info_parts Tryd.infoInts
    have HIH := Lib.hid ih
    have HA := Lib.hid hA
    have HK := Lib.hid hK
    have HFIT := Lib.hid hfit
    have HI := Lib.hid hi
    obtain ⟨fv, rv, rfl, hf, hr⟩ := hA
    have hbw : Below w.heap.size w ((w.alloc (.cells #[.int .i64 A.st, fv, rv] 27)).alloc (.cells #[.int .i64 l, vk] 43)) := ((Below.refl _ w).alloc (Nat.le_refl _) _).alloc (by simp) _
    have HX0 := Lib.hid ((Blk.new w 27 #[.int .i64 A.st, fv, rv]).alloc (.cells #[.int .i64 l, vk] 43))
    have HX1 : Hid (Blk ((w.alloc (.cells #[.int .i64 A.st, fv, rv] 27)).alloc (.cells #[.int .i64 l, vk] 43)) (w.heap.size + 1) 43 #[.int .i64 l, vk]) := Lib.hid (by simpa using Blk.new (w.alloc (.cells #[.int .i64 A.st, fv, rv] 27)) 43 #[.int .i64 l, vk])
    have HB := Lib.hid hbw
    obtain ⟨p1, c1, rfl, _⟩ := hf
    obtain ⟨p2, c2, rfl, _, hr4, _⟩ := hr
    obtain ⟨p, c, rfl, hc1, hc2, hrow⟩ := hK
    unfold maxLen at hc2 hr4
    have HROW := Lib.hid hrow
    have HOK0 := Lib.hid hok
    clear ih hfit hi hbw hrow hok
    go_enter Tryd.func66, Tryd.ntmps66
    go_wp2_with fail
    go_loopw [5, 11] (fun ov iv wr => ∃ (k : Nat) (R : Hg) (P : List (List Int)) (D : List (List Int × Value)), iv = .int .i64 (k : Nat) ∧ Hid (k + R.len = K.len) ∧ Hid (P ++ ofL A.ru R = ofL A.ru K) ∧ Hid (OkH A.ru R) ∧ Hid (R.size ≤ K.size) ∧ Hid (D.length = k) ∧
        Hid (R ≠ .nil → ∃ b o, p = some ⟨b, o, none⟩ ∧ Row w R b (o + k * 2)) ∧ Hid (OS (w.heap.size + 2) P wr D ov) ∧ Hid (Below w.heap.size w wr) ∧ Hid (Blk wr w.heap.size 27 #[.int .i64 A.st, .slice p1 A.fin.length c1, .slice p2 A.ru.length c2]) ∧ Hid (Blk wr (w.heap.size + 1) 43 #[.int .i64 l, .slice p K.len c]))
      (fun _ iv _ => K.len - (intOf iv).toNat)
    case atStart => exact ⟨0, K, [], [], rfl, Lib.hid (by simp), Lib.hid rfl, HOK0, Lib.hid (Nat.le_refl _), Lib.hid rfl, Lib.hid (by simpa using HROW.out), Lib.hid ⟨rfl, World.ownsRow_nil _ _ _ _, fun x hx => by cases hx⟩, HB, HX0, HX1⟩
    case round =>
      rename World => wr
      obtain ⟨k, R, P, D, rfl, hk, HE, HOKR, HSZ, HDL, hR, HO, HBr, HX0r, HX1r⟩ := hrel
      have hs1 := HX1r.out.lt
      have hs0 : w.heap.size < wr.heap.size := by omega
      have x0 : wr.cell? ⟨w.heap.size, 0, none⟩ = some (.int .i64 A.st) := by rw [HX0r.out.cell]; rfl
      have x1 : wr.cell? ⟨w.heap.size, 1, none⟩ = some (.slice p1 A.fin.length c1) := by rw [HX0r.out.cell]; rfl
      have x2 : wr.cell? ⟨w.heap.size, 2, none⟩ = some (.slice p2 A.ru.length c2) := by rw [HX0r.out.cell]; rfl
      have y0 : wr.cell? ⟨w.heap.size + 1, 0, none⟩ = some (.int .i64 l) := by rw [HX1r.out.cell]; rfl
      cases R with
      | nil =>
        have hge : K.len ≤ k := by have := hk.out; simp only [Hg.len] at this; omega
        have HP : Hid (P = ofL A.ru K) := Lib.hid (by have := HE.out; rwa [ofL, List.append_nil] at this)
        have hL := HO.out.isLs
        rw [HP.out] at hL
        have HST := Lib.hid (step_ok A _ u5 l (ofL A.ru K) wr (HA.out.below HBr.out) hL (by rw [ofL_len]; exact HFIT.out) hlen)
        obtain ⟨ps, cs, rfl, _⟩ := hL
        clear hR HROW
        go_wp2_with fail
        refine HST.out.mono ?_
        rintro e w3 ⟨⟨u3, rfl, hu3, hn3⟩, hb3⟩
        have HU3 := Lib.hid hu3
        have HN3 := Lib.hid hn3
        have HB3 := Lib.hid (HBr.out.trans (hb3.mono HBr.out.size))
        clear hu3 hn3 hb3
        go_wp2_with fail
        go_ret
        exact ⟨⟨u3, rfl, HU3.out.mono (fun c _ h => by have := HBr.out.size; omega), HN3.out⟩, HB3.out⟩
      | cons l2 K2 R2 =>
        obtain ⟨b, o, hp, hrw⟩ := hR.out (by simp)
        obtain ⟨r1, _, ⟨pk, ck, r2, hk1, hk2, hk3⟩, r4⟩ := hrw
        have hlt : k < K.len := by have := hk.out; simp only [Hg.len] at this; omega
        have q0 : wr.cell? ⟨b, o + k * 2, none⟩ = some (.int .i64 l2) := cell_later HBr.out r1
        have q1 : wr.cell? ⟨b, o + k * 2 + 1, none⟩ = some (.slice pk K2.len ck) := cell_later HBr.out r2
        have HK2 : Hid (IsH w (.slice pk K2.len ck) K2) := Lib.hid ⟨pk, ck, rfl, hk1, hk2, hk3⟩
        have HR2 : Hid (Row w R2 b (o + (k + 1) * 2)) := Lib.hid (by rw [show o + (k + 1) * 2 = o + k * 2 + 2 by omega]; exact r4)
        have HFK := Lib.hid HOKR.out.1
        have HOK2 := Lib.hid HOKR.out.2.1
        have HOKR2 := Lib.hid HOKR.out.2.2
        have HSK : Hid (K2.size < N ∧ K2.size ≤ 2000 ∧ R2.size ≤ K.size ∧ K.size ≤ 2000) := Lib.hid (by have := HSZ.out; simp only [Hg.size] at this; omega)
        have hkb : k < 9223372036854775807 := by omega
        unfold maxLen at hk2
        clear r1 r2 r4 hk3 hR HSZ HROW HOKR
        subst hp
        go_wp2_with fail
        have hHK : IsH (wr.alloc (.cells #[.int .i64 l2, .slice pk K2.len ck] 43)) (.slice pk K2.len ck) K2 := (HK2.out.below HBr.out).below ((Below.refl _ wr).alloc (Nat.le_refl _) _)
        have hAA : IsAu (wr.alloc (.cells #[.int .i64 l2, .slice pk K2.len ck] 43)) (.agg #[.int .i64 A.st, .slice p1 A.fin.length c1, .slice p2 A.ru.length c2]) A := (HA.out.below HBr.out).below ((Below.refl _ wr).alloc (Nat.le_refl _) _)
        have hsk := HSK.out
        refine (HIH.out l2 K2 _ _ _ hsk.1 hsk.2.1 hAA hHK HFK.out HOK2.out).mono ?_
        rintro e w2 ⟨⟨u, rfl, hu, _⟩, hb2⟩
        have hbr2 : Below wr.heap.size wr w2 := ((Below.refl _ wr).alloc (Nat.le_refl _) _).trans (hb2.mono (by simp))
        have hsz2 := hbr2.size
        have hu' : IsIntsS (fun c => w.heap.size + 2 ≤ c ∧ u5.ownBlock ≠ some c) w2 u (stepL A.ru l2 (ofL A.ru K2) []) := hu.mono (fun c _ h => by
          have h2 : wr.heap.size ≤ c := by simp at h; omega
          refine ⟨by omega, fun e => ?_⟩
          rcases HO.out.own.2 with ⟨e2, _⟩ | ⟨g, cap, cur, e2, _, hg, _⟩
          · rw [e2] at e; simp [Value.ownBlock] at e
          · rw [e2] at e
            simp only [Value.ownBlock, Option.some.injEq] at e
            have := (Array.getElem?_eq_some_iff.1 hg).1
            omega)
        generalize hgL : stepL A.ru l2 (ofL A.ru K2) [] = L at hu hu'
        have HLE := Lib.hid hgL
        clear hgL
        obtain ⟨pu, cu, rfl, _⟩ := id hu
        have HU := Lib.hid (hu'.kp ((Kp.refl _ w2).alloc (.cells #[.slice pu L.length cu] 22)))
        have HO2 := Lib.hid ((HO.out.below (hbr2.mono (Nat.le_refl _))).below ((Below.refl _ w2).alloc (by omega) (.cells #[.slice pu L.length cu] 22)))
        have HX0' := Lib.hid (HX0r.out.below hbr2 hs0)
        have HX1' := Lib.hid (HX1r.out.below hbr2 hs1)
        have HB2 := Lib.hid (HBr.out.trans (hbr2.mono HBr.out.size))
        have HN3 := Lib.hid (Blk.new w2 22 #[.slice pu L.length cu])
        have hdl := HDL.out
        clear hu hu' hHK hAA hb2 hbr2
        go_wp2_with (at_builtin; go_loud (refine wpList_append_own_at _ rfl (.tmp 15) (.tmp 19) 114 rfl (w.heap.size + 2) 22 i0 _ 1 24 Tryd.underlying114 HI.out hz0 hz1 hz2 rfl (by decide) u5 D.length (D.map (·.2)) rfl HO2.out.own ⟨w2.heap.size, 0, none⟩ 1 1 [.slice pu L.length cu] rfl rfl ?c1 ?c2 ?c3 ?c4 ?c5 ?_))
        case c1 =>
          intro a x hx
          rw [show ((⟨w2.heap.size, 0, none⟩ : Addr).add a) = ⟨w2.heap.size, a, none⟩ by unfold Addr.add; split <;> simp_all, HN3.out.cell]
          simpa using hx
        case c2 =>
          intro x hx
          simp only [List.mem_cons, List.not_mem_nil, or_false] at hx
          rcases hx with rfl; rfl
        case c3 => have := K.len_le_size; simp only [maxLen]; omega
        case c4 => have := K.len_le_size; omega
        case c5 => have := HB2.out.size; simp; omega
        intro v' w4 hown hgr _ hat'
        have hat2 : v'.ownBlock = u5.ownBlock ∨ v'.ownBlock = some (w2.alloc (.cells #[.slice pu L.length cu] 22)).heap.size := by simpa using hat'
        rw [← hdl] at hown
        have HO4 := Lib.hid (HO2.out.step HU.out hgr hat2 hown)
        have hown5 : ∀ q, u5.ownBlock = some q → w.heap.size + 2 ≤ q := fun q e => by
          rcases HO2.out.own.2 with ⟨e2, _⟩ | ⟨g, cap, cur, e2, hbg, _⟩
          · rw [e2] at e; simp [Value.ownBlock] at e
          · rw [e2] at e
            simp only [Value.ownBlock, Option.some.injEq] at e
            omega
        have HB4 : Hid (Below w.heap.size w w4) := Lib.hid ((HB2.out.alloc HB2.out.size _).grown hgr (by have := HB2.out.size; simp; omega) (fun q e => by have := hown5 q e; omega))
        have hk4 : Kp (fun c => u5.ownBlock ≠ some c) (w2.alloc (.cells #[.slice pu L.length cu] 22)) w4 := (Kp.refl _ _).grown hgr (fun k e hs => absurd e hs)
        have HX04 := Lib.hid ((HX0'.out.alloc _).kp hk4 (fun e => by have := hown5 _ e; omega))
        have HX14 := Lib.hid ((HX1'.out.alloc _).kp hk4 (fun e => by have := hown5 _ e; omega))
        have HE2 : Hid ((P ++ [L]) ++ ofL A.ru R2 = ofL A.ru K) := Lib.hid (by rw [← HE.out, ofL, HLE.out]; simp)
        clear hown hgr hat' hat2 hown5 hk4 HO HO2 HU HX0' HX1' HX0r HX1r HBr HB2 HN3 HE HLE
        go_wp2_with fail
        refine ⟨⟨k + 1, R2, P ++ [L], D ++ [(L, .slice pu L.length cu)], by go_num, Lib.hid (by have := hk.out; simp only [Hg.len] at this; omega), HE2, HOKR2, Lib.hid HSK.out.2.2.1, Lib.hid (by simp [hdl]), Lib.hid (fun _ => ⟨b, o, rfl, HR2.out⟩), HO4, HB4, HX04, HX14⟩, ?_⟩
        simp [intOf]; omega
end

end Go.Proofs.YtedfldbknjcnlaaDoor
