/- cmp.Compare, cmp.Or, slices.CompareFunc over marks; tree.Compare. -/
import Derived.Test.YthhliogcafmnfaaDoorTMarks
import Derived.Deep.RegionHeld3
namespace Go.Proofs.YthhliogcafmnfaaDoor
open Go.RowKit Go.Shelf

def cmpI (a b : Int) : Int := if a < b then -1 else if b < a then 1 else 0
def orI (a b : Int) : Int := if a = 0 then b else a
def cmpM (x y : Int × Int) : Int := orI (cmpI x.1 y.1) (cmpI x.2 y.2)
def lexM : List (Int × Int) → List (Int × Int) → Int
  | [], [] => 0
  | [], _ :: _ => -1
  | _ :: _, [] => 1
  | x :: xs, y :: ys => orI (cmpM x y) (lexM xs ys)

theorem nan_ok (a : Int) (w : World) : Calls Tryd.prog 113 #[.int .i64 a] w fun e w' => e = .returned (.bool false) ∧ w = w' := by
  go_enter Tryd.func113, Tryd.ntmps113
  go_wp2_with fail
  go_ret
  simp

set_option maxHeartbeats 400000 in
theorem cmpI_ok (a b : Int) (w : World) : Calls Tryd.prog 65 #[.int .i64 a, .int .i64 b] w fun e w' => e = .returned (.int .i64 (cmpI a b)) ∧ w = w' := by
  have HN := Lib.hid (fun a w => nan_ok a w)
  by_cases h1 : a < b
  · have hc : Hid (cmpI a b = -1) := Lib.hid (by simp [cmpI, h1])
    go_enter Tryd.func65, Tryd.ntmps65
    go_wp2_with fail
    refine (HN.out _ _).mono ?_
    rintro e w1 ⟨rfl, rfl⟩
    go_wp2_with fail
    refine (HN.out _ _).mono ?_
    rintro e w1 ⟨rfl, rfl⟩
    go_wp2_with fail
    go_ret
    exact ⟨by rw [hc.out]; rfl, rfl⟩
  · have h1' : b ≤ a := by omega
    have hd1 : decide (a < b) = false := decide_eq_false h1
    by_cases h2 : b < a
    · have hc : Hid (cmpI a b = 1) := Lib.hid (by simp [cmpI, h1, h2])
      clear h1
      go_enter Tryd.func65, Tryd.ntmps65
      go_wp2_with fail
      refine (HN.out _ _).mono ?_
      rintro e w1 ⟨rfl, rfl⟩
      go_wp2_with fail
      refine (HN.out _ _).mono ?_
      rintro e w1 ⟨rfl, rfl⟩
      go_wp2_with fail
      go_ret
      exact ⟨by rw [hc.out]; rfl, rfl⟩
    · have h2' : a ≤ b := by omega
      have hd2 : decide (b < a) = false := decide_eq_false h2
      have hc : Hid (cmpI a b = 0) := Lib.hid (by simp [cmpI, h1, h2])
      clear h1 h2
      go_enter Tryd.func65, Tryd.ntmps65
      go_wp2_with fail
      refine (HN.out _ _).mono ?_
      rintro e w1 ⟨rfl, rfl⟩
      go_wp2_with fail
      refine (HN.out _ _).mono ?_
      rintro e w1 ⟨rfl, rfl⟩
      go_wp2_with fail
      go_ret
      exact ⟨by rw [hc.out]; rfl, rfl⟩

set_option maxHeartbeats 400000 in
theorem orI_ok (x y : Int) (g : Nat) (w : World) (h0 : w.cell? ⟨g, 0, none⟩ = some (.int .i64 x)) (h1 : w.cell? ⟨g, 1, none⟩ = some (.int .i64 y)) :
    Calls Tryd.prog 64 #[.slice (some ⟨g, 0, none⟩) 2 2] w fun e w' => e = .returned (.int .i64 (orI x y)) ∧ w = w' := by
  have hg := World.block_lt_of_cell? _ _ h0
  simp only at hg
  go_enter Tryd.func64, Tryd.ntmps64
  go_wp2_with fail
  go_loop [8] (fun i => ∃ k : Nat, i = .int .i64 k ∧ Hid ((k = 0 ∨ (k = 1 ∧ x = 0)) ∨ (k = 2 ∧ x = 0 ∧ y = 0))) (fun i => 2 - (intOf i).toNat)
  case atStart => exact ⟨0, rfl, Lib.hid (.inl (.inl rfl))⟩
  case round =>
    obtain ⟨k, rfl, hk⟩ := hrel
    rcases hk.out with (rfl | ⟨rfl, hx⟩) | ⟨rfl, hx, hy⟩
    · clear hk
      by_cases hx : x = 0
      · have HX := Lib.hid hx
        have hd : (x != 0) = false := by simp [hx]
        clear hx
        go_wp2_with fail
        go_round
        case rel => exact ⟨1, by go_num, Lib.hid (.inl (.inr ⟨rfl, HX.out⟩))⟩
        case measure => simp [intOf]
      · have HX := Lib.hid hx
        have hd : (x != 0) = true := by simpa using hx
        clear hx
        go_wp2_with fail
        go_ret
        exact ⟨by simp [orI, HX.out], rfl⟩
    · have HX := Lib.hid hx
      clear hk hx
      by_cases hy : y = 0
      · have HY := Lib.hid hy
        have hd : (y != 0) = false := by simp [hy]
        clear hy
        go_wp2_with fail
        go_round
        case rel => exact ⟨2, by go_num, Lib.hid (.inr ⟨rfl, HX.out, HY.out⟩)⟩
        case measure => simp [intOf]
      · have hd : (y != 0) = true := by simpa using hy
        clear hy
        go_wp2_with fail
        go_ret
        exact ⟨by simp [orI, HX.out], rfl⟩
    · have HX := Lib.hid hx
      have HY := Lib.hid hy
      clear hk hx hy
      go_wp2_with fail
      go_ret
      exact ⟨by simp [orI, HX.out, HY.out], rfl⟩

set_option maxRecDepth 100000 in
set_option maxHeartbeats 1000000 in
theorem cmpM_ok (x y : Int × Int) (w : World) :
    Calls Tryd.prog 63 #[.agg #[.int .i64 x.1, .int .i64 x.2], .agg #[.int .i64 y.1, .int .i64 y.2]] w fun e w' => e = .returned (.int .i64 (cmpM x y)) ∧ Below w.heap.size w w' := by
  obtain ⟨p1, s1⟩ := x
  obtain ⟨p2, s2⟩ := y
  simp only
  have HC := Lib.hid (fun a b w => cmpI_ok a b w)
  have hst : ∀ W, Below (w.heap.size + 1 + 1) ((w.alloc (.cells #[.int .i64 p1, .int .i64 s1] 79)).alloc (.cells #[.int .i64 p2, .int .i64 s2] 79)) W →
      W.cell? ⟨w.heap.size, 0, none⟩ = some (.int .i64 p1) ∧ W.cell? ⟨w.heap.size, 1, none⟩ = some (.int .i64 s1) ∧ W.cell? ⟨w.heap.size + 1, 0, none⟩ = some (.int .i64 p2) ∧ W.cell? ⟨w.heap.size + 1, 1, none⟩ = some (.int .i64 s2) := fun W hW => by
    have h1 : Blk W w.heap.size 79 #[.int .i64 p1, .int .i64 s1] := ((Blk.new w _ _).alloc _).below hW (by omega)
    have h2 : Blk W (w.heap.size + 1) 79 #[.int .i64 p2, .int .i64 s2] := by
      have := Blk.new (w.alloc (.cells #[.int .i64 p1, .int .i64 s1] 79)) 79 #[.int .i64 p2, .int .i64 s2]
      rw [World.size_alloc] at this
      exact this.below hW (by omega)
    exact ⟨by rw [h1.cell]; rfl, by rw [h1.cell]; rfl, by rw [h2.cell]; rfl, by rw [h2.cell]; rfl⟩
  have HST := Lib.hid hst
  have hor : Calls Tryd.prog 64 #[.slice (some ⟨w.heap.size + 1 + 1, 0, none⟩) 2 2] ((((w.alloc (.cells #[.int .i64 p1, .int .i64 s1] 79)).alloc (.cells #[.int .i64 p2, .int .i64 s2] 79)).alloc (.cells #[.int .i64 (cmpI p1 p2), .int .i64 (cmpI s1 s2)] 3)).drew) fun e w' => e = .returned (.int .i64 (cmpM (p1, s1) (p2, s2))) ∧ ((((w.alloc (.cells #[.int .i64 p1, .int .i64 s1] 79)).alloc (.cells #[.int .i64 p2, .int .i64 s2] 79)).alloc (.cells #[.int .i64 (cmpI p1 p2), .int .i64 (cmpI s1 s2)] 3)).drew) = w' := by
    have hb := (blk_2 w 3 (.cells #[.int .i64 p1, .int .i64 s1] 79) (.cells #[.int .i64 p2, .int .i64 s2] 79) #[.int .i64 (cmpI p1 p2), .int .i64 (cmpI s1 s2)]).drew
    exact orI_ok (cmpI p1 p2) (cmpI s1 s2) _ _ (by rw [hb.cell]; rfl) (by rw [hb.cell]; rfl)
  have HOR := Lib.hid hor
  clear hst hor
  go_enter Tryd.func63, Tryd.ntmps63
  go_wp2_with fail
  go_region_held3 (fun W => W.cell? ⟨w.heap.size, 0, none⟩ = some (.int .i64 p1) ∧ W.cell? ⟨w.heap.size, 1, none⟩ = some (.int .i64 s1) ∧ W.cell? ⟨w.heap.size + 1, 0, none⟩ = some (.int .i64 p2) ∧ W.cell? ⟨w.heap.size + 1, 1, none⟩ = some (.int .i64 s2))
    (first | exact HST.out _ (Below.refl _ _).drew | exact HST.out _ (((Below.refl _ _).alloc (by simp) _).drew))
    (first
      | (go_at_call_of 65 (Value.int IntKind.i64 p1); refine (HC.out p1 p2 _).mono ?_; rintro e w1 ⟨rfl, rfl⟩)
      | (go_at_call_of 65 (Value.int IntKind.i64 s1); refine (HC.out s1 s2 _).mono ?_; rintro e w1 ⟨rfl, rfl⟩)
      | (go_at_call 64; refine HOR.out.mono ?_; rintro e w1 ⟨rfl, rfl⟩))
  all_goals
    go_wp2_with fail
    go_ret
    exact ⟨rfl, (((((Below.refl _ w).alloc (Nat.le_refl _) _).alloc (by simp) _).alloc (by simp; omega) _).drew)⟩

/-- A list of marks as it lies. -/
def IsM (w : World) (g : Nat) (l : List (Int × Int)) : Prop := ∀ (i : Nat) (x : Int × Int), l[i]? = some x → w.cell? ⟨g, i * 2, none⟩ = some (.int .i64 x.1) ∧ w.cell? ⟨g, i * 2 + 1, none⟩ = some (.int .i64 x.2)
theorem IsM.below {w w' : World} {g : Nat} {l : List (Int × Int)} (h : IsM w g l) (hb : Below w.heap.size w w') : IsM w' g l := fun i x hx => ⟨cell_later hb (h i x hx).1, cell_later hb (h i x hx).2⟩

set_option maxRecDepth 100000 in
set_option maxHeartbeats 1000000 in
theorem lexM_ok (xs ys : List (Int × Int)) (g1 g2 c1 c2 : Nat) (w : World) (h1 : IsM w g1 xs) (h2 : IsM w g2 ys) (hc1 : xs.length ≤ c1) (hc2 : ys.length ≤ c2) (hm1 : c1 ≤ maxLen) (hm2 : c2 ≤ maxLen) :
    Calls Tryd.prog 61 #[.slice (some ⟨g1, 0, none⟩) xs.length c1, .slice (some ⟨g2, 0, none⟩) ys.length c2, .func (.func 63) #[] #[]] w fun e w' => e = .returned (.int .i64 (lexM xs ys)) ∧ Below w.heap.size w w' := by
  have H1 := Lib.hid h1
  have H2 := Lib.hid h2
  have HM := Lib.hid (fun x y w => cmpM_ok x y w)
  unfold maxLen at hm1 hm2
  clear h1 h2
  go_enter Tryd.func61, Tryd.ntmps61
  go_wp2_with fail
  go_loopw [13] (fun i wr => ∃ k : Nat, i = .int .i64 k ∧ k ≤ xs.length ∧ k ≤ ys.length ∧ Hid (lexM xs ys = lexM (xs.drop k) (ys.drop k)) ∧ Hid (Below w.heap.size w wr))
    (fun i _ => xs.length - (intOf i).toNat)
  case atStart => exact ⟨0, rfl, by omega, by omega, Lib.hid rfl, Lib.hid (Below.refl _ _)⟩
  case round =>
    obtain ⟨k, rfl, hk1, hk2, HL, HB⟩ := hrel
    by_cases hlt : k < xs.length
    · obtain ⟨x, hx⟩ : ∃ x, xs[k]? = some x := ⟨_, List.getElem?_eq_getElem hlt⟩
      have hsz := HB.out.size
      have a1 := ((H1.out.below HB.out) k x hx).1
      have a2 := ((H1.out.below HB.out) k x hx).2
      have hg1 := World.block_lt_of_cell? _ _ a1
      simp only at hg1
      have hdx : xs.drop k = x :: xs.drop (k + 1) := by
        rw [List.drop_eq_getElem_cons hlt]
        rw [List.getElem?_eq_getElem hlt] at hx
        simp only [Option.some.injEq] at hx
        rw [hx]
      by_cases hge : ys.length ≤ k
      · have hres : Hid (lexM xs ys = 1) := Lib.hid (by rw [HL.out, hdx, List.drop_of_length_le hge]; rfl)
        clear hdx hx
        go_wp2_with fail
        go_ret
        exact ⟨by rw [hres.out]; rfl, HB.out.alloc hsz _⟩
      · have hlt2 : k < ys.length := by omega
        obtain ⟨y, hy⟩ : ∃ y, ys[k]? = some y := ⟨_, List.getElem?_eq_getElem hlt2⟩
        have b1 := ((H2.out.below HB.out) k y hy).1
        have b2 := ((H2.out.below HB.out) k y hy).2
        have hg2 := World.block_lt_of_cell? _ _ b1
        simp only at hg2
        have hg2' : g2 < wr.heap.size + 1 := by omega
        have hdy : ys.drop k = y :: ys.drop (k + 1) := by
          rw [List.drop_eq_getElem_cons hlt2]
          rw [List.getElem?_eq_getElem hlt2] at hy
          simp only [Option.some.injEq] at hy
          rw [hy]
        have hres : Hid (lexM xs ys = orI (cmpM x y) (lexM (xs.drop (k + 1)) (ys.drop (k + 1)))) := Lib.hid (by rw [HL.out, hdx, hdy]; rfl)
        obtain ⟨x1, x2⟩ := x
        obtain ⟨y1, y2⟩ := y
        have HC := Lib.hid (HM.out (x1, x2) (y1, y2) ((wr.alloc (.cells #[.int .i64 x1, .int .i64 x2] 79)).alloc (.cells #[.int .i64 y1, .int .i64 y2] 79)))
        have HBA := Lib.hid ((HB.out.alloc hsz (.cells #[.int .i64 x1, .int .i64 x2] 79)).alloc (by simp; omega) (.cells #[.int .i64 y1, .int .i64 y2] 79))
        clear hdx hx hdy hy hge
        by_cases hz : cmpM (x1, x2) (y1, y2) = 0
        · have hres2 : Hid (lexM xs ys = lexM (xs.drop (k + 1)) (ys.drop (k + 1))) := Lib.hid (by rw [hres.out, hz]; rfl)
          rw [hz] at HC
          clear hz hres
          go_wp2_with fail
          refine HC.out.mono ?_
          rintro e w1 ⟨rfl, hb1⟩
          have HB1 := Lib.hid hb1
          clear hb1
          go_wp2_with fail
          go_roundw
          case rel => exact ⟨k + 1, by go_num, by omega, by omega, hres2, Lib.hid (HBA.out.trans (HB1.out.mono (by simp; omega)))⟩
          case measure => simp [intOf]; omega
        · have hd : (cmpM (x1, x2) (y1, y2) != 0) = true := by simpa using hz
          have hres2 : Hid (lexM xs ys = cmpM (x1, x2) (y1, y2)) := Lib.hid (by rw [hres.out, orI, if_neg hz])
          clear hz hres
          go_wp2_with fail
          refine HC.out.mono ?_
          rintro e w1 ⟨rfl, hb1⟩
          have HB1 := Lib.hid hb1
          clear hb1
          go_wp2_with fail
          go_ret
          exact ⟨by rw [hres2.out]; rfl, HBA.out.trans (HB1.out.mono (by simp; omega))⟩
    · have hk : k = xs.length := by omega
      subst hk
      by_cases hl : xs.length < ys.length
      · have hres : Hid (lexM xs ys = -1) := Lib.hid (by
          rw [HL.out, List.drop_of_length_le (Nat.le_refl _), List.drop_eq_getElem_cons hl]
          rfl)
        clear hlt
        go_wp2_with fail
        go_ret
        exact ⟨by rw [hres.out]; rfl, HB.out⟩
      · have hl' : ys.length ≤ xs.length := by omega
        have hd : decide ((xs.length : Int) < (ys.length : Int)) = false := decide_eq_false (by omega)
        have hd2 : decide (xs.length < ys.length) = false := decide_eq_false (by omega)
        have hres : Hid (lexM xs ys = 0) := Lib.hid (by
          rw [HL.out, List.drop_of_length_le (Nat.le_refl _), List.drop_of_length_le hl']
          rfl)
        clear hlt hl
        go_wp2_with fail
        go_ret
        exact ⟨by rw [hres.out]; rfl, HB.out⟩

theorem marks_top (l : Int) (K : Hg) (vk : Value) (W : World) (hv : IsH W vk K) (hs : K.size < 900000) :
    Calls Tryd.prog 62 #[.agg #[.int .i64 l, vk], .slice none 0 0] W fun e W' => ∃ g c, e = .returned (.slice (some ⟨g, 0, none⟩) (mkT l K).length c) ∧ (mkT l K).length ≤ c ∧ c ≤ maxLen ∧ IsM W' g (mkT l K) ∧ Below W.heap.size W W' :=
  (marks_any W.heap.size W (Nat.le_refl _) (K.size + 1) l K vk [] (.slice none 0 0) W (by omega) hv (Below.refl _ _) (by simp; omega) (World.ownsRow_nil _ _ _ _) (Nat.le_refl _)).mono fun e W' ⟨v', he, ho, hb⟩ => by
    have hl : (mkT l K).length = K.size + 1 := by simp [mkT, Hg.mk_length]
    simp only [List.length_nil, Nat.zero_add, List.nil_append] at ho
    obtain ⟨g, c, rfl⟩ := ownsRow_succ ho
    have ho' := ho
    rcases ho.2 with ⟨h, _⟩ | ⟨g', cap', cur, h1, _, _, hc, hm, _⟩
    · simp at h
    · simp only [Value.slice.injEq, Option.some.injEq, Addr.mk.injEq, and_true, true_and] at h1
      obtain ⟨rfl, rfl⟩ := h1
      refine ⟨g, c, by rw [he, hl], by omega, hm, fun i x hx => ?_, hb⟩
      have hi : i < K.size + 1 := by rw [← hl]; exact (List.getElem?_eq_some_iff.1 hx).1
      have hsplit : mkT l K = (mkT l K).take i ++ x :: (mkT l K).drop (i + 1) := by
        have := List.take_append_drop i (mkT l K)
        rw [List.drop_eq_getElem_cons (by omega)] at this
        rw [List.getElem?_eq_getElem (by omega), Option.some.injEq] at hx
        rw [hx] at this
        exact this.symm
      have hat := cs2_at ((mkT l K).take i) ((mkT l K).drop (i + 1)) x
      rw [← hsplit, List.length_take, Nat.min_eq_left (by omega)] at hat
      exact ⟨by rw [ho'.cellAt _ (by omega)]; exact hat.1, by rw [ho'.cellAt _ (by omega)]; exact hat.2⟩

set_option maxRecDepth 100000 in
set_option maxHeartbeats 1000000 in
theorem tcompare_ok (s s' : Int) (K K' : Hg) (vk vk' : Value) (w : World) (hv : IsH w vk K) (hv' : IsH w vk' K') (hs : K.size < 900000) (hs' : K'.size < 900000) :
    Calls Tryd.prog 20 #[.agg #[.int .i64 s, vk], .agg #[.int .i64 s', vk']] w fun e w' => e = .returned (.int .i64 (lexM (mkT s K) (mkT s' K'))) ∧ Below w.heap.size w w' := by
  have HV := Lib.hid hv
  have HV' := Lib.hid hv'
  obtain ⟨p, c, rfl, hc1, hc2, _⟩ := hv
  obtain ⟨p', c', rfl, hc1', hc2', _⟩ := hv'
  have hb0 : Below w.heap.size w ((w.alloc (.cells #[.int .i64 s, .slice p K.len c] 27)).alloc (.cells #[.int .i64 s', .slice p' K'.len c'] 27)) := ((Below.refl _ w).alloc (Nat.le_refl _) _).alloc (by simp) _
  have hst : ∀ W, Below (w.heap.size + 1 + 1) ((w.alloc (.cells #[.int .i64 s, .slice p K.len c] 27)).alloc (.cells #[.int .i64 s', .slice p' K'.len c'] 27)) W →
      W.cell? ⟨w.heap.size, 0, none⟩ = some (.int .i64 s) ∧ W.cell? ⟨w.heap.size, 1, none⟩ = some (.slice p K.len c) ∧ W.cell? ⟨w.heap.size + 1, 0, none⟩ = some (.int .i64 s') ∧ W.cell? ⟨w.heap.size + 1, 1, none⟩ = some (.slice p' K'.len c') := fun W hW => by
    have h1 : Blk W w.heap.size 27 #[.int .i64 s, .slice p K.len c] := ((Blk.new w _ _).alloc _).below hW (by omega)
    have h2 : Blk W (w.heap.size + 1) 27 #[.int .i64 s', .slice p' K'.len c'] := by
      have := Blk.new (w.alloc (.cells #[.int .i64 s, .slice p K.len c] 27)) 27 #[.int .i64 s', .slice p' K'.len c']
      rw [World.size_alloc] at this
      exact this.below hW (by omega)
    exact ⟨by rw [h1.cell]; rfl, by rw [h1.cell]; rfl, by rw [h2.cell]; rfl, by rw [h2.cell]; rfl⟩
  have HST := Lib.hid hst
  have HB0 := Lib.hid hb0
  have HL := Lib.hid (fun g1 g2 c1 c2 W h1 h2 a b d e => lexM_ok (mkT s K) (mkT s' K') g1 g2 c1 c2 W h1 h2 a b d e)
  clear hst hb0
  go_enter Tryd.func20, Tryd.ntmps20
  go_wp2_with fail
  go_region_held3 (fun W => W.cell? ⟨w.heap.size, 0, none⟩ = some (.int .i64 s) ∧ W.cell? ⟨w.heap.size, 1, none⟩ = some (.slice p K.len c) ∧ W.cell? ⟨w.heap.size + 1, 0, none⟩ = some (.int .i64 s') ∧ W.cell? ⟨w.heap.size + 1, 1, none⟩ = some (.slice p' K'.len c'))
    (first | exact HST.out _ (Below.refl _ _).drew | exact HST.out _ HB1.out | exact HST.out _ HB2.out | exact HST.out _ HB3.out)
    (first
      | (go_at_call_of 62 (Value.agg #[Value.int IntKind.i64 s, Value.slice p K.len c]); refine (marks_top s K _ _ (HV.out.below HB0.out.drew) hs).mono ?_; rintro e w1 ⟨g1, c1, rfl, ha, hm, hi, hb⟩; have HI1 := Lib.hid hi; have HA1 := Lib.hid (And.intro ha hm); have hz1 : w.heap.size + 1 + 1 ≤ w1.heap.size := (by have := hb.size; simpa using this); have HB1 : Hid (Below (w.heap.size + 1 + 1) ((w.alloc (.cells #[.int .i64 s, .slice p K.len c] 27)).alloc (.cells #[.int .i64 s', .slice p' K'.len c'] 27)) w1) := Lib.hid ((Below.refl _ _).drew.trans (hb.mono (by simp))); clear hb hi ha hm)
      | (go_at_call 62; refine (marks_top s' K' _ _ (HV'.out.below (HB0.out.trans (HB1.out.mono (by omega)))) hs').mono ?_; rintro e w2 ⟨g2, c2, rfl, ha, hm, hi, hb⟩; have HI2 := Lib.hid hi; have HA2 := Lib.hid (And.intro ha hm); have HI1' := Lib.hid (HI1.out.below hb); have HB2 : Hid (Below (w.heap.size + 1 + 1) ((w.alloc (.cells #[.int .i64 s, .slice p K.len c] 27)).alloc (.cells #[.int .i64 s', .slice p' K'.len c'] 27)) w2) := Lib.hid (HB1.out.trans (hb.mono hz1)); have hz2 : w.heap.size + 1 + 1 ≤ w2.heap.size := (by have := hb.size; omega); clear hb hi ha hm)
      | (go_at_call 61; refine (HL.out g1 g2 c1 c2 _ HI1'.out HI2.out HA1.out.1 HA2.out.1 HA1.out.2 HA2.out.2).mono ?_; rintro e w3 ⟨rfl, hb⟩; have HB3 : Hid (Below (w.heap.size + 1 + 1) ((w.alloc (.cells #[.int .i64 s, .slice p K.len c] 27)).alloc (.cells #[.int .i64 s', .slice p' K'.len c'] 27)) w3) := Lib.hid (HB2.out.trans (hb.mono hz2)); clear hb))
  all_goals
    go_wp2_with fail
    go_ret
    exact ⟨rfl, HB0.out.trans (HB3.out.mono (by omega))⟩

end Go.Proofs.YthhliogcafmnfaaDoor
