/- cmp.Compare, cmp.Or of three, slices.Compare; rule.Compare. slices.SortFunc at rules, off the library. -/
import Derived.Test.YtedfldbknjcnlaaDoorFG13
import Derived.Deep.RegionHeld3
import Derived.Shelf.SlSortCmp.WholeK
namespace Go.Proofs.YtedfldbknjcnlaaDoor
section
open Go.RowKit Go.Shelf Go.Maps Go.WideElems

def cmpI (a b : Int) : Int := if a < b then -1 else if b < a then 1 else 0
def orI (a b : Int) : Int := if a = 0 then b else a
def rcmp (x y : Ru) : Int := orI (cmpI x.sym y.sym) (orI (lessL x.fr y.fr) (cmpI x.to y.to))
theorem lessL_snoc : ∀ {l m : List Int} (a b : Int), l.length = m.length → lessL (l ++ [a]) (m ++ [b]) = orI (lessL l m) (cmpI a b)
  | [], [], a, b, _ => by
    show (if a < b then -1 else if b < a then 1 else 0) = _
    rfl
  | x :: l, y :: m, a, b, h => by
    have ih := lessL_snoc (l := l) (m := m) a b (by simpa using h)
    show lessL (x :: (l ++ [a])) (y :: (m ++ [b])) = _
    rw [lessL, lessL, ih]
    split
    · rfl
    · split
      · rfl
      · rfl
  | [], _ :: _, _, _, h => by simp at h
  | _ :: _, [], _, _, h => by simp at h
/-- Of valid rules the two orders are one. -/
theorem rcmp_key {x y : Ru} (h : x.sym = y.sym → x.fr.length = y.fr.length) : rcmp x y = lessL (keyL x) (keyL y) := by
  unfold rcmp keyL
  rw [lessL]
  rcases Int.lt_trichotomy x.sym y.sym with g | g | g
  · rw [if_pos g]; unfold cmpI orI; rw [if_pos g]; rfl
  · rw [if_neg (by omega), if_neg (by omega), lessL_snoc _ _ (h g)]
    have : cmpI x.sym y.sym = 0 := by unfold cmpI; rw [if_neg (by omega), if_neg (by omega)]
    rw [this]
    rfl
  · have g1 : ¬ x.sym < y.sym := by omega
    rw [if_neg g1, if_pos g]; unfold cmpI orI; rw [if_neg g1, if_pos g]; rfl

theorem nan_ok (a : Int) (w : World) : Calls Tryd.prog 123 #[.int .i64 a] w fun e w' => e = .returned (.bool false) ∧ w = w' := by
  go_enter Tryd.func123, Tryd.ntmps123
  go_wp2_with fail
  go_ret
  simp

set_option maxHeartbeats 400000 in
theorem cmpI_ok (a b : Int) (w : World) : Calls Tryd.prog 106 #[.int .i64 a, .int .i64 b] w fun e w' => e = .returned (.int .i64 (cmpI a b)) ∧ w = w' := by
  have HN := Lib.hid (fun a w => nan_ok a w)
  by_cases h1 : a < b
  · have hc : Hid (cmpI a b = -1) := Lib.hid (by simp [cmpI, h1])
    go_enter Tryd.func106, Tryd.ntmps106
    go_wp2_with fail
    refine (HN.out _ _).mono ?_
    rintro e w1 ⟨rfl, rfl⟩
    go_wp2_with fail
    refine (HN.out _ _).mono ?_
    rintro e w1 ⟨rfl, rfl⟩
    go_wp2_with fail
    go_ret
    exact ⟨by rw [hc.out]; rfl, rfl⟩
  · have h1' : b ≤ a := by omega
    have hd1 : decide (a < b) = false := decide_eq_false h1
    by_cases h2 : b < a
    · have hc : Hid (cmpI a b = 1) := Lib.hid (by simp [cmpI, h1, h2])
      clear h1
      go_enter Tryd.func106, Tryd.ntmps106
      go_wp2_with fail
      refine (HN.out _ _).mono ?_
      rintro e w1 ⟨rfl, rfl⟩
      go_wp2_with fail
      refine (HN.out _ _).mono ?_
      rintro e w1 ⟨rfl, rfl⟩
      go_wp2_with fail
      go_ret
      exact ⟨by rw [hc.out]; rfl, rfl⟩
    · have h2' : a ≤ b := by omega
      have hd2 : decide (b < a) = false := decide_eq_false h2
      have hc : Hid (cmpI a b = 0) := Lib.hid (by simp [cmpI, h1, h2])
      clear h1 h2
      go_enter Tryd.func106, Tryd.ntmps106
      go_wp2_with fail
      refine (HN.out _ _).mono ?_
      rintro e w1 ⟨rfl, rfl⟩
      go_wp2_with fail
      refine (HN.out _ _).mono ?_
      rintro e w1 ⟨rfl, rfl⟩
      go_wp2_with fail
      go_ret
      exact ⟨by rw [hc.out]; rfl, rfl⟩

set_option maxHeartbeats 1000000 in
theorem or3_ok (x y z : Int) (g : Nat) (w : World) (hb : Blk w g 3 #[.int .i64 x, .int .i64 y, .int .i64 z]) :
    Calls Tryd.prog 105 #[.slice (some ⟨g, 0, none⟩) 3 3] w fun e w' => e = .returned (.int .i64 (orI x (orI y z))) ∧ w = w' := by
  have hg := hb.lt
  have h0 : w.cell? ⟨g, 0, none⟩ = some (.int .i64 x) := by rw [hb.cell]; rfl
  have h1 : w.cell? ⟨g, 1, none⟩ = some (.int .i64 y) := by rw [hb.cell]; rfl
  have h2 : w.cell? ⟨g, 2, none⟩ = some (.int .i64 z) := by rw [hb.cell]; rfl
  clear hb
  go_enter Tryd.func105, Tryd.ntmps105
  go_wp2_with fail
  go_loop [8] (fun i => ∃ k : Nat, i = .int .i64 k ∧ Hid (k = 0 ∨ (k = 1 ∧ x = 0) ∨ (k = 2 ∧ x = 0 ∧ y = 0) ∨ (k = 3 ∧ x = 0 ∧ y = 0 ∧ z = 0))) (fun i => 3 - (intOf i).toNat)
  case atStart => exact ⟨0, rfl, Lib.hid (.inl rfl)⟩
  case round =>
    obtain ⟨k, rfl, hk⟩ := hrel
    rcases hk.out with rfl | ⟨rfl, hx⟩ | ⟨rfl, hx, hy⟩ | ⟨rfl, hx, hy, hz⟩
    · clear hk
      by_cases hx : x = 0
      · have HX := Lib.hid hx
        have hd : (x != 0) = false := by simp [hx]
        clear hx
        go_wp2_with fail
        go_round
        case rel => exact ⟨1, by go_num, Lib.hid (.inr (.inl ⟨rfl, HX.out⟩))⟩
        case measure => simp [intOf]
      · have HX := Lib.hid hx
        have hd : (x != 0) = true := by simpa using hx
        clear hx
        go_wp2_with fail
        go_ret
        exact ⟨by simp [orI, HX.out], rfl⟩
    · have HX := Lib.hid hx
      clear hk hx
      by_cases hy : y = 0
      · have HY := Lib.hid hy
        have hd : (y != 0) = false := by simp [hy]
        clear hy
        go_wp2_with fail
        go_round
        case rel => exact ⟨2, by go_num, Lib.hid (.inr (.inr (.inl ⟨rfl, HX.out, HY.out⟩)))⟩
        case measure => simp [intOf]
      · have HY := Lib.hid hy
        have hd : (y != 0) = true := by simpa using hy
        clear hy
        go_wp2_with fail
        go_ret
        exact ⟨by simp [orI, HX.out, HY.out], rfl⟩
    · have HX := Lib.hid hx
      have HY := Lib.hid hy
      clear hk hx hy
      by_cases hz : z = 0
      · have HZ := Lib.hid hz
        have hd : (z != 0) = false := by simp [hz]
        clear hz
        go_wp2_with fail
        go_round
        case rel => exact ⟨3, by go_num, Lib.hid (.inr (.inr (.inr ⟨rfl, HX.out, HY.out, HZ.out⟩)))⟩
        case measure => simp [intOf]
      · have hd : (z != 0) = true := by simpa using hz
        clear hz
        go_wp2_with fail
        go_ret
        exact ⟨by simp [orI, HX.out, HY.out], rfl⟩
    · have HX := Lib.hid hx
      have HY := Lib.hid hy
      have HZ := Lib.hid hz
      clear hk hx hy hz
      go_wp2_with fail
      go_ret
      exact ⟨by simp [orI, HX.out, HY.out, HZ.out], rfl⟩

set_option maxRecDepth 100000 in
set_option maxHeartbeats 2000000 in
theorem scompare_ok (l m : List Int) (v v' : Value) (w : World) (hv : IsInts w v l) (hv' : IsInts w v' m) :
    Calls Tryd.prog 107 #[v, v'] w fun e w' => e = .returned (.int .i64 (lessL l m)) ∧ w = w' := by
  obtain ⟨p, c, rfl, h1, h2, hc⟩ := hv
  obtain ⟨p', c', rfl, h1', h2', hc'⟩ := hv'
  unfold maxLen at h2 h2'
  have HC := Lib.hid hc
  have HC' := Lib.hid hc'
  have HCI := Lib.hid (fun a b w => cmpI_ok a b w)
  clear hc hc'
  go_enter Tryd.func107, Tryd.ntmps107
  go_wp2_with fail
  go_loopw [11] (fun iv wr => ∃ k : Nat, iv = .int .i64 (k : Nat) ∧ k ≤ l.length ∧ k ≤ m.length ∧ Hid (lessL l m = lessL (l.drop k) (m.drop k)) ∧ wr = w) (fun iv _ => l.length - (intOf iv).toNat)
  case atStart => exact ⟨0, rfl, by omega, by omega, Lib.hid rfl, rfl⟩
  case round =>
    rename World => wr
    obtain ⟨k, rfl, hk, hk', HE, hwr⟩ := hrel
    have hwr2 := hwr.symm
    clear hwr
    subst hwr2
    by_cases hlt : k < l.length
    · obtain ⟨x, hx⟩ : ∃ x, l[k]? = some x := ⟨_, List.getElem?_eq_getElem hlt⟩
      obtain ⟨b, o, rfl, hcl⟩ := HC.out (fun h => by simp [h] at hx)
      have q0 := hcl k _ hx
      have l0 := World.block_lt_of_cell? _ _ q0
      simp only at l0
      have hk1 : (k : Int) < (l.length : Int) := by omega
      by_cases hlt' : k < m.length
      · obtain ⟨y, hy⟩ : ∃ y, m[k]? = some y := ⟨_, List.getElem?_eq_getElem hlt'⟩
        obtain ⟨b', o', rfl, hcl'⟩ := HC'.out (fun h => by simp [h] at hy)
        have q1 := hcl' k _ hy
        have l1 := World.block_lt_of_cell? _ _ q1
        simp only at l1
        have hk2 : (k : Int) < (m.length : Int) := by omega
        have HD := Lib.hid (lessL_drop hx hy)
        have HCC := Lib.hid (HCI.out x y)
        obtain ⟨cv, hcv⟩ : ∃ cv, cv = cmpI x y := ⟨_, rfl⟩
        rw [← hcv] at HCC
        have HCV := Lib.hid hcv
        clear hx hy hcl hcl' hcv
        by_cases hz : cv = 0
        · have hz1 : (cv != 0) = false := by simp [hz]
          have HN : Hid (lessL l m = lessL (l.drop (k + 1)) (m.drop (k + 1))) := Lib.hid (by
            have h := HCV.out
            rw [hz] at h
            unfold cmpI at h
            rw [HE.out, HD.out]
            split at h
            · omega
            · rename_i g1
              rw [if_neg g1]
              split at h
              · omega
              · rename_i g2
                rw [if_neg g2])
          clear hz
          go_wp2_with fail
          refine (HCC.out _).mono ?_
          rintro e w1 ⟨rfl, hw⟩
          subst hw
          go_wp2_with fail
          go_roundw
          case rel => exact ⟨k + 1, by go_num, by omega, by omega, HN, by first | trivial | rfl⟩
          case measure => simp [intOf]; omega
        · have hz1 : (cv != 0) = true := by simp [hz]
          have HN : Hid (lessL l m = cv) := Lib.hid (by
            have h := HCV.out
            unfold cmpI at h
            rw [HE.out, HD.out]
            split at h
            · rename_i g1; rw [if_pos g1, h]
            · rename_i g1
              rw [if_neg g1]
              split at h
              · rename_i g2; rw [if_pos g2, h]
              · exact absurd h hz)
          clear hz
          go_wp2_with fail
          refine (HCC.out _).mono ?_
          rintro e w1 ⟨rfl, hw⟩
          subst hw
          go_wp2_with fail
          go_ret
          exact ⟨by rw [HN.out]; rfl, rfl⟩
      · have hk2 : (m.length : Int) ≤ (k : Int) := by omega
        have HN : Hid (lessL l m = 1) := Lib.hid (by
          rw [HE.out, List.drop_of_length_le (show m.length ≤ k by omega), List.drop_eq_getElem_cons hlt]
          rfl)
        have hd : decide ((m.length : Int) ≤ (k : Int)) = true := decide_eq_true hk2
        clear hx hcl hlt'
        go_wp2_with fail
        go_ret
        exact ⟨by rw [HN.out]; rfl, rfl⟩
    · have hkd : decide (k < l.length) = false := decide_eq_false hlt
      have hkd2 : decide ((k : Int) < (l.length : Int)) = false := decide_eq_false (by omega)
      by_cases hlm : l.length < m.length
      · have HN : Hid (lessL l m = -1) := Lib.hid (by
          rw [HE.out, List.drop_of_length_le (show l.length ≤ k by omega), List.drop_eq_getElem_cons (show k < m.length by omega)]
          rfl)
        have hlm1 : (l.length : Int) < (m.length : Int) := by omega
        go_wp2_with fail
        go_ret
        exact ⟨by rw [HN.out]; rfl, rfl⟩
      · have HN : Hid (lessL l m = 0) := Lib.hid (by
          rw [HE.out, List.drop_of_length_le (show l.length ≤ k by omega), List.drop_of_length_le (show m.length ≤ k by omega)]
          rfl)
        have hlm1 : decide ((l.length : Int) < (m.length : Int)) = false := decide_eq_false (by omega)
        have hlm2 : (m.length : Int) ≤ (l.length : Int) := by omega
        go_wp2_with fail
        go_ret
        exact ⟨by rw [HN.out]; rfl, rfl⟩

set_option maxRecDepth 100000 in
set_option maxHeartbeats 4000000 in
theorem rcompare_ok (x y : Ru) (u v : Value) (w : World) (hu : IsInts w u x.fr) (hv : IsInts w v y.fr) :
    Calls Tryd.prog 87 #[.agg #[.int .i64 x.sym, u, .int .i64 x.to], .agg #[.int .i64 y.sym, v, .int .i64 y.to]] w fun e w' => e = .returned (.int .i64 (rcmp x y)) ∧
      w' = (((w.alloc (.cells #[.int .i64 x.sym, u, .int .i64 x.to] 70)).alloc (.cells #[.int .i64 y.sym, v, .int .i64 y.to] 70)).alloc (.cells #[.int .i64 (cmpI x.sym y.sym), .int .i64 (lessL x.fr y.fr), .int .i64 (cmpI x.to y.to)] 3)).drew := by
  obtain ⟨xs, xf, xt⟩ := x
  obtain ⟨ys, yf, yt⟩ := y
  simp only at *
  have HU := Lib.hid hu
  have HV := Lib.hid hv
  obtain ⟨pu, cu, rfl, hu1, hu2, _⟩ := hu
  obtain ⟨pv, cv, rfl, hv1, hv2, _⟩ := hv
  have HCI := Lib.hid (fun a b w => cmpI_ok a b w)
  obtain ⟨X, hX⟩ : ∃ X, X = (w.alloc (.cells #[.int .i64 xs, .slice pu xf.length cu, .int .i64 xt] 70)).alloc (.cells #[.int .i64 ys, .slice pv yf.length cv, .int .i64 yt] 70) := ⟨_, rfl⟩
  have HX0 : Hid (Blk X w.heap.size 70 #[.int .i64 xs, .slice pu xf.length cu, .int .i64 xt]) := Lib.hid (hX ▸ (Blk.new w _ _).alloc _)
  have HX1 : Hid (Blk X (w.heap.size + 1) 70 #[.int .i64 ys, .slice pv yf.length cv, .int .i64 yt]) := Lib.hid (hX ▸ by
    have := Blk.new (w.alloc (.cells #[.int .i64 xs, .slice pu xf.length cu, .int .i64 xt] 70)) 70 #[.int .i64 ys, .slice pv yf.length cv, .int .i64 yt]
    simpa using this)
  have HB : Hid (Below w.heap.size w X) := Lib.hid (hX ▸ ((Below.refl _ w).alloc (Nat.le_refl _) _).alloc (by simp) _)
  have HSX : Hid (X.heap.size = w.heap.size + 2) := Lib.hid (by rw [hX]; simp)
  have HS : Hid (∀ W : World, Below (w.heap.size + 2) X W → (W.cell? ⟨w.heap.size, 0, none⟩ = some (.int .i64 xs) ∧ W.cell? ⟨w.heap.size, 1, none⟩ = some (.slice pu xf.length cu) ∧ W.cell? ⟨w.heap.size, 2, none⟩ = some (.int .i64 xt)) ∧ W.cell? ⟨w.heap.size + 1, 0, none⟩ = some (.int .i64 ys) ∧ W.cell? ⟨w.heap.size + 1, 1, none⟩ = some (.slice pv yf.length cv) ∧ W.cell? ⟨w.heap.size + 1, 2, none⟩ = some (.int .i64 yt)) := Lib.hid (fun W hW => by
    have h := HX0.out.below hW (by omega)
    have h' := HX1.out.below hW (by omega)
    exact ⟨⟨by rw [h.cell]; rfl, by rw [h.cell]; rfl, by rw [h.cell]; rfl⟩, by rw [h'.cell]; rfl, by rw [h'.cell]; rfl, by rw [h'.cell]; rfl⟩)
  have HSC := Lib.hid (scompare_ok xf yf _ _ X.drew (HU.out.below HB.out.drew) (HV.out.below HB.out.drew))
  have HOR := Lib.hid (or3_ok (cmpI xs ys) (lessL xf yf) (cmpI xt yt) X.heap.size (X.alloc (.cells #[.int .i64 (cmpI xs ys), .int .i64 (lessL xf yf), .int .i64 (cmpI xt yt)] 3)).drew (Blk.new X _ _))
  have HRC : Hid (orI (cmpI xs ys) (orI (lessL xf yf) (cmpI xt yt)) = rcmp ⟨xs, xf, xt⟩ ⟨ys, yf, yt⟩) := Lib.hid rfl
  obtain ⟨c0, hc0⟩ : ∃ c0, c0 = cmpI xs ys := ⟨_, rfl⟩
  obtain ⟨c1, hc1⟩ : ∃ c1, c1 = lessL xf yf := ⟨_, rfl⟩
  obtain ⟨c2, hc2⟩ : ∃ c2, c2 = cmpI xt yt := ⟨_, rfl⟩
  have HA0 : Hid (∀ W, Calls Tryd.prog 106 #[.int .i64 xs, .int .i64 ys] W fun e w' => e = .returned (.int .i64 c0) ∧ W = w') := Lib.hid (fun W => by rw [hc0]; exact cmpI_ok xs ys W)
  have HA2 : Hid (∀ W, Calls Tryd.prog 106 #[.int .i64 xt, .int .i64 yt] W fun e w' => e = .returned (.int .i64 c2) ∧ W = w') := Lib.hid (fun W => by rw [hc2]; exact cmpI_ok xt yt W)
  rw [← hc0, ← hc1, ← hc2] at HRC HOR
  rw [← hc1] at HSC
  rw [← hc0, ← hc1, ← hc2]
  have x0 := HS.out X (Below.refl _ _)
  have HXL : Hid (w.heap.size + 1 < X.heap.size) := Lib.hid (by have := HSX.out; omega)
  have HXX := Lib.hid hX
  have HDX : Hid (Below (w.heap.size + 2) X X.drew) := Lib.hid (Below.refl _ _).drew
  have HDA : Hid (∀ o : Obj, Below (w.heap.size + 2) X (X.alloc o).drew) := Lib.hid (fun o => ((Below.refl _ _).alloc (by have := HSX.out; omega) o).drew)
  rw [← hX]
  clear hX hc0 hc1 hc2 x0
  go_enter Tryd.func87, Tryd.ntmps87
  go_wp2_with fail
  have hX := HXX.out
  simp only [← hX] at *
  clear hX HXX
  have x0 := HS.out X (Below.refl _ _)
  obtain ⟨⟨x1, x2, x3⟩, x4, x5, x6⟩ := x0
  have xl := HXL.out
  have xl2 : w.heap.size < X.heap.size := by omega
  go_region_held3 (fun W => (W.cell? ⟨w.heap.size, 0, none⟩ = some (.int .i64 xs) ∧ W.cell? ⟨w.heap.size, 1, none⟩ = some (.slice pu xf.length cu) ∧ W.cell? ⟨w.heap.size, 2, none⟩ = some (.int .i64 xt)) ∧ W.cell? ⟨w.heap.size + 1, 0, none⟩ = some (.int .i64 ys) ∧ W.cell? ⟨w.heap.size + 1, 1, none⟩ = some (.slice pv yf.length cv) ∧ W.cell? ⟨w.heap.size + 1, 2, none⟩ = some (.int .i64 yt))
    (first | exact HS.out _ HDX.out | exact HS.out _ (HDA.out _))
    (first
      | (go_at_call_of 106 (Value.int IntKind.i64 xs); refine (HA0.out _).mono ?_; rintro e w1 ⟨rfl, rfl⟩)
      | (go_at_call_of 106 (Value.int IntKind.i64 xt); refine (HA2.out _).mono ?_; rintro e w1 ⟨rfl, rfl⟩)
      | (go_at_call 107; refine HSC.out.mono ?_; rintro e w1 ⟨rfl, rfl⟩)
      | (go_at_call 105; refine HOR.out.mono ?_; rintro e w1 ⟨rfl, rfl⟩))
  all_goals
    go_wp2_with fail
    go_ret
    exact ⟨by rw [← HRC.out]; rfl, rfl⟩
end

section
open Go.RowKit Go.Shelf

def sortRule_ren : Go.Shelf.Ren := ⟨fun | 6 => 86 | 15 => 104 | 14 => 103 | 28 => 121 | 29 => 122 | 20 => 113 | 21 => 114 | 22 => 115 | 23 => 116 | 24 => 117 | 25 => 118 | 26 => 119 | 27 => 120 | 46 => 124 | 47 => 125 | 48 => 126 | 49 => 127 | 50 => 128 | 57 => 129 | n => n, fun | 22 => 25 | 24 => 70 | 25 => 121 | 3 => 3 | 39 => 141 | 0 => 0 | 53 => 157 | 55 => 77 | 4 => 4 | 46 => 151 | 45 => 150 | 50 => 99 | 5 => 5 | 9 => 9 | 66 => 158 | 70 => 162 | 76 => 164 | 77 => 165 | n => n, fun n => n⟩
theorem sortRule : Go.Proofs.SlLaysF0.n6 Tryd.prog sortRule_ren := {
  mixed := by kernel_rfl
  f6 := ⟨Tryd.f86.name, by decide, Tryd.func86.trans (congrArg some (by kernel_rfl))⟩
  f14 := ⟨Tryd.f103.name, by decide, Tryd.func103.trans (congrArg some (by kernel_rfl))⟩
  f15 := Tryd.func104.trans (congrArg some (by kernel_rfl))
  f20 := ⟨Tryd.f113.name, by decide, Tryd.func113.trans (congrArg some (by kernel_rfl))⟩
  f21 := ⟨Tryd.f114.name, by decide, Tryd.func114.trans (congrArg some (by kernel_rfl))⟩
  f22 := ⟨Tryd.f115.name, by decide, Tryd.func115.trans (congrArg some (by kernel_rfl))⟩
  f23 := ⟨Tryd.f116.name, by decide, Tryd.func116.trans (congrArg some (by kernel_rfl))⟩
  f24 := ⟨Tryd.f117.name, by decide, Tryd.func117.trans (congrArg some (by kernel_rfl))⟩
  f25 := ⟨Tryd.f118.name, by decide, Tryd.func118.trans (congrArg some (by kernel_rfl))⟩
  f26 := ⟨Tryd.f119.name, by decide, Tryd.func119.trans (congrArg some (by kernel_rfl))⟩
  f27 := ⟨Tryd.f120.name, by decide, Tryd.func120.trans (congrArg some (by kernel_rfl))⟩
  f28 := Tryd.func121.trans (congrArg some (by kernel_rfl))
  f29 := Tryd.func122.trans (congrArg some (by kernel_rfl))
  f46 := ⟨Tryd.f124.name, by decide, Tryd.func124.trans (congrArg some (by kernel_rfl))⟩
  f47 := Tryd.func125.trans (congrArg some (by kernel_rfl))
  f48 := Tryd.func126.trans (congrArg some (by kernel_rfl))
  f49 := ⟨Tryd.f127.name, by decide, Tryd.func127.trans (congrArg some (by kernel_rfl))⟩
  f50 := ⟨Tryd.f128.name, by decide, Tryd.func128.trans (congrArg some (by kernel_rfl))⟩
  f57 := ⟨Tryd.f129.name, by decide, Tryd.func129.trans (congrArg some (by kernel_rfl))⟩
  t0 := Tryd.underlying0
  a0 := Tryd.isAgg0
  z0 := Tryd.sizeOf0
  v0 := Tryd.zeroValue0
  t3 := Tryd.underlying3
  a3 := Tryd.isAgg3
  z3 := Tryd.sizeOf3
  v3 := Tryd.zeroValue3
  t4 := Tryd.underlying4
  a4 := Tryd.isAgg4
  z4 := Tryd.sizeOf4
  v4 := Tryd.zeroValue4
  t5 := Tryd.underlying5
  a5 := Tryd.isAgg5
  z5 := Tryd.sizeOf5
  v5 := Tryd.zeroValue5
  t9 := Tryd.underlying9
  a9 := Tryd.isAgg9
  z9 := Tryd.sizeOf9
  v9 := Tryd.zeroValue9
  t22 := Tryd.underlying25
  a22 := Tryd.isAgg25
  z22 := Tryd.sizeOf25
  v22 := Tryd.zeroValue25
  t25 := Tryd.underlying121
  a25 := Tryd.isAgg121
  z25 := Tryd.sizeOf121
  v25 := Tryd.zeroValue121
  t39 := Tryd.underlying141
  a39 := Tryd.isAgg141
  z39 := Tryd.sizeOf141
  v39 := Tryd.zeroValue141
  t45 := Tryd.underlying150
  a45 := Tryd.isAgg150
  z45 := Tryd.sizeOf150
  v45 := Tryd.zeroValue150
  t46 := Tryd.underlying151
  a46 := Tryd.isAgg151
  z46 := Tryd.sizeOf151
  v46 := Tryd.zeroValue151
  t50 := Tryd.underlying99
  a50 := Tryd.isAgg99
  z50 := Tryd.sizeOf99
  v50 := Tryd.zeroValue99
  t53 := Tryd.underlying157
  a53 := Tryd.isAgg157
  z53 := Tryd.sizeOf157
  v53 := Tryd.zeroValue157
  t55 := Tryd.underlying77
  a55 := Tryd.isAgg77
  z55 := Tryd.sizeOf77
  v55 := Tryd.zeroValue77
  t66 := Tryd.underlying158
  a66 := Tryd.isAgg158
  z66 := Tryd.sizeOf158
  v66 := Tryd.zeroValue158
  t70 := Tryd.underlying162
  a70 := Tryd.isAgg162
  z70 := Tryd.sizeOf162
  v70 := Tryd.zeroValue162
  t76 := Tryd.underlying164
  a76 := Tryd.isAgg164
  z76 := Tryd.sizeOf164
  v76 := Tryd.zeroValue164
  t77 := Tryd.underlying165
  a77 := Tryd.isAgg165
  z77 := Tryd.sizeOf165
  v77 := Tryd.zeroValue165 }
end

end Go.Proofs.YtedfldbknjcnlaaDoor
