/- tree.find. -/
import Derived.Test.YthhliogcafmnfaaDoorTSep
namespace Go.Proofs.YthhliogcafmnfaaDoor
open Go.RowKit Go.Shelf

theorem getT_none_lt {i : Int} {ps : List Int} {t : Int × Hg} (h : i < 0) : getT (i :: ps) t = none := by simp [getT, h]
theorem getT_none_ge {i : Nat} {ps : List Int} {t : Int × Hg} (h : t.2.len ≤ i) : getT ((i : Int) :: ps) t = none := by
  simp only [getT]
  rw [if_neg (by omega), Int.toNat_natCast, Hg.nth_none h]; rfl
theorem getT_next {i : Nat} {ps : List Int} {t k : Int × Hg} (h : t.2.nth i = some k) : getT ((i : Int) :: ps) t = getT ps k := by
  simp only [getT]
  rw [if_neg (by omega), Int.toNat_natCast, h]; rfl
theorem row_at {w : World} : ∀ (K : Hg) (i : Nat) (k : Int × Hg) (b o : Nat), Row w K b o → K.nth i = some k → PT w b (o + i * 2) k
  | .cons l k r, 0, x, b, o, hr, e => by
    rw [Row.cons_iff] at hr
    obtain ⟨h1, h2, ⟨v, h3, h4⟩, h5⟩ := hr
    simp only [Hg.nth, Option.some.injEq] at e
    subst e
    exact ⟨by simpa using h1, h2, v, by simpa using h3, h4⟩
  | .cons l k r, i + 1, x, b, o, hr, e => by
    rw [Row.cons_iff] at hr
    obtain ⟨h1, h2, ⟨v, h3, h4⟩, h5⟩ := hr
    have := row_at r i x b (o + 2) h5 e
    rwa [show o + (i + 1) * 2 = o + 2 + i * 2 by omega]

set_option maxRecDepth 100000 in
set_option maxHeartbeats 1000000 in
theorem find_ok (pos : List Int) (pv : Value) (b o : Nat) (t : Int × Hg) (w : World) (hp : IsInts w pv pos) (ht : PT w b o t) :
    Calls Tryd.prog 71 #[.pointer (some ⟨b, o, none⟩), pv] w fun e w' =>
      ((∃ y b' o', getT pos t = some y ∧ e = .returned (.tuple #[.pointer (some ⟨b', o', none⟩), .bool true]) ∧ Reach w pos b o b' o' ∧ PT w b' o' y) ∨
        (getT pos t = none ∧ e = .returned (.tuple #[.pointer none, .bool false]))) ∧ w = w' := by
  obtain ⟨p, c, rfl, hc1, hc2, hcell⟩ := hp
  unfold maxLen at hc2
  have HC := Lib.hid hcell
  have HT := Lib.hid ht
  clear hcell ht
  go_enter Tryd.func71, Tryd.ntmps71
  go_wp2_with fail
  go_loop [0, 10] (fun v0 i => ∃ (k b' o' : Nat) (y : Int × Hg), v0 = .pointer (some ⟨b', o', none⟩) ∧ i = .int .i64 k ∧ k ≤ pos.length ∧ Hid (Reach w (pos.take k) b o b' o') ∧ Hid (PT w b' o' y) ∧ Hid (getT pos t = getT (pos.drop k) y)) (fun _ i => pos.length - (intOf i).toNat)
  case atStart => exact ⟨0, b, o, t, rfl, rfl, by omega, Lib.hid ⟨rfl, rfl⟩, HT, Lib.hid (by simp)⟩
  case round =>
    obtain ⟨k, b', o', y, rfl, rfl, hk, hre, hpt, hge⟩ := hrel
    by_cases hlt : k < pos.length
    · obtain ⟨bp, op, rfl, hcl⟩ := HC.out (fun h => by simp [h] at hlt)
      have c0 := hcl k pos[k] (List.getElem?_eq_getElem hlt)
      have hbl := World.block_lt_of_cell? _ _ c0
      simp only at hbl
      obtain ⟨q1, q2, v, q3, q4⟩ := hpt.out
      obtain ⟨pk, ck, rfl, hk1, hk2, hrow⟩ := q4
      have HRow := Lib.hid hrow
      have hb2 := World.block_lt_of_cell? _ _ q3
      simp only at hb2
      have hdr : Hid (pos.drop k = pos[k] :: pos.drop (k + 1)) := Lib.hid (List.drop_eq_getElem_cons hlt)
      have htk : Hid (pos.take (k + 1) = pos.take k ++ [pos[k]]) := Lib.hid (by rw [List.take_add_one, List.getElem?_eq_getElem hlt]; rfl)
      have hk0 : (0 : Int) ≤ (k : Int) := by omega
      clear hcl hrow
      generalize pos[k] = x at c0 hdr htk
      by_cases hx : x < 0
      · have hx2 : decide (x < 0) = true := decide_eq_true hx
        have hn : Hid (getT pos t = none) := Lib.hid (by rw [hge.out, hdr.out, getT_none_lt hx])
        go_wp2_with fail
        go_ret2
        exact ⟨.inr ⟨hn.out, rfl⟩, rfl⟩
      · have hx2 : decide (x < 0) = false := decide_eq_false hx
        obtain ⟨n, rfl⟩ : ∃ n : Nat, x = (n : Int) := ⟨x.toNat, by omega⟩
        by_cases hn : y.2.len ≤ n
        · have hn1 : (y.2.len : Int) ≤ (n : Int) := by omega
          have hn2 : decide ((y.2.len : Int) ≤ (n : Int)) = true := decide_eq_true hn1
          have hnn : Hid (getT pos t = none) := Lib.hid (by rw [hge.out, hdr.out, getT_none_ge hn])
          clear hx
          go_wp2_with fail
          go_ret2
          exact ⟨.inr ⟨hnn.out, rfl⟩, rfl⟩
        · have hn1 : ¬ (y.2.len : Int) ≤ (n : Int) := by omega
          have hn2 : decide ((y.2.len : Int) ≤ (n : Int)) = false := decide_eq_false hn1
          obtain ⟨z, hz⟩ := Hg.nth_some (h := y.2) (i := n) (by omega)
          obtain ⟨bk, ok, rfl, hr⟩ := HRow.out (fun h => by rw [h] at hz; cases hz)
          have hpz := row_at y.2 n z bk ok hr hz
          have HPZ := Lib.hid hpz
          have HGN := Lib.hid (show getT pos t = getT (pos.drop (k + 1)) z by rw [hge.out, hdr.out, getT_next hz])
          have HRE := Lib.hid (show Reach w (pos.take (k + 1)) b o bk (ok + n * 2) by
            rw [htk.out]
            have := hre.out.snoc (i := (n : Int)) q3
            simpa using this)
          have hn3 : (n : Int) < (y.2.len : Int) := by omega
          have hn4 : n < y.2.len := by omega
          have hn5 : (0 : Int) ≤ (n : Int) := by omega
          clear hx hn hn1 hz hr hpz
          go_wp2_with fail
          go_round
          case rel => exact ⟨k + 1, bk, ok + n * 2, z, rfl, by go_num, by omega, HRE, HPZ, HGN⟩
          case measure => simp [intOf]; omega
    · have hge2 : pos.length ≤ k := by omega
      have HY := Lib.hid (show getT pos t = some y by rw [hge.out, List.drop_of_length_le hge2]; rfl)
      have HRE := Lib.hid (show Reach w pos b o b' o' by have := hre.out; rwa [List.take_of_length_le hge2] at this)
      clear hlt
      go_wp2_with fail
      go_ret2
      exact ⟨.inl ⟨y.1, y.2, HY.out, b', o', rfl, HRE.out, hpt.out⟩, rfl⟩

end Go.Proofs.YthhliogcafmnfaaDoor
