/- ref01.ways. -/
import Derived.Test.YthhliogcafmnfaaDoorWt
import Derived.OwnWalk
import Derived.StillTailTactics
namespace Go.Proofs.YthhliogcafmnfaaDoor
open Go.RowKit Go.Shelf

theorem made_rowA {w : World} {g n : Nat} (h : w.ownsRow g 3 1 (.slice (some ⟨g, 0, none⟩) (n + 1) (n + 1)) (n + 1) (madeCells #[Value.int IntKind.i64 0] ((n + 1) * 1)).toList) : Blk w g 3 (rowA (fun _ => 0) n) := by
  rcases h.2 with ⟨e, _⟩ | ⟨g', cap, cur, e, _, hb, _, _, hs, ht⟩
  · cases e
  · simp only [Value.slice.injEq, Option.some.injEq, Addr.mk.injEq, and_true, true_and] at e
    obtain ⟨rfl, rfl⟩ := e
    have : cur = rowA (fun _ => 0) n := by
      apply Array.ext'
      rw [List.take_of_length_le (by simp [hs])] at ht
      rw [ht, toList_madeCells_one]
      simp only [rowA, Nat.mul_one, List.toList_toArray]
      refine List.ext_getElem (by simp) (fun i h1 h2 => by simp)
    exact this ▸ hb

theorem imin (X Y : Nat) : (if (1073741824 : Int) < (c30 X : Nat) + (c30 Y : Nat) then (1073741824 : Int) else (c30 X : Nat) + (c30 Y : Nat)) = ((c30 (X + Y) : Nat) : Int) := by
  rw [← c30_add]
  generalize c30 X = x
  generalize c30 Y = y
  split <;> omega
theorem imin2 (x a b : Nat) : (if (1073741824 : Int) < (c30 x : Nat) + (c30 a : Nat) * (c30 b : Nat) then (1073741824 : Int) else (c30 x : Nat) + (c30 a : Nat) * (c30 b : Nat)) = ((c30 (x + a * b) : Nat) : Int) := by
  rw [← c30_mul, show ((c30 a : Nat) : Int) * (c30 b : Nat) = ((c30 a * c30 b : Nat) : Int) by simp]
  generalize c30 x = X
  generalize c30 a * c30 b = y
  split <;> omega

set_option maxRecDepth 100000 in
set_option maxHeartbeats 2000000 in
theorem ways_ok (ranks : List Nat) (v : Value) (k n : Nat) (w : World) (hv : IsInts w v (ranks.map (fun r : Nat => (r : Int)))) (hr : ∀ r ∈ ranks, r ≤ 3) (hlen : ranks.length ≤ 12) (hk : k ≤ 3) (hn : n ≤ 12) :
    Calls Tryd.prog 122 #[.agg #[v], .int .i64 (k : Nat), .int .i64 (n : Nat)] w fun e w' => e = .returned (.int .i64 (c30 (Wn ranks k n) : Nat)) ∧ Below w.heap.size w w' := by
  obtain ⟨i0, hi, hz0, hz1, hz2⟩ := info_parts Tryd.infoInt
  have HBW := Lib.hid ((((Below.refl _ w).alloc (Nat.le_refl _) (.cells #[v] 24)).alloc (by simp) (.cells (topA (fun _ => 0) 0 (n + 1)) 204) : Below w.heap.size w _))
  have HA0 := Lib.hid ((Blk.new w 24 #[v]).alloc (.cells (topA (fun _ => 0) 0 (n + 1)) 204))
  have HT0 : Hid (Wt ((w.alloc (.cells #[v] 24)).alloc (.cells (topA (fun _ => 0) 0 (n + 1)) 204)) w.heap.size (w.heap.size + 1) n 0 (fun _ => 0) (fun _ _ => 0)) :=
    Lib.hid ⟨by omega, by simpa using Blk.new (w.alloc (.cells #[v] 24)) 204 (topA (fun _ => 0) 0 (n + 1)), fun i hi => by omega, fun i j hi => by omega, fun i hi => by omega⟩
  have HIV := Lib.hid hv
  have HR := Lib.hid hr
  obtain ⟨p, c, rfl, hc1, hc2, hcell⟩ := hv
  rw [List.length_map] at hc1 HBW HA0 HT0 HIV
  rw [List.length_map]
  have HC := Lib.hid hcell
  have HI := Lib.hid hi
  have htop : topA (fun _ => 0) 0 (n + 1) = #[.slice none 0 0, .slice none 0 0, .slice none 0 0, .slice none 0 0] := rfl
  rw [htop] at HBW HA0 HT0
  clear hcell hr hi htop
  go_enter Tryd.func122, Tryd.ntmps122
  go_wp2_with fail
  go_loopw [15] (fun i wr => ∃ (q : Nat) (bs : Nat → Nat), i = .int .i64 (q : Nat) ∧ q ≤ 4 ∧ Hid (Wt wr w.heap.size (w.heap.size + 1) n q bs (fun _ _ => 0)) ∧ Hid (Blk wr w.heap.size 24 #[.slice p ranks.length c]) ∧ Hid (Below w.heap.size w wr))
    (fun i _ => 4 - (intOf i).toNat)
  case atStart => exact ⟨0, _, rfl, by omega, HT0, HA0, HBW⟩
  case round =>
    rename World => wr
    obtain ⟨q, bs, rfl, hq, HT, HA, HB⟩ := hrel
    clear HT0 HA0 HBW
    by_cases hlt : q < 4
    · have hH := HT.out.top.lt
      have hq0 : (0 : Int) ≤ (q : Int) := by omega
      have hq1 : (q : Int) < 4 := by omega
      go_wp2_with (at_make; refine wpList_make_full _ rfl _ _ 22 rfl wr.heap.size 3 i0 _ 1 Tryd.underlying22 HI.out hz0 hz1 _ _ _ _ (n + 1) rfl rfl ?d1 ?d2 ?d3 ?d4 ?d5 ?_)
      case d1 => omega
      case d2 => omega
      case d3 => rw [hz2]; omega
      case d4 => simp only [maxLen]; omega
      case d5 => omega
      intro w2 hown hgrow
      have hblk : Blk w2 wr.heap.size 3 (rowA (fun _ => 0) n) := made_rowA (by simpa using hown)
      have hgr := HT.out.grow hlt hgrow (F := fun _ _ => 0) hblk
      have hA2 : Blk w2 w.heap.size 24 #[.slice p ranks.length c] := (hgrow.block _ HA.out.lt (by simp)).trans HA.out
      have hB2 : Below w.heap.size w w2 := HB.out.grown hgrow (by have := HB.out.size; omega) (fun j e => by simp at e)
      have ht2 : Blk w2 (w.heap.size + 1) 204 (topA bs q (n + 1)) := (hgrow.block _ hH (by simp)).trans HT.out.top
      have c1 : w2.cell? ⟨w.heap.size + 1, q, none⟩ = some (.slice none 0 0) := by rw [ht2.cell, topA_at hlt, if_neg (by omega)]
      have c2 := ht2.frozen q
      have c3 := ht2.lt
      have HGR := Lib.hid hgr
      have HA2 := Lib.hid hA2
      have HB2 := Lib.hid hB2
      clear hgr hA2 hB2 ht2 hblk hown hgrow
      go_wp2_with fail
      go_roundw
      case rel => exact ⟨q + 1, _, by go_num, by omega, HGR, Lib.hid (HA2.out.far (by simp) _), Lib.hid (HB2.out.setCell (p := ⟨w.heap.size + 1, q, none⟩) (by simp) _)⟩
      case measure => simp [intOf]; omega
    · have hq4 : q = 4 := by omega
      subst hq4
      have c1 := HT.out.topCell (i := 0) (by omega) (by omega)
      have c2 := HT.out.cell (i := 0) (x := 0) (by omega) (by omega)
      have c3 := (HT.out.row 0 (by omega)).frozen 0
      have c4 := HT.out.top.lt
      have c5 := (HT.out.row 0 (by omega)).lt
      have hset : Hid (Wt (wr.setCell ⟨bs 0, 0, none⟩ (.int .i64 1)) w.heap.size (w.heap.size + 1) n 4 bs (tab ranks 1 1)) := by
        have h1 : ∀ i x, x ≤ n → tab ranks 1 1 i x = if i = 0 ∧ x = 0 then 1 else 0 := fun i x _ => by
          unfold tab
          cases i with
          | zero =>
            rw [Wn_0]
            by_cases e : x = 0
            · subst e; simp [c30]
            · simp [e, c30]
          | succ i =>
            rw [if_neg (by omega : ¬ (i + 1 = 0 ∧ x = 0))]
            split
            · rw [show x = 0 by omega, Wn_pos0 HR.out]; rfl
            · rfl
        have := HT.out.set (i := 0) (x := 0) (y := 1) (G := tab ranks 1 1) (by omega) (fun j hj z hz => h1 j z hz)
        exact Lib.hid (by simpa using this)
      have hA1 : Hid (Blk (wr.setCell ⟨bs 0, 0, none⟩ (.int .i64 1)) w.heap.size 24 #[.slice p ranks.length c]) := Lib.hid (HA.out.far (by have := HT.out.far 0 (by omega); simp; omega) _)
      have hB1 : Hid (Below w.heap.size w (wr.setCell ⟨bs 0, 0, none⟩ (.int .i64 1))) := Lib.hid (HB.out.setCell (p := ⟨bs 0, 0, none⟩) (by have := HT.out.far 0 (by omega); simp; omega) _)
      have HI4 : Hid (∀ i j, i < 4 → j < 4 → bs i = bs j → i = j) := Lib.hid HT.out.inj
      have HF4 : Hid (∀ i, i < 4 → w.heap.size + 1 < bs i) := Lib.hid HT.out.far
      clear HT HA HB
      go_wp2_with fail
      clear c1 c2 c3 c4 c5
      go_loopw [9] (fun mv wm => ∃ m : Nat, mv = .int .i64 ((m : Nat) + 1) ∧ m ≤ n ∧ Hid (Wt wm w.heap.size (w.heap.size + 1) n 4 bs (tab ranks (m + 1) 1)) ∧ Hid (Blk wm w.heap.size 24 #[.slice p ranks.length c]) ∧ Hid (Below w.heap.size w wm))
        (fun mv _ => n + 1 - (intOf mv).toNat)
      case atStart => exact ⟨0, by simp, by omega, hset, hA1, hB1⟩
      case round =>
        rename World => wm
        obtain ⟨m, rfl, hm, HT, HA, HB⟩ := hrel
        clear hset hA1 hB1
        have hH := HT.out.top.lt
        by_cases hlt : m < n
        · have hdd : decide ((m : Int) + 1 ≤ (n : Int)) = true := decide_eq_true (by omega)
          have hle : (m : Int) + 1 ≤ (n : Int) := by omega
          have a1 : wm.cell? ⟨w.heap.size, 0, none⟩ = some (.slice p ranks.length c) := by rw [HA.out.cell]; rfl
          have a2 := HA.out.lt
          go_wp2_with fail
          go_loop [10, 35] (fun tv jv => ∃ j : Nat, tv = .int .i64 (c30 (W1 ranks m j) : Nat) ∧ jv = .int .i64 (j : Nat) ∧ j ≤ ranks.length) (fun _ jv => ranks.length - (intOf jv).toNat)
          case atStart => exact ⟨0, by rw [W1_0]; rfl, rfl, by omega⟩
          case round =>
            obtain ⟨j, rfl, rfl, hj⟩ := hrel
            by_cases hjl : j < ranks.length
            · obtain ⟨r, hr⟩ : ∃ r, ranks[j]? = some r := ⟨_, List.getElem?_eq_getElem hjl⟩
              obtain ⟨b, o, rfl, hcl⟩ := HC.out (fun h => by simp [List.map_eq_nil_iff] at h; subst h; simp at hjl)
              have b1 := cell_later HB.out (hcl j r (by simp [hr]))
              have hr3 : r ≤ 3 := HR.out r (List.mem_of_getElem? hr)
              have b2 := HT.out.topCell (i := r) (by omega) (by omega)
              have b3 := HT.out.cell (i := r) (x := m) (by omega) (by omega)
              have b4 := (HT.out.row r (by omega)).lt
              have b5 := World.block_lt_of_cell? _ _ b1
              simp only at b5
              rw [tab, if_pos (by omega)] at b3
              have e1 : Hid (W1 ranks m (j + 1) = W1 ranks m j + Wn ranks r m) := Lib.hid (W1_succ hr)
              have l1 := c30_le (W1 ranks m j)
              have l2 := c30_le (Wn ranks r m)
              clear hcl hr
              generalize hx : c30 (W1 ranks m j) = x at *
              generalize hy : c30 (Wn ranks r m) = y at *
              have HX := Lib.hid hx
              have HY := Lib.hid hy
              clear hx hy
              go_wp2_with fail
              go_round
              case rel => exact ⟨j + 1, by rw [e1.out, ← imin, HX.out, HY.out], by go_num, by omega⟩
              case measure => simp [intOf]; omega
            · have hje : j = ranks.length := by omega
              subst hje
              have hw1 : W1 ranks m ranks.length = Wn ranks 1 (m + 1) := W1_all HR.out m
              rw [hw1]
              have b1 := HT.out.topCell (i := 1) (by omega) (by omega)
              have b2 := HT.out.cell (i := 1) (x := m + 1) (by omega) (by omega)
              have b3 := (HT.out.row 1 (by omega)).frozen (m + 1)
              have b4 := (HT.out.row 1 (by omega)).lt
              have hbs := HF4.out 1 (by omega)
              have hT2 : Hid (Wt (wm.setCell ⟨bs 1, m + 1, none⟩ (.int .i64 (c30 (Wn ranks 1 (m + 1)) : Nat))) w.heap.size (w.heap.size + 1) n 4 bs (tab ranks (m + 1) 2)) :=
                Lib.hid (HT.out.set (i := 1) (x := m + 1) (y := c30 (Wn ranks 1 (m + 1))) (by omega) (fun j hj z hz => by
                  unfold tab
                  by_cases e : j = 1 ∧ z = m + 1
                  · obtain ⟨rfl, rfl⟩ := e
                    rw [if_pos (by omega), if_pos ⟨rfl, rfl⟩]
                  · rw [if_neg e]
                    by_cases e2 : z < m + 1 ∨ z = m + 1 ∧ j < 1
                    · rw [if_pos e2, if_pos (by omega)]
                    · rw [if_neg e2, if_neg (by omega)]))
              have hA2 : Hid (Blk (wm.setCell ⟨bs 1, m + 1, none⟩ (.int .i64 (c30 (Wn ranks 1 (m + 1)) : Nat))) w.heap.size 24 #[.slice p ranks.length c]) := Lib.hid (HA.out.far (by simp; omega) _)
              have hB2 : Hid (Below w.heap.size w (wm.setCell ⟨bs 1, m + 1, none⟩ (.int .i64 (c30 (Wn ranks 1 (m + 1)) : Nat)))) := Lib.hid (HB.out.setCell (p := ⟨bs 1, m + 1, none⟩) (by simp; omega) _)
              clear hw1 HT HA HB
              go_wp2_with fail
              clear b1 b2 b3 b4 a1 a2
              go_loopw [13] (fun iv wi => ∃ q : Nat, iv = .int .i64 ((q : Nat) + 2) ∧ q ≤ 2 ∧ Hid (Wt wi w.heap.size (w.heap.size + 1) n 4 bs (tab ranks (m + 1) (q + 2))) ∧ Hid (Blk wi w.heap.size 24 #[.slice p ranks.length c]) ∧ Hid (Below w.heap.size w wi))
                (fun iv _ => 4 - (intOf iv).toNat)
              case atStart => exact ⟨0, rfl, by omega, hT2, hA2, hB2⟩
              case round =>
                rename World => wi
                obtain ⟨q, rfl, hq, HT, HA, HB⟩ := hrel
                clear hT2 hA2 hB2
                by_cases hq2 : q < 2
                · have hqq : (q : Int) + 2 ≤ 3 := by omega
                  have HT3 : Hid (Wt wi w.heap.size (w.heap.size + 1) n 4 bs (fun i x => if i = q + 2 ∧ x = m + 1 then c30 (W2 ranks q (m + 1) 0) else tab ranks (m + 1) (q + 2) i x)) :=
                    Lib.hid (HT.out.congr (fun i hi x hx => by
                      by_cases e : i = q + 2 ∧ x = m + 1
                      · rw [if_pos e, tab, if_neg (by omega)]; rfl
                      · rw [if_neg e]))
                  clear HT
                  go_wp2_with fail
                  go_loopw [14] (fun jv wj => ∃ j : Nat, jv = .int .i64 ((j : Nat) + 1) ∧ j ≤ m ∧ Hid (Wt wj w.heap.size (w.heap.size + 1) n 4 bs (fun i x => if i = q + 2 ∧ x = m + 1 then c30 (W2 ranks q (m + 1) j) else tab ranks (m + 1) (q + 2) i x)) ∧ Hid (Blk wj w.heap.size 24 #[.slice p ranks.length c]) ∧ Hid (Below w.heap.size w wj))
                    (fun jv _ => m + 1 - (intOf jv).toNat)
                  case atStart => exact ⟨0, by simp, by omega, HT3, HA, HB⟩
                  case round =>
                    rename World => wj
                    obtain ⟨j, rfl, hj, HT, HA, HB⟩ := hrel
                    clear HT3
                    by_cases hjm : j < m
                    · have g1 := HT.out.topCell (i := q + 2) (by omega) (by omega)
                      have g2 := HT.out.cell (i := q + 2) (x := m + 1) (by omega) (by omega)
                      have g3 := HT.out.topCell (i := 1) (by omega) (by omega)
                      have g4 := HT.out.cell (i := 1) (x := j + 1) (by omega) (by omega)
                      have g5 := HT.out.topCell (i := q + 1) (by omega) (by omega)
                      have g6 := HT.out.cell (i := q + 1) (x := m - j) (by omega) (by omega)
                      have f1 := (HT.out.row (q + 2) (by omega)).frozen (m + 1)
                      have f2 := (HT.out.row (q + 2) (by omega)).lt
                      have f3 := (HT.out.row 1 (by omega)).lt
                      have f4 := (HT.out.row (q + 1) (by omega)).lt
                      have f5 := HT.out.top.lt
                      rw [if_pos ⟨rfl, rfl⟩] at g2
                      rw [if_neg (by omega), tab, if_pos (by omega)] at g4
                      rw [if_neg (by omega), tab, if_pos (by omega)] at g6
                      have l1 := c30_le (W2 ranks q (m + 1) j)
                      have l2 := c30_le (Wn ranks 1 (j + 1))
                      have l3 := c30_le (Wn ranks (q + 1) (m - j))
                      have l4 := c30_mul_le (Wn ranks 1 (j + 1)) (Wn ranks (q + 1) (m - j))
                      go_wp2_with fail
                      have E : Hid (W2 ranks q (m + 1) (j + 1) = W2 ranks q (m + 1) j + Wn ranks 1 (j + 1) * Wn ranks (q + 1) (m - j)) := Lib.hid (by rw [W2_succ, show m + 1 - (j + 1) = m - j by omega])
                      generalize hx : c30 (W2 ranks q (m + 1) j) = x at *
                      generalize hy : c30 (Wn ranks 1 (j + 1)) = y at *
                      generalize hz : c30 (Wn ranks (q + 1) (m - j)) = z at *
                      have HX := Lib.hid hx
                      have HY := Lib.hid hy
                      have HZ := Lib.hid hz
                      clear hx hy hz
                      have l5 : (y : Int) * (z : Int) ≤ 1152921504606846976 := by
                        have : ((y * z : Nat) : Int) ≤ 1152921504606846976 := by omega
                        simpa using this
                      have l6 : 0 ≤ (y : Int) * (z : Int) := Int.mul_nonneg (by omega) (by omega)
                      have s1 : (0 : Int) ≤ (q : Int) + 2 := by omega
                      have s2 : (q : Int) + 2 < 4 := by omega
                      have s3 : ((q : Int) + 2).toNat = q + 2 := by omega
                      have s4 : IntKind.i64.wrap ((q : Int) + 2 - 1) = (q : Int) + 1 := by rw [show (q : Int) + 2 - 1 = (q : Int) + 1 by omega]; exact IntWalk.i64_in _ ⟨by omega, by omega⟩
                      have s4' : IntKind.i64.wrap ((q : Int) + 1) = (q : Int) + 1 := IntWalk.i64_in _ ⟨by omega, by omega⟩
                      have s5 : (q : Int) + 1 < 4 := by omega
                      have s6 : (0 : Int) ≤ (q : Int) + 1 := by omega
                      have s7 : IntKind.i64.wrap ((m : Int) + 1 - ((j : Int) + 1)) = (m : Int) - (j : Int) := by
                        rw [show (m : Int) + 1 - ((j : Int) + 1) = (m : Int) - (j : Int) by omega]; exact IntWalk.i64_in _ ⟨by omega, by omega⟩
                      have s8 : (0 : Int) ≤ (m : Int) - (j : Int) := by omega
                      have s9 : (m : Int) - (j : Int) < (n : Int) + 1 := by omega
                      have s10 : ((m : Int) - (j : Int)).toNat = m - j := by omega
                      have s11 : (m : Int) + 1 < (n : Int) + 1 := by omega
                      have s12 : (0 : Int) ≤ (m : Int) + 1 := by omega
                      have s13 : ((m : Int) + 1).toNat = m + 1 := by omega
                      have s14 : (j : Int) + 1 < (n : Int) + 1 := by omega
                      have s15 : (0 : Int) ≤ (j : Int) + 1 := by omega
                      have s16 : ((j : Int) + 1).toNat = j + 1 := by omega
                      have s17 : ((q : Int) + 1).toNat = q + 1 := by omega
                      have s18 : IntKind.i64.wrap ((y : Int) * (z : Int)) = (y : Int) * (z : Int) := IntWalk.i64_in _ ⟨by omega, by omega⟩
                      have s19 : IntKind.i64.wrap ((x : Int) + (y : Int) * (z : Int)) = (x : Int) + (y : Int) * (z : Int) := IntWalk.i64_in _ ⟨by omega, by omega⟩
                      go_still_tail 28, (by kernel_rfl)
                      have g2' : wj.drew.cell? ⟨bs (q + 2), m + 1, none⟩ = some (.int .i64 (x : Nat)) := g2
                      have f2' : bs (q + 2) < wj.drew.heap.size := f2
                      clear s3 s4 s4' s7 s10 s13 s16 s17 s18 s19 g1 g2 g3 g4 g5 g6
                      have e : (if (1073741824 : Int) < (x : Int) + (y : Int) * (z : Int) then (1073741824 : Int) else (x : Int) + (y : Int) * (z : Int)) = ((c30 (W2 ranks q (m + 1) (j + 1)) : Nat) : Int) := by
                        rw [E.out, ← imin2, HX.out, HY.out, HZ.out]
                      have hset := (HT.out.drewN 1).set (i := q + 2) (x := m + 1) (y := c30 (W2 ranks q (m + 1) (j + 1))) (G := fun i x => if i = q + 2 ∧ x = m + 1 then c30 (W2 ranks q (m + 1) (j + 1)) else tab ranks (m + 1) (q + 2) i x) (by omega) (fun a _ b _ => by
                        by_cases hab : a = q + 2 ∧ b = m + 1
                        · rw [if_pos hab, if_pos hab]
                        · rw [if_neg hab, if_neg hab, if_neg hab])
                      have hbs2 := HF4.out (q + 2) (by omega)
                      have hA3 : Blk (wj.drew.setCell ⟨bs (q + 2), m + 1, none⟩ (.int .i64 (c30 (W2 ranks q (m + 1) (j + 1)) : Nat))) w.heap.size 24 #[.slice p ranks.length c] := Blk.far HA.out.drew (by simp; omega) _
                      have hB3 : Below w.heap.size w (wj.drew.setCell ⟨bs (q + 2), m + 1, none⟩ (.int .i64 (c30 (W2 ranks q (m + 1) (j + 1)) : Nat))) := Below.setCell (HB.out.drew) (p := ⟨bs (q + 2), m + 1, none⟩) (by simp; omega) _
                      rw [← e] at hA3 hB3
                      have HS3 := Lib.hid hset
                      rw [← e] at HS3
                      have HA3 := Lib.hid hA3
                      have HB3 := Lib.hid hB3
                      clear hset hA3 hB3 e HT HA HB
                      change wpList _ _ _ _ _ wj.drew
                      have f1' : wj.drew.frozen? ⟨bs (q + 2), m + 1, none⟩ = false := f1
                      clear f1
                      go_wp2_with fail
                      go_roundw
                      case rel => exact ⟨j + 1, by go_num, by omega, HS3, HA3, HB3⟩
                      case measure => simp [intOf]; omega
                    · have hjm2 : j = m := by omega
                      subst hjm2
                      have HT4 : Hid (Wt wj w.heap.size (w.heap.size + 1) n 4 bs (tab ranks (j + 1) (q + 1 + 2))) := Lib.hid (HT.out.congr (fun i hi x hx => by
                        rw [W2_all HR.out]
                        unfold tab
                        by_cases e : i = q + 2 ∧ x = j + 1
                        · obtain ⟨rfl, rfl⟩ := e
                          rw [if_pos ⟨rfl, rfl⟩, if_pos (by omega)]
                        · rw [if_neg e]
                          by_cases e2 : x < j + 1 ∨ x = j + 1 ∧ i < q + 2
                          · rw [if_pos e2, if_pos (by omega)]
                          · rw [if_neg e2, if_neg (by omega)]))
                      clear HT
                      have hdj : decide ((j : Int) + 1 < (j : Int) + 1) = false := decide_eq_false (by omega)
                      go_wp2_with fail
                      go_roundw
                      case rel => exact ⟨q + 1, by go_num, by omega, HT4, HA, HB⟩
                      case measure => simp [intOf]; omega
                · have hq3 : q = 2 := by omega
                  subst hq3
                  have HT4 : Hid (Wt wi w.heap.size (w.heap.size + 1) n 4 bs (tab ranks (m + 1 + 1) 1)) := Lib.hid (HT.out.congr (fun i hi x hx => by
                    unfold tab
                    by_cases e2 : x < m + 1 ∨ x = m + 1 ∧ i < 2 + 2
                    · rw [if_pos e2, if_pos (by omega)]
                    · rw [if_neg e2]
                      by_cases e3 : i < 1 ∧ x = m + 1 + 1
                      · obtain ⟨h1, h2⟩ := e3
                        rw [if_pos (by omega), show i = 0 by omega, Wn_0, if_neg (by omega)]; rfl
                      · rw [if_neg (by omega)]))
                  clear HT
                  go_wp2_with fail
                  go_roundw
                  case rel => (repeat apply Exists.intro); exact ⟨⟨m + 1, by go_num, by omega, HT4, HA, HB⟩, rfl⟩
                  case measure => simp [intOf]; omega
        · have hmn : m = n := by omega
          subst hmn
          have b1 := HT.out.topCell (i := k) (by omega) (by omega)
          have b2 := HT.out.cell (i := k) (x := m) (by omega) (by omega)
          have b3 := (HT.out.row k (by omega)).lt
          have b4 := HT.out.top.lt
          rw [tab, if_pos (by omega)] at b2
          have hk4 : (k : Int) < 4 := by omega
          have hdm : decide ((m : Int) + 1 ≤ (m : Int)) = false := decide_eq_false (by omega)
          have hnle : ¬ ((m : Int) + 1 ≤ (m : Int)) := by omega
          go_wp2_with fail
          go_ret
          exact ⟨rfl, HB.out⟩

end Go.Proofs.YthhliogcafmnfaaDoor
