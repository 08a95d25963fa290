/- The walk of law02.HedgeParts. -/
import Derived.Test.YthdaeblfehclcabPartsMath
import Derived.Test.YthdaeblfehclcabAwake
import Derived.Test.YthdaeblfehclcabCount
namespace Go.Proofs.Ythdaeblfehclcab
open Go.RowKit Go.Shelf

/-- Whether a call of a law answers true and turns nothing that was there. -/
abbrev TrueLaw (w : World) (e : Ending) (w' : World) : Prop := e = .returned (.bool true) ∧ Below w.heap.size w w'

theorem cs4_get (F : List (Int × Int × Int × Int)) (i : Nat) (x : Int × Int × Int × Int) (h : F[i]? = some x) (j : Nat) (hj : j < 4) : (cs4 F)[i * 4 + j]? = (c4 x)[j]? := by
  obtain ⟨hlt, he⟩ := List.getElem?_eq_some_iff.1 h
  have hs : F = F.take i ++ x :: F.drop (i + 1) := by
    rw [← he, ← List.drop_eq_getElem_cons hlt, List.take_append_drop]
  have hl : (F.take i).length = i := by simp; omega
  have := cs4_at (F.take i) (F.drop (i + 1)) x j hj
  rw [hl] at this
  rw [hs]; exact this
theorem World.ownsRow_bounds {w : World} {base : Nat} {e : TypeId} {size : Nat} {a : Option Addr} {n cap : Nat} {xs : List Value} (h : w.ownsRow base e size (.slice a n cap) n xs) : n ≤ cap ∧ cap ≤ 9223372036854775807 := by
  rcases h.2 with ⟨h1, h2⟩ | ⟨g, cap', cur, h1, _, _, h2, h3, _⟩
  · cases h1; omega
  · cases h1; exact ⟨h2, by simpa [maxLen] using h3⟩

set_option maxRecDepth 100000 in
set_option maxHeartbeats 1000000 in
theorem parts_walk (n l k m : Int) (K : Hg) (vk : Value) (w : World) (hl : (Lit.int .i64 l).wf = true) (hv : IsH w vk K) :
    Calls Try.prog 6 #[.int .i64 n, .agg #[.int .i64 l, vk], .int .i64 k, .int .i64 m] w (TrueLaw w) := by
  have hb2 : Below w.heap.size w ((w.alloc (.cells #[.int .i64 l, vk] 24)).alloc (.cells #[.int .i64 l, vk] 24)) := ((Below.refl _ w).alloc (Nat.le_refl _) _).alloc (by simp) _
  have hblk0 : Blk ((w.alloc (.cells #[.int .i64 l, vk] 24)).alloc (.cells #[.int .i64 l, vk] 24)) w.heap.size 24 #[.int .i64 l, vk] := (Blk.new w _ _).alloc _
  have hblk : Blk ((w.alloc (.cells #[.int .i64 l, vk] 24)).alloc (.cells #[.int .i64 l, vk] 24)) (w.heap.size + 1) 24 #[.int .i64 l, vk] := by
    have := Blk.new (w.alloc (.cells #[.int .i64 l, vk] 24)) 24 #[.int .i64 l, vk]
    rwa [World.size_alloc] at this
  have HF := Lib.hid (few_ok (.cons l K .nil) _ 2000 _ (isH_one hblk hl (hv.below hb2)) (by omega) (by omega))
  have HV := Lib.hid hv
  have HB := Lib.hid hb2
  have HB0 := Lib.hid hblk0
  obtain ⟨p, c, rfl, hc1, hc2, hrow⟩ := hv
  clear hrow hb2 hblk hblk0
  go_enter Try.func6, Try.ntmps6
  go_wp2_with fail
  refine HF.out.mono ?_
  rintro e w1 ⟨rfl, hb1⟩
  have hb1' : Below w.heap.size w w1 := HB.out.trans (hb1.mono (by simp; omega))
  have hx : Blk w1 w.heap.size 24 #[.int .i64 l, .slice p K.len c] := HB0.out.below hb1 (by simp; omega)
  have x1 : w1.cell? ⟨w.heap.size, 0, none⟩ = some (.int .i64 l) := by rw [hx.cell]; rfl
  have x2 : w1.cell? ⟨w.heap.size, 1, none⟩ = some (.slice p K.len c) := by rw [hx.cell]; rfl
  have x3 : w.heap.size < w1.heap.size := hx.lt
  have HB1 := Lib.hid hb1'
  have HVV := Lib.hid (HV.out.below hb1')
  clear hb1 hb1' hx
  by_cases hsz : K.size < 2000
  · have hd : decide (((Hg.cons l K .nil).size : Int) ≤ 2000) = true := decide_eq_true (by simp only [Hg.size]; omega)
    rw [hd]
    clear hd
    have HN := Lib.hid (nodes_ok n l K _ w1 hl HVV.out (by omega))
    go_wp2_with fail
    refine HN.out.mono ?_
    rintro e w2 ⟨hb2, ⟨_, v2, rfl, hown⟩ | ⟨_, rfl⟩⟩
    · obtain ⟨g, cap, rfl⟩ := ownsRow_succ hown
      have HB2 := Lib.hid (HB1.out.trans (hb2.mono (by omega)))
      have HO := Lib.hid hown
      have HA := Lib.hid (awake_ok w2)
      clear hb2 hown HN HF HV HB HB0 HVV
      by_cases h1 : 0 ≤ k
      · by_cases h2 : 0 ≤ m
        · by_cases h3 : k < (K.size : Int) + 1
          · by_cases h4 : m < (K.size : Int) + 1
            · obtain ⟨k, rfl⟩ := Int.eq_ofNat_of_zero_le h1
              obtain ⟨m, rfl⟩ := Int.eq_ofNat_of_zero_le h2
              have hF : (l, -1, 0, (K.size : Int)) :: K.inf 0 0 1 = (Hg.cons l K .nil).inf (-1) 0 0 := by simp [Hg.inf]
              have hown := HO.out
              rw [hF] at hown
              have hok := inf_ok (.cons l K .nil) (-1) 0 0 (by omega)
              have hlen := Hg.inf_length (.cons l K .nil) (-1) 0 0
              simp only [Hg.size, Nat.add_zero] at hok hlen
              generalize hFF : (Hg.cons l K .nil).inf (-1) 0 0 = F at hown hok hlen
              have hcap := (World.ownsRow_bounds hown).1
              have hcap2 := (World.ownsRow_bounds hown).2
              have hxk : ∃ xk, F[k]? = some xk := ⟨_, List.getElem?_eq_getElem (by omega)⟩
              obtain ⟨⟨ka, kb, kc, lk⟩, hxk⟩ := hxk
              have hk1 := hok.1 k _ hxk
              have zk : w2.cell? ⟨g, k * 4 + 3, none⟩ = some (.int .i64 lk) := by
                rw [hown.cellAt _ (by omega), cs4_get F k _ hxk 3 (by omega)]; rfl
              simp only at hk1
              have hlk : (k : Int) ≤ lk := by omega
              have hlk2 : lk < (K.size : Int) + 1 := by omega
              have HOK := Lib.hid hok
              have HXK := Lib.hid hxk
              have HOW := Lib.hid hown
              clear hok hxk hown hFF hF hk1 HO
              have HLEN := Lib.hid hlen
              clear hlen
              go_wp2_with fail
              go_loop [11] (fun v => ∃ t : Int, v = .int .i64 t ∧ -1 ≤ t ∧ t ≤ m ∧ Hid ((k ≤ m ∧ (m : Int) ≤ lk) ↔ ((k : Int) ≤ t ∧ t ≤ lk))) (fun v => (intOf v + 1).toNat)
              case atStart => exact ⟨m, rfl, by omega, by omega, Lib.hid (by omega)⟩
              case round =>
                obtain ⟨t, rfl, ht1, ht2, hiff⟩ := hrel
                by_cases hkt : (k : Int) < t
                · obtain ⟨i, rfl⟩ := Int.eq_ofNat_of_zero_le (a := t) (by omega)
                  have hxi : ∃ xi, F[i]? = some xi := ⟨_, List.getElem?_eq_getElem (by have := HLEN.out; omega)⟩
                  obtain ⟨⟨ia, ib, ic, li⟩, hxi⟩ := hxi
                  have hi1 := HOK.out.1 i _ hxi
                  have hi3 := HOK.out.2 i k _ _ (by omega) hxi HXK.out
                  simp only at hi1 hi3
                  have zi : w2.cell? ⟨g, i * 4 + 1, none⟩ = some (.int .i64 ib) := by
                    rw [HOW.out.cellAt _ (by omega), cs4_get F i _ hxi 1 (by omega)]; rfl
                  have hb1 : -1 ≤ ib := by omega
                  have hb2 : ib < (i : Int) := by omega
                  have HI3 := Lib.hid hi3
                  clear hi1 hi3 hxi
                  go_wp2_with fail
                  go_round
                  case rel => exact ⟨ib, rfl, hb1, by omega, Lib.hid (by have := HI3.out; have := hiff.out; omega)⟩
                  case measure => simp [intOf]; omega
                · have htk : t ≤ (k : Int) := by omega
                  clear hkt
                  by_cases hkm : (k : Int) ≤ m
                  · by_cases hml : (m : Int) ≤ lk
                    · have htk2 : t = (k : Int) := by have := hiff.out; omega
                      subst htk2
                      go_wp2_with fail
                      refine HA.out.mono ?_
                      rintro e w3 ⟨rfl, hb3⟩
                      go_wp2_with fail
                      go_ret
                      exact ⟨rfl, HB2.out.trans (hb3.mono HB2.out.size)⟩
                    · have htk2 : t < (k : Int) := by have := hiff.out; omega
                      have hml' : lk < (m : Int) := by omega
                      have hne : (t == (k : Int)) = false := by simp; omega
                      clear hml htk
                      go_wp2_with fail
                      refine HA.out.mono ?_
                      rintro e w3 ⟨rfl, hb3⟩
                      go_wp2_with fail
                      go_ret
                      exact ⟨ret_bool (by simp; omega), HB2.out.trans (hb3.mono HB2.out.size)⟩
                  · have htk2 : t < (k : Int) := by have := hiff.out; omega
                    have hkm' : (m : Int) < k := by omega
                    have hne : (t == (k : Int)) = false := by simp; omega
                    clear hkm htk
                    go_wp2_with fail
                    refine HA.out.mono ?_
                    rintro e w3 ⟨rfl, hb3⟩
                    go_wp2_with fail
                    go_ret
                    exact ⟨rfl, HB2.out.trans (hb3.mono HB2.out.size)⟩
            · have h4' : (K.size : Int) + 1 ≤ m := by omega
              clear h4
              go_wp2_with fail
              refine HA.out.mono ?_
              rintro e w3 ⟨rfl, hb3⟩
              go_wp2_with fail
              go_ret
              exact ⟨rfl, HB2.out.trans (hb3.mono HB2.out.size)⟩
          · have h3' : (K.size : Int) + 1 ≤ k := by omega
            clear h3
            go_wp2_with fail
            refine HA.out.mono ?_
            rintro e w3 ⟨rfl, hb3⟩
            go_wp2_with fail
            go_ret
            exact ⟨rfl, HB2.out.trans (hb3.mono HB2.out.size)⟩
        · have h2' : m < 0 := by omega
          clear h2
          go_wp2_with fail
          refine HA.out.mono ?_
          rintro e w3 ⟨rfl, hb3⟩
          go_wp2_with fail
          go_ret
          exact ⟨rfl, HB2.out.trans (hb3.mono HB2.out.size)⟩
      · have h1' : k < 0 := by omega
        clear h1
        go_wp2_with fail
        refine HA.out.mono ?_
        rintro e w3 ⟨rfl, hb3⟩
        go_wp2_with fail
        go_ret
        exact ⟨rfl, HB2.out.trans (hb3.mono HB2.out.size)⟩
    · have HB2 := Lib.hid (HB1.out.trans (hb2.mono (by omega)))
      have HA := Lib.hid (awake_ok w2)
      clear hb2 HN HF HV HB HB0 HVV
      go_wp2_with fail
      refine HA.out.mono ?_
      rintro e w3 ⟨rfl, hb3⟩
      go_wp2_with fail
      go_ret
      exact ⟨rfl, HB2.out.trans (hb3.mono HB2.out.size)⟩
  · have hd : decide (((Hg.cons l K .nil).size : Int) ≤ 2000) = false := decide_eq_false (by simp only [Hg.size]; omega)
    rw [hd]
    clear hd
    have HA := Lib.hid (awake_ok w1)
    go_wp2_with fail
    refine HA.out.mono ?_
    rintro e w2 ⟨rfl, hb2⟩
    go_wp2_with fail
    go_ret
    exact ⟨rfl, HB1.out.trans (hb2.mono (by omega))⟩

end Go.Proofs.Ythdaeblfehclcab
