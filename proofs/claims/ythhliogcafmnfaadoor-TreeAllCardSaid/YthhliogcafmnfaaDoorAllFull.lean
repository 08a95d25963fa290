/- tree.All where there are too many trees. -/
import Derived.Test.YthhliogcafmnfaaDoorAllErr
namespace Go.Proofs.YthhliogcafmnfaaDoor
open Go.RowKit Go.Shelf
attribute [local go_sem] Oper.semAt_some fwd fwf

theorem valid_ranks {ranks : List Nat} (hr : ∀ r ∈ ranks, r ≤ 3) (hlen : ranks.length ≤ 12) : validAl (ranks.map (fun r : Nat => (r : Int))) = true := by
  simp only [validAl, Bool.and_eq_true, decide_eq_true_eq, List.length_map, List.all_eq_true]
  refine ⟨hlen, fun x hx => ?_⟩
  obtain ⟨r, h1, rfl⟩ := List.mem_map.1 hx
  have := hr r h1
  simp only [rok, Bool.and_eq_true, decide_eq_true_eq]
  omega

set_option maxRecDepth 100000 in
set_option maxHeartbeats 2000000 in
theorem all_full (ranks : List Nat) (v : Value) (n : Nat) (w : World) (hv : IsInts w v (ranks.map (fun r : Nat => (r : Int)))) (hr : ∀ r ∈ ranks, r ≤ 3) (hlen : ranks.length ≤ 12) (hn1 : 1 ≤ n) (hn2 : n ≤ 12) (hfull : 4096 < tgt ranks 1 n) :
    Calls Tryd.prog 32 #[.agg #[v], .int .i64 (n : Nat)] w fun e w' => e = .returned (.tuple #[.slice none 0 0, .int .i64 3]) ∧ Below w.heap.size w w' := by
  have hbw : Below w.heap.size w (w.alloc (.cells #[v] 24)) := (Below.refl _ w).alloc (Nat.le_refl _) _
  have HV := Lib.hid (validAlphabet_ok _ v _ (hv.below hbw))
  have HBW := Lib.hid hbw
  have HIV := Lib.hid hv
  have HR := Lib.hid hr
  have HLN := Lib.hid hlen
  have HB := Lib.hid (valid_ranks hr hlen)
  have HA0 := Lib.hid (Blk.new w 24 #[v])
  obtain ⟨p, c, rfl, hc1, hc2, hcell⟩ := hv
  rw [List.length_map] at hc1 HA0 HV HIV HBW
  have hlm : (ranks.map (fun r : Nat => (r : Int))).length = ranks.length := List.length_map ..
  clear hbw hcell
  have e1 : ¬ (n : Int) < 1 := by omega
  have e2 : decide ((n : Int) < 1) = false := decide_eq_false e1
  have e3 : ¬ (12 : Int) < (n : Int) := by omega
  have e4 : decide ((12 : Int) < (n : Int)) = false := decide_eq_false e3
  have e5 : n < 13 := by omega
  have e6 : (0 : Int) ≤ (n : Int) := by omega
  have e7 : (n : Int) < 13 := by omega
  obtain ⟨Z, hZ53, hZ⟩ := zero_census
  have HZ := Lib.hid hZ
  clear hZ hr hlen
  refine Calls.of_callsIn (ro := none) (m := 0) ?_
  refine callsIn_of_wp_marks Tryd.func32 rfl trivial ?_ rfl
  simp only [Tryd.ntmps32, List.size_toArray, List.length_cons, List.length_nil, Nat.reduceAdd, Nat.reduceSub, Array.replicate_succ, Array.replicate_zero, List.push_toArray, List.append_toArray, List.nil_append, List.cons_append, hlm]
  refine wpIn_wide.2 ?_
  go_wp2_with fail
  refine HV.out.mono ?_
  rintro e w1 ⟨rfl, hb1⟩
  rw [HB.out]
  have hb2 : Below w.heap.size w w1 := HBW.out.trans (hb1.mono (by simp))
  have hA1 : Blk w1 w.heap.size 24 #[.slice p ranks.length c] := HA0.out.below hb1 (by simp)
  have x1 : w1.cell? ⟨w.heap.size, 0, none⟩ = some (.slice p ranks.length c) := by rw [hA1.cell]; rfl
  have x2 := hA1.lt
  have HB2 := Lib.hid hb2
  have hT := takeCensus_ok ranks _ w1 (HIV.out.below hb2) HR.out HLN.out
  have HT := Lib.hid hT
  clear hb1 hb2 hA1 hT
  go_wp2_with fail
  refine HT.out.mono ?_
  rintro e w2 ⟨cs, rfl, hs53, hcs0, hcc, hb3⟩
  have hone : cs.all (·.oneCell') = true := by
    rw [Array.all_eq_true_iff_forall_mem]
    intro u hu
    obtain ⟨i, hi, rfl⟩ := Array.getElem_of_mem hu
    rcases Nat.eq_zero_or_pos i with rfl | hp
    · have := Array.getElem?_eq_getElem hi
      rw [hcs0] at this
      simp only [Option.some.injEq] at this
      rw [← this]; rfl
    · have h1 := hcc ((i - 1) / 13) ((i - 1) % 13) (by omega) (by omega)
      rw [show 1 + (i - 1) / 13 * 13 + (i - 1) % 13 = i by omega, Array.getElem?_eq_getElem hi] at h1
      simp only [Option.some.injEq] at h1
      rw [h1]; rfl
  have HI2 := Lib.hid (show (Tryd.prog.info? 98).map (·.size) = some cs.size by rw [hs53]; exact Tryd.infoCensus)
  have HB3 := Lib.hid (HB2.out.trans (hb3.mono HB2.out.size))
  have HCC := Lib.hid hcc
  have HC0 := Lib.hid hcs0
  have hbc : Blk (w2.alloc (.cells cs 98)) w2.heap.size 98 cs := Blk.new w2 _ _
  have x3 : (w2.alloc (.cells cs 98)).cell? ⟨w2.heap.size, 14 + n, none⟩ = some (.int .i64 (tgt ranks 1 n : Nat)) := by
    rw [hbc.cell, show 14 + n = 1 + 1 * 13 + n by omega]; exact hcc 1 n (by omega) (by omega)
  have x4 := hbc.lt
  clear hb3 hcc hcs0 hbc
  dsimp only
  repeat (first
    | (refine wp_alloc_as 98 rfl Z HZ.out ?_; simp [go_sem])
    | (refine wp_store_row 98 (.tmp 6) (.tmp 19) rfl w2.heap.size cs rfl rfl 98 Z (heap_alloc_last w2 _) HI2.out (by rw [hZ53, hs53]) hone ?_; rw [setRow_new _ _ _ _ _ rfl]; simp [go_sem])
    | go_step)
  exact ⟨.tuple #[.slice none 0 0, .int .i64 3], by simp [results, Tryd.results32, go_sem], rfl, HB3.out.alloc (by have := HB3.out.size; omega) _⟩

end Go.Proofs.YthhliogcafmnfaaDoor
