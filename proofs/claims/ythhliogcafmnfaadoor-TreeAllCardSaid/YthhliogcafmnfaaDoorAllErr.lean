/- tree.All where it answers with an error. -/
import Derived.Test.YthhliogcafmnfaaDoorCloneT
import Derived.Test.YthhliogcafmnfaaDoorAlpha
namespace Go.Proofs.YthhliogcafmnfaaDoor
open Go.RowKit Go.Shelf
attribute [local go_sem] Oper.semAt_some fwd fwf

set_option maxRecDepth 100000 in
set_option maxHeartbeats 2000000 in
theorem all_bad (al : List Int) (v : Value) (n : Int) (w : World) (hv : IsInts w v al) (hbad : validAl al = false) :
    Calls Tryd.prog 32 #[.agg #[v], .int .i64 n] w fun e w' => e = .returned (.tuple #[.slice none 0 0, .int .i64 1]) ∧ Below w.heap.size w w' := by
  have hbw : Below w.heap.size w (w.alloc (.cells #[v] 24)) := (Below.refl _ w).alloc (Nat.le_refl _) _
  have HV := Lib.hid (validAlphabet_ok al v _ (hv.below hbw))
  have HBW := Lib.hid hbw
  obtain ⟨p, c, rfl, hc1, hc2, hcell⟩ := hv
  have HB := Lib.hid hbad
  clear hbw hcell hbad
  refine Calls.of_callsIn (ro := none) (m := 0) ?_
  refine callsIn_of_wp_marks Tryd.func32 rfl trivial ?_ rfl
  simp only [Tryd.ntmps32, List.size_toArray, List.length_cons, List.length_nil, Nat.reduceAdd, Nat.reduceSub, Array.replicate_succ, Array.replicate_zero, List.push_toArray, List.append_toArray, List.nil_append, List.cons_append]
  gi_wp2_with fail
  refine (CallsIn.of_calls HV.out).mono ?_
  rintro e w1 ⟨rfl, hb1⟩
  rw [HB.out]
  have hb2 : Below w.heap.size w w1 := HBW.out.trans (hb1.mono (by simp))
  have HB2 := Lib.hid hb2
  clear hb1 hb2
  gi_wp2_with fail
  exact ⟨.tuple #[.slice none 0 0, .int .i64 1], by simp [results, Tryd.results32, go_sem], rfl, HB2.out⟩

set_option maxRecDepth 100000 in
set_option maxHeartbeats 2000000 in
theorem all_range (al : List Int) (v : Value) (n : Int) (w : World) (hv : IsInts w v al) (hok : validAl al = true) (hn : n < 1 ∨ 12 < n) :
    Calls Tryd.prog 32 #[.agg #[v], .int .i64 n] w fun e w' => e = .returned (.tuple #[.slice none 0 0, .int .i64 6]) ∧ Below w.heap.size w w' := by
  have hbw : Below w.heap.size w (w.alloc (.cells #[v] 24)) := (Below.refl _ w).alloc (Nat.le_refl _) _
  have HV := Lib.hid (validAlphabet_ok al v _ (hv.below hbw))
  have HBW := Lib.hid hbw
  obtain ⟨p, c, rfl, hc1, hc2, hcell⟩ := hv
  have HB := Lib.hid hok
  clear hbw hcell hok
  refine Calls.of_callsIn (ro := none) (m := 0) ?_
  refine callsIn_of_wp_marks Tryd.func32 rfl trivial ?_ rfl
  simp only [Tryd.ntmps32, List.size_toArray, List.length_cons, List.length_nil, Nat.reduceAdd, Nat.reduceSub, Array.replicate_succ, Array.replicate_zero, List.push_toArray, List.append_toArray, List.nil_append, List.cons_append]
  gi_wp2_with fail
  refine (CallsIn.of_calls HV.out).mono ?_
  rintro e w1 ⟨rfl, hb1⟩
  rw [HB.out]
  have hb2 : Below w.heap.size w w1 := HBW.out.trans (hb1.mono (by simp))
  have HB2 := Lib.hid hb2
  clear hb1 hb2
  by_cases h1 : n < 1
  · have h2 : decide (n < 1) = true := decide_eq_true h1
    clear hn
    gi_wp2_with fail
    exact ⟨.tuple #[.slice none 0 0, .int .i64 6], by simp [results, Tryd.results32, go_sem], rfl, HB2.out⟩
  · have h2 : decide (n < 1) = false := decide_eq_false h1
    have h3 : 12 < n := by omega
    have h4 : decide (12 < n) = true := decide_eq_true h3
    clear hn
    gi_wp2_with fail
    exact ⟨.tuple #[.slice none 0 0, .int .i64 6], by simp [results, Tryd.results32, go_sem], rfl, HB2.out⟩

end Go.Proofs.YthhliogcafmnfaaDoor
