/- ref01.All. -/
import Derived.Test.YthhliogcafmnfaaDoorLists
import Derived.Test.YthhliogcafmnfaaDoorShaped
namespace Go.Proofs.YthhliogcafmnfaaDoor
open Go.RowKit Go.Shelf

theorem maker_ok (ranks : List Nat) (N0 : Nat) (p : Option Addr) (c M Bk : Nat) (hr : ∀ r ∈ ranks, r ≤ 3) (hlen : ranks.length ≤ 12) : ∀ N,
    (∀ k n, 4 * n + k < N → k ≤ 3 → n ≤ 12 → (LL ranks k n).length ≤ 4096 → CL ranks N0 p c M Bk k n) ∧ (∀ m, 4 * (m + 1) < N → m < 12 → (TT ranks (m + 1)).length ≤ 4096 → CT ranks N0 p c M Bk m) := by
  intro N
  induction N with
  | zero => exact ⟨fun k n h => by omega, fun m h => by omega⟩
  | succ N ih =>
    refine ⟨fun k n h hk hn hb => ?_, fun m h hm hb => ?_⟩
    · cases k with
      | zero => exact lists_zero ranks N0 p c M Bk n
      | succ k => exact lists_ok ranks N0 p c M Bk k n hr hlen hk hn hb (fun i hi hb' => ih.1 k (n - (i + 1)) (by omega) (by omega) (by omega) hb') (fun i hi hb' => ih.2 i (by omega) (by omega) hb')
    · refine trees_ok ranks N0 p c M Bk m hlen hm hb (fun r hrm => ?_)
      have := hr r hrm
      exact ih.1 r m (by omega) this (by omega) (Nat.le_trans (LL_le_TT hrm) hb)

theorem ints_sub {w : World} {p : Option Addr} {c n : Nat} {l : List Int} {N0 B : Nat} (h : IsInts w (.slice p n c) l) (h1 : w.heap.size ≤ N0) (h2 : w.heap.size ≤ B) : IsIntsS (fun c => c < N0 ∧ c ≠ B) w (.slice p n c) l := by
  obtain ⟨p', c', e, a1, a2, a3⟩ := h
  refine ⟨p', c', e, a1, a2, fun hne => ?_⟩
  obtain ⟨b, o, e2, hc⟩ := a3 hne
  refine ⟨b, o, e2, ?_, hc⟩
  cases l with
  | nil => exact absurd rfl hne
  | cons x l =>
    have := World.block_lt_of_cell? _ _ (hc 0 x rfl)
    simp only at this
    omega

set_option maxRecDepth 100000 in
set_option maxHeartbeats 2000000 in
theorem rall_bad (al : List Int) (v : Value) (n : Int) (w : World) (hv : IsInts w v al) (hbad : validAl al = false) :
    Calls Tryd.prog 33 #[.agg #[v], .int .i64 n] w fun e w' => e = .returned (.tuple #[.slice none 0 0, .int .i64 1]) ∧ Below w.heap.size w w' := by
  have hbw : Below w.heap.size w (w.alloc (.cells #[v] 24)) := (Below.refl _ w).alloc (Nat.le_refl _) _
  have HV := Lib.hid (rvalidAlphabet_ok al v _ (hv.below hbw))
  have HBW := Lib.hid hbw
  obtain ⟨p, c, rfl, hc1, hc2, hcell⟩ := hv
  rw [hbad] at HV
  clear hbw hcell hbad
  go_enter Tryd.func33, Tryd.ntmps33
  go_wp2_with fail
  refine HV.out.mono ?_
  rintro e w1 ⟨rfl, hb⟩
  have HB := Lib.hid (HBW.out.trans (hb.mono (by simp)))
  clear hb
  go_wp2_with fail
  go_ret2
  exact ⟨rfl, HB.out⟩

set_option maxRecDepth 100000 in
set_option maxHeartbeats 2000000 in
theorem rall_range (al : List Int) (v : Value) (n : Int) (w : World) (hv : IsInts w v al) (hok : validAl al = true) (hn : n < 1 ∨ 12 < n) :
    Calls Tryd.prog 33 #[.agg #[v], .int .i64 n] w fun e w' => e = .returned (.tuple #[.slice none 0 0, .int .i64 6]) ∧ Below w.heap.size w w' := by
  have hbw : Below w.heap.size w (w.alloc (.cells #[v] 24)) := (Below.refl _ w).alloc (Nat.le_refl _) _
  have HV := Lib.hid (rvalidAlphabet_ok al v _ (hv.below hbw))
  have HBW := Lib.hid hbw
  obtain ⟨p, c, rfl, hc1, hc2, hcell⟩ := hv
  rw [hok] at HV
  clear hbw hcell hok
  rcases hn with h | h
  · go_enter Tryd.func33, Tryd.ntmps33
    go_wp2_with fail
    refine HV.out.mono ?_
    rintro e w1 ⟨rfl, hb⟩
    have HB := Lib.hid (HBW.out.trans (hb.mono (by simp)))
    clear hb
    go_wp2_with fail
    go_ret2
    exact ⟨rfl, HB.out⟩
  · have h1 : ¬ n < 1 := by omega
    have h2 : decide (n < 1) = false := decide_eq_false h1
    have h3 : decide (12 < n) = true := decide_eq_true h
    go_enter Tryd.func33, Tryd.ntmps33
    go_wp2_with fail
    refine HV.out.mono ?_
    rintro e w1 ⟨rfl, hb⟩
    have HB := Lib.hid (HBW.out.trans (hb.mono (by simp)))
    clear hb
    go_wp2_with fail
    go_ret2
    exact ⟨rfl, HB.out⟩

set_option maxRecDepth 100000 in
set_option maxHeartbeats 2000000 in
theorem rall_full (ranks : List Nat) (v : Value) (m : Nat) (w : World) (hv : IsInts w v (ranks.map (fun r : Nat => (r : Int)))) (hr : ∀ r ∈ ranks, r ≤ 3) (hlen : ranks.length ≤ 12) (hm : m < 12) (hbig : 4096 < (TT ranks (m + 1)).length) :
    Calls Tryd.prog 33 #[.agg #[v], .int .i64 ((m : Int) + 1)] w fun e w' => e = .returned (.tuple #[.slice none 0 0, .int .i64 3]) ∧ Below w.heap.size w w' := by
  have hbw : Below w.heap.size w (w.alloc (.cells #[v] 24)) := (Below.refl _ w).alloc (Nat.le_refl _) _
  have HV := Lib.hid (rvalidAlphabet_ok _ v _ (hv.below hbw))
  have HVV := Lib.hid hv
  have HBW := Lib.hid hbw
  have HA0 := Lib.hid (Blk.new w 24 #[v])
  have HR := Lib.hid hr
  obtain ⟨p, c, rfl, hc1, hc2, hcell⟩ := hv
  rw [valid_ranks hr hlen, List.length_map] at HV
  rw [List.length_map] at HVV HBW HA0
  rw [List.length_map]
  clear hbw hcell hr
  have h1 : ¬ (m : Int) + 1 < 1 := by omega
  have h2 : decide ((m : Int) + 1 < 1) = false := decide_eq_false h1
  have h3 : ¬ 12 < (m : Int) + 1 := by omega
  have h4 : decide (12 < (m : Int) + 1) = false := decide_eq_false h3
  have hTW : (TT ranks (m + 1)).length = Wn ranks 1 (m + 1) := (LL_one HR.out (m + 1) (by omega)).symm
  have g1 : 4096 < ((c30 (Wn ranks 1 (m + 1)) : Nat) : Int) := by rw [← hTW]; unfold c30; omega
  have g2 : decide (4096 < ((c30 (Wn ranks 1 (m + 1)) : Nat) : Int)) = true := decide_eq_true g1
  clear hTW hbig
  go_enter Tryd.func33, Tryd.ntmps33
  go_wp2_with fail
  refine HV.out.mono ?_
  rintro e w1 ⟨rfl, hb⟩
  have HB := Lib.hid (HBW.out.trans (hb.mono (by simp)))
  have HA1 := Lib.hid (HA0.out.below hb (by simp))
  have a1 : w1.cell? ⟨w.heap.size, 0, none⟩ = some (.slice p ranks.length c) := by rw [HA1.out.cell]; rfl
  have a2 := HA1.out.lt
  have HC := Lib.hid (many_at ranks _ (m + 1) w1 ((m : Int) + 1) (by simp) (HVV.out.below HB.out) HR.out hlen (by omega))
  clear hb
  go_wp2_with fail
  refine HC.out.mono ?_
  rintro e w2 ⟨rfl, hb⟩
  have HB2 := Lib.hid (HB.out.trans (hb.mono HB.out.size))
  clear hb
  go_wp2_with fail
  go_ret2
  exact ⟨rfl, HB2.out⟩
/-- What All promises where it gives trees. -/
def AllP (w : World) (H : Hg) (e : Ending) (w' : World) : Prop := (∃ vr, e = .returned (.tuple #[vr, .int .i64 0]) ∧ IsH w' vr H) ∧ Below w.heap.size w w'

set_option maxRecDepth 100000 in
set_option maxHeartbeats 2000000 in
theorem rall_ok (ranks : List Nat) (v : Value) (m : Nat) (w : World) (hv : IsInts w v (ranks.map (fun r : Nat => (r : Int)))) (hr : ∀ r ∈ ranks, r ≤ 3) (hlen : ranks.length ≤ 12) (hm : m < 12) (hsm : (TT ranks (m + 1)).length ≤ 4096) :
    Calls Tryd.prog 33 #[.agg #[v], .int .i64 ((m : Int) + 1)] w (AllP w (toH (TT ranks (m + 1)))) := by
  have hbw : Below w.heap.size w (w.alloc (.cells #[v] 24)) := (Below.refl _ w).alloc (Nat.le_refl _) _
  have HV := Lib.hid (rvalidAlphabet_ok _ v _ (hv.below hbw))
  have HVV := Lib.hid hv
  have HBW := Lib.hid hbw
  have HA0 := Lib.hid (Blk.new w 24 #[v])
  have HR := Lib.hid hr
  obtain ⟨p, c, rfl, hc1, hc2, hcell⟩ := hv
  rw [valid_ranks hr hlen, List.length_map] at HV
  rw [List.length_map] at HVV HBW HA0
  rw [List.length_map]
  clear hbw hcell hr
  have h1 : ¬ (m : Int) + 1 < 1 := by omega
  have h2 : decide ((m : Int) + 1 < 1) = false := decide_eq_false h1
  have h3 : ¬ 12 < (m : Int) + 1 := by omega
  have h4 : decide (12 < (m : Int) + 1) = false := decide_eq_false h3
  have hTW : (TT ranks (m + 1)).length = Wn ranks 1 (m + 1) := (LL_one HR.out (m + 1) (by omega)).symm
  have g1 : ¬ 4096 < ((c30 (Wn ranks 1 (m + 1)) : Nat) : Int) := by rw [← hTW]; unfold c30; omega
  have g2 : decide (4096 < ((c30 (Wn ranks 1 (m + 1)) : Nat) : Int)) = false := decide_eq_false g1
  have hmm := @run_makeMap Tryd.prog
  clear hTW
  go_enter Tryd.func33, Tryd.ntmps33
  go_wp2_with fail
  refine HV.out.mono ?_
  rintro e w1 ⟨rfl, hb⟩
  have HB := Lib.hid (HBW.out.trans (hb.mono (by simp)))
  have HA1 := Lib.hid (HA0.out.below hb (by simp))
  have a1 : w1.cell? ⟨w.heap.size, 0, none⟩ = some (.slice p ranks.length c) := by rw [HA1.out.cell]; rfl
  have a2 := HA1.out.lt
  have HC := Lib.hid (many_at ranks _ (m + 1) w1 ((m : Int) + 1) (by simp) (HVV.out.below HB.out) HR.out hlen (by omega))
  clear hb
  go_wp2_with fail
  refine HC.out.mono ?_
  rintro e w2 ⟨rfl, hb⟩
  have HB2 := Lib.hid (HB.out.trans (hb.mono HB.out.size))
  have HA2 := Lib.hid (HA1.out.below hb a2)
  have b1 : w2.cell? ⟨w.heap.size, 0, none⟩ = some (.slice p ranks.length c) := by rw [HA2.out.cell]; rfl
  have b2 := HA2.out.lt
  clear hb a1 a2
  go_wp2_with fail
  have hk3 : Kp (fun _ => True) w2 ((w2.alloc (.map #[] 0)).alloc (.cells #[.slice p ranks.length c, .map (some w2.heap.size)] 107)) := ((Kp.refl _ w2).alloc _).alloc _
  have hMp : IsMp Tryd.prog 3 keysM ((w2.alloc (.map #[] 0)).alloc (.cells #[.slice p ranks.length c, .map (some w2.heap.size)] 107)) w2.heap.size (fun _ => none) :=
    (IsMp.made w2 Tryd.prog 3 keysM).kp ((Kp.refl (fun _ => True) _).alloc _) trivial
  have hbM := Blk.new (w2.alloc (.map #[] 0)) 107 #[.slice p ranks.length c, .map (some w2.heap.size)]
  have hal := ((HVV.out.below HB2.out) |> fun h => ints_sub (N0 := w2.heap.size + 1 + 1) (B := w2.heap.size) h (by omega) (Nat.le_refl _)).kp (hk3.mono fun _ _ _ => trivial)
  have hMk : Mk ranks (w2.heap.size + 1 + 1) p c (w2.heap.size + 1) w2.heap.size (fun _ => False) ((w2.alloc (.map #[] 0)).alloc (.cells #[.slice p ranks.length c, .map (some w2.heap.size)] 107)) :=
    ⟨by omega, by omega, by omega, by simpa using hbM, ⟨_, hMp, fun m v h => by cases h⟩, hal⟩
  have HCT := Lib.hid ((maker_ok ranks (w2.heap.size + 1 + 1) p c (w2.heap.size + 1) w2.heap.size HR.out hlen (4 * (m + 1) + 1)).2 m (by omega) hm hsm (fun _ => False) _ ((m : Int) + 1) rfl (by simp) (fun c h => h.elim) hMk)
  have HK3 := Lib.hid hk3
  clear hk3 hMp hbM hal hMk
  refine HCT.out.mono ?_
  rintro e w4 ⟨vr, rfl, hvr, _, hk4⟩
  have HVR := Lib.hid hvr.isH
  have hb4 : Below w.heap.size w w4 := HB2.out.trans (((HK3.out.mono (fun _ _ _ => trivial)).trans hk4).below HB2.out.size (fun k hk => by have := HB2.out.size; omega))
  have HB4 := Lib.hid hb4
  clear hvr hk4 hb4 HCT HK3
  go_wp2_with fail
  go_ret2
  exact ⟨⟨vr, rfl, HVR.out⟩, HB4.out⟩

end Go.Proofs.YthhliogcafmnfaaDoor
