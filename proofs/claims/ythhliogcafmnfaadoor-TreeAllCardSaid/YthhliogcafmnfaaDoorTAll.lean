/- law01.TreeAll, the walk. -/
import Derived.Test.YthhliogcafmnfaaDoorRAll
import Derived.Test.YthhliogcafmnfaaDoorTAwakeOk
namespace Go.Proofs.YthhliogcafmnfaaDoor
open Go.RowKit Go.Shelf

/-- All's error, and its trees. -/
def allE (al : List Int) (n : Int) : Int :=
  if validAl al = true then (if n < 1 ∨ 12 < n then 6 else if 4096 < (TT (al.map Int.toNat) n.toNat).length then 3 else 0) else 1
def allH (al : List Int) (n : Int) : Hg := if allE al n = 0 then toH (TT (al.map Int.toNat) n.toNat) else .nil
/-- What either All promises. -/
def AllQ (w : World) (al : List Int) (n : Int) (e : Ending) (w' : World) : Prop := (∃ vr, e = .returned (.tuple #[vr, .int .i64 (allE al n)]) ∧ IsH w' vr (allH al n)) ∧ Below w.heap.size w w'

theorem ranks_of {al : List Int} (h : validAl al = true) : (al.map Int.toNat).map (fun r : Nat => (r : Int)) = al ∧ (∀ r ∈ al.map Int.toNat, r ≤ 3) ∧ (al.map Int.toNat).length ≤ 12 := by
  simp only [validAl, Bool.and_eq_true, decide_eq_true_eq, List.all_eq_true] at h
  refine ⟨?_, fun r hr => ?_, by simpa using h.1⟩
  · rw [List.map_map]
    conv => rhs; rw [← List.map_id al]
    refine List.map_congr_left (fun x hx => ?_)
    have := h.2 x hx
    simp only [rok, Bool.and_eq_true, decide_eq_true_eq] at this
    simp only [Function.comp_apply, id_eq]
    omega
  · obtain ⟨x, hx, rfl⟩ := List.mem_map.1 hr
    have := h.2 x hx
    simp only [rok, Bool.and_eq_true, decide_eq_true_eq] at this
    omega
theorem isH_nil2 (w : World) : IsH w (.slice none 0 0) .nil := ⟨none, 0, rfl, Nat.le_refl _, by decide, fun h => absurd rfl h⟩

theorem all_any (al : List Int) (v : Value) (n : Int) (w : World) (hv : IsInts w v al) : Calls Tryd.prog 32 #[.agg #[v], .int .i64 n] w (AllQ w al n) := by
  by_cases h1 : validAl al = true
  · obtain ⟨e1, e2, e3⟩ := ranks_of h1
    by_cases h2 : n < 1 ∨ 12 < n
    · refine (all_range al v n w hv h1 h2).mono fun e w' ⟨he, hb⟩ => ⟨⟨.slice none 0 0, ?_, ?_⟩, hb⟩
      · rw [he, allE, if_pos h1, if_pos h2]
      · rw [allH, allE, if_pos h1, if_pos h2, if_neg (by decide)]; exact isH_nil2 _
    · obtain ⟨m, rfl⟩ := Int.eq_ofNat_of_zero_le (show 0 ≤ n by omega)
      have hv' : IsInts w v ((al.map Int.toNat).map (fun r : Nat => (r : Int))) := by rw [e1]; exact hv
      have hm := tgt_many e2 m (by omega)
      by_cases h3 : 4096 < (TT (al.map Int.toNat) m).length
      · refine (all_full (al.map Int.toNat) v m w hv' e2 e3 (by omega) (by omega) (hm.2 h3)).mono fun e w' ⟨he, hb⟩ => ⟨⟨.slice none 0 0, ?_, ?_⟩, hb⟩
        · rw [he, allE, if_pos h1, if_neg h2, Int.toNat_natCast, if_pos h3]
        · rw [allH, allE, if_pos h1, if_neg h2, Int.toNat_natCast, if_pos h3, if_neg (by decide)]; exact isH_nil2 _
      · refine (all_ok (al.map Int.toNat) v m w hv' e2 e3 (by omega) (by omega) (by omega)).mono fun e w' ⟨⟨vr, he, hr⟩, hb⟩ => ⟨⟨vr, ?_, ?_⟩, hb⟩
        · rw [he, allE, if_pos h1, if_neg h2, Int.toNat_natCast, if_neg h3]
        · rw [allH, allE, if_pos h1, if_neg h2, Int.toNat_natCast, if_neg h3, if_pos rfl]; exact hr.isH
  · refine (all_bad al v n w hv (by simpa using h1)).mono fun e w' ⟨he, hb⟩ => ⟨⟨.slice none 0 0, ?_, ?_⟩, hb⟩
    · rw [he, allE, if_neg h1]
    · rw [allH, allE, if_neg h1, if_neg (by decide)]; exact isH_nil2 _

theorem rall_any (al : List Int) (v : Value) (n : Int) (w : World) (hv : IsInts w v al) : Calls Tryd.prog 33 #[.agg #[v], .int .i64 n] w (AllQ w al n) := by
  by_cases h1 : validAl al = true
  · obtain ⟨e1, e2, e3⟩ := ranks_of h1
    by_cases h2 : n < 1 ∨ 12 < n
    · refine (rall_range al v n w hv h1 h2).mono fun e w' ⟨he, hb⟩ => ⟨⟨.slice none 0 0, ?_, ?_⟩, hb⟩
      · rw [he, allE, if_pos h1, if_pos h2]
      · rw [allH, allE, if_pos h1, if_pos h2, if_neg (by decide)]; exact isH_nil2 _
    · obtain ⟨q, rfl⟩ := Int.eq_ofNat_of_zero_le (show 0 ≤ n by omega)
      obtain ⟨m, rfl⟩ : ∃ m, q = m + 1 := ⟨q - 1, by omega⟩
      have hv' : IsInts w v ((al.map Int.toNat).map (fun r : Nat => (r : Int))) := by rw [e1]; exact hv
      by_cases h3 : 4096 < (TT (al.map Int.toNat) (m + 1)).length
      · refine (rall_full (al.map Int.toNat) v m w hv' e2 e3 (by omega) h3).mono fun e w' ⟨he, hb⟩ => ⟨⟨.slice none 0 0, ?_, ?_⟩, hb⟩
        · rw [he, allE, if_pos h1, if_neg h2, Int.toNat_natCast, if_pos h3]
        · rw [allH, allE, if_pos h1, if_neg h2, Int.toNat_natCast, if_pos h3, if_neg (by decide)]; exact isH_nil2 _
      · refine (rall_ok (al.map Int.toNat) v m w hv' e2 e3 (by omega) (by omega)).mono fun e w' ⟨⟨vr, he, hr⟩, hb⟩ => ⟨⟨vr, ?_, ?_⟩, hb⟩
        · rw [he, allE, if_pos h1, if_neg h2, Int.toNat_natCast, if_neg h3]
        · rw [allH, allE, if_pos h1, if_neg h2, Int.toNat_natCast, if_neg h3, if_pos rfl]; exact hr
  · refine (rall_bad al v n w hv (by simpa using h1)).mono fun e w' ⟨he, hb⟩ => ⟨⟨.slice none 0 0, ?_, ?_⟩, hb⟩
    · rw [he, allE, if_neg h1]
    · rw [allH, allE, if_neg h1, if_neg (by decide)]; exact isH_nil2 _

set_option maxRecDepth 100000 in
set_option maxHeartbeats 1000000 in
theorem tall_walk (al : List Int) (v : Value) (n : Int) (w : World) (hal : AlIs w) (hv : IsInts w v al) :
    Calls Tryd.prog 7 #[.agg #[v], .int .i64 n] w fun e w' => e = .returned (.bool true) ∧ Below w.heap.size w w' := by
  have hbw : Below w.heap.size w (w.alloc (.cells #[v] 24)) := (Below.refl _ w).alloc (Nat.le_refl _) _
  have HF := Lib.hid (few_ok al v .nil (.slice none 0 0) _ (hv.below hbw) (isH_nil2 _))
  have HV := Lib.hid hv
  have HBW := Lib.hid hbw
  have HAL := Lib.hid hal
  have HA0 := Lib.hid (Blk.new w 24 #[v])
  obtain ⟨p, c, rfl, hc1, hc2, hcell⟩ := hv
  clear hbw hal hcell
  go_enter Tryd.func7, Tryd.ntmps7
  go_wp2_with fail
  refine HF.out.mono ?_
  rintro e w1 ⟨rfl, hb⟩
  have HB1 := Lib.hid (HBW.out.trans (hb.mono (by simp)))
  have HA1 := Lib.hid (HA0.out.below hb (by simp))
  have a1 : w1.cell? ⟨w.heap.size, 0, none⟩ = some (.slice p al.length c) := by rw [HA1.out.cell]; rfl
  have a2 := HA1.out.lt
  clear hb
  by_cases h40 : (fewH .nil && decide ((al.length : Int) ≤ 40)) = true
  · rw [h40]
    go_wp2_with fail
    refine (all_any al _ n w1 (HV.out.below HB1.out)).mono ?_
    rintro e w2 ⟨⟨v2, rfl, hv2⟩, hb⟩
    have HB2 := Lib.hid (HB1.out.trans (hb.mono HB1.out.size))
    have HA2 := Lib.hid (HA1.out.below hb a2)
    have HV2 := Lib.hid hv2
    have b1 : w2.cell? ⟨w.heap.size, 0, none⟩ = some (.slice p al.length c) := by rw [HA2.out.cell]; rfl
    have b2 := HA2.out.lt
    clear hb hv2 a1 a2
    go_wp2_with fail
    refine (rall_any al _ n w2 (HV.out.below HB2.out)).mono ?_
    rintro e w3 ⟨⟨v3, rfl, hv3⟩, hb⟩
    have HB3 := Lib.hid (HB2.out.trans (hb.mono HB2.out.size))
    have HV22 := Lib.hid (HV2.out.below hb)
    have HV3 := Lib.hid hv3
    clear hb hv3 b1 b2
    go_wp2_with fail
    refine (sameTrees_ok _ v2 v3 w3 HV22.out HV3.out).mono ?_
    rintro e w4 ⟨rfl, hb⟩
    have HB4 := Lib.hid (HB3.out.trans (hb.mono HB3.out.size))
    clear hb
    go_wp2_with fail
    refine (awake_ok w4 (HAL.out.below HB4.out)).mono ?_
    rintro e w5 ⟨rfl, hb⟩
    have HB5 := Lib.hid (HB4.out.trans (hb.mono HB4.out.size))
    clear hb
    go_wp2_with fail
    go_ret
    exact ⟨rfl, HB5.out⟩
  · have h40' : (fewH .nil && decide ((al.length : Int) ≤ 40)) = false := by simpa using h40
    rw [h40']
    go_wp2_with fail
    refine (awake_ok w1 (HAL.out.below HB1.out)).mono ?_
    rintro e w5 ⟨rfl, hb⟩
    have HB5 := Lib.hid (HB1.out.trans (hb.mono HB1.out.size))
    clear hb
    go_wp2_with fail
    go_ret
    exact ⟨rfl, HB5.out⟩

end Go.Proofs.YthhliogcafmnfaaDoor
