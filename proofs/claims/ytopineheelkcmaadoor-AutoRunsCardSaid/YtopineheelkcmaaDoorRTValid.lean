/- ref01.Valid. -/
import Derived.Test.YtopineheelkcmaaDoorShaped
namespace Go.Proofs.YtopineheelkcmaaDoor
open Go.RowKit Go.Shelf

set_option maxRecDepth 100000 in
set_option maxHeartbeats 1000000 in
theorem rtvalid_ok (al : List Int) (av : Value) (s : Int) (vk : Value) (K : Hg) (w : World) (ha : IsInts w av al) (hv : IsH w vk K) :
    Calls Tryd.prog 37 #[.agg #[av], .agg #[.int .i64 s, vk]] w fun e w' => e = .returned (.bool (tvalid al s K)) ∧ Below w.heap.size w w' := by
  have hbw : Below w.heap.size w ((w.alloc (.cells #[av] 24)).alloc (.cells #[.int .i64 s, vk] 43)) := ((Below.refl _ w).alloc (Nat.le_refl _) _).alloc (by simp) _
  have hB0 : Blk ((w.alloc (.cells #[av] 24)).alloc (.cells #[.int .i64 s, vk] 43)) w.heap.size 24 #[av] := (Blk.new w _ _).alloc _
  have hB1 : Blk ((w.alloc (.cells #[av] 24)).alloc (.cells #[.int .i64 s, vk] 43)) (w.heap.size + 1) 43 #[.int .i64 s, vk] := by
    have := Blk.new (w.alloc (.cells #[av] 24)) 43 #[.int .i64 s, vk]; rwa [World.size_alloc] at this
  have HV := Lib.hid (rvalidAlphabet_ok al av _ (ha.below hbw))
  have HA := Lib.hid ha
  have HH := Lib.hid hv
  have HB0 := Lib.hid hB0
  have HB1 := Lib.hid hB1
  have HBW := Lib.hid hbw
  obtain ⟨pa, ca, rfl, ha1, ha2, haa⟩ := ha
  obtain ⟨p, c, rfl, hc1, hc2, hrow⟩ := hv
  clear haa hrow hB0 hB1 hbw
  have step : ∀ w1, Below ((w.alloc (.cells #[.slice pa al.length ca] 24)).alloc (.cells #[.int .i64 s, .slice p K.len c] 43)).heap.size ((w.alloc (.cells #[.slice pa al.length ca] 24)).alloc (.cells #[.int .i64 s, .slice p K.len c] 43)) w1 →
      (w1.cell? ⟨w.heap.size, 0, none⟩ = some (.slice pa al.length ca) ∧ w1.cell? ⟨w.heap.size + 1, 0, none⟩ = some (.int .i64 s) ∧ w1.cell? ⟨w.heap.size + 1, 1, none⟩ = some (.slice p K.len c)) ∧ w.heap.size < w1.heap.size ∧ w.heap.size + 1 < w1.heap.size ∧ Below w.heap.size w w1 := by
    intro w1 hb
    have h0 := HB0.out.below hb (by simp; omega)
    have h1 := HB1.out.below hb (by simp)
    refine ⟨⟨?_, ?_, ?_⟩, h0.lt, h1.lt, HBW.out.trans (hb.mono (by simp; omega))⟩
    · rw [h0.cell]; rfl
    · rw [h1.cell]; rfl
    · rw [h1.cell]; rfl
  have HST := Lib.hid step
  clear step
  cases hva : validAl al with
  | false =>
    have HT : Hid (tvalid al s K = false) := Lib.hid (by simp [tvalid, hva])
    rw [hva] at HV
    clear hva
    go_enter Tryd.func37, Tryd.ntmps37
    go_wp2_with fail
    refine HV.out.mono ?_
    rintro e w1 ⟨rfl, hb1⟩
    have HB := Lib.hid hb1
    clear hb1
    go_wp2_with fail
    go_ret
    exact ⟨ret_bool (by rw [HT.out]), HBW.out.trans (HB.out.mono (by simp; omega))⟩
  | true =>
    have HVA := Lib.hid hva
    rw [hva] at HV
    clear hva
    go_enter Tryd.func37, Tryd.ntmps37
    go_wp2_with fail
    refine HV.out.mono ?_
    rintro e w1 ⟨rfl, hb1⟩
    obtain ⟨⟨z1, z2, z3⟩, z4, z5, hb1'⟩ := HST.out w1 hb1
    have HF := Lib.hid (few01_ok s K _ 300 w1 (HH.out.below hb1') (by omega) (by omega))
    have HB := Lib.hid hb1
    clear hb1 hb1'
    by_cases h3 : K.size + 1 ≤ 300
    · have hd : decide ((K.size : Int) + 1 ≤ 300) = true := decide_eq_true (by omega)
      rw [hd] at HF
      clear hd
      go_wp2_with fail
      refine HF.out.mono ?_
      rintro e w2 ⟨rfl, hb2⟩
      have hb2 := HB.out.trans (hb2.mono HB.out.size)
      obtain ⟨⟨y1, y2, y3⟩, y4, y5, hb2'⟩ := HST.out w2 hb2
      have HS := Lib.hid (shaped_any al (K.size + 1) _ s _ K w2 (by omega) (HA.out.below hb2') (HH.out.below hb2'))
      have HB2 := Lib.hid hb2'
      clear hb2 hb2'
      go_wp2_with fail
      refine HS.out.mono ?_
      rintro e w3 ⟨rfl, hb3⟩
      have HB3 := Lib.hid (HB2.out.trans (hb3.mono (by omega)))
      clear hb3
      go_wp2_with fail
      go_ret
      exact ⟨ret_bool (by simp [tvalid, HVA.out, h3, shape]), HB3.out⟩
    · have hd : decide ((K.size : Int) + 1 ≤ 300) = false := decide_eq_false (by omega)
      have HT : Hid (tvalid al s K = false) := Lib.hid (by simp [tvalid, h3])
      rw [hd] at HF
      clear hd h3
      go_wp2_with fail
      refine HF.out.mono ?_
      rintro e w2 ⟨rfl, hb2⟩
      have HB2 := Lib.hid (HBW.out.trans ((HB.out.trans (hb2.mono HB.out.size)).mono (by simp; omega)))
      clear hb2
      go_wp2_with fail
      go_ret
      exact ⟨ret_bool (by rw [HT.out]), HB2.out⟩

end Go.Proofs.YtopineheelkcmaaDoor
