/- The walk of law02.HedgeCodes. -/
import Derived.Test.YtkbcehapalcadabHCMath
import Derived.Test.YtkbcehapalcadabParts
namespace Go.Proofs.Ytkbcehapalcadab
open Go.RowKit Go.Shelf

/-- What stands throughout: nothing old has turned; the tree lies in its box. -/
def HSt (w : World) (s : Int) (vk : Value) (W : World) : Prop := Below w.heap.size w W ∧ Blk W w.heap.size 41 #[.int .i64 s, vk]
theorem HSt.more {w W W' : World} {s : Int} {vk : Value} (h : HSt w s vk W) (hb : Below W.heap.size W W') : HSt w s vk W' := ⟨h.1.trans (hb.mono h.1.size), h.2.below hb h.2.lt⟩
theorem HSt.alloc {w W : World} {s : Int} {vk : Value} (h : HSt w s vk W) (o : Obj) : HSt w s vk (W.alloc o) := ⟨h.1.alloc h.1.size _, h.2.alloc _⟩
theorem HSt.facts {w W : World} {s : Int} {vk : Value} (h : HSt w s vk W) : W.cell? ⟨w.heap.size, 0, none⟩ = some (.int .i64 s) ∧ W.cell? ⟨w.heap.size, 1, none⟩ = some vk ∧ w.heap.size < W.heap.size :=
  ⟨by rw [h.2.cell]; rfl, by rw [h.2.cell]; rfl, h.2.lt⟩

set_option maxRecDepth 100000 in
set_option maxHeartbeats 2000000 in
theorem hcodes_walk (n s : Int) (H K : Hg) (vh' vk : Value) (w : World) (hn : (Lit.int .i64 n).wf = true) (hs : (Lit.int .i64 s).wf = true) (hv : IsH w vh' H) (hk : IsH w vk K) :
    Calls Try.prog 4 #[.int .i64 n, vh', .agg #[.int .i64 s, vk]] w (TrueLaw w) := by
  have HN := Lib.hid hn
  have HS := Lib.hid hs
  have HH := Lib.hid hv
  have HK := Lib.hid hk
  have ST0 : Hid (HSt w s vk (w.alloc (.cells #[.int .i64 s, vk] 41))) := Lib.hid ⟨(Below.refl _ w).alloc (Nat.le_refl _) _, Blk.new w _ _⟩
  have HF := Lib.hid (few_ok H _ 2000 _ (hv.below ST0.out.1) (by omega) (by omega))
  obtain ⟨ph, ch, rfl, hh1, hh2, _⟩ := hv
  obtain ⟨p, c, rfl, hk1, hk2, _⟩ := hk
  clear hn hs
  have HAW := Lib.hid (fun W => awake_ok W)
  go_enter Try.func4, Try.ntmps4
  go_wp2_with fail
  refine HF.out.mono ?_
  rintro e wa ⟨rfl, hb⟩
  have STa := Lib.hid (ST0.out.more hb)
  obtain ⟨z0, z1, z2⟩ := STa.out.facts
  clear hb HF ST0
  by_cases hszH : H.size ≤ 2000
  rotate_left
  · have hd : decide ((H.size : Int) ≤ 2000) = false := decide_eq_false (by omega)
    rw [hd]
    clear hd
    go_wp2_with fail
    refine (HAW.out _).mono ?_
    rintro e w2 ⟨rfl, hb2⟩
    have HB2 := Lib.hid hb2
    clear hb2
    go_wp2_with fail
    go_ret
    exact ⟨rfl, (STa.out.more HB2.out).1⟩
  have hd : decide ((H.size : Int) ≤ 2000) = true := decide_eq_true (by omega)
  rw [hd]
  clear hd
  have HF := Lib.hid (few01_ok s K _ 2000 wa (HK.out.below STa.out.1) (by omega) (by omega))
  go_wp2_with fail
  refine HF.out.mono ?_
  rintro e wb ⟨rfl, hb⟩
  have STb := Lib.hid (STa.out.more hb)
  clear hb HF STa z0 z1 z2
  by_cases hszK : K.size + 1 ≤ 2000
  rotate_left
  · have hd : decide ((K.size : Int) + 1 ≤ 2000) = false := decide_eq_false (by omega)
    rw [hd]
    clear hd
    go_wp2_with fail
    refine (HAW.out _).mono ?_
    rintro e w2 ⟨rfl, hb2⟩
    have HB2 := Lib.hid hb2
    clear hb2
    go_wp2_with fail
    go_ret
    exact ⟨rfl, (STb.out.more HB2.out).1⟩
  have hd : decide ((K.size : Int) + 1 ≤ 2000) = true := decide_eq_true (by omega)
  rw [hd]
  clear hd
  have HE := Lib.hid (encode_ans n HN.out H _ wb (HH.out.below STb.out.1) (by omega))
  go_wp2_with fail
  refine HE.out.mono ?_
  rintro e w1 ⟨r1, rfl, hr1, hb⟩
  have HA1 := Lib.hid hr1
  obtain ⟨va, rfl, hwa, hq⟩ := hr1
  have HWA := Lib.hid hwa
  obtain ⟨pa, ca, rfl, _, _, _⟩ := hq
  have ST1 := Lib.hid (STb.out.more hb)
  have HBA1 := Lib.hid (Blk.new w1 41 #[.int .i64 (encT n H).1, .slice pa (encT n H).2.len ca])
  have HE2 := Lib.hid (rencode_ans n HN.out H _ (w1.alloc (.cells #[.int .i64 (encT n H).1, .slice pa (encT n H).2.len ca] 41)) (HH.out.below (ST1.out.alloc _).1) (by omega))
  clear hb HE STb hwa
  go_wp2_with fail
  refine HE2.out.mono ?_
  rintro e w2 ⟨r2, rfl, hr2, hb⟩
  have HA2 := Lib.hid (HA1.out.below (((Below.refl _ w1).alloc (Nat.le_refl _) _).trans (hb.mono (by simp))))
  have HB2 := Lib.hid hr2
  obtain ⟨vb, rfl, hwb, hq⟩ := hr2
  obtain ⟨pb, cb, rfl, _, _, _⟩ := hq
  have ST2 := Lib.hid ((ST1.out.alloc _).more hb)
  have HBA2 := Lib.hid (HBA1.out.below hb HBA1.out.lt)
  have HBB2 := Lib.hid (Blk.new w2 41 #[.int .i64 (encT n H).1, .slice pb (encT n H).2.len cb])
  obtain ⟨z0, z1, z2⟩ := ST2.out.facts
  have HD := Lib.hid (decode_ans n s _ K (w2.alloc (.cells #[.int .i64 (encT n H).1, .slice pb (encT n H).2.len cb] 41)) HS.out (HK.out.below (ST2.out.alloc _).1) (by omega))
  clear hb HE2 ST1 hwb HA1 HBA1
  go_wp2_with fail
  refine HD.out.mono ?_
  rintro e w3 ⟨r3, rfl, hr3, hb⟩
  have hbX : Below w2.heap.size w2 w3 := ((Below.refl _ w2).alloc (Nat.le_refl _) _).trans (hb.mono (by simp))
  have HA3 := Lib.hid (HA2.out.below hbX)
  have HB3 := Lib.hid (HB2.out.below hbX)
  have HC3 := Lib.hid hr3
  obtain ⟨pc, cc, rfl, _, _, _⟩ := hr3
  have ST3 := Lib.hid ((ST2.out.alloc _).more hb)
  have HBA3 := Lib.hid (HBA2.out.below hbX HBA2.out.lt)
  have HBB3 := Lib.hid (HBB2.out.below hb HBB2.out.lt)
  clear z0 z1 z2
  obtain ⟨z0, z1, z2⟩ := ST3.out.facts
  have HD2 := Lib.hid (rdecode_ans n s _ K w3 HS.out (HK.out.below ST3.out.1) (by omega))
  clear hb hbX HD ST2 HA2 HBA2 HB2 HBB2
  go_wp2_with fail
  refine HD2.out.mono ?_
  rintro e w4 ⟨r4, rfl, hr4, hb⟩
  have HA4 := Lib.hid (HA3.out.below hb)
  have HB4 := Lib.hid (HB3.out.below hb)
  have HC4 := Lib.hid (HC3.out.below hb)
  have HD4 := Lib.hid hr4
  obtain ⟨pd, cd, rfl, _, _, _⟩ := hr4
  have ST4 := Lib.hid (ST3.out.more hb)
  have HBA4 := Lib.hid (HBA3.out.below hb HBA3.out.lt)
  have HBB4 := Lib.hid (HBB3.out.below hb HBB3.out.lt)
  have a0 : w4.cell? ⟨w1.heap.size, 0, none⟩ = some (.int .i64 (encT n H).1) := by rw [HBA4.out.cell]; rfl
  have a1 : w4.cell? ⟨w1.heap.size, 1, none⟩ = some (.slice pa (encT n H).2.len ca) := by rw [HBA4.out.cell]; rfl
  have a2 := HBA4.out.lt
  have b0 : w4.cell? ⟨w2.heap.size, 0, none⟩ = some (.int .i64 (encT n H).1) := by rw [HBB4.out.cell]; rfl
  have b1 : w4.cell? ⟨w2.heap.size, 1, none⟩ = some (.slice pb (encT n H).2.len cb) := by rw [HBB4.out.cell]; rfl
  have b2 := HBB4.out.lt
  have HS1 := Lib.hid (same01_ok (encT n H) _ _ w4 HA4.out HB4.out)
  clear hb HD2 ST3 HA3 HBA3 HB3 HBB3 HC3 z0 z1 z2
  go_wp2_with fail
  refine HS1.out.mono ?_
  rintro e w5 ⟨rfl, hb⟩
  have HC5 := Lib.hid (HC4.out.below hb)
  have HS2 := Lib.hid (same02_ok (decH n s K) _ _ w5 (HC4.out.below hb) (HD4.out.below hb))
  have ST5 := Lib.hid (ST4.out.more hb)
  have HBA5 := Lib.hid (HBA4.out.below hb HBA4.out.lt)
  have HA5 := Lib.hid (HA4.out.below hb)
  clear hb HS1 ST4 HBA4 HA4 HC4 HD4 HB4 HBB4 a0 a1 a2 b0 b1 b2
  go_wp2_with fail
  refine HS2.out.mono ?_
  rintro e w6 ⟨rfl, hb⟩
  have HC6 := Lib.hid (HC5.out.below hb)
  have ST6 := Lib.hid (ST5.out.more hb)
  have HBA6 := Lib.hid (HBA5.out.below hb HBA5.out.lt)
  have HA6 := Lib.hid (HA5.out.below hb)
  have a0 : w6.cell? ⟨w1.heap.size, 0, none⟩ = some (.int .i64 (encT n H).1) := by rw [HBA6.out.cell]; rfl
  have a1 : w6.cell? ⟨w1.heap.size, 1, none⟩ = some (.slice pa (encT n H).2.len ca) := by rw [HBA6.out.cell]; rfl
  have a2 := HBA6.out.lt
  clear hb HS2 ST5 HBA5 HA5 HC5
  by_cases he : encErr n H = 0
  · have he1 : (encErr n H == 0) = true := by simp [he]
    have HED := Lib.hid (enc_dec he)
    have HX := Lib.hid (decode_ans n (encT n H).1 _ (encT n H).2 w6 HWA.out (by obtain ⟨_, e, _, h⟩ := HA6.out; simp only [Value.agg.injEq] at e; simp at e; obtain ⟨_, rfl⟩ := e; exact h) (by have := encT_size n H; omega))
    rw [HED.out.1, HED.out.2] at HX
    clear he
    go_wp2_with fail
    refine HX.out.mono ?_
    rintro e w7 ⟨r7, rfl, hr7, hb⟩
    have HR7 := Lib.hid hr7
    obtain ⟨p7, c7, rfl, _, _, _⟩ := hr7
    have ST7 := Lib.hid (ST6.out.more hb)
    have HC7 := Lib.hid (HC6.out.below hb)
    have HS7 := Lib.hid (same02_ok H _ (.slice ph H.len ch) w7 HR7.out (HH.out.below ST7.out.1))
    clear hb HX a0 a1 a2
    go_wp2_with fail
    refine HS7.out.mono ?_
    rintro e w8 ⟨rfl, hb⟩
    have ST8 := Lib.hid (ST7.out.more hb)
    have HC8 := Lib.hid (HC7.out.below hb)
    clear hb HS7
    by_cases hi : decErr n s K = 0
    · have hi1 : (decErr n s K == 0) = true := by simp [hi]
      have HDE := Lib.hid (dec_enc hi)
      have HX := Lib.hid (encode_ans n HN.out (decH n s K) _ w8 HC8.out (by have := HDE.out.2.2; omega))
      rw [HDE.out.1, HDE.out.2.1] at HX
      clear hi
      go_wp2_with fail
      refine HX.out.mono ?_
      rintro e w9 ⟨r9, rfl, hr9, hb⟩
      have HR9 := Lib.hid hr9
      obtain ⟨v9, rfl, _, hq⟩ := hr9
      obtain ⟨p9, c9, rfl, _, _, _⟩ := hq
      have ST9 := Lib.hid (ST8.out.more hb)
      obtain ⟨z0, z1, z2⟩ := ST9.out.facts
      have HS9 := Lib.hid (same01_ok (s, K) _ (.agg #[.int .i64 s, .slice p K.len c]) (w9.alloc (.cells #[.int .i64 s, .slice p9 K.len c9] 41)) (HR9.out.below ((Below.refl _ w9).alloc (Nat.le_refl _) _)) ⟨_, rfl, HS.out, HK.out.below (ST9.out.alloc _).1⟩)
      clear hb HX
      go_wp2_with fail
      refine HS9.out.mono ?_
      rintro e w10 ⟨rfl, hb⟩
      have ST10 := Lib.hid ((ST9.out.alloc _).more hb)
      clear hb HS9 z0 z1 z2
      go_wp2_with fail
      refine (HAW.out _).mono ?_
      rintro e w11 ⟨rfl, hb2⟩
      have HB11 := Lib.hid hb2
      clear hb2
      go_wp2_with fail
      go_ret
      exact ⟨rfl, (ST10.out.more HB11.out).1⟩
    · have hi1 : (decErr n s K == 0) = false := by simpa using hi
      clear hi
      go_wp2_with fail
      refine (HAW.out _).mono ?_
      rintro e w11 ⟨rfl, hb2⟩
      have HB11 := Lib.hid hb2
      clear hb2
      go_wp2_with fail
      go_ret
      exact ⟨rfl, (ST8.out.more HB11.out).1⟩
  · have he1 : (encErr n H == 0) = false := by simpa using he
    clear he a0 a1 a2
    by_cases hi : decErr n s K = 0
    · have hi1 : (decErr n s K == 0) = true := by simp [hi]
      have HDE := Lib.hid (dec_enc hi)
      have HX := Lib.hid (encode_ans n HN.out (decH n s K) _ w6 HC6.out (by have := HDE.out.2.2; omega))
      rw [HDE.out.1, HDE.out.2.1] at HX
      clear hi
      go_wp2_with fail
      refine HX.out.mono ?_
      rintro e w9 ⟨r9, rfl, hr9, hb⟩
      have HR9 := Lib.hid hr9
      obtain ⟨v9, rfl, _, hq⟩ := hr9
      obtain ⟨p9, c9, rfl, _, _, _⟩ := hq
      have ST9 := Lib.hid (ST6.out.more hb)
      obtain ⟨z0, z1, z2⟩ := ST9.out.facts
      have HS9 := Lib.hid (same01_ok (s, K) _ (.agg #[.int .i64 s, .slice p K.len c]) (w9.alloc (.cells #[.int .i64 s, .slice p9 K.len c9] 41)) (HR9.out.below ((Below.refl _ w9).alloc (Nat.le_refl _) _)) ⟨_, rfl, HS.out, HK.out.below (ST9.out.alloc _).1⟩)
      clear hb HX
      go_wp2_with fail
      refine HS9.out.mono ?_
      rintro e w10 ⟨rfl, hb⟩
      have ST10 := Lib.hid ((ST9.out.alloc _).more hb)
      clear hb HS9 z0 z1 z2
      go_wp2_with fail
      refine (HAW.out _).mono ?_
      rintro e w11 ⟨rfl, hb2⟩
      have HB11 := Lib.hid hb2
      clear hb2
      go_wp2_with fail
      go_ret
      exact ⟨rfl, (ST10.out.more HB11.out).1⟩
    · have hi1 : (decErr n s K == 0) = false := by simpa using hi
      clear hi
      go_wp2_with fail
      refine (HAW.out _).mono ?_
      rintro e w11 ⟨rfl, hb2⟩
      have HB11 := Lib.hid hb2
      clear hb2
      go_wp2_with fail
      go_ret
      exact ⟨rfl, (ST6.out.more HB11.out).1⟩

end Go.Proofs.Ytkbcehapalcadab
