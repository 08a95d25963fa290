/- The walk of law02.HedgeTexts. -/
import Derived.Test.YthdaeblfehclcabRParse
import Derived.Test.YthdaeblfehclcabHPrint
import Derived.Test.YthdaeblfehclcabSame
import Derived.Test.YthdaeblfehclcabAwake
import Derived.Test.YthdaeblfehclcabParts
namespace Go.Proofs.Ythdaeblfehclcab
open Go.RowKit Go.Shelf

theorem prTx_size {n : Int} {names : List ByteArray} {H : Hg} {s : ByteArray} (hs : s.data.toList = prTx n names H) (hH : H.size ≤ 2000) : s.size ≤ 30000 := by
  rw [← size_list, hs]
  unfold prTx
  split
  · rename_i h0
    have hnm : namesB names n = true := by
      unfold prErr at h0
      by_cases hv : vh n H = true
      · rw [if_pos hv] at h0
        by_cases hb : namesB names n = true
        · exact hb
        · rw [if_neg hb] at h0; exact absurd h0 (by decide)
      · rw [if_neg hv] at h0; exact absurd h0 (by decide)
    have := Hg.tx_length (nmOf_length (fun x hx => nameB_12 ((namesB_small hnm).2 x hx))) H false
    omega
  · simp

set_option maxRecDepth 100000 in
set_option maxHeartbeats 2000000 in
theorem htexts_walk (n : Int) (names : List ByteArray) (H : Hg) (t : ByteArray) (vn vh' : Value) (w : World) (hn : IsStrs w vn names) (hv : IsH w vh' H) (ht : t.size ≤ 9223372036854775807) :
    Calls Try.prog 7 #[.int .i64 n, vn, vh', .string t] w (TrueLaw w) := by
  have HNS := Lib.hid hn
  have HH := Lib.hid hv
  have HF := Lib.hid (few_ok H _ 2000 _ hv (by omega) (by omega))
  have HAW := Lib.hid (fun W => awake_ok W)
  obtain ⟨pn, cn, rfl, hn1, hn2, _, _⟩ := hn
  obtain ⟨ph, ch, rfl, hh1, hh2, _⟩ := hv
  unfold maxLen at hn2
  have hnl : names.length ≤ 9223372036854775807 := by omega
  go_enter Try.func7, Try.ntmps7
  go_wp2_with fail
  refine HF.out.mono ?_
  rintro e wa ⟨rfl, hba⟩
  have HBa := Lib.hid hba
  clear hba HF
  by_cases hszH : H.size ≤ 2000
  rotate_left
  · have hd : decide ((H.size : Int) ≤ 2000) = false := decide_eq_false (by omega)
    rw [hd]
    clear hd
    go_wp2_with fail
    refine (HAW.out _).mono ?_
    rintro e w2 ⟨rfl, hb2⟩
    have HB2 := Lib.hid (HBa.out.trans (hb2.mono HBa.out.size))
    clear hb2
    go_wp2_with fail
    go_ret
    exact ⟨rfl, HB2.out⟩
  have hd : decide ((H.size : Int) ≤ 2000) = true := decide_eq_true (by omega)
  rw [hd]
  clear hd
  by_cases h40 : 40 < names.length
  · go_wp2_with fail
    refine (HAW.out _).mono ?_
    rintro e w2 ⟨rfl, hb2⟩
    have HB2 := Lib.hid (HBa.out.trans (hb2.mono HBa.out.size))
    clear hb2
    go_wp2_with fail
    go_ret
    exact ⟨rfl, HB2.out⟩
  by_cases h20 : 20000 < t.size
  · go_wp2_with fail
    refine (HAW.out _).mono ?_
    rintro e w2 ⟨rfl, hb2⟩
    have HB2 := Lib.hid (HBa.out.trans (hb2.mono HBa.out.size))
    clear hb2
    go_wp2_with fail
    go_ret
    exact ⟨rfl, HB2.out⟩
  have HPr := Lib.hid (hprint_ok n names _ H _ wa (HNS.out.below HBa.out) (HH.out.below HBa.out) (by omega))
  go_wp2_with fail
  refine HPr.out.mono ?_
  rintro e w1 ⟨s, rfl, hs, hb1⟩
  have HB1 := Lib.hid (HBa.out.trans (hb1.mono HBa.out.size))
  have hss := prTx_size hs hszH
  have HS := Lib.hid hs
  have HRp := Lib.hid (rprint_ok n names _ H _ w1 (HNS.out.below HB1.out) (HH.out.below HB1.out))
  clear hs hb1 HPr
  go_wp2_with fail
  refine HRp.out.mono ?_
  rintro e w2 ⟨s', rfl, hs', hb2⟩
  obtain rfl : s' = s := bytes_ext (hs'.trans HS.out.symm)
  have HB2 := Lib.hid (HB1.out.trans (hb2.mono HB1.out.size))
  have HPa := Lib.hid (parse_ok n names _ t w2 (HNS.out.below HB2.out) (by omega))
  clear hs' hb2 HRp
  go_wp2_with fail
  refine HPa.out.mono ?_
  rintro e w3 ⟨r3, rfl, hr3, hb3⟩
  have HR3 := Lib.hid hr3
  obtain ⟨p3, c3, rfl, _, _, _⟩ := hr3
  have HB3 := Lib.hid (HB2.out.trans (hb3.mono HB2.out.size))
  have HRa := Lib.hid (rparse_ok n names _ t w3 (HNS.out.below HB3.out) (by omega))
  clear hb3 HPa
  go_wp2_with fail
  refine HRa.out.mono ?_
  rintro e w4 ⟨r4, rfl, hr4, hb4⟩
  have HR4 := Lib.hid hr4
  have HSm := Lib.hid (same02_ok (paHg n names t) _ _ w4 (HR3.out.below hb4) hr4)
  obtain ⟨p4, c4, rfl, _, _, _⟩ := hr4
  have HB4 := Lib.hid (HB3.out.trans (hb4.mono HB3.out.size))
  clear hb4 HRa
  generalize paErr n names t = pa
  obtain ⟨pe, hpe⟩ : ∃ pe, pe = prErr n names H := ⟨_, rfl⟩
  rw [← hpe]
  have HPE := Lib.hid hpe
  clear hpe
  by_cases hp0 : pe = 0
  · by_cases h16 : s'.size ≤ 16384
    · subst hp0
      obtain ⟨e1, e2⟩ := pa_back HPE.out.symm HS.out h16
      have HE1 := Lib.hid e1
      have HE2 := Lib.hid e2
      clear e1 e2
      go_wp2_with fail
      refine HSm.out.mono ?_
      rintro e w5 ⟨rfl, hb5⟩
      have HB5 := Lib.hid (HB4.out.trans (hb5.mono HB4.out.size))
      have HPb := Lib.hid (parse_ok n names _ s' w5 (HNS.out.below HB5.out) (by omega))
      rw [HE1.out, HE2.out] at HPb
      clear hb5 HSm
      go_wp2_with fail
      refine HPb.out.mono ?_
      rintro e w6 ⟨r6, rfl, hr6, hb6⟩
      have HB6 := Lib.hid (HB5.out.trans (hb6.mono HB5.out.size))
      have HSn := Lib.hid (same02_ok H _ _ w6 hr6 (HH.out.below HB6.out))
      obtain ⟨p6, c6, rfl, _, _, _⟩ := hr6
      clear hb6 HPb
      go_wp2_with fail
      refine HSn.out.mono ?_
      rintro e w7 ⟨rfl, hb7⟩
      have HB7 := Lib.hid (HB6.out.trans (hb7.mono HB6.out.size))
      clear hb7 HSn
      go_wp2_with fail
      refine (HAW.out _).mono ?_
      rintro e w8 ⟨rfl, hb8⟩
      have HB8 := Lib.hid (HB7.out.trans (hb8.mono HB7.out.size))
      clear hb8
      go_wp2_with fail
      go_ret
      exact ⟨rfl, HB8.out⟩
    · subst hp0
      have h16' : 16384 < s'.size := by omega
      clear h16
      go_wp2_with fail
      refine HSm.out.mono ?_
      rintro e w5 ⟨rfl, hb5⟩
      have HB5 := Lib.hid (HB4.out.trans (hb5.mono HB4.out.size))
      clear hb5 HSm
      go_wp2_with fail
      refine (HAW.out _).mono ?_
      rintro e w8 ⟨rfl, hb8⟩
      have HB8 := Lib.hid (HB5.out.trans (hb8.mono HB5.out.size))
      clear hb8
      go_wp2_with fail
      go_ret
      exact ⟨rfl, HB8.out⟩
  · have hpb : (pe == 0) = false := by simpa using hp0
    go_wp2_with fail
    refine HSm.out.mono ?_
    rintro e w5 ⟨rfl, hb5⟩
    have HB5 := Lib.hid (HB4.out.trans (hb5.mono HB4.out.size))
    clear hb5 HSm
    go_wp2_with fail
    refine (HAW.out _).mono ?_
    rintro e w8 ⟨rfl, hb8⟩
    have HB8 := Lib.hid (HB5.out.trans (hb8.mono HB5.out.size))
    clear hb8
    go_wp2_with fail
    go_ret
    exact ⟨rfl, HB8.out⟩

end Go.Proofs.Ythdaeblfehclcab
