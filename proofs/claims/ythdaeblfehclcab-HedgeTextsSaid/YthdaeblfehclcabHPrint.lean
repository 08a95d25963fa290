/- strings.Builder's String, off the library; hedge.Print. -/
import Derived.Test.YthdaeblfehclcabHWrite
import Derived.Test.YthdaeblfehclcabRPrint
import Derived.Shelf.Strings.Builder1
namespace Go.Proofs.Ythdaeblfehclcab
open Go.RowKit Go.Shelf

def ren169 : Go.Shelf.Ren := ⟨fun | 169 => 55 | n => n, fun | 70 => 83 | 9 => 9 | 0 => 0 | 72 => 86 | 37 => 84 | 127 => 120 | 3 => 3 | 5 => 5 | n => n, fun | n => n⟩
theorem lays169 : Go.Proofs.Lays.n169 Try.prog ren169 := {
  mixed := by kernel_rfl
  f169 := Try.func55.trans (congrArg some (by kernel_rfl))
  t0 := Try.underlying0
  a0 := Try.isAgg0
  z0 := Try.sizeOf0
  v0 := Try.zeroValue0
  t3 := Try.underlying3
  a3 := Try.isAgg3
  z3 := Try.sizeOf3
  v3 := Try.zeroValue3
  t9 := Try.underlying9
  a9 := Try.isAgg9
  z9 := Try.sizeOf9
  v9 := Try.zeroValue9
  t37 := Try.underlying84
  a37 := Try.isAgg84
  z37 := Try.sizeOf84
  v37 := Try.zeroValue84
  t70 := Try.underlying83
  a70 := Try.isAgg83
  z70 := Try.sizeOf83
  v70 := Try.zeroValue83
  t72 := Try.underlying86
  a72 := Try.isAgg86
  z72 := Try.sizeOf86
  v72 := Try.zeroValue86
  t127 := Try.underlying120
  a127 := Try.isAgg120
  z127 := Try.sizeOf120
  v127 := Try.zeroValue120 }
theorem extra169 : Builder.Extra Try.prog ren169 := {
  sizeBuilder := by kernel_rfl
  liesBuilder := by kernel_rfl
  t5 := Try.underlying5
  a5 := Try.isAgg5
  z5 := Try.sizeOf5
  v5 := Try.zeroValue5
  infoByte := by kernel_rfl
  cellsByte := by kernel_rfl
  sizeByte := by kernel_rfl
  neB5 := by decide }
theorem builderString_ok (B b : Nat) (l : List UInt8) (w : World) (h : Holds B b l w) (hBw : B ≤ w.heap.size) :
    Calls Try.prog 55 #[.pointer (some ⟨b, 0, none⟩)] w fun e w' => e = .returned (.string ⟨l.toArray⟩) ∧ Below B w w' := Any.Builder_String_any lays169 extra169 B b l w h hBw

set_option maxRecDepth 100000 in
set_option maxHeartbeats 1000000 in
theorem hprint_ok (n : Int) (names : List ByteArray) (vn : Value) (H : Hg) (v : Value) (w : World) (hn : IsStrs w vn names) (hv : IsH w v H) (hs : H.size ≤ 1000000) :
    Calls Try.prog 31 #[.int .i64 n, vn, v] w fun e w' => ∃ s : ByteArray, e = .returned (.tuple #[.string s, .int .i64 (prErr n names H)]) ∧ s.data.toList = prTx n names H ∧ Below w.heap.size w w' := by
  have HV := Lib.hid (validHedge_ok n H v w hv hs)
  have HH := Lib.hid hv
  have HNS := Lib.hid hn
  have HNM := Lib.hid (fun W (hb : Below w.heap.size w W) => names_ok names n vn W (hn.below hb))
  obtain ⟨p, c, rfl, _, _, _⟩ := hv
  obtain ⟨pn, cn, rfl, _, _, _, _⟩ := hn
  rcases Bool.eq_false_or_eq_true (vh n H) with hh | hh
  rotate_left
  · have HE : Hid (prErr n names H = 1) := Lib.hid (by rw [prErr, if_neg (by simp [hh])])
    rw [hh] at HV
    clear hh
    go_enter Try.func31, Try.ntmps31
    go_wp2_with fail
    refine HV.out.mono ?_
    rintro e w1 ⟨rfl, hb1⟩
    have HB1 := Lib.hid hb1
    clear hb1
    go_wp2_with fail
    go_ret2
    exact ⟨⟨#[]⟩, by rw [HE.out]; rfl, by rw [prTx, if_neg (by rw [HE.out]; decide)], HB1.out⟩
  · rw [hh] at HV
    have HHH := Lib.hid hh
    clear hh
    rcases Bool.eq_false_or_eq_true (namesB names n) with hb | hb
    rotate_left
    · have HE : Hid (prErr n names H = 4) := Lib.hid (by rw [prErr, if_pos HHH.out, if_neg (by simp [hb])])
      rw [hb] at HNM
      clear hb
      go_enter Try.func31, Try.ntmps31
      go_wp2_with fail
      refine HV.out.mono ?_
      rintro e w1 ⟨rfl, hb1⟩
      have HB1 := Lib.hid hb1
      clear hb1
      go_wp2_with fail
      refine (HNM.out w1 HB1.out).mono ?_
      rintro e w2 ⟨rfl, rfl⟩
      go_wp2_with fail
      go_ret2
      exact ⟨⟨#[]⟩, by rw [HE.out]; rfl, by rw [prTx, if_neg (by rw [HE.out]; decide)], HB1.out⟩
    · have HE : Hid (prErr n names H = 0) := Lib.hid (by rw [prErr, if_pos HHH.out, if_pos hb])
      have hsm := namesB_small hb
      have hvh := HHH.out
      simp only [vh, Bool.and_eq_true, decide_eq_true_eq] at hvh
      have HW : Hid (∀ W, Below w.heap.size w W → Calls Try.prog 54 #[.pointer (some ⟨W.heap.size, 0, none⟩), .slice pn names.length cn, .slice p H.len c] (W.alloc (.cells #[.pointer none, .slice none 0 0] 86)) fun e w' => e = .returned (.tuple #[]) ∧ Holds W.heap.size W.heap.size (H.tx (nmOf names) false) w' ∧ Below W.heap.size (W.alloc (.cells #[.pointer none, .slice none 0 0] 86)) w' ∧ Lib.OthersKept 5 (some W.heap.size) (W.alloc (.cells #[.pointer none, .slice none 0 0] 86)) w') :=
        Lib.hid (fun W hbW => by
          have hsz := hbW.size
          have := hwrite_any names (.slice pn names.length cn) W (HNS.out.below hbW) (fun x hx => nameB_12 (hsm.2 x hx)) W.heap.size W.heap.size (Nat.le_refl _) (H.size + 1) H (.slice p H.len c) [] (W.alloc (.cells #[.pointer none, .slice none 0 0] 86)) (by omega) (by omega) (by simp; omega) ((Below.refl _ _).alloc (Nat.le_refl _) _) (by simp) (HH.out.below hbW) (by rw [hsm.1]; exact hvh.2) (Lib.fresh_isBuilder _ _ W)
          simpa using this)
      rw [hb] at HNM
      clear hb hsm hvh
      go_enter Try.func31, Try.ntmps31
      go_wp2_with fail
      refine HV.out.mono ?_
      rintro e w1 ⟨rfl, hb1⟩
      have HB1 := Lib.hid hb1
      clear hb1
      go_wp2_with fail
      refine (HNM.out w1 HB1.out).mono ?_
      rintro e w2 ⟨rfl, rfl⟩
      go_wp2_with fail
      refine (HW.out _ HB1.out).mono ?_
      rintro e w3 ⟨rfl, hh3, hb3, _⟩
      have HS := Lib.hid (builderString_ok _ _ _ w3 hh3 (by have := hb3.size; simp at this; omega))
      have hsz1 := HB1.out.size
      have HB3 : Hid (Below w.heap.size w w3) := Lib.hid ((HB1.out.alloc hsz1 _).trans (hb3.mono hsz1))
      clear hh3 hb3
      go_wp2_with fail
      refine HS.out.mono ?_
      rintro e w4 ⟨rfl, hb4⟩
      have HB4 := Lib.hid (HB3.out.trans (hb4.mono hsz1))
      clear hb4
      go_wp2_with fail
      go_ret2
      exact ⟨_, by rw [HE.out]; rfl, by rw [prTx, if_pos HE.out], HB4.out⟩

end Go.Proofs.Ythdaeblfehclcab
