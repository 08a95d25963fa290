/- ref02.Print. -/
import Derived.Test.YthdaeblfehclcabWrite
namespace Go.Proofs.Ythdaeblfehclcab
open Go.RowKit Go.Shelf

theorem nmAll_mem {l : List ByteArray} : ∀ n, nmAll l n = true → ∀ k, k < n → nm l k = true := by
  intro n
  induction n with
  | zero => intro _ k h; omega
  | succ n ih =>
    intro h k hk
    rw [nmAll, Bool.and_eq_true] at h
    by_cases e : k = n
    · subst e; exact h.2
    · exact ih h.1 k (by omega)
theorem namesB_small {l : List ByteArray} {n : Int} (h : namesB l n = true) : (l.length : Int) = n ∧ ∀ x ∈ l, nameB x = true := by
  simp only [namesB, Bool.and_eq_true, decide_eq_true_eq] at h
  refine ⟨h.1, fun x hx => ?_⟩
  obtain ⟨k, hk, rfl⟩ := List.getElem_of_mem hx
  have := nmAll_mem _ h.2 k hk
  rw [nm, List.getElem?_eq_getElem hk] at this
  simp at this
  exact this.1
theorem nameB_12 {s : ByteArray} (h : nameB s = true) : s.size ≤ 12 := by
  simp [nameB] at h
  exact h.1.1.2

def prErr (n : Int) (names : List ByteArray) (H : Hg) : Int := if vh n H = true then (if namesB names n = true then 0 else 4) else 1
def prTx (n : Int) (names : List ByteArray) (H : Hg) : List UInt8 := if prErr n names H = 0 then H.tx (nmOf names) false else []

set_option maxRecDepth 100000 in
set_option maxHeartbeats 1000000 in
theorem rprint_ok (n : Int) (names : List ByteArray) (vn : Value) (H : Hg) (v : Value) (w : World) (hn : IsStrs w vn names) (hv : IsH w v H) :
    Calls Try.prog 32 #[.int .i64 n, vn, v] w fun e w' => ∃ s : ByteArray, e = .returned (.tuple #[.string s, .int .i64 (prErr n names H)]) ∧ s.data.toList = prTx n names H ∧ Below w.heap.size w w' := by
  have HV := Lib.hid (rvalidHedge_ok n H v w hv)
  have HH := Lib.hid hv
  have HNS := Lib.hid hn
  have HNM := Lib.hid (fun W (hb : Below w.heap.size w W) => rnames_ok names n vn W (hn.below hb))
  obtain ⟨p, c, rfl, _, _, _⟩ := hv
  obtain ⟨pn, cn, rfl, _, _, _, _⟩ := hn
  rcases Bool.eq_false_or_eq_true (vh n H) with hh | hh
  rotate_left
  · have HE : Hid (prErr n names H = 1) := Lib.hid (by rw [prErr, if_neg (by simp [hh])])
    rw [hh] at HV
    clear hh
    go_enter Try.func32, Try.ntmps32
    go_wp2_with fail
    refine HV.out.mono ?_
    rintro e w1 ⟨rfl, hb1⟩
    have HB1 := Lib.hid hb1
    clear hb1
    go_wp2_with fail
    go_ret2
    exact ⟨⟨#[]⟩, by rw [HE.out]; rfl, by rw [prTx, if_neg (by rw [HE.out]; decide)], HB1.out⟩
  · rw [hh] at HV
    have HHH := Lib.hid hh
    clear hh
    rcases Bool.eq_false_or_eq_true (namesB names n) with hb | hb
    rotate_left
    · have HE : Hid (prErr n names H = 4) := Lib.hid (by rw [prErr, if_pos HHH.out, if_neg (by simp [hb])])
      rw [hb] at HNM
      clear hb
      go_enter Try.func32, Try.ntmps32
      go_wp2_with fail
      refine HV.out.mono ?_
      rintro e w1 ⟨rfl, hb1⟩
      have HB1 := Lib.hid hb1
      clear hb1
      go_wp2_with fail
      refine (HNM.out w1 HB1.out).mono ?_
      rintro e w2 ⟨rfl, rfl⟩
      go_wp2_with fail
      go_ret2
      exact ⟨⟨#[]⟩, by rw [HE.out]; rfl, by rw [prTx, if_neg (by rw [HE.out]; decide)], HB1.out⟩
    · have HE : Hid (prErr n names H = 0) := Lib.hid (by rw [prErr, if_pos HHH.out, if_pos hb])
      have hsm := namesB_small hb
      have hvh := HHH.out
      simp only [vh, Bool.and_eq_true, decide_eq_true_eq] at hvh
      have HW := Lib.hid (fun W (hbW : Below w.heap.size w W) => rwrite_any names _ w HNS.out (fun x hx => nameB_12 (hsm.2 x hx)) (H.size + 1) H (.slice p H.len c) W (by omega) (by omega) hbW (HH.out.below hbW) (by rw [hsm.1]; exact hvh.2))
      rw [hb] at HNM
      clear hb hsm hvh
      go_enter Try.func32, Try.ntmps32
      go_wp2_with fail
      refine HV.out.mono ?_
      rintro e w1 ⟨rfl, hb1⟩
      have HB1 := Lib.hid hb1
      clear hb1
      go_wp2_with fail
      refine (HNM.out w1 HB1.out).mono ?_
      rintro e w2 ⟨rfl, rfl⟩
      go_wp2_with fail
      refine (HW.out _ HB1.out).mono ?_
      rintro e w3 ⟨s, rfl, hs, hb3⟩
      have HS := Lib.hid hs
      have HB3 := Lib.hid (HB1.out.trans (hb3.mono HB1.out.size))
      clear hs hb3
      go_wp2_with fail
      go_ret2
      exact ⟨s, by rw [HE.out]; rfl, by rw [prTx, if_pos HE.out]; exact HS.out, HB3.out⟩

end Go.Proofs.Ythdaeblfehclcab
