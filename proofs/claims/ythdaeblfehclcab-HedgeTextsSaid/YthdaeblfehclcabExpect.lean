/- scan.Reader: Expect and Pick, with their panics. -/
import Derived.Test.YthdaeblfehclcabPeek
import Derived.Test.YthdaeblfehclcabIndex
import Derived.WalkSmall
namespace Go.Proofs.Ythdaeblfehclcab
open Go.RowKit Go.Shelf

set_option maxRecDepth 100000 in
set_option maxHeartbeats 1000000 in
theorem expect_ok (b : Nat) (s t : ByteArray) (i : Nat) (w : World) (hb : Blk w b 124 #[.string s, .int .i64 i]) (hi : i ≤ s.size) (hs : s.size ≤ 1000000) :
    Calls Try.prog 62 #[.pointer (some ⟨b, 0, none⟩), .string t] w fun e w' => Blk w' b 124 #[.string s, .int .i64 (nx s (skB s i))] ∧ Kp (fun c => c ≠ b) w w' ∧
      ((seq (tok s (skB s i)) t = true ∧ e = .returned (.tuple #[])) ∨ (seq (tok s (skB s i)) t = false ∧ e = .panicked [{ v := .iface 96 (.agg #[.int .i64 4]), recovered := false }])) := by
  have HP := Lib.hid (next_ok b s i w hb hi hs)
  clear hb
  cases hq : (tok s (skB s i)).toList == t.toList with
  | true =>
    have HQ : Hid (seq (tok s (skB s i)) t = true) := Lib.hid hq
    go_enter Try.func62, Try.ntmps62
    go_wp2_with fail
    refine HP.out.mono ?_
    rintro e w1 ⟨rfl, hb1, hk1, hkp⟩
    have HB1 := Lib.hid hb1
    have HK := Lib.hid hkp
    clear hb1 hkp HP
    go_wp2_with fail
    go_end0
    exact ⟨HB1.out, HK.out, .inl ⟨HQ.out, rfl⟩⟩
  | false =>
    have HQ : Hid (seq (tok s (skB s i)) t = false) := Lib.hid hq
    go_enter Try.func62, Try.ntmps62
    go_wp2_with fail
    refine HP.out.mono ?_
    rintro e w1 ⟨rfl, hb1, hk1, hkp⟩
    have HB1 := Lib.hid hb1
    have HK := Lib.hid hkp
    clear hb1 hkp HP
    go_wp2_with fail
    exact ⟨rfl, HB1.out, HK.out, .inr ⟨HQ.out, rfl⟩⟩

/-- The names lie in blocks that S holds. -/
theorem IsStrs.kp {S : Nat → Prop} {w w' : World} {v : Value} {l : List ByteArray} (h : IsStrs w v l) (hk : Kp S w w') (hS : ∀ b o n c, v = .slice (some ⟨b, o, none⟩) n c → S b) : IsStrs w' v l := by
  obtain ⟨p, c, e, h1, h2, h3, h4⟩ := h
  refine ⟨p, c, e, h1, h2, fun hne => ?_, h4⟩
  obtain ⟨b, o, e', hc⟩ := h3 hne
  subst e'
  exact ⟨b, o, rfl, fun i x hx => hk.cell (hc i x hx) (hS b o _ _ e)⟩

set_option maxRecDepth 100000 in
set_option maxHeartbeats 1000000 in
theorem pick_ok (b : Nat) (s : ByteArray) (i : Nat) (names : List ByteArray) (vn : Value) (w : World) (hb : Blk w b 124 #[.string s, .int .i64 i]) (hi : i ≤ s.size) (hs : s.size ≤ 1000000)
    (hn : IsStrs w vn names) (hnb : ∀ b' o n c, vn = .slice (some ⟨b', o, none⟩) n c → b' ≠ b) :
    Calls Try.prog 83 #[.pointer (some ⟨b, 0, none⟩), vn] w fun e w' => Blk w' b 124 #[.string s, .int .i64 (nx s (skB s i))] ∧ Kp (fun c => c ≠ b) w w' ∧
      ((0 ≤ idxS names (tok s (skB s i)) ∧ e = .returned (.int .i64 (idxS names (tok s (skB s i))))) ∨ (idxS names (tok s (skB s i)) < 0 ∧ e = .panicked [{ v := .iface 96 (.agg #[.int .i64 4]), recovered := false }])) := by
  have HP := Lib.hid (next_ok b s i w hb hi hs)
  have HIx := Lib.hid (fun W (hk : Kp (fun c => c ≠ b) w W) => index_ok names (tok s (skB s i)) vn W (hn.kp hk (fun b' o n c e => hnb b' o n c e)))
  obtain ⟨p, c, rfl, _, _, _, _⟩ := hn
  clear hb hnb
  by_cases hq : 0 ≤ idxS names (tok s (skB s i))
  · have hd : decide (idxS names (tok s (skB s i)) < 0) = false := decide_eq_false (by omega)
    go_enter Try.func83, Try.ntmps83
    go_wp2_with fail
    refine HP.out.mono ?_
    rintro e w1 ⟨rfl, hb1, hk1, hkp⟩
    have HB1 := Lib.hid hb1
    have HK := Lib.hid hkp
    clear hb1 hkp HP
    go_wp2_with fail
    refine (HIx.out w1 HK.out).mono ?_
    rintro e w2 ⟨rfl, rfl⟩
    go_wp2_with fail
    go_ret
    exact ⟨HB1.out, HK.out, .inl ⟨hq, rfl⟩⟩
  · have hd : decide (idxS names (tok s (skB s i)) < 0) = true := decide_eq_true (by omega)
    have hq2 : idxS names (tok s (skB s i)) < 0 := by omega
    clear hq
    go_enter Try.func83, Try.ntmps83
    go_wp2_with fail
    refine HP.out.mono ?_
    rintro e w1 ⟨rfl, hb1, hk1, hkp⟩
    have HB1 := Lib.hid hb1
    have HK := Lib.hid hkp
    clear hb1 hkp HP
    go_wp2_with fail
    refine (HIx.out w1 HK.out).mono ?_
    rintro e w2 ⟨rfl, rfl⟩
    go_wp2_with fail
    exact ⟨rfl, HB1.out, HK.out, .inr ⟨hq2, rfl⟩⟩

end Go.Proofs.Ythdaeblfehclcab
