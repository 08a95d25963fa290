/- scan.Reader: Peek. scan.Reader: Expect and Pick, with their panics. -/
import Derived.Test.YtkgoealanboolaaDoorTM1
import Derived.Deep.QuietTactic
import Derived.BigQuiet
import Derived.Deep.RegionHeld3
import Derived.WalkSmall
namespace Go.Proofs.YtkgoealanboolaaDoor
open Go.RowKit Go.Shelf

/-- The first place from i on that holds no blank. -/
def skB (s : ByteArray) (i : Nat) : Nat := if i < s.size then (if byt s i = 32 then skB s (i + 1) else i) else i
termination_by s.size - i
theorem skB_step {s : ByteArray} {k : Nat} (h : k < s.size) (hb : byt s k = 32) : skB s k = skB s (k + 1) := by rw [skB, if_pos h, if_pos hb]
theorem skB_stop {s : ByteArray} {k : Nat} (hb : ¬ byt s k = 32) : skB s k = k := by
  rw [skB]
  by_cases h : k < s.size
  · rw [if_pos h, if_neg hb]
  · rw [if_neg h]
theorem skB_end {s : ByteArray} {k : Nat} (h : ¬ k < s.size) : skB s k = k := by rw [skB, if_neg h]
/-- The token at i. -/
def tok (s : ByteArray) (i : Nat) : ByteArray := if i = s.size then ⟨#[]⟩ else s.extract i (max (wEnd s i) (i + 1))
def cellInt (w : World) (b : Nat) : Int := match w.cell? ⟨b, 1, none⟩ with
  | some (.int _ k) => k
  | _ => 0
theorem cellInt_blk {w : World} {b : Nat} {t : TypeId} {v : Value} {k : Int} (h : Blk w b t #[v, .int .i64 k]) : cellInt w b = k := by
  have : w.cell? ⟨b, 1, none⟩ = some (.int .i64 k) := by rw [h.cell]; rfl
  simp [cellInt, this]
theorem wEnd_le {s : ByteArray} {i : Nat} (h : i ≤ s.size) : i ≤ wEnd s i ∧ wEnd s i ≤ s.size := by
  generalize hn : s.size - i = n
  induction n generalizing i with
  | zero =>
    have : ¬ i < s.size := by omega
    rw [wEnd, if_neg this]; omega
  | succ n ih =>
    have hi : i < s.size := by omega
    rw [wEnd, if_pos hi]
    split
    · have := ih (i := i + 1) (by omega) (by omega); omega
    · omega

set_option maxRecDepth 100000 in
set_option maxHeartbeats 1000000 in
theorem peek_ok (b : Nat) (s : ByteArray) (i : Nat) (w : World) (hb : Blk w b 137 #[.string s, .int .i64 i]) (hi : i ≤ s.size) (hs : s.size ≤ 1000000) :
    Calls Tryd.prog 100 #[.pointer (some ⟨b, 0, none⟩)] w fun e w' => e = .returned (.string (tok s (skB s i))) ∧ Blk w' b 137 #[.string s, .int .i64 (skB s i)] ∧ skB s i ≤ s.size ∧ Kp (fun c => c ≠ b) w w' := by
  have HB := Lib.hid hb
  have HWE := Lib.hid (fun k W (h : k ≤ s.size) => wordEnd_ok s k W (by omega) h)
  clear hb
  go_enter Tryd.func100, Tryd.ntmps100
  go_wp2_with fail
  go_loopw [] (fun wr => ∃ k : Nat, k ≤ s.size ∧ Hid (Blk wr b 137 #[.string s, .int .i64 k]) ∧ Hid (skB s i = skB s k) ∧ Hid (Kp (fun c => c ≠ b) w wr))
    (fun wr => s.size - (cellInt wr b).toNat)
  case atStart => exact ⟨i, hi, HB, Lib.hid rfl, Lib.hid (Kp.refl _ _)⟩
  case round =>
    obtain ⟨k, hk, HX, HE, HK⟩ := hrel
    have z0 : wr.cell? ⟨b, 0, none⟩ = some (.string s) := by rw [HX.out.cell]; rfl
    have z1 : wr.cell? ⟨b, 1, none⟩ = some (.int .i64 k) := by rw [HX.out.cell]; rfl
    have z2 := HX.out.frozen 1
    have z3 := HX.out.lt
    by_cases hlt : k < s.size
    · have hby : Hid (byt s k = ((s[k]'hlt).toNat : Int)) := Lib.hid (by rw [byt, dif_pos hlt])
      by_cases h32 : ((s[k]'hlt).toNat : Int) = 32
      · have hd : (((s[k]'hlt).toNat : Int) == 32) = true := by simp [h32]
        have HE2 : Hid (skB s i = skB s (k + 1)) := Lib.hid (by rw [HE.out, skB_step hlt (by rw [hby.out, h32])])
        clear hby HE
        go_wp2_with fail
        go_quiet (fail)
        go_wp2_with fail
        go_roundw
        case rel => exact ⟨k + 1, by omega, Lib.hid (HX.out.set_ 1 _), HE2, Lib.hid (((HK.out.setCell (p := ⟨b, 1, none⟩) (fun h => absurd rfl h) _)).drewN _)⟩
        case measure =>
          have e1 := cellInt_blk HX.out
          have e2 : cellInt ((wr.drewN nq).setCell ⟨b, 1, none⟩ (.int .i64 ((k : Int) + 1))) b = (k : Int) + 1 := cellInt_blk (Blk.set_ (w := wr.drewN nq) HX.out 1 (.int .i64 ((k : Int) + 1)))
          rw [e1, e2]
          omega
      · have hd : (((s[k]'hlt).toNat : Int) == 32) = false := by simpa using h32
        have HE2 : Hid (skB s i = k) := Lib.hid (by rw [HE.out, skB_stop (by rw [hby.out]; exact h32)])
        have hkn : ¬ k = s.size := by omega
        have hd2 : ((k : Int) == (s.size : Int)) = false := beq_eq_false_iff_ne.2 (by omega)
        have hd3 : (k == s.size) = false := beq_eq_false_iff_ne.2 hkn
        have hwe := wEnd_le hk
        have HT : Hid (tok s k = s.extract k (max (wEnd s k) (k + 1))) := Lib.hid (by rw [tok, if_neg hkn])
        clear hby HE h32
        go_wp2_with fail
        go_quiet (fail)
        go_wp2_with fail
        go_quiet (fail)
        go_wp2_with fail
        go_region_held3 (fun W => W.cell? ⟨b, 0, none⟩ = some (.string s) ∧ W.cell? ⟨b, 1, none⟩ = some (.int .i64 k))
          (go_keep)
          (first
            | (go_at_call 80; refine (HWE.out k _ hk).mono ?_; rintro e w1 ⟨rfl, rfl⟩))
        all_goals
          go_wp2_with fail
          by_cases hmx : k + 1 ≤ wEnd s k
          · have hme : max (wEnd s k) (k + 1) = wEnd s k := by omega
            have hm1 : ¬ (wEnd s k : Int) < (k : Int) + 1 := by omega
            have hm2 : ¬ wEnd s k < k + 1 := by omega
            have hsum : IntKind.i64.wrap ((k : Int) + 1) = (k : Int) + 1 := IntWalk.i64_in _ (by omega)
            have hi1 : (k : Int) ≤ (wEnd s k : Int) := by omega
            have hi2 : (wEnd s k : Int) ≤ (s.size : Int) := by omega
            have hi3 : (0 : Int) ≤ (k : Int) := by omega
            go_region_held3 (fun W => W.cell? ⟨b, 0, none⟩ = some (.string s) ∧ W.cell? ⟨b, 1, none⟩ = some (.int .i64 k)) (go_keep) (fail)
            all_goals
              go_wp2_with fail
              go_ret
              exact ⟨by rw [HE2.out, HT.out, hme]; rfl, by rw [HE2.out]; exact HX.out, by rw [HE2.out]; exact hk, HK.out.drewN _⟩
          · have hme : max (wEnd s k) (k + 1) = k + 1 := by omega
            have hm1 : (wEnd s k : Int) < (k : Int) + 1 := by omega
            have hm2 : wEnd s k < k + 1 := by omega
            have hsum : IntKind.i64.wrap ((k : Int) + 1) = (k : Int) + 1 := IntWalk.i64_in _ (by omega)
            have hi1 : (k : Int) ≤ (k : Int) + 1 := by omega
            have hi2 : (k : Int) + 1 ≤ (s.size : Int) := by omega
            have hi3 : (0 : Int) ≤ (k : Int) := by omega
            have hi4 : (0 : Int) ≤ (k : Int) + 1 := by omega
            have hi5 : ((k : Int) + 1).toNat = k + 1 := by omega
            clear hmx
            go_region_held3 (fun W => W.cell? ⟨b, 0, none⟩ = some (.string s) ∧ W.cell? ⟨b, 1, none⟩ = some (.int .i64 k)) (go_keep) (fail)
            all_goals
              go_wp2_with fail
              go_ret
              exact ⟨by rw [HE2.out, HT.out, hme]; rfl, by rw [HE2.out]; exact HX.out, by rw [HE2.out]; exact hk, HK.out.drewN _⟩
    · have hkn : k = s.size := by omega
      have hd2 : ((k : Int) == (s.size : Int)) = true := by simp [hkn]
      have HE2 : Hid (skB s i = k) := Lib.hid (by rw [HE.out, skB_end hlt])
      have HT : Hid (tok s k = ⟨#[]⟩) := Lib.hid (by rw [tok, if_pos hkn])
      clear HE
      go_wp2_with fail
      go_quiet (fail)
      go_wp2_with fail
      go_quiet (fail)
      go_wp2_with fail
      go_ret
      exact ⟨by rw [HE2.out, HT.out]; rfl, by rw [HE2.out]; exact HX.out, by rw [HE2.out]; exact hk, (HK.out.drewN _).drewN _⟩

/-- Where the token at j ends. -/
def nx (s : ByteArray) (j : Nat) : Nat := if j = s.size then j else max (wEnd s j) (j + 1)
theorem tok_size {s : ByteArray} {j : Nat} (h : j ≤ s.size) : (tok s j).size + j = nx s j := by
  unfold tok nx
  have := wEnd_le h
  split
  · simp [ByteArray.size]
  · simp only [ByteArray.size_extract]; omega
theorem nx_le {s : ByteArray} {j : Nat} (h : j ≤ s.size) : j ≤ nx s j ∧ nx s j ≤ s.size := by
  unfold nx
  have := wEnd_le h
  split <;> omega

set_option maxRecDepth 100000 in
set_option maxHeartbeats 1000000 in
theorem next_ok (b : Nat) (s : ByteArray) (i : Nat) (w : World) (hb : Blk w b 137 #[.string s, .int .i64 i]) (hi : i ≤ s.size) (hs : s.size ≤ 1000000) :
    Calls Tryd.prog 93 #[.pointer (some ⟨b, 0, none⟩)] w fun e w' => e = .returned (.string (tok s (skB s i))) ∧ Blk w' b 137 #[.string s, .int .i64 (nx s (skB s i))] ∧ skB s i ≤ s.size ∧ Kp (fun c => c ≠ b) w w' := by
  have HP := Lib.hid (peek_ok b s i w hb hi hs)
  go_enter Tryd.func93, Tryd.ntmps93
  go_wp2_with fail
  refine HP.out.mono ?_
  rintro e w1 ⟨rfl, hb1, hk1, hkp⟩
  have z1 : w1.cell? ⟨b, 1, none⟩ = some (.int .i64 (skB s i)) := by rw [hb1.cell]; rfl
  have z2 := hb1.frozen 1
  have z3 := hb1.lt
  have hsz := tok_size hk1
  have hn := nx_le hk1
  have hsum : ((skB s i : Nat) : Int) + ((tok s (skB s i)).size : Int) = (nx s (skB s i) : Int) := by omega
  have HS := Lib.hid hsum
  have HB1 := Lib.hid hb1
  have HK := Lib.hid hkp
  have ht1 : (tok s (skB s i)).size ≤ 1000000 := by omega
  have hk2 : skB s i ≤ 1000000 := by omega
  clear hb hb1 hkp hsum hsz HP
  go_wp2_with fail
  go_ret
  refine ⟨rfl, ?_, hk1, HK.out.setCell (p := ⟨b, 1, none⟩) (fun h => absurd rfl h) _⟩
  rw [← HS.out]
  exact HB1.out.set_ 1 _

end Go.Proofs.YtkgoealanboolaaDoor

namespace Go.Proofs.YtkgoealanboolaaDoor
open Go.RowKit Go.Shelf

set_option maxRecDepth 100000 in
set_option maxHeartbeats 1000000 in
theorem expect_ok (b : Nat) (s t : ByteArray) (i : Nat) (w : World) (hb : Blk w b 137 #[.string s, .int .i64 i]) (hi : i ≤ s.size) (hs : s.size ≤ 1000000) :
    Calls Tryd.prog 72 #[.pointer (some ⟨b, 0, none⟩), .string t] w fun e w' => Blk w' b 137 #[.string s, .int .i64 (nx s (skB s i))] ∧ Kp (fun c => c ≠ b) w w' ∧
      ((seq (tok s (skB s i)) t = true ∧ e = .returned (.tuple #[])) ∨ (seq (tok s (skB s i)) t = false ∧ e = .panicked [{ v := .iface 109 (.agg #[.int .i64 4]), recovered := false }])) := by
  have HP := Lib.hid (next_ok b s i w hb hi hs)
  clear hb
  cases hq : (tok s (skB s i)).toList == t.toList with
  | true =>
    have HQ : Hid (seq (tok s (skB s i)) t = true) := Lib.hid hq
    go_enter Tryd.func72, Tryd.ntmps72
    go_wp2_with fail
    refine HP.out.mono ?_
    rintro e w1 ⟨rfl, hb1, hk1, hkp⟩
    have HB1 := Lib.hid hb1
    have HK := Lib.hid hkp
    clear hb1 hkp HP
    go_wp2_with fail
    go_end0
    exact ⟨HB1.out, HK.out, .inl ⟨HQ.out, rfl⟩⟩
  | false =>
    have HQ : Hid (seq (tok s (skB s i)) t = false) := Lib.hid hq
    go_enter Tryd.func72, Tryd.ntmps72
    go_wp2_with fail
    refine HP.out.mono ?_
    rintro e w1 ⟨rfl, hb1, hk1, hkp⟩
    have HB1 := Lib.hid hb1
    have HK := Lib.hid hkp
    clear hb1 hkp HP
    go_wp2_with fail
    exact ⟨rfl, HB1.out, HK.out, .inr ⟨HQ.out, rfl⟩⟩

/-- The names lie in blocks that S holds. -/
theorem IsStrs.kp {S : Nat → Prop} {w w' : World} {v : Value} {l : List ByteArray} (h : IsStrs w v l) (hk : Kp S w w') (hS : l ≠ [] → ∀ b o n c, v = .slice (some ⟨b, o, none⟩) n c → S b) : IsStrs w' v l := by
  obtain ⟨p, c, e, h1, h2, h3, h4⟩ := h
  refine ⟨p, c, e, h1, h2, fun hne => ?_, h4⟩
  obtain ⟨b, o, e', hc⟩ := h3 hne
  subst e'
  exact ⟨b, o, rfl, fun i x hx => hk.cell (hc i x hx) (hS hne b o _ _ e)⟩

set_option maxRecDepth 100000 in
set_option maxHeartbeats 1000000 in
theorem pick_ok (b : Nat) (s : ByteArray) (i : Nat) (names : List ByteArray) (vn : Value) (w : World) (hb : Blk w b 137 #[.string s, .int .i64 i]) (hi : i ≤ s.size) (hs : s.size ≤ 1000000)
    (hn : IsStrs w vn names) (hnb : names ≠ [] → ∀ b' o n c, vn = .slice (some ⟨b', o, none⟩) n c → b' ≠ b) :
    Calls Tryd.prog 92 #[.pointer (some ⟨b, 0, none⟩), vn] w fun e w' => Blk w' b 137 #[.string s, .int .i64 (nx s (skB s i))] ∧ Kp (fun c => c ≠ b) w w' ∧
      ((0 ≤ idxS names (tok s (skB s i)) ∧ e = .returned (.int .i64 (idxS names (tok s (skB s i))))) ∨ (idxS names (tok s (skB s i)) < 0 ∧ e = .panicked [{ v := .iface 109 (.agg #[.int .i64 4]), recovered := false }])) := by
  have HP := Lib.hid (next_ok b s i w hb hi hs)
  have HIx := Lib.hid (fun W (hk : Kp (fun c => c ≠ b) w W) => index_ok names (tok s (skB s i)) vn W (hn.kp hk hnb))
  obtain ⟨p, c, rfl, _, _, _, _⟩ := hn
  clear hb hnb
  by_cases hq : 0 ≤ idxS names (tok s (skB s i))
  · have hd : decide (idxS names (tok s (skB s i)) < 0) = false := decide_eq_false (by omega)
    go_enter Tryd.func92, Tryd.ntmps92
    go_wp2_with fail
    refine HP.out.mono ?_
    rintro e w1 ⟨rfl, hb1, hk1, hkp⟩
    have HB1 := Lib.hid hb1
    have HK := Lib.hid hkp
    clear hb1 hkp HP
    go_wp2_with fail
    refine (HIx.out w1 HK.out).mono ?_
    rintro e w2 ⟨rfl, rfl⟩
    go_wp2_with fail
    go_ret
    exact ⟨HB1.out, HK.out, .inl ⟨hq, rfl⟩⟩
  · have hd : decide (idxS names (tok s (skB s i)) < 0) = true := decide_eq_true (by omega)
    have hq2 : idxS names (tok s (skB s i)) < 0 := by omega
    clear hq
    go_enter Tryd.func92, Tryd.ntmps92
    go_wp2_with fail
    refine HP.out.mono ?_
    rintro e w1 ⟨rfl, hb1, hk1, hkp⟩
    have HB1 := Lib.hid hb1
    have HK := Lib.hid hkp
    clear hb1 hkp HP
    go_wp2_with fail
    refine (HIx.out w1 HK.out).mono ?_
    rintro e w2 ⟨rfl, rfl⟩
    go_wp2_with fail
    exact ⟨rfl, HB1.out, HK.out, .inr ⟨hq2, rfl⟩⟩

end Go.Proofs.YtkgoealanboolaaDoor

