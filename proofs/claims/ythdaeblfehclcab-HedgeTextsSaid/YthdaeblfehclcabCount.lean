/- ref02.count and Few. -/
import Derived.Test.YthdaeblfehclcabRows
import Derived.Test.YthdaeblfehclcabHg
namespace Go.Proofs.Ythdaeblfehclcab
open Go.RowKit

set_option maxHeartbeats 400000 in
theorem count_any (N : Nat) : ∀ (H : Hg) (v : Value) (m : Int) (w : World), H.size < N → IsH w v H → -1 ≤ m → m ≤ 1000000 →
    Calls Try.prog 35 #[v, .int .i64 m] w fun e w' => e = .returned (.int .i64 (min (H.size : Int) (m + 1))) ∧ Below w.heap.size w w' := by
  induction N with
  | zero =>
    intro H v m w hN hv h1 h2
    omega
  | succ N ih =>
    intro H v m w hN hv h1 h2
    obtain ⟨p, c, rfl, hc1, hc2, hrow⟩ := hv
    unfold maxLen at hc2
    have HI := Lib.hid ih
    clear ih
    go_enter Try.func35, Try.ntmps35
    go_wp2
    go_loopw [5, 10] (fun n i wr => ∃ (k d : Nat) (R : Hg), i = .int .i64 k ∧ n = .int .i64 (min (d : Int) (m + 1)) ∧ k + R.len = H.len ∧ d + R.size = H.size ∧ Below w.heap.size w wr ∧ (R ≠ .nil → ∃ b o, p = some ⟨b, o, none⟩ ∧ Row wr R b (o + k * 2)))
      (fun _ i _ => H.len - (intOf i).toNat)
    case atStart =>
      exact ⟨0, 0, H, rfl, by simp; omega, by simp, by simp, Below.refl _ _, by simpa using hrow⟩
    case round =>
      obtain ⟨k, d, R, rfl, rfl, hk, hd, hb, hR⟩ := hrel
      cases R with
      | nil =>
        simp only [Hg.len, Hg.size] at hk hd
        have hge : H.len ≤ k := by omega
        have HD := Lib.hid hd
        clear hk hd hR hrow
        go_wp2
        go_ret
        exact ⟨by rw [← HD.out]; simp, hb⟩
      | cons l K R =>
        obtain ⟨b, o, rfl, hr⟩ := hR (by simp)
        rw [Row.cons_iff] at hr
        obtain ⟨c1, hl, ⟨vk, c2, p', c', rfl, hc1', hc2', hrow'⟩, hr⟩ := hr
        unfold maxLen at hc2'
        simp only [Hg.len, Hg.size] at hk hd
        have hlt : k < H.len := by omega
        have hbl := World.block_lt_of_cell? _ _ c1
        simp only at hbl
        have HK := Lib.hid hk
        have HD := Lib.hid hd
        have hdN : K.size < N := by omega
        have hbw := hb.alloc hb.size (.cells #[.int .i64 l, .slice p' K.len c'] 24)
        have hba := (Below.refl wr.heap.size wr).alloc (Nat.le_refl _) (.cells #[.int .i64 l, .slice p' K.len c'] 24)
        have hrw := hr.below hba
        have hrow'2 : K ≠ .nil → ∃ b o, p' = some ⟨b, o, none⟩ ∧ Row (wr.alloc (.cells #[.int .i64 l, .slice p' K.len c'] 24)) K b o := fun hk => by
          obtain ⟨b', o', e, hr⟩ := hrow' hk
          exact ⟨b', o', e, hr.below hba⟩
        clear hk hd hR hrow hba
        go_wp2_with fail
        · refine (HI.out K _ _ _ hdN ⟨p', c', rfl, hc1', hc2', hrow'2⟩ (by omega) (by omega)).mono ?_
          rintro e w1 ⟨rfl, hb1⟩
          go_wp2_with fail
          go_roundw
          case rel =>
            refine ⟨k + 1, d + (K.size + 1), R, by go_num, ?_, by have := HK.out; omega, by have := HD.out; omega, hbw.trans (hb1.mono (by simp; have := hb.size; omega)), fun _ => ⟨b, o, rfl, ?_⟩⟩
            · refine congrArg _ ?_; omega
            · have := (hrw.below hb1)
              rw [show o + (k + 1) * 2 = o + k * 2 + 2 from by omega]; exact this
          case measure => simp [intOf]; omega
        · go_roundw
          case rel =>
            refine ⟨k + 1, d + (K.size + 1), R, by go_num, ?_, by have := HK.out; omega, by have := HD.out; omega, hbw, fun _ => ⟨b, o, rfl, ?_⟩⟩
            · refine congrArg _ ?_; omega
            · rw [show o + (k + 1) * 2 = o + k * 2 + 2 from by omega]; exact hrw
          case measure => simp [intOf]; omega

theorem count_ok (H : Hg) (v : Value) (m : Int) (w : World) (hv : IsH w v H) (h1 : -1 ≤ m) (h2 : m ≤ 1000000) :
    Calls Try.prog 35 #[v, .int .i64 m] w fun e w' => e = .returned (.int .i64 (min (H.size : Int) (m + 1))) ∧ Below w.heap.size w w' :=
  count_any _ H v m w (Nat.lt_succ_self _) hv h1 h2

set_option maxHeartbeats 400000 in
theorem few_ok (H : Hg) (v : Value) (m : Int) (w : World) (hv : IsH w v H) (h1 : -1 ≤ m) (h2 : m ≤ 1000000) :
    Calls Try.prog 8 #[v, .int .i64 m] w fun e w' => e = .returned (.bool (decide ((H.size : Int) ≤ m))) ∧ Below w.heap.size w w' := by
  have hc := Lib.hid (count_ok H v m w hv h1 h2)
  obtain ⟨p, c, rfl, hc1, hc2, hrow⟩ := hv
  clear hrow
  go_enter Try.func8, Try.ntmps8
  go_wp2_with fail
  refine hc.out.mono ?_
  rintro e w1 ⟨rfl, hb1⟩
  go_wp2_with fail
  go_ret
  exact ⟨ret_bool (by rw [decide_eq_decide]; omega), hb1⟩

end Go.Proofs.Ythdaeblfehclcab
