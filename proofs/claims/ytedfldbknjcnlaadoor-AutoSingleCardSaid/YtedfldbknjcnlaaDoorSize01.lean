/- ref01.Size. -/
import Derived.Test.YtedfldbknjcnlaaDoorRows
import Derived.Test.YtedfldbknjcnlaaDoorHgS
namespace Go.Proofs.YtedfldbknjcnlaaDoor
open Go.RowKit

set_option maxHeartbeats 400000 in
theorem size01_any (N : Nat) : ∀ (s : Int) (H : Hg) (v : Value) (w : World), H.size < N → H.size ≤ 1000000 → IsH w v H →
    Calls Tryd.prog 40 #[.agg #[.int .i64 s, v]] w fun e w' => e = .returned (.int .i64 ((H.size : Int) + 1)) ∧ Below w.heap.size w w' := by
  induction N with
  | zero => intro s H v w hN; omega
  | succ N ih =>
    intro s H v w hN hmax hv
    obtain ⟨p, c, rfl, hc1, hc2, hrow⟩ := hv
    unfold maxLen at hc2
    have HI := Lib.hid ih
    have HR := Lib.hid hrow
    clear ih hrow
    go_enter Tryd.func40, Tryd.ntmps40
    go_wp2
    go_loopw [3, 9] (fun n i wr => ∃ (k d : Nat) (R : Hg), i = .int .i64 k ∧ n = .int .i64 ((d : Int) + 1) ∧ Hid (k + R.len = H.len) ∧ Hid (d + R.size = H.size) ∧ Below w.heap.size w wr ∧ (R ≠ .nil → ∃ b o, p = some ⟨b, o, none⟩ ∧ Row wr R b (o + k * 2)))
      (fun _ i _ => H.len - (intOf i).toNat)
    case atStart =>
      refine ⟨0, 0, H, rfl, by simp, Lib.hid (by simp), Lib.hid (by simp), (Below.refl _ _).alloc (Nat.le_refl _) _, fun hne => ?_⟩
      obtain ⟨b, o, e, hr⟩ := HR.out hne
      exact ⟨b, o, e, by simpa using hr.below ((Below.refl _ _).alloc (Nat.le_refl _) _)⟩
    case round =>
      obtain ⟨k, d, R, rfl, rfl, hk, hd, hb, hR⟩ := hrel
      cases R with
      | nil =>
        have hge : H.len ≤ k := by have := hk.out; simp only [Hg.len] at this; omega
        have HD : Hid (d = H.size) := Lib.hid (by have := hd.out; simpa [Hg.size] using this)
        clear hk hd hR HR
        go_wp2
        go_ret
        exact ⟨by rw [← HD.out]; rfl, hb⟩
      | cons l K R =>
        obtain ⟨b, o, rfl, hr⟩ := hR (by simp)
        rw [Row.cons_iff] at hr
        obtain ⟨c1, hl, ⟨vk, c2, hvk⟩, hr⟩ := hr
        have hvk' := hvk
        obtain ⟨p', c', rfl, hc1', hc2', _⟩ := hvk'
        have hlt : k < H.len := by have := hk.out; simp only [Hg.len] at this; omega
        have hds : d + (K.size + R.size + 1) ≤ H.size := by have := hd.out; simp only [Hg.size] at this; omega
        have hbl := World.block_lt_of_cell? _ _ c1
        simp only at hbl
        have hba := (Below.refl wr.heap.size wr).alloc (Nat.le_refl _) (.cells #[.int .i64 l, .slice p' K.len c'] 43)
        have HW := Lib.hid (And.intro (hb.alloc hb.size (.cells #[.int .i64 l, .slice p' K.len c'] 43)) (And.intro (hr.below hba) (hvk.below hba)))
        have hsz := hb.size
        clear hR HR hr hvk hba hb
        go_wp2_with fail
        refine (HI.out l K _ _ (by omega) (by omega) HW.out.2.2).mono ?_
        rintro e w1 ⟨rfl, hb1⟩
        have HB1 := Lib.hid hb1
        clear hb1
        go_wp2_with fail
        go_roundw
        case rel =>
          refine ⟨k + 1, d + (K.size + 1), R, by go_num, by go_num, Lib.hid (by have := hk.out; simp only [Hg.len] at this; omega), Lib.hid (by have := hd.out; simp only [Hg.size] at this; omega), HW.out.1.trans (HB1.out.mono (by simp; omega)), fun _ => ⟨b, o, rfl, ?_⟩⟩
          rw [show o + (k + 1) * 2 = o + k * 2 + 2 from by omega]; exact HW.out.2.1.below HB1.out
        case measure => simp [intOf]; omega

theorem size01_ok (s : Int) (H : Hg) (v : Value) (w : World) (hs : H.size ≤ 1000000) (hv : IsH w v H) :
    Calls Tryd.prog 40 #[.agg #[.int .i64 s, v]] w fun e w' => e = .returned (.int .i64 ((H.size : Int) + 1)) ∧ Below w.heap.size w w' :=
  size01_any _ s H v w (Nat.lt_succ_self _) hs hv

end Go.Proofs.YtedfldbknjcnlaaDoor
