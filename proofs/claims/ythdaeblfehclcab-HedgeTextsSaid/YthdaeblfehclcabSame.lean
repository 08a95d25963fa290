/- ref02.Same and ref01.Same of equal hedges and trees. -/
import Derived.Test.YthdaeblfehclcabEncodeTop
import Derived.Deep.RegionHeld3
namespace Go.Proofs.Ythdaeblfehclcab
open Go.RowKit Go.Shelf

set_option maxRecDepth 100000 in
set_option maxHeartbeats 1000000 in
theorem same02_any (N : Nat) : ∀ (H : Hg) (v v' : Value) (w : World), H.size < N → IsH w v H → IsH w v' H →
    Calls Try.prog 27 #[v, v'] w fun e w' => e = .returned (.bool true) ∧ Below w.heap.size w w' := by
  induction N with
  | zero => intro H v v' w hN; omega
  | succ N ih =>
    intro H v v' w hN hv hv'
    obtain ⟨p, c, rfl, hc1, hc2, hrow⟩ := hv
    obtain ⟨p', c', rfl, hc1', hc2', hrow'⟩ := hv'
    unfold maxLen at hc2 hc2'
    have HI := Lib.hid ih
    have HR := Lib.hid hrow
    have HR' := Lib.hid hrow'
    clear ih hrow hrow'
    go_enter Try.func27, Try.ntmps27
    go_wp2_with fail
    go_loopw [13] (fun i wr => ∃ (k d : Nat) (R : Hg), i = .int .i64 k ∧ Hid (k + R.len = H.len) ∧ Hid (d + R.size = H.size) ∧ Hid (Below w.heap.size w wr) ∧ (R ≠ .nil → ∃ b o, p = some ⟨b, o, none⟩ ∧ Row wr R b (o + k * 2)) ∧ (R ≠ .nil → ∃ b o, p' = some ⟨b, o, none⟩ ∧ Row wr R b (o + k * 2)))
      (fun i _ => H.len - (intOf i).toNat)
    case atStart =>
      exact ⟨0, 0, H, rfl, Lib.hid (by simp), Lib.hid (by simp), Lib.hid (Below.refl _ _), by simpa using HR.out, by simpa using HR'.out⟩
    case round =>
      obtain ⟨k, d, R, rfl, hk, hd, HB, hR, hR'⟩ := hrel
      cases R with
      | nil =>
        have hge : H.len ≤ k := by have := hk.out; simp only [Hg.len] at this; omega
        clear hk hd hR HR hR' HR'
        go_wp2_with fail
        go_ret
        exact ⟨rfl, HB.out⟩
      | cons l K R =>
        obtain ⟨b, o, rfl, hr⟩ := hR (by simp)
        obtain ⟨b', o', rfl, hr'⟩ := hR' (by simp)
        rw [Row.cons_iff] at hr hr'
        obtain ⟨c1, hl, ⟨vk, c2, hvk⟩, hr⟩ := hr
        obtain ⟨c1', hl', ⟨vk', c2', hvk'⟩, hr'⟩ := hr'
        have HK := Lib.hid hvk
        have HK' := Lib.hid hvk'
        obtain ⟨pk, ck, rfl, _, _, _⟩ := hvk
        obtain ⟨pk', ck', rfl, _, _, _⟩ := hvk'
        have hlt : k < H.len := by have := hk.out; simp only [Hg.len] at this; omega
        have hds : d + (K.size + R.size + 1) ≤ H.size := by have := hd.out; simp only [Hg.size] at this; omega
        have hlt1 : (k : Int) < (H.len : Int) := by omega
        have hk0 : (0 : Int) ≤ (k : Int) := by omega
        have hbl := World.block_lt_of_cell? _ _ c1
        have hbl' := World.block_lt_of_cell? _ _ c1'
        simp only at hbl hbl'
        have hst : ∀ W, Below wr.heap.size wr W → W.cell? ⟨b, o + k * 2, none⟩ = some (.int .i64 l) ∧ W.cell? ⟨b, o + k * 2 + 1, none⟩ = some (.slice pk K.len ck) ∧ W.cell? ⟨b', o' + k * 2, none⟩ = some (.int .i64 l) ∧ W.cell? ⟨b', o' + k * 2 + 1, none⟩ = some (.slice pk' K.len ck') := fun W hW =>
          ⟨cell_later hW c1, cell_later hW c2, cell_later hW c1', cell_later hW c2'⟩
        have HST := Lib.hid hst
        have HRR := Lib.hid hr
        have HRR' := Lib.hid hr'
        have HC := Lib.hid (HI.out K (.slice pk K.len ck) (.slice pk' K.len ck') wr.drew (by omega) (HK.out.below (Below.refl _ _).drew) (HK'.out.below (Below.refl _ _).drew))
        clear hR HR hR' HR' hr hr' hst
        go_wp2_with fail
        go_region_held3 (fun W => W.cell? ⟨b, o + k * 2, none⟩ = some (.int .i64 l) ∧ W.cell? ⟨b, o + k * 2 + 1, none⟩ = some (.slice pk K.len ck) ∧ W.cell? ⟨b', o' + k * 2, none⟩ = some (.int .i64 l) ∧ W.cell? ⟨b', o' + k * 2 + 1, none⟩ = some (.slice pk' K.len ck'))
          (first | exact HST.out _ (Below.refl _ _).drew | exact HST.out _ HB1.out)
          (first
            | (go_at_call 27; refine HC.out.mono ?_; rintro e w1 ⟨rfl, hb1⟩; have HB1 : Hid (Below wr.heap.size wr w1) := Lib.hid ((Below.refl _ _).drew.trans hb1); clear hb1))
        all_goals
          go_wp2_with fail
          go_roundw
          case rel =>
            refine ⟨k + 1, d + (K.size + 1), R, by go_num, Lib.hid (by have := hk.out; simp only [Hg.len] at this; omega), Lib.hid (by have := hd.out; simp only [Hg.size] at this; omega), Lib.hid (HB.out.trans (HB1.out.mono HB.out.size)), fun _ => ⟨b, o, rfl, ?_⟩, fun _ => ⟨b', o', rfl, ?_⟩⟩
            · rw [show o + (k + 1) * 2 = o + k * 2 + 2 from by omega]; exact HRR.out.below HB1.out
            · rw [show o' + (k + 1) * 2 = o' + k * 2 + 2 from by omega]; exact HRR'.out.below HB1.out
          case measure => simp [intOf]; omega

theorem same02_ok (H : Hg) (v v' : Value) (w : World) (hv : IsH w v H) (hv' : IsH w v' H) :
    Calls Try.prog 27 #[v, v'] w fun e w' => e = .returned (.bool true) ∧ Below w.heap.size w w' :=
  same02_any _ H v v' w (Nat.lt_succ_self _) hv hv'

set_option maxRecDepth 100000 in
set_option maxHeartbeats 1000000 in
theorem same01_any (N : Nat) : ∀ (s : Int) (H : Hg) (v v' : Value) (w : World), H.size < N → IsH w v H → IsH w v' H →
    Calls Try.prog 26 #[.agg #[.int .i64 s, v], .agg #[.int .i64 s, v']] w fun e w' => e = .returned (.bool true) ∧ Below w.heap.size w w' := by
  induction N with
  | zero => intro s H v v' w hN; omega
  | succ N ih =>
    intro s H v v' w hN hv hv'
    obtain ⟨p, c, rfl, hc1, hc2, hrow⟩ := hv
    obtain ⟨p', c', rfl, hc1', hc2', hrow'⟩ := hv'
    unfold maxLen at hc2 hc2'
    have hb0 : Below w.heap.size w ((w.alloc (.cells #[.int .i64 s, .slice p H.len c] 41)).alloc (.cells #[.int .i64 s, .slice p' H.len c'] 41)) := ((Below.refl _ w).alloc (Nat.le_refl _) _).alloc (by simp) _
    have hbx : ∀ W, Below (w.heap.size + 1 + 1) ((w.alloc (.cells #[.int .i64 s, .slice p H.len c] 41)).alloc (.cells #[.int .i64 s, .slice p' H.len c'] 41)) W →
        W.cell? ⟨w.heap.size, 1, none⟩ = some (.slice p H.len c) ∧ W.cell? ⟨w.heap.size + 1, 1, none⟩ = some (.slice p' H.len c') ∧ w.heap.size + 1 < W.heap.size ∧ Below w.heap.size w W := fun W hW => by
      have h1 : Blk W w.heap.size 41 #[.int .i64 s, .slice p H.len c] := ((Blk.new w _ _).alloc _).below hW (by omega)
      have h2 : Blk W (w.heap.size + 1) 41 #[.int .i64 s, .slice p' H.len c'] := by
        have := Blk.new (w.alloc (.cells #[.int .i64 s, .slice p H.len c] 41)) 41 #[.int .i64 s, .slice p' H.len c']
        rw [World.size_alloc] at this
        exact this.below hW (by omega)
      exact ⟨by rw [h1.cell]; rfl, by rw [h2.cell]; rfl, h2.lt, hb0.trans (hW.mono (by omega))⟩
    have HI := Lib.hid ih
    have HR := Lib.hid hrow
    have HR' := Lib.hid hrow'
    have HBX := Lib.hid hbx
    have HB0 := Lib.hid hb0
    clear ih hrow hrow' hbx hb0
    go_enter Try.func26, Try.ntmps26
    go_wp2_with fail
    go_loopw [23] (fun i wr => ∃ (k d : Nat) (R : Hg), i = .int .i64 k ∧ Hid (k + R.len = H.len) ∧ Hid (d + R.size = H.size) ∧ Hid (Below (w.heap.size + 1 + 1) ((w.alloc (.cells #[.int .i64 s, .slice p H.len c] 41)).alloc (.cells #[.int .i64 s, .slice p' H.len c'] 41)) wr) ∧ (R ≠ .nil → ∃ b o, p = some ⟨b, o, none⟩ ∧ Row wr R b (o + k * 2)) ∧ (R ≠ .nil → ∃ b o, p' = some ⟨b, o, none⟩ ∧ Row wr R b (o + k * 2)))
      (fun i _ => H.len - (intOf i).toNat)
    case atStart =>
      refine ⟨0, 0, H, rfl, Lib.hid (by simp), Lib.hid (by simp), Lib.hid (Below.refl _ _), fun hne => ?_, fun hne => ?_⟩
      · obtain ⟨b, o, e, hr⟩ := HR.out hne
        exact ⟨b, o, e, by simpa using hr.below HB0.out⟩
      · obtain ⟨b, o, e, hr⟩ := HR'.out hne
        exact ⟨b, o, e, by simpa using hr.below HB0.out⟩
    case round =>
      obtain ⟨k, d, R, rfl, hk, hd, HB, hR, hR'⟩ := hrel
      obtain ⟨z0, z1, z2, hbw⟩ := HBX.out wr HB.out
      have HBW := Lib.hid hbw
      clear hbw
      cases R with
      | nil =>
        have hge : H.len ≤ k := by have := hk.out; simp only [Hg.len] at this; omega
        clear hk hd hR HR hR' HR'
        go_wp2_with fail
        go_ret
        exact ⟨rfl, HBW.out⟩
      | cons l K R =>
        obtain ⟨b, o, rfl, hr⟩ := hR (by simp)
        obtain ⟨b', o', rfl, hr'⟩ := hR' (by simp)
        rw [Row.cons_iff] at hr hr'
        obtain ⟨c1, hl, ⟨vk, c2, hvk⟩, hr⟩ := hr
        obtain ⟨c1', hl', ⟨vk', c2', hvk'⟩, hr'⟩ := hr'
        have HK := Lib.hid hvk
        have HK' := Lib.hid hvk'
        obtain ⟨pk, ck, rfl, _, _, _⟩ := hvk
        obtain ⟨pk', ck', rfl, _, _, _⟩ := hvk'
        have hlt : k < H.len := by have := hk.out; simp only [Hg.len] at this; omega
        have hds : d + (K.size + R.size + 1) ≤ H.size := by have := hd.out; simp only [Hg.size] at this; omega
        have hlt1 : (k : Int) < (H.len : Int) := by omega
        have hk0 : (0 : Int) ≤ (k : Int) := by omega
        have hbl := World.block_lt_of_cell? _ _ c1
        have hbl' := World.block_lt_of_cell? _ _ c1'
        simp only at hbl hbl'
        have hst : ∀ W, Below wr.heap.size wr W → W.cell? ⟨w.heap.size, 1, none⟩ = some (.slice (some ⟨b, o, none⟩) H.len c) ∧ W.cell? ⟨w.heap.size + 1, 1, none⟩ = some (.slice (some ⟨b', o', none⟩) H.len c') ∧
            W.cell? ⟨b, o + k * 2, none⟩ = some (.int .i64 l) ∧ W.cell? ⟨b, o + k * 2 + 1, none⟩ = some (.slice pk K.len ck) ∧ W.cell? ⟨b', o' + k * 2, none⟩ = some (.int .i64 l) ∧ W.cell? ⟨b', o' + k * 2 + 1, none⟩ = some (.slice pk' K.len ck') := fun W hW =>
          ⟨cell_later hW z0, cell_later hW z1, cell_later hW c1, cell_later hW c2, cell_later hW c1', cell_later hW c2'⟩
        have HST := Lib.hid hst
        have HRR := Lib.hid hr
        have HRR' := Lib.hid hr'
        have HC := Lib.hid (HI.out l K (.slice pk K.len ck) (.slice pk' K.len ck') wr.drew (by omega) (HK.out.below (Below.refl _ _).drew) (HK'.out.below (Below.refl _ _).drew))
        clear hR HR hR' HR' hr hr' hst
        go_wp2_with fail
        go_region_held3 (fun W => W.cell? ⟨w.heap.size, 1, none⟩ = some (.slice (some ⟨b, o, none⟩) H.len c) ∧ W.cell? ⟨w.heap.size + 1, 1, none⟩ = some (.slice (some ⟨b', o', none⟩) H.len c') ∧
            W.cell? ⟨b, o + k * 2, none⟩ = some (.int .i64 l) ∧ W.cell? ⟨b, o + k * 2 + 1, none⟩ = some (.slice pk K.len ck) ∧ W.cell? ⟨b', o' + k * 2, none⟩ = some (.int .i64 l) ∧ W.cell? ⟨b', o' + k * 2 + 1, none⟩ = some (.slice pk' K.len ck'))
          (first | exact HST.out _ (Below.refl _ _).drew | exact HST.out _ HB1.out)
          (first
            | (go_at_call 26; refine HC.out.mono ?_; rintro e w1 ⟨rfl, hb1⟩; have HB1 : Hid (Below wr.heap.size wr w1) := Lib.hid ((Below.refl _ _).drew.trans hb1); clear hb1))
        all_goals
          go_wp2_with fail
          go_roundw
          case rel =>
            refine ⟨k + 1, d + (K.size + 1), R, by go_num, Lib.hid (by have := hk.out; simp only [Hg.len] at this; omega), Lib.hid (by have := hd.out; simp only [Hg.size] at this; omega), Lib.hid (HB.out.trans (HB1.out.mono (by omega))), fun _ => ⟨b, o, rfl, ?_⟩, fun _ => ⟨b', o', rfl, ?_⟩⟩
            · rw [show o + (k + 1) * 2 = o + k * 2 + 2 from by omega]; exact HRR.out.below HB1.out
            · rw [show o' + (k + 1) * 2 = o' + k * 2 + 2 from by omega]; exact HRR'.out.below HB1.out
          case measure => simp [intOf]; omega

theorem same01_ok (t : Int × Hg) (v v' : Value) (w : World) (hv : IsT w v t) (hv' : IsT w v' t) :
    Calls Try.prog 26 #[v, v'] w fun e w' => e = .returned (.bool true) ∧ Below w.heap.size w w' := by
  obtain ⟨vk, rfl, _, h1⟩ := hv
  obtain ⟨vk', rfl, _, h2⟩ := hv'
  exact same01_any _ t.1 t.2 vk vk' w (Nat.lt_succ_self _) h1 h2

end Go.Proofs.Ythdaeblfehclcab
