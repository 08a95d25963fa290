/- hedge.Encode. -/
import Derived.Test.YthdaeblfehclcabValid
import Derived.Test.YthdaeblfehclcabHgS
import Derived.Deep.RegionWith
namespace Go.Proofs.Ythdaeblfehclcab
open Go.RowKit Go.Shelf

/-- The encoding of a hedge: the root's symbol and its subtrees. -/
def Hg.enc (n : Int) : Hg → Int × Hg
  | .nil => (n, .nil)
  | .cons l k r => (l, .cons (k.enc n).1 (k.enc n).2 (.cons (r.enc n).1 (r.enc n).2 .nil))

theorem Try.infoTree : (Try.prog.info? 41).map (·.size) = some 2 := by kernel_rfl

set_option maxRecDepth 100000 in
set_option maxHeartbeats 1000000 in
theorem encode_any (n : Int) (hn : (Lit.int .i64 n).wf = true) (N : Nat) : ∀ (H : Hg) (v : Value) (w : World), H.size < N → IsH w v H →
    Calls Try.prog 45 #[.int .i64 n, v] w fun e w' => ∃ r, e = .returned r ∧ IsTS (fun c => w.heap.size ≤ c) w' r (H.enc n) ∧ Below w.heap.size w w' := by
  induction N with
  | zero => intro H v w hN; omega
  | succ N ih =>
    intro H v w hN hv
    have HI := Lib.hid ih
    clear ih
    obtain ⟨p, c, rfl, hc1, hc2, hrow⟩ := hv
    unfold maxLen at hc2
    cases H with
    | nil =>
      simp only [Hg.len, Hg.size] at *
      clear hrow
      go_enter Try.func45, Try.ntmps45
      go_wp2
      refine bodyPost_ret (v := .agg #[.int .i64 n, .slice none 0 0]) (results_cell_row rfl _ _ w.heap.size 41 #[.int .i64 n, .slice none 0 0] (0, 0) _ rfl (Blk.new w _ _) Try.underlying41 rfl Try.infoTree) rfl ⟨_, rfl, ⟨_, rfl, hn, none, 0, rfl, by simp [Hg.enc, Hg.len], by simp [maxLen], fun h => absurd rfl h⟩, (Below.refl _ w).alloc (Nat.le_refl _) _⟩
    | cons l k r =>
      obtain ⟨b, o, rfl, hr⟩ := hrow (by simp)
      rw [Row.cons_iff] at hr
      obtain ⟨c1, hl, ⟨vk, c2, hvk⟩, hr⟩ := hr
      have hvk' := hvk
      obtain ⟨p', c', rfl, hc1', hc2', _⟩ := hvk'
      have hbl := World.block_lt_of_cell? _ _ c1
      simp only at hbl
      simp only [Hg.len, Hg.size] at *
      have hnz : ((r.len : Int) + 1 == 0) = false := by simp; omega
      have hrest : IsH w (.slice (if c = 1 then some ⟨b, o, none⟩ else some ⟨b, o + 2, none⟩) r.len (c - 1)) r := by
        refine ⟨_, _, rfl, by omega, by unfold maxLen; omega, fun hne => ?_⟩
        have : r.len ≠ 0 := by
          intro h0
          cases r with
          | nil => exact hne rfl
          | cons => simp [Hg.len] at h0
        rw [if_neg (by omega)]
        exact ⟨_, _, rfl, hr⟩
      have hR := Lib.hid hrest
      have hK := Lib.hid hvk
      have hw4 := Lib.hid ((Below.refl w.heap.size w).alloc (Nat.le_refl _) (.cells #[.int .i64 0, .slice none 0 0] 41))
      clear hrow hr hvk hrest
      rcases Nat.lt_or_ge 1 c with h1 | h1
      · have hc1 : ¬ c = 1 := by omega
        rw [if_neg hc1] at hR
        clear hc1
        go_enter Try.func45, Try.ntmps45
        go_wp2_with fail
        go_region_with (first
          | (go_at_call_of 45 (Value.slice p' k.len c'); refine (HI.out k _ _ (by omega) ?_).mono ?_; exact hK.out.below hw4.out.drew; rintro e w1 ⟨r1, rfl, ht1, hb1⟩; obtain ⟨vr1, rfl, hwf1, hq1⟩ := ht1; have hh1 := Lib.hid hq1; obtain ⟨pr1, cr1, rfl, _⟩ := hq1; have HWF1 := Lib.hid hwf1; clear hwf1)
          | (go_at_call 45; refine (HI.out r _ _ (by omega) ?_).mono ?_; exact hR.out.below (hw4.out.drew.trans (hb1.mono (by simp))); rintro e w2 ⟨r2, rfl, ht2, hb2⟩; obtain ⟨vr2, rfl, hwf2, hq2⟩ := ht2; have hh2 := Lib.hid hq2; obtain ⟨pr2, cr2, rfl, _⟩ := hq2; have HWF2 := Lib.hid hwf2; clear hwf2))
        all_goals
          have hb2' : Below w.heap.size w w2 := (hw4.out.drew.trans (hb1.mono (by simp))).trans (hb2.mono (by have := hb1.size; simp at this; omega))
          have hbox : Blk w2 w.heap.size 41 #[.int .i64 0, .slice none 0 0] :=
            (hb2.block _ (by have := hb1.size; simp at this; omega)).trans ((hb1.block _ (by simp)).trans (World.alloc_heap_new w _))
          have z1 := (hb2'.cell (p := ⟨b, o, none⟩) hbl).trans c1
          have z2 : w2.cell? ⟨w.heap.size, 0, none⟩ = some (.int .i64 0) := by rw [hbox.cell]; rfl
          have z3 : w2.cell? ⟨w.heap.size, 1, none⟩ = some (.slice none 0 0) := by rw [hbox.cell]; rfl
          have z4 := hbox.frozen 0
          have z5 := hbox.frozen 1
          have z6 : b < w2.heap.size := by have := hb2'.size; omega
          have z7 : w.heap.size < w2.heap.size := hbox.lt
          have z8 : w.heap.size + 1 ≤ w1.heap.size := by have := hb1.size; simpa using this
          have HBX := Lib.hid hbox
          have HB1 := Lib.hid hb1
          have HB2 := Lib.hid hb2
          have HB2' := Lib.hid hb2'
          clear hbox hb1 hb2 hb2'
          go_wp2
          have hfin : Blk ((w2.setCell ⟨w.heap.size, 0, none⟩ (.int .i64 l)).setCell ⟨w.heap.size, 1, none⟩ (.slice (some ⟨w2.heap.size, 0, none⟩) 2 2)) w.heap.size 41 #[.int .i64 l, .slice (some ⟨w2.heap.size, 0, none⟩) 2 2] := (HBX.out.set_ 0 _).set_ 1 _
          have hkA : ∀ o : Obj, Kp (fun c => w.heap.size + 1 ≤ c) w2 (((w2.setCell ⟨w.heap.size, 0, none⟩ (.int .i64 l)).setCell ⟨w.heap.size, 1, none⟩ (.slice (some ⟨w2.heap.size, 0, none⟩) 2 2)).alloc o) := fun o =>
            (((Kp.refl _ w2).setCell (fun h => by simp at h; omega) _).setCell (fun h => by simp at h; omega) _).alloc o
          have hk1 : IsHS (fun c => w.heap.size + 1 ≤ c) w2 (.slice pr1 (k.enc n).2.len cr1) (k.enc n).2 :=
            (hh1.out.mono (fun c _ hc => by simpa using hc)).kp (Kp.of_below HB2.out (fun c hc _ => hc))
          have hk2 : IsHS (fun c => w.heap.size + 1 ≤ c) w2 (.slice pr2 (r.enc n).2.len cr2) (r.enc n).2 := hh2.out.mono (fun c _ hc => by omega)
          refine bodyPost_ret (v := .agg #[.int .i64 l, .slice (some ⟨w2.heap.size, 0, none⟩) 2 2]) (results_cell_row rfl _ _ w.heap.size 41 _ (0, 0) _ rfl (hfin.alloc _) Try.underlying41 rfl Try.infoTree) rfl ⟨_, rfl, ⟨_, rfl, hl, _, _, rfl, by simp [Hg.enc, Hg.len], by simp [maxLen], fun _ => ⟨_, _, rfl, ?_⟩⟩, ?_⟩
          · have hnew : ∀ o : Obj, (((w2.setCell ⟨w.heap.size, 0, none⟩ (.int .i64 l)).setCell ⟨w.heap.size, 1, none⟩ (.slice (some ⟨w2.heap.size, 0, none⟩) 2 2)).alloc o).heap[w2.heap.size]? = some o := fun o => by
              have := World.alloc_heap_new ((w2.setCell ⟨w.heap.size, 0, none⟩ (.int .i64 l)).setCell ⟨w.heap.size, 1, none⟩ (.slice (some ⟨w2.heap.size, 0, none⟩) 2 2)) o
              simpa [World.setCell] using this
            have hN2 : Blk _ w2.heap.size 41 #[.int .i64 (k.enc n).1, .slice pr1 (k.enc n).2.len cr1, .int .i64 (r.enc n).1, .slice pr2 (r.enc n).2.len cr2] := hnew _
            simp only [Hg.enc]
            rw [RowS.cons_iff]
            refine ⟨by omega, by rw [hN2.cell]; rfl, HWF1.out, ⟨_, by rw [hN2.cell]; rfl, (hk1.kp (hkA _)).mono (fun c _ hc => by omega)⟩, ?_⟩
            rw [RowS.cons_iff]
            exact ⟨by omega, by rw [hN2.cell]; rfl, HWF2.out, ⟨_, by rw [hN2.cell]; rfl, (hk2.kp (hkA _)).mono (fun c _ hc => by omega)⟩, trivial⟩
          · exact ((HB2'.out.setCell (p := ⟨w.heap.size, 0, none⟩) (Nat.le_refl _) _).setCell (p := ⟨w.heap.size, 1, none⟩) (Nat.le_refl _) _).alloc (by simp [World.setCell]; omega) _
      · have hc1 : c = 1 := by omega
        subst hc1
        rw [if_pos rfl] at hR
        have hr0 : r.len = 0 := by omega
        have hR : Hid (IsH w (.slice (some ⟨b, o, none⟩) 0 0) r) := by rw [hr0] at hR; exact hR
        clear hr0
        go_enter Try.func45, Try.ntmps45
        go_wp2_with fail
        go_region_with (first
          | (go_at_call_of 45 (Value.slice p' k.len c'); refine (HI.out k _ _ (by omega) ?_).mono ?_; exact hK.out.below hw4.out.drew; rintro e w1 ⟨r1, rfl, ht1, hb1⟩; obtain ⟨vr1, rfl, hwf1, hq1⟩ := ht1; have hh1 := Lib.hid hq1; obtain ⟨pr1, cr1, rfl, _⟩ := hq1; have HWF1 := Lib.hid hwf1; clear hwf1)
          | (go_at_call 45; refine (HI.out r _ _ (by omega) ?_).mono ?_; exact hR.out.below (hw4.out.drew.trans (hb1.mono (by simp))); rintro e w2 ⟨r2, rfl, ht2, hb2⟩; obtain ⟨vr2, rfl, hwf2, hq2⟩ := ht2; have hh2 := Lib.hid hq2; obtain ⟨pr2, cr2, rfl, _⟩ := hq2; have HWF2 := Lib.hid hwf2; clear hwf2))
        all_goals
          have hb2' : Below w.heap.size w w2 := (hw4.out.drew.trans (hb1.mono (by simp))).trans (hb2.mono (by have := hb1.size; simp at this; omega))
          have hbox : Blk w2 w.heap.size 41 #[.int .i64 0, .slice none 0 0] :=
            (hb2.block _ (by have := hb1.size; simp at this; omega)).trans ((hb1.block _ (by simp)).trans (World.alloc_heap_new w _))
          have z1 := (hb2'.cell (p := ⟨b, o, none⟩) hbl).trans c1
          have z2 : w2.cell? ⟨w.heap.size, 0, none⟩ = some (.int .i64 0) := by rw [hbox.cell]; rfl
          have z3 : w2.cell? ⟨w.heap.size, 1, none⟩ = some (.slice none 0 0) := by rw [hbox.cell]; rfl
          have z4 := hbox.frozen 0
          have z5 := hbox.frozen 1
          have z6 : b < w2.heap.size := by have := hb2'.size; omega
          have z7 : w.heap.size < w2.heap.size := hbox.lt
          have z8 : w.heap.size + 1 ≤ w1.heap.size := by have := hb1.size; simpa using this
          have HBX := Lib.hid hbox
          have HB1 := Lib.hid hb1
          have HB2 := Lib.hid hb2
          have HB2' := Lib.hid hb2'
          clear hbox hb1 hb2 hb2'
          go_wp2
          have hfin : Blk ((w2.setCell ⟨w.heap.size, 0, none⟩ (.int .i64 l)).setCell ⟨w.heap.size, 1, none⟩ (.slice (some ⟨w2.heap.size, 0, none⟩) 2 2)) w.heap.size 41 #[.int .i64 l, .slice (some ⟨w2.heap.size, 0, none⟩) 2 2] := (HBX.out.set_ 0 _).set_ 1 _
          have hkA : ∀ o : Obj, Kp (fun c => w.heap.size + 1 ≤ c) w2 (((w2.setCell ⟨w.heap.size, 0, none⟩ (.int .i64 l)).setCell ⟨w.heap.size, 1, none⟩ (.slice (some ⟨w2.heap.size, 0, none⟩) 2 2)).alloc o) := fun o =>
            (((Kp.refl _ w2).setCell (fun h => by simp at h; omega) _).setCell (fun h => by simp at h; omega) _).alloc o
          have hk1 : IsHS (fun c => w.heap.size + 1 ≤ c) w2 (.slice pr1 (k.enc n).2.len cr1) (k.enc n).2 :=
            (hh1.out.mono (fun c _ hc => by simpa using hc)).kp (Kp.of_below HB2.out (fun c hc _ => hc))
          have hk2 : IsHS (fun c => w.heap.size + 1 ≤ c) w2 (.slice pr2 (r.enc n).2.len cr2) (r.enc n).2 := hh2.out.mono (fun c _ hc => by omega)
          refine bodyPost_ret (v := .agg #[.int .i64 l, .slice (some ⟨w2.heap.size, 0, none⟩) 2 2]) (results_cell_row rfl _ _ w.heap.size 41 _ (0, 0) _ rfl (hfin.alloc _) Try.underlying41 rfl Try.infoTree) rfl ⟨_, rfl, ⟨_, rfl, hl, _, _, rfl, by simp [Hg.enc, Hg.len], by simp [maxLen], fun _ => ⟨_, _, rfl, ?_⟩⟩, ?_⟩
          · have hnew : ∀ o : Obj, (((w2.setCell ⟨w.heap.size, 0, none⟩ (.int .i64 l)).setCell ⟨w.heap.size, 1, none⟩ (.slice (some ⟨w2.heap.size, 0, none⟩) 2 2)).alloc o).heap[w2.heap.size]? = some o := fun o => by
              have := World.alloc_heap_new ((w2.setCell ⟨w.heap.size, 0, none⟩ (.int .i64 l)).setCell ⟨w.heap.size, 1, none⟩ (.slice (some ⟨w2.heap.size, 0, none⟩) 2 2)) o
              simpa [World.setCell] using this
            have hN2 : Blk _ w2.heap.size 41 #[.int .i64 (k.enc n).1, .slice pr1 (k.enc n).2.len cr1, .int .i64 (r.enc n).1, .slice pr2 (r.enc n).2.len cr2] := hnew _
            simp only [Hg.enc]
            rw [RowS.cons_iff]
            refine ⟨by omega, by rw [hN2.cell]; rfl, HWF1.out, ⟨_, by rw [hN2.cell]; rfl, (hk1.kp (hkA _)).mono (fun c _ hc => by omega)⟩, ?_⟩
            rw [RowS.cons_iff]
            exact ⟨by omega, by rw [hN2.cell]; rfl, HWF2.out, ⟨_, by rw [hN2.cell]; rfl, (hk2.kp (hkA _)).mono (fun c _ hc => by omega)⟩, trivial⟩
          · exact ((HB2'.out.setCell (p := ⟨w.heap.size, 0, none⟩) (Nat.le_refl _) _).setCell (p := ⟨w.heap.size, 1, none⟩) (Nat.le_refl _) _).alloc (by simp [World.setCell]; omega) _

end Go.Proofs.Ythdaeblfehclcab
