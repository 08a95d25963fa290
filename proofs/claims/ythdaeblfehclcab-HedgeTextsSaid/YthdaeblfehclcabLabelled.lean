/- ref02.labelled, ValidHedge, Valid. -/
import Derived.Test.YthdaeblfehclcabValid
import Derived.Test.YthdaeblfehclcabCount
import Derived.Test.YthdaeblfehclcabAwake
namespace Go.Proofs.Ythdaeblfehclcab
open Go.RowKit Go.Shelf

theorem flat_all_cons (n l : Int) (k r : Hg) : (Hg.cons l k r).flat.all (lok n) = (lok n (l, k) && (k.flat.all (lok n) && r.flat.all (lok n))) := by
  simp [Hg.flat]

set_option maxRecDepth 100000 in
set_option maxHeartbeats 1000000 in
theorem labelled_any (n : Int) (N : Nat) : ∀ (H : Hg) (v : Value) (w : World), H.size < N → IsH w v H →
    Calls Try.prog 42 #[.int .i64 n, v] w fun e w' => e = .returned (.bool (H.flat.all (lok n))) ∧ Below w.heap.size w w' := by
  induction N with
  | zero => intro H v w hN; omega
  | succ N ih =>
    intro H v w hN hv
    obtain ⟨p, c, rfl, hc1, hc2, hrow⟩ := hv
    unfold maxLen at hc2
    have HI := Lib.hid ih
    have HR := Lib.hid hrow
    clear ih hrow
    go_enter Try.func42, Try.ntmps42
    go_wp2
    go_loopw [9] (fun i wr => ∃ (k d : Nat) (R : Hg), i = .int .i64 k ∧ Hid (k + R.len = H.len) ∧ Hid (d + R.size = H.size) ∧ Hid (H.flat.all (lok n) = R.flat.all (lok n)) ∧ Below w.heap.size w wr ∧ (R ≠ .nil → ∃ b o, p = some ⟨b, o, none⟩ ∧ Row wr R b (o + k * 2)))
      (fun i _ => H.len - (intOf i).toNat)
    case atStart =>
      exact ⟨0, 0, H, rfl, Lib.hid (by simp), Lib.hid (by simp), Lib.hid rfl, Below.refl _ _, by simpa using HR.out⟩
    case round =>
      obtain ⟨k, d, R, rfl, hk, hd, ha, hb, hR⟩ := hrel
      cases R with
      | nil =>
        have hge : H.len ≤ k := by have := hk.out; simp only [Hg.len] at this; omega
        clear hk hd hR HR
        go_wp2
        go_ret
        exact ⟨ret_bool (by rw [ha.out]; rfl), hb⟩
      | cons l K R =>
        obtain ⟨b, o, rfl, hr⟩ := hR (by simp)
        rw [Row.cons_iff] at hr
        obtain ⟨c1, hl, ⟨vk, c2, hvk⟩, hr⟩ := hr
        have hvk' := hvk
        obtain ⟨p', c', rfl, hc1', hc2', _⟩ := hvk'
        have hlt : k < H.len := by have := hk.out; simp only [Hg.len] at this; omega
        have hds : d + (K.size + R.size + 1) ≤ H.size := by have := hd.out; simp only [Hg.size] at this; omega
        have hbl := World.block_lt_of_cell? _ _ c1
        simp only at hbl
        have hba := (Below.refl wr.heap.size wr).alloc (Nat.le_refl _) (.cells #[.int .i64 l, .slice p' K.len c'] 24)
        have HW := Lib.hid (And.intro (hb.alloc hb.size (.cells #[.int .i64 l, .slice p' K.len c'] 24)) (And.intro (hr.below hba) (hvk.below hba)))
        have HB := Lib.hid hb
        have hsz := hb.size
        have HA : Hid (H.flat.all (lok n) = (lok n (l, K) && (K.flat.all (lok n) && R.flat.all (lok n)))) := Lib.hid (by rw [ha.out, flat_all_cons])
        clear hR HR hr hvk hba hb ha
        by_cases h1 : 0 ≤ l
        · by_cases h2 : l < n
          · have hlok : Hid (lok n (l, K) = true) := Lib.hid (by simp [lok, h1, h2])
            have HC := Lib.hid (HI.out K _ _ (by omega) HW.out.2.2)
            cases hK : K.flat.all (lok n) with
            | true =>
              have HK := Lib.hid hK
              rw [hK] at HC
              clear hK
              go_wp2_with fail
              refine HC.out.mono ?_
              rintro e w1 ⟨rfl, hb1⟩
              have HB1 := Lib.hid hb1
              clear hb1
              go_wp2_with fail
              go_roundw
              case rel =>
                refine ⟨k + 1, d + (K.size + 1), R, by go_num, Lib.hid (by have := hk.out; simp only [Hg.len] at this; omega), Lib.hid (by have := hd.out; simp only [Hg.size] at this; omega), Lib.hid (by rw [HA.out, hlok.out, HK.out]; simp), HW.out.1.trans (HB1.out.mono (by simp; omega)), fun _ => ⟨b, o, rfl, ?_⟩⟩
                rw [show o + (k + 1) * 2 = o + k * 2 + 2 from by omega]; exact HW.out.2.1.below HB1.out
              case measure => simp [intOf]; omega
            | false =>
              have HK := Lib.hid hK
              rw [hK] at HC
              clear hK
              go_wp2_with fail
              refine HC.out.mono ?_
              rintro e w1 ⟨rfl, hb1⟩
              have HB1 := Lib.hid hb1
              clear hb1
              go_wp2_with fail
              go_ret
              exact ⟨ret_bool (by rw [HA.out, HK.out]; simp), HW.out.1.trans (HB1.out.mono (by simp; omega))⟩
          · have h2' : n ≤ l := by omega
            have hlok : Hid (lok n (l, K) = false) := Lib.hid (by simp [lok]; omega)
            clear h2
            go_wp2_with fail
            go_ret
            exact ⟨ret_bool (by rw [HA.out, hlok.out]; simp), HW.out.1⟩
        · have h1' : l < 0 := by omega
          have hlok : Hid (lok n (l, K) = false) := Lib.hid (by simp [lok]; omega)
          clear h1
          go_wp2_with fail
          go_ret
          exact ⟨ret_bool (by rw [HA.out, hlok.out]; simp), HW.out.1⟩

set_option maxHeartbeats 1000000 in
theorem rvalidHedge_ok (n : Int) (H : Hg) (v : Value) (w : World) (hv : IsH w v H) :
    Calls Try.prog 16 #[.int .i64 n, v] w fun e w' => e = .returned (.bool (vh n H)) ∧ Below w.heap.size w w' := by
  have HF := Lib.hid (few_ok H v 300 w hv (by omega) (by omega))
  have HL := Lib.hid (fun w' (hb : Below w.heap.size w w') => labelled_any n (H.size + 1) H v w' (by omega) (hv.below hb))
  obtain ⟨p, c, rfl, hc1, hc2, hrow⟩ := hv
  clear hrow
  by_cases h1 : 1 ≤ n
  · by_cases h2 : n ≤ 8
    · by_cases h3 : H.size ≤ 300
      · have hd : decide ((H.size : Int) ≤ 300) = true := decide_eq_true (by omega)
        rw [hd] at HF
        clear hd
        go_enter Try.func16, Try.ntmps16
        go_wp2_with fail
        refine HF.out.mono ?_
        rintro e w1 ⟨rfl, hb1⟩
        have HB1 := Lib.hid hb1
        have HL1 := Lib.hid (HL.out w1 hb1)
        clear hb1
        go_wp2_with fail
        refine HL1.out.mono ?_
        rintro e w2 ⟨rfl, hb2⟩
        have HB2 := Lib.hid hb2
        clear hb2
        go_wp2_with fail
        go_ret
        exact ⟨ret_bool (by simp [vh, vlab, h1, h2, h3]), HB1.out.trans (HB2.out.mono HB1.out.size)⟩
      · have hd : decide ((H.size : Int) ≤ 300) = false := decide_eq_false (by omega)
        rw [hd] at HF
        have h3' : Hid (decide (H.size ≤ 300) = false) := Lib.hid (by simp; omega)
        clear hd h3
        go_enter Try.func16, Try.ntmps16
        go_wp2_with fail
        refine HF.out.mono ?_
        rintro e w1 ⟨rfl, hb1⟩
        have HB1 := Lib.hid hb1
        clear hb1
        go_wp2_with fail
        go_ret
        exact ⟨ret_bool (by simp [vh, h3'.out]), HB1.out⟩
    · have h2' : 8 < n := by omega
      have hv2 : Hid (vlab n = false) := Lib.hid (by simp [vlab]; omega)
      clear h2
      go_enter Try.func16, Try.ntmps16
      go_wp2_with fail
      go_ret
      exact ⟨ret_bool (by simp [vh, hv2.out]), Below.refl _ _⟩
  · have h1' : n < 1 := by omega
    have hv2 : Hid (vlab n = false) := Lib.hid (by simp [vlab]; omega)
    clear h1
    go_enter Try.func16, Try.ntmps16
    go_wp2_with fail
    go_ret
    exact ⟨ret_bool (by simp [vh, hv2.out]), Below.refl _ _⟩

set_option maxHeartbeats 400000 in
theorem rvalid_ok (n l : Int) (vk : Value) (K : Hg) (w : World) (hl : (Lit.int .i64 l).wf = true) (hv : IsH w vk K) :
    Calls Try.prog 14 #[.int .i64 n, .agg #[.int .i64 l, vk]] w fun e w' => e = .returned (.bool (vh n (.cons l K .nil))) ∧ Below w.heap.size w w' := by
  have hb1 := (Below.refl w.heap.size w).alloc (Nat.le_refl _) (.cells #[.int .i64 l, vk] 24)
  have hb2 := hb1.alloc (by simp) (.cells #[.int .i64 l, vk] 24)
  have hblk : Blk ((w.alloc (.cells #[.int .i64 l, vk] 24)).alloc (.cells #[.int .i64 l, vk] 24)) (w.heap.size + 1) 24 #[.int .i64 l, vk] := by
    have := Blk.new (w.alloc (.cells #[.int .i64 l, vk] 24)) 24 #[.int .i64 l, vk]
    rwa [World.size_alloc] at this
  have HV := Lib.hid (rvalidHedge_ok n (.cons l K .nil) _ _ (isH_one hblk hl (hv.below hb2)))
  obtain ⟨p, c, rfl, hc1, hc2, hrow⟩ := hv
  have Hb2 := Lib.hid hb2
  clear hrow hblk hb1 hb2
  go_enter Try.func14, Try.ntmps14
  go_wp2_with fail
  refine HV.out.mono ?_
  rintro e w1 ⟨rfl, hb⟩
  go_wp2_with fail
  go_ret
  exact ⟨rfl, Hb2.out.trans (hb.mono (by simp; omega))⟩

end Go.Proofs.Ythdaeblfehclcab
