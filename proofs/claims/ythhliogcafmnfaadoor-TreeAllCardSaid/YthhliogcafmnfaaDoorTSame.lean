/- ref01.Same. -/
import Derived.Test.YthhliogcafmnfaaDoorTRCmp
namespace Go.Proofs.YthhliogcafmnfaaDoor
open Go.RowKit Go.Shelf

def sameH : Hg → Hg → Bool
  | .nil, .nil => true
  | .cons l k r, .cons l' k' r' => ((l == l') && ((k.len == k'.len) && sameH k k')) && sameH r r'
  | _, _ => false
def sameT (s : Int) (K : Hg) (s' : Int) (K' : Hg) : Bool := (s == s') && ((K.len == K'.len) && sameH K K')
theorem sameH_iff : ∀ (K K' : Hg), sameH K K' = true ↔ K = K' := by
  intro K
  induction K with
  | nil => intro K'; cases K' <;> simp [sameH]
  | cons l k r hk hr =>
    intro K'
    cases K' with
    | nil => simp [sameH]
    | cons l' k' r' =>
      simp only [sameH, Bool.and_eq_true, beq_iff_eq, hk k', hr r', Hg.cons.injEq]
      constructor
      · rintro ⟨⟨h1, _, h2⟩, h3⟩; exact ⟨h1, h2, h3⟩
      · rintro ⟨h1, h2, h3⟩; subst h2; exact ⟨⟨h1, rfl, rfl⟩, h3⟩
theorem sameT_iff (s s' : Int) (K K' : Hg) : sameT s K s' K' = true ↔ s = s' ∧ K = K' := by
  simp only [sameT, Bool.and_eq_true, beq_iff_eq, sameH_iff]
  constructor
  · rintro ⟨h1, _, h2⟩; exact ⟨h1, h2⟩
  · rintro ⟨h1, h2⟩; subst h2; exact ⟨h1, rfl, rfl⟩
theorem sameT_refl (s : Int) (K : Hg) : sameT s K s K = true := (sameT_iff s s K K).2 ⟨rfl, rfl⟩

theorem cmpH_zero : ∀ (K K' : Hg), cmpH K K' = 0 ↔ K = K' := by
  intro K
  induction K with
  | nil => intro K'; cases K' <;> simp [cmpH]
  | cons l k r hk hr =>
    intro K'
    cases K' with
    | nil => simp [cmpH]
    | cons l' k' r' =>
      simp only [cmpH, Hg.cons.injEq]
      constructor
      · intro h
        by_cases h1 : cmpI (k.size : Int) (k'.size : Int) = 0
        · rw [h1, orI_zero] at h
          by_cases h2 : cmpI l l' = 0
          · rw [h2, orI_zero] at h
            by_cases h3 : cmpH k k' = 0
            · rw [h3, orI_zero] at h
              refine ⟨?_, (hk k').1 h3, (hr r').1 h⟩
              rcases Classical.em (l = l') with e | e
              · exact e
              · exact absurd h2 (cmpI_ne e)
            · rw [orI_ne h3] at h; exact absurd h h3
          · rw [orI_ne h2, orI_ne h2] at h; exact absurd h h2
        · rw [orI_ne h1, orI_ne h1] at h; exact absurd h h1
      · rintro ⟨rfl, rfl, rfl⟩
        rw [cmpI_self, cmpI_self, orI_zero, orI_zero, (hk k).2 rfl, orI_zero]
        exact (hr r).2 rfl
theorem cmpT_zero (s s' : Int) (K K' : Hg) : cmpT s K s' K' = 0 ↔ s = s' ∧ K = K' := by
  unfold cmpT
  constructor
  · intro h
    by_cases h1 : cmpI (K.size : Int) (K'.size : Int) = 0
    · rw [h1, orI_zero] at h
      by_cases h2 : cmpI s s' = 0
      · rw [h2, orI_zero] at h
        refine ⟨?_, (cmpH_zero K K').1 h⟩
        rcases Classical.em (s = s') with e | e
        · exact e
        · exact absurd h2 (cmpI_ne e)
      · rw [orI_ne h2] at h; exact absurd h h2
    · rw [orI_ne h1] at h; exact absurd h h1
  · rintro ⟨rfl, rfl⟩
    rw [cmpI_self, cmpI_self, orI_zero, orI_zero]
    exact (cmpH_zero K K).2 rfl

set_option maxRecDepth 100000 in
set_option maxHeartbeats 1000000 in
theorem same_any (N : Nat) : ∀ (s s' : Int) (H H' : Hg) (v v' : Value) (w : World), H.size < N → IsH w v H → IsH w v' H' →
    Calls Tryd.prog 22 #[.agg #[.int .i64 s, v], .agg #[.int .i64 s', v']] w fun e w' => e = .returned (.bool (sameT s H s' H')) ∧ Below w.heap.size w w' := by
  induction N with
  | zero => intro s s' H H' v v' w hN; omega
  | succ N ih =>
    intro s s' H H' v v' w hN hv hv'
    obtain ⟨p, c, rfl, hc1, hc2, hrow⟩ := hv
    obtain ⟨p', c', rfl, hc1', hc2', hrow'⟩ := hv'
    unfold maxLen at hc2 hc2'
    have hb0 : Below w.heap.size w ((w.alloc (.cells #[.int .i64 s, .slice p H.len c] 27)).alloc (.cells #[.int .i64 s', .slice p' H'.len c'] 27)) := ((Below.refl _ w).alloc (Nat.le_refl _) _).alloc (by simp) _
    have HB0 := Lib.hid hb0
    clear hb0
    by_cases hs : s = s'
    rotate_left
    · have h1 : (s == s') = false := by simpa using hs
      have h2 : (s != s') = true := by simpa using hs
      have hres : Hid (sameT s H s' H' = false) := Lib.hid (by simp [sameT, hs])
      clear hs hrow hrow' ih
      go_enter Tryd.func22, Tryd.ntmps22
      go_wp2_with fail
      go_ret
      exact ⟨by rw [hres.out] <;> rfl, HB0.out⟩
    subst hs
    by_cases hl : H.len = H'.len
    rotate_left
    · have h1 : ((H.len : Int) == (H'.len : Int)) = false := by simp; omega
      have h2 : ((H.len : Int) != (H'.len : Int)) = true := by simp; omega
      have hres : Hid (sameT s H s H' = false) := Lib.hid (by simp [sameT, hl])
      clear hl hrow hrow' ih
      go_enter Tryd.func22, Tryd.ntmps22
      go_wp2_with fail
      go_ret
      exact ⟨by rw [hres.out] <;> rfl, HB0.out⟩
    rw [← hl] at hc1' HB0 ⊢
    have hbx : ∀ W, Below (w.heap.size + 1 + 1) ((w.alloc (.cells #[.int .i64 s, .slice p H.len c] 27)).alloc (.cells #[.int .i64 s, .slice p' H.len c'] 27)) W →
        W.cell? ⟨w.heap.size, 1, none⟩ = some (.slice p H.len c) ∧ W.cell? ⟨w.heap.size + 1, 1, none⟩ = some (.slice p' H.len c') ∧ w.heap.size + 1 < W.heap.size ∧ Below w.heap.size w W := fun W hW => by
      have h1 : Blk W w.heap.size 27 #[.int .i64 s, .slice p H.len c] := ((Blk.new w _ _).alloc _).below hW (by omega)
      have h2 : Blk W (w.heap.size + 1) 27 #[.int .i64 s, .slice p' H.len c'] := by
        have := Blk.new (w.alloc (.cells #[.int .i64 s, .slice p H.len c] 27)) 27 #[.int .i64 s, .slice p' H.len c']
        rw [World.size_alloc] at this
        exact this.below hW (by omega)
      exact ⟨by rw [h1.cell]; rfl, by rw [h2.cell]; rfl, h2.lt, HB0.out.trans (hW.mono (by omega))⟩
    have HI := Lib.hid ih
    have HR := Lib.hid hrow
    have HR' := Lib.hid hrow'
    have HBX := Lib.hid hbx
    have HLL := Lib.hid hl
    clear ih hrow hrow' hbx hl
    go_enter Tryd.func22, Tryd.ntmps22
    go_wp2_with fail
    go_loopw [23] (fun i wr => ∃ (k d : Nat) (R R' : Hg), i = .int .i64 k ∧ Hid (k + R.len = H.len) ∧ Hid (k + R'.len = H.len) ∧ Hid (d + R.size = H.size) ∧ Hid (sameT s H s H' = sameH R R') ∧ Hid (Below (w.heap.size + 1 + 1) ((w.alloc (.cells #[.int .i64 s, .slice p H.len c] 27)).alloc (.cells #[.int .i64 s, .slice p' H.len c'] 27)) wr) ∧ (R ≠ .nil → ∃ b o, p = some ⟨b, o, none⟩ ∧ Row wr R b (o + k * 2)) ∧ (R' ≠ .nil → ∃ b o, p' = some ⟨b, o, none⟩ ∧ Row wr R' b (o + k * 2)))
      (fun i _ => H.len - (intOf i).toNat)
    case atStart =>
      refine ⟨0, 0, H, H', rfl, Lib.hid (by simp), Lib.hid (by rw [HLL.out]; simp), Lib.hid (by simp), Lib.hid (by simp [sameT, HLL.out]), Lib.hid (Below.refl _ _), fun hne => ?_, fun hne => ?_⟩
      · obtain ⟨b, o, e, hr⟩ := HR.out hne
        exact ⟨b, o, e, by simpa using hr.below HB0.out⟩
      · obtain ⟨b, o, e, hr⟩ := HR'.out hne
        exact ⟨b, o, e, by simpa using hr.below HB0.out⟩
    case round =>
      obtain ⟨k, d, R, R', rfl, hk, hk', hd, hq, HB, hR, hR'⟩ := hrel
      obtain ⟨z0, z1, z2, hbw⟩ := HBX.out wr HB.out
      have HBW := Lib.hid hbw
      clear hbw
      cases R with
      | nil =>
        have hge : H.len ≤ k := by have := hk.out; simp only [Hg.len] at this; omega
        have hres : Hid (sameT s H s H' = true) := Lib.hid (by
          rw [hq.out]
          cases R' with
          | nil => rfl
          | cons _ _ _ => have := hk'.out; simp only [Hg.len] at this; omega)
        clear hk hk' hd hR HR hR' HR' hq
        go_wp2_with fail
        go_ret
        exact ⟨by rw [hres.out] <;> rfl, HBW.out⟩
      | cons l K R =>
        cases R' with
        | nil => exfalso; have h1 := hk.out; have h2 := hk'.out; simp only [Hg.len] at h1 h2; omega
        | cons l' K' R' =>
        obtain ⟨b, o, rfl, hr⟩ := hR (by simp)
        obtain ⟨b', o', rfl, hr'⟩ := hR' (by simp)
        rw [Row.cons_iff] at hr hr'
        obtain ⟨c1, hl, ⟨vk, c2, hvk⟩, hr⟩ := hr
        obtain ⟨c1', hl', ⟨vk', c2', hvk'⟩, hr'⟩ := hr'
        have HK := Lib.hid hvk
        have HK' := Lib.hid hvk'
        obtain ⟨pk, ck, rfl, _, _, _⟩ := hvk
        obtain ⟨pk', ck', rfl, _, _, _⟩ := hvk'
        have hlt : k < H.len := by have := hk.out; simp only [Hg.len] at this; omega
        have hds : d + (K.size + R.size + 1) ≤ H.size := by have := hd.out; simp only [Hg.size] at this; omega
        have hlt1 : (k : Int) < (H.len : Int) := by omega
        have hk0 : (0 : Int) ≤ (k : Int) := by omega
        have hbl := World.block_lt_of_cell? _ _ c1
        have hbl' := World.block_lt_of_cell? _ _ c1'
        simp only at hbl hbl'
        have hst : ∀ W, Below wr.heap.size wr W → W.cell? ⟨w.heap.size, 1, none⟩ = some (.slice (some ⟨b, o, none⟩) H.len c) ∧ W.cell? ⟨w.heap.size + 1, 1, none⟩ = some (.slice (some ⟨b', o', none⟩) H.len c') ∧
            W.cell? ⟨b, o + k * 2, none⟩ = some (.int .i64 l) ∧ W.cell? ⟨b, o + k * 2 + 1, none⟩ = some (.slice pk K.len ck) ∧ W.cell? ⟨b', o' + k * 2, none⟩ = some (.int .i64 l') ∧ W.cell? ⟨b', o' + k * 2 + 1, none⟩ = some (.slice pk' K'.len ck') := fun W hW =>
          ⟨cell_later hW z0, cell_later hW z1, cell_later hW c1, cell_later hW c2, cell_later hW c1', cell_later hW c2'⟩
        have HST := Lib.hid hst
        have HRR := Lib.hid hr
        have HRR' := Lib.hid hr'
        have HC := Lib.hid (HI.out l l' K K' (.slice pk K.len ck) (.slice pk' K'.len ck') wr.drew (by omega) (HK.out.below (Below.refl _ _).drew) (HK'.out.below (Below.refl _ _).drew))
        have hqq : Hid (sameT s H s H' = (sameT l K l' K' && sameH R R')) := Lib.hid (by rw [hq.out]; rfl)
        clear hR HR hR' HR' hr hr' hst hq
        cases hcs : sameT l K l' K' with
        | true =>
          have hq2 : Hid (sameT s H s H' = sameH R R') := Lib.hid (by rw [hqq.out, hcs]; rfl)
          rw [hcs] at HC
          clear hcs hqq
          go_wp2_with fail
          go_region_held3 (fun W => W.cell? ⟨w.heap.size, 1, none⟩ = some (.slice (some ⟨b, o, none⟩) H.len c) ∧ W.cell? ⟨w.heap.size + 1, 1, none⟩ = some (.slice (some ⟨b', o', none⟩) H.len c') ∧
              W.cell? ⟨b, o + k * 2, none⟩ = some (.int .i64 l) ∧ W.cell? ⟨b, o + k * 2 + 1, none⟩ = some (.slice pk K.len ck) ∧ W.cell? ⟨b', o' + k * 2, none⟩ = some (.int .i64 l') ∧ W.cell? ⟨b', o' + k * 2 + 1, none⟩ = some (.slice pk' K'.len ck'))
            (first | exact HST.out _ (Below.refl _ _).drew | exact HST.out _ HB1.out)
            (first
              | (go_at_call 22; refine HC.out.mono ?_; rintro e w1 ⟨rfl, hb1⟩; have HB1 : Hid (Below wr.heap.size wr w1) := Lib.hid ((Below.refl _ _).drew.trans hb1); clear hb1))
          all_goals
            go_wp2_with fail
            go_roundw
            case rel =>
              refine ⟨k + 1, d + (K.size + 1), R, R', by go_num, Lib.hid (by have := hk.out; simp only [Hg.len] at this; omega), Lib.hid (by have := hk'.out; simp only [Hg.len] at this; omega), Lib.hid (by have := hd.out; simp only [Hg.size] at this; omega), hq2, Lib.hid (HB.out.trans (HB1.out.mono (by omega))), fun _ => ⟨b, o, rfl, ?_⟩, fun _ => ⟨b', o', rfl, ?_⟩⟩
              · rw [show o + (k + 1) * 2 = o + k * 2 + 2 from by omega]; exact HRR.out.below HB1.out
              · rw [show o' + (k + 1) * 2 = o' + k * 2 + 2 from by omega]; exact HRR'.out.below HB1.out
            case measure => simp [intOf]; omega
        | false =>
          have hq2 : Hid (sameT s H s H' = false) := Lib.hid (by rw [hqq.out, hcs]; rfl)
          rw [hcs] at HC
          clear hcs hqq
          go_wp2_with fail
          go_region_held3 (fun W => W.cell? ⟨w.heap.size, 1, none⟩ = some (.slice (some ⟨b, o, none⟩) H.len c) ∧ W.cell? ⟨w.heap.size + 1, 1, none⟩ = some (.slice (some ⟨b', o', none⟩) H.len c') ∧
              W.cell? ⟨b, o + k * 2, none⟩ = some (.int .i64 l) ∧ W.cell? ⟨b, o + k * 2 + 1, none⟩ = some (.slice pk K.len ck) ∧ W.cell? ⟨b', o' + k * 2, none⟩ = some (.int .i64 l') ∧ W.cell? ⟨b', o' + k * 2 + 1, none⟩ = some (.slice pk' K'.len ck'))
            (first | exact HST.out _ (Below.refl _ _).drew | exact HST.out _ HB1.out)
            (first
              | (go_at_call 22; refine HC.out.mono ?_; rintro e w1 ⟨rfl, hb1⟩; have HB1 : Hid (Below wr.heap.size wr w1) := Lib.hid ((Below.refl _ _).drew.trans hb1); clear hb1))
          all_goals
            go_wp2_with fail
            go_ret
            exact ⟨by rw [hq2.out] <;> rfl, HBW.out.trans (HB1.out.mono (by omega))⟩

theorem same_ok (t t' : Int × Hg) (v v' : Value) (w : World) (hv : IsT w v t) (hv' : IsT w v' t') :
    Calls Tryd.prog 22 #[v, v'] w fun e w' => e = .returned (.bool (sameT t.1 t.2 t'.1 t'.2)) ∧ Below w.heap.size w w' := by
  obtain ⟨vk, rfl, _, h1⟩ := hv
  obtain ⟨vk', rfl, _, h2⟩ := hv'
  exact same_any _ t.1 t'.1 t.2 t'.2 vk vk' w (Nat.lt_succ_self _) h1 h2
theorem same_eq (t : Int × Hg) (v v' : Value) (w : World) (hv : IsT w v t) (hv' : IsT w v' t) :
    Calls Tryd.prog 22 #[v, v'] w fun e w' => e = .returned (.bool true) ∧ Below w.heap.size w w' := by
  have := same_ok t t v v' w hv hv'
  rwa [sameT_refl] at this

end Go.Proofs.YthhliogcafmnfaaDoor
