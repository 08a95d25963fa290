/- The order of trees as data; ref01.Compare. -/
import Derived.Test.YthhliogcafmnfaaDoorTCmp
import Derived.Test.YthhliogcafmnfaaDoorSize01
namespace Go.Proofs.YthhliogcafmnfaaDoor
open Go.RowKit Go.Shelf

theorem orI_zero (b : Int) : orI 0 b = b := by simp [orI]
theorem orI_ne {a : Int} (h : a ≠ 0) (b : Int) : orI a b = a := by simp [orI, h]
theorem orI_assoc (a b c : Int) : orI (orI a b) c = orI a (orI b c) := by
  unfold orI
  by_cases h : a = 0
  · simp [h]
  · simp [h]
theorem orI_r0 (a : Int) : orI a 0 = a := by
  unfold orI
  by_cases h : a = 0
  · simp [h]
  · simp [h]
theorem cmpI_self (a : Int) : cmpI a a = 0 := by simp [cmpI]
theorem cmpI_ne {a b : Int} (h : a ≠ b) : cmpI a b ≠ 0 := by
  unfold cmpI
  split
  · decide
  · split
    · decide
    · omega
theorem cmpI_neg (a b : Int) : cmpI a b = - cmpI b a := by
  unfold cmpI
  split <;> split <;> (try omega) <;> split <;> omega
theorem cmpI_succ (a b : Int) : cmpI (a + 1) (b + 1) = cmpI a b := by
  unfold cmpI
  by_cases h1 : a < b
  · rw [if_pos h1, if_pos (by omega)]
  · rw [if_neg h1, if_neg (by omega)]
    by_cases h2 : b < a
    · rw [if_pos h2, if_pos (by omega)]
    · rw [if_neg h2, if_neg (by omega)]
theorem orI_neg (a b : Int) : orI (-a) (-b) = - orI a b := by
  unfold orI
  by_cases h : a = 0
  · simp [h]
  · simp [h]
theorem orI_bound {a b : Int} (ha : -1 ≤ a ∧ a ≤ 1) (hb : -1 ≤ b ∧ b ≤ 1) : -1 ≤ orI a b ∧ orI a b ≤ 1 := by
  unfold orI
  split
  · exact hb
  · exact ha
theorem cmpI_bound (a b : Int) : -1 ≤ cmpI a b ∧ cmpI a b ≤ 1 := by
  unfold cmpI
  split
  · decide
  · split <;> decide

def cmpH : Hg → Hg → Int
  | .nil, .nil => 0
  | .nil, .cons .. => -1
  | .cons .., .nil => 1
  | .cons l k r, .cons l' k' r' => orI (orI (cmpI k.size k'.size) (orI (cmpI l l') (cmpH k k'))) (cmpH r r')
def cmpT (s : Int) (K : Hg) (s' : Int) (K' : Hg) : Int := orI (cmpI K.size K'.size) (orI (cmpI s s') (cmpH K K'))

theorem cmpH_neg : ∀ (K K' : Hg), cmpH K K' = - cmpH K' K := by
  intro K
  induction K with
  | nil => intro K'; cases K' <;> simp [cmpH]
  | cons l k r hk hr =>
    intro K'
    cases K' with
    | nil => simp [cmpH]
    | cons l' k' r' =>
      simp only [cmpH]
      rw [hk k', hr r', cmpI_neg (k.size : Int), cmpI_neg l, orI_neg, orI_neg, orI_neg]
theorem cmpT_neg (s s' : Int) (K K' : Hg) : cmpT s K s' K' = - cmpT s' K' s K := by
  unfold cmpT
  rw [cmpH_neg, cmpI_neg (K.size : Int), cmpI_neg s, orI_neg, orI_neg]
theorem cmpH_bound : ∀ (K K' : Hg), -1 ≤ cmpH K K' ∧ cmpH K K' ≤ 1 := by
  intro K
  induction K with
  | nil => intro K'; cases K' <;> simp [cmpH]
  | cons l k r hk hr =>
    intro K'
    cases K' with
    | nil => simp [cmpH]
    | cons l' k' r' => exact orI_bound (orI_bound (cmpI_bound _ _) (orI_bound (cmpI_bound _ _) (hk k'))) (hr r')
theorem cmpT_bound (s s' : Int) (K K' : Hg) : -1 ≤ cmpT s K s' K' ∧ cmpT s K s' K' ≤ 1 := orI_bound (cmpI_bound _ _) (orI_bound (cmpI_bound _ _) (cmpH_bound _ _))

theorem lex_mk : ∀ (K K' : Hg) (X Y : List (Int × Int)), K.size = K'.size → lexM (K.mk ++ X) (K'.mk ++ Y) = orI (cmpH K K') (lexM X Y) := by
  intro K
  induction K with
  | nil =>
    intro K' X Y h
    cases K' with
    | nil => simp [Hg.mk, cmpH, orI_zero]
    | cons l k r => simp [Hg.size] at h
  | cons l k r hk hr =>
    intro K' X Y h
    cases K' with
    | nil => simp [Hg.size] at h
    | cons l' k' r' =>
      simp only [Hg.size] at h
      simp only [Hg.mk, List.cons_append, List.append_assoc, lexM, cmpM, cmpH, cmpI_succ]
      by_cases hs : k.size = k'.size
      · rw [hk k' _ _ hs, hr r' _ _ (by omega), hs, cmpI_self, orI_zero, orI_zero, orI_assoc, orI_assoc]
      · have : cmpI (k.size : Int) (k'.size : Int) ≠ 0 := cmpI_ne (by omega)
        rw [orI_ne this, orI_ne this, orI_ne this, orI_ne this, orI_ne this]
theorem lex_mkT (s s' : Int) (K K' : Hg) : lexM (mkT s K) (mkT s' K') = cmpT s K s' K' := by
  simp only [mkT, lexM, cmpM, cmpI_succ, cmpT]
  by_cases hs : K.size = K'.size
  · have := lex_mk K K' [] [] hs
    simp only [List.append_nil, lexM, orI_r0] at this
    rw [this, hs, cmpI_self, orI_zero, orI_zero]
  · have : cmpI (K.size : Int) (K'.size : Int) ≠ 0 := cmpI_ne (by omega)
    rw [orI_ne this, orI_ne this, orI_ne this]

theorem order_ok (a b : Int) (w : World) : Calls Tryd.prog 66 #[.int .i64 a, .int .i64 b] w fun e w' => e = .returned (.int .i64 (cmpI a b)) ∧ w = w' := by
  by_cases h1 : a < b
  · have hc : Hid (cmpI a b = -1) := Lib.hid (by simp [cmpI, h1])
    go_enter Tryd.func66, Tryd.ntmps66
    go_wp2_with fail
    go_ret
    exact ⟨by rw [hc.out]; rfl, rfl⟩
  · have h1' : b ≤ a := by omega
    have hd1 : decide (a < b) = false := decide_eq_false h1
    by_cases h2 : b < a
    · have hc : Hid (cmpI a b = 1) := Lib.hid (by simp [cmpI, h1, h2])
      clear h1
      go_enter Tryd.func66, Tryd.ntmps66
      go_wp2_with fail
      go_ret
      exact ⟨by rw [hc.out]; rfl, rfl⟩
    · have h2' : a ≤ b := by omega
      have hd2 : decide (b < a) = false := decide_eq_false h2
      have hc : Hid (cmpI a b = 0) := Lib.hid (by simp [cmpI, h1, h2])
      clear h1 h2
      go_enter Tryd.func66, Tryd.ntmps66
      go_wp2_with fail
      go_ret
      exact ⟨by rw [hc.out]; rfl, rfl⟩

set_option maxRecDepth 100000 in
set_option maxHeartbeats 1000000 in
theorem rcompare_any (N : Nat) : ∀ (s s' : Int) (K K' : Hg) (vk vk' : Value) (w : World), K.size < N → K.size ≤ 1000000 → K'.size ≤ 1000000 → IsH w vk K → IsH w vk' K' →
    Calls Tryd.prog 21 #[.agg #[.int .i64 s, vk], .agg #[.int .i64 s', vk']] w fun e w' => e = .returned (.int .i64 (cmpT s K s' K')) ∧ Below w.heap.size w w' := by
  induction N with
  | zero => intro s s' K K' vk vk' w hN; omega
  | succ N ih =>
    intro s s' K K' vk vk' w hN hs hs' hv hv'
    have HV := Lib.hid hv
    have HV' := Lib.hid hv'
    obtain ⟨p, c, rfl, hc1, hc2, hrow⟩ := hv
    obtain ⟨p', c', rfl, hc1', hc2', hrow'⟩ := hv'
    have hlenK := Hg.len_le_size K
    have hlenK' := Hg.len_le_size K'
    have hb0 : Below w.heap.size w ((w.alloc (.cells #[.int .i64 s, .slice p K.len c] 27)).alloc (.cells #[.int .i64 s', .slice p' K'.len c'] 27)) := ((Below.refl _ w).alloc (Nat.le_refl _) _).alloc (by simp) _
    have hst : ∀ W, Below (w.heap.size + 1 + 1) ((w.alloc (.cells #[.int .i64 s, .slice p K.len c] 27)).alloc (.cells #[.int .i64 s', .slice p' K'.len c'] 27)) W →
        W.cell? ⟨w.heap.size, 0, none⟩ = some (.int .i64 s) ∧ W.cell? ⟨w.heap.size, 1, none⟩ = some (.slice p K.len c) ∧ W.cell? ⟨w.heap.size + 1, 0, none⟩ = some (.int .i64 s') ∧ W.cell? ⟨w.heap.size + 1, 1, none⟩ = some (.slice p' K'.len c') := fun W hW => by
      have h1 : Blk W w.heap.size 27 #[.int .i64 s, .slice p K.len c] := ((Blk.new w _ _).alloc _).below hW (by omega)
      have h2 : Blk W (w.heap.size + 1) 27 #[.int .i64 s', .slice p' K'.len c'] := by
        have := Blk.new (w.alloc (.cells #[.int .i64 s, .slice p K.len c] 27)) 27 #[.int .i64 s', .slice p' K'.len c']
        rw [World.size_alloc] at this
        exact this.below hW (by omega)
      exact ⟨by rw [h1.cell]; rfl, by rw [h1.cell]; rfl, by rw [h2.cell]; rfl, by rw [h2.cell]; rfl⟩
    have HST := Lib.hid hst
    have HB0 := Lib.hid hb0
    have HO := Lib.hid (fun a b w => order_ok a b w)
    have HI := Lib.hid ih
    have HR := Lib.hid hrow
    have HR' := Lib.hid hrow'
    have hbase : (w.alloc (.cells #[.int .i64 s, .slice p K.len c] 27)).heap.size + 1 = w.heap.size + 1 + 1 := by simp
    clear hst hb0 ih hrow hrow'
    go_enter Tryd.func21, Tryd.ntmps21
    go_wp2_with fail
    go_region_held3 (fun W => W.cell? ⟨w.heap.size, 0, none⟩ = some (.int .i64 s) ∧ W.cell? ⟨w.heap.size, 1, none⟩ = some (.slice p K.len c) ∧ W.cell? ⟨w.heap.size + 1, 0, none⟩ = some (.int .i64 s') ∧ W.cell? ⟨w.heap.size + 1, 1, none⟩ = some (.slice p' K'.len c'))
      (first | exact HST.out _ (Below.refl _ _).drew | exact HST.out _ HB1.out | exact HST.out _ HB2.out)
      (first
        | (go_at_call_of 17 (Value.agg #[Value.int IntKind.i64 s, Value.slice p K.len c]); refine (size01_ok s K _ _ hs (HV.out.below HB0.out.drew)).mono ?_; rintro e w1 ⟨rfl, hb⟩; have hz1 : w.heap.size + 1 + 1 ≤ w1.heap.size := (by have := hb.size; simpa using this); have HB1 : Hid (Below (w.heap.size + 1 + 1) ((w.alloc (.cells #[.int .i64 s, .slice p K.len c] 27)).alloc (.cells #[.int .i64 s', .slice p' K'.len c'] 27)) w1) := Lib.hid ((Below.refl _ _).drew.trans (hb.mono (by simp))); clear hb)
        | (go_at_call 17; refine (size01_ok s' K' _ _ hs' (HV'.out.below (HB0.out.trans (HB1.out.mono (by omega))))).mono ?_; rintro e w2 ⟨rfl, hb⟩; have HB2 : Hid (Below (w.heap.size + 1 + 1) ((w.alloc (.cells #[.int .i64 s, .slice p K.len c] 27)).alloc (.cells #[.int .i64 s', .slice p' K'.len c'] 27)) w2) := Lib.hid (HB1.out.trans (hb.mono hz1)); have hz2 : w.heap.size + 1 + 1 ≤ w2.heap.size := (by have := hb.size; omega); clear hb)
        | (go_at_call 66; refine (HO.out _ _ _).mono ?_; rintro e w3 ⟨rfl, rfl⟩))
    rw [cmpI_succ]
    obtain ⟨z0, z1, z2, z3⟩ := HST.out w2 HB2.out
    have z4 : w.heap.size < w2.heap.size := by omega
    have z5 : w.heap.size + 1 < w2.heap.size := by omega
    have HBW := Lib.hid (HB0.out.trans (HB2.out.mono (by omega)))
    by_cases hz : cmpI (K.size : Int) (K'.size : Int) = 0
    rotate_left
    · have hd : (cmpI (K.size : Int) (K'.size : Int) != 0) = true := by simpa using hz
      have hres : Hid (cmpT s K s' K' = cmpI (K.size : Int) (K'.size : Int)) := Lib.hid (by rw [cmpT, orI_ne hz])
      clear hz
      go_wp2_with fail
      go_ret
      exact ⟨by rw [hres.out]; rfl, HBW.out⟩
    have hres1 : Hid (cmpT s K s' K' = orI (cmpI s s') (cmpH K K')) := Lib.hid (by rw [cmpT, hz, orI_zero])
    rw [hz]
    clear hz
    go_wp2_with fail
    refine (HO.out _ _ _).mono ?_
    rintro e w3 ⟨rfl, rfl⟩
    by_cases hz : cmpI s s' = 0
    rotate_left
    · have hd : (cmpI s s' != 0) = true := by simpa using hz
      have hres : Hid (cmpT s K s' K' = cmpI s s') := Lib.hid (by rw [hres1.out, orI_ne hz])
      clear hz
      go_wp2_with fail
      go_ret
      exact ⟨by rw [hres.out]; rfl, HBW.out⟩
    have hres2 : Hid (cmpT s K s' K' = cmpH K K') := Lib.hid (by rw [hres1.out, hz, orI_zero])
    rw [hz]
    clear hz hres1
    by_cases hm : K'.len < K.len
    · go_wp2_with fail
      go_loopw [32] (fun i wr => ∃ (k : Nat) (R R' : Hg), i = .int .i64 k ∧ Hid (k + R.len = K.len) ∧ Hid (k + R'.len = K'.len) ∧ Hid (R.size ≤ K.size ∧ R'.size ≤ K'.size) ∧ Hid (cmpH K K' = cmpH R R') ∧ Hid (Below (w.heap.size + 1 + 1) ((w.alloc (.cells #[.int .i64 s, .slice p K.len c] 27)).alloc (.cells #[.int .i64 s', .slice p' K'.len c'] 27)) wr) ∧ Hid (R ≠ .nil → ∃ b o, p = some ⟨b, o, none⟩ ∧ Row w R b (o + k * 2)) ∧ Hid (R' ≠ .nil → ∃ b o, p' = some ⟨b, o, none⟩ ∧ Row w R' b (o + k * 2)))
        (fun i _ => K.len - (intOf i).toNat)
      case atStart => exact ⟨0, K, K', rfl, Lib.hid (by simp), Lib.hid (by simp), Lib.hid ⟨Nat.le_refl _, Nat.le_refl _⟩, Lib.hid rfl, HB2, Lib.hid (by simpa using HR.out), Lib.hid (by simpa using HR'.out)⟩
      case round =>
        obtain ⟨k, R, R', rfl, hk, hk', hz, hcmp, HBr, hR, hR'⟩ := hrel
        clear z0 z1 z2 z3 z4 z5 HBW HB2
        obtain ⟨z0, z1, z2, z3⟩ := HST.out wr HBr.out
        have z6 : w.heap.size + 1 + 1 ≤ wr.heap.size := by
          have h2 := HBr.out.size
          simpa using h2
        have z4 : w.heap.size < wr.heap.size := by omega
        have z5 : w.heap.size + 1 < wr.heap.size := by omega
        have HBW := Lib.hid (HB0.out.trans (HBr.out.mono (by omega)))
        by_cases hlt : k < K'.len
        · cases R with
          | nil => exfalso; have h1 := hk.out; have h2 := hk'.out; simp only [Hg.len] at h1; omega
          | cons l a R =>
            cases R' with
            | nil => exfalso; have h1 := hk.out; have h2 := hk'.out; simp only [Hg.len] at h2; omega
            | cons l' a' R' =>
              obtain ⟨b, o, rfl, hr⟩ := hR.out (by simp)
              obtain ⟨b', o', rfl, hr'⟩ := hR'.out (by simp)
              rw [Row.cons_iff] at hr hr'
              obtain ⟨c1, hl, ⟨va, c2, hva⟩, hr⟩ := hr
              obtain ⟨c1', hl', ⟨va', c2', hva'⟩, hr'⟩ := hr'
              have HA := Lib.hid hva
              have HA' := Lib.hid hva'
              obtain ⟨pa, ca, rfl, _, _, _⟩ := hva
              obtain ⟨pa', ca', rfl, _, _, _⟩ := hva'
              have hltK : k < K.len := by omega
              have hltK' : k < K'.len := by omega
              have hk0 : (0 : Int) ≤ (k : Int) := by omega
              have hk1 : (k : Int) < (K.len : Int) := by omega
              have hk2 : (k : Int) < (K'.len : Int) := by omega
              have hsa : a.size < N ∧ a.size ≤ 1000000 ∧ a'.size ≤ 1000000 := by have := hz.out; simp only [Hg.size] at this; omega
              have c1 := cell_later HBW.out c1
              have c2 := cell_later HBW.out c2
              have c1' := cell_later HBW.out c1'
              have c2' := cell_later HBW.out c2'
              have hst2 : ∀ W, Below wr.heap.size wr W → W.cell? ⟨w.heap.size, 1, none⟩ = some (.slice (some ⟨b, o, none⟩) K.len c) ∧ W.cell? ⟨w.heap.size + 1, 1, none⟩ = some (.slice (some ⟨b', o', none⟩) K'.len c') ∧
                  W.cell? ⟨b, o + k * 2, none⟩ = some (.int .i64 l) ∧ W.cell? ⟨b, o + k * 2 + 1, none⟩ = some (.slice pa a.len ca) ∧ W.cell? ⟨b', o' + k * 2, none⟩ = some (.int .i64 l') ∧ W.cell? ⟨b', o' + k * 2 + 1, none⟩ = some (.slice pa' a'.len ca') := fun W hW =>
                ⟨cell_later hW z1, cell_later hW z3, cell_later hW c1, cell_later hW c2, cell_later hW c1', cell_later hW c2'⟩
              have HST2 := Lib.hid hst2
              have HC := Lib.hid (HI.out l l' a a' (.slice pa a.len ca) (.slice pa' a'.len ca') wr.drew hsa.1 hsa.2.1 hsa.2.2 (HA.out.below HBW.out.drew) (HA'.out.below HBW.out.drew))
              have HRR := Lib.hid hr
              have HRR' := Lib.hid hr'
              have hcs : Hid (cmpH K K' = orI (cmpT l a l' a') (cmpH R R')) := Lib.hid (by rw [hcmp.out]; rfl)
              clear hst2 hR hR' hr hr' HR HR' hsa hcmp
              by_cases hq : cmpT l a l' a' = 0
              · have hcs2 : Hid (cmpH K K' = cmpH R R') := Lib.hid (by rw [hcs.out, hq, orI_zero])
                rw [hq] at HC
                clear hq hcs
                go_wp2_with fail
                go_region_held3 (fun W => W.cell? ⟨w.heap.size, 1, none⟩ = some (.slice (some ⟨b, o, none⟩) K.len c) ∧ W.cell? ⟨w.heap.size + 1, 1, none⟩ = some (.slice (some ⟨b', o', none⟩) K'.len c') ∧
                    W.cell? ⟨b, o + k * 2, none⟩ = some (.int .i64 l) ∧ W.cell? ⟨b, o + k * 2 + 1, none⟩ = some (.slice pa a.len ca) ∧ W.cell? ⟨b', o' + k * 2, none⟩ = some (.int .i64 l') ∧ W.cell? ⟨b', o' + k * 2 + 1, none⟩ = some (.slice pa' a'.len ca'))
                  (first | exact HST2.out _ (Below.refl _ _).drew | exact HST2.out _ HB1.out)
                  (first
                    | (go_at_call 21; refine HC.out.mono ?_; rintro e w3 ⟨rfl, hb1⟩; have HB1 : Hid (Below wr.heap.size wr w3) := Lib.hid ((Below.refl _ _).drew.trans hb1); clear hb1))
                all_goals
                  go_wp2_with fail
                  go_roundw
                  case rel =>
                    refine ⟨k + 1, R, R', by go_num, Lib.hid (by have := hk.out; simp only [Hg.len] at this; omega), Lib.hid (by have := hk'.out; simp only [Hg.len] at this; omega), Lib.hid (by have := hz.out; simp only [Hg.size] at this; omega), hcs2, Lib.hid (HBr.out.trans (HB1.out.mono (by omega))), Lib.hid (fun _ => ⟨b, o, rfl, ?_⟩), Lib.hid (fun _ => ⟨b', o', rfl, ?_⟩)⟩
                    · rw [show o + (k + 1) * 2 = o + k * 2 + 2 from by omega]; exact HRR.out
                    · rw [show o' + (k + 1) * 2 = o' + k * 2 + 2 from by omega]; exact HRR'.out
                  case measure => simp [intOf]; omega
              · have hd : (cmpT l a l' a' != 0) = true := by simpa using hq
                have hcs2 : Hid (cmpT s K s' K' = cmpT l a l' a') := Lib.hid (by rw [hres2.out, hcs.out, orI_ne hq])
                clear hq hcs
                go_wp2_with fail
                go_region_held3 (fun W => W.cell? ⟨w.heap.size, 1, none⟩ = some (.slice (some ⟨b, o, none⟩) K.len c) ∧ W.cell? ⟨w.heap.size + 1, 1, none⟩ = some (.slice (some ⟨b', o', none⟩) K'.len c') ∧
                    W.cell? ⟨b, o + k * 2, none⟩ = some (.int .i64 l) ∧ W.cell? ⟨b, o + k * 2 + 1, none⟩ = some (.slice pa a.len ca) ∧ W.cell? ⟨b', o' + k * 2, none⟩ = some (.int .i64 l') ∧ W.cell? ⟨b', o' + k * 2 + 1, none⟩ = some (.slice pa' a'.len ca'))
                  (first | exact HST2.out _ (Below.refl _ _).drew | exact HST2.out _ HB1.out)
                  (first
                    | (go_at_call 21; refine HC.out.mono ?_; rintro e w3 ⟨rfl, hb1⟩; have HB1 : Hid (Below wr.heap.size wr w3) := Lib.hid ((Below.refl _ _).drew.trans hb1); clear hb1))
                all_goals
                  go_wp2_with fail
                  go_ret
                  exact ⟨by rw [hcs2.out]; rfl, HBW.out.trans (HB1.out.mono HBW.out.size)⟩
        · have hge : K'.len ≤ k := by omega
          have hfin : Hid (cmpT s K s' K' = cmpI (K.len : Int) (K'.len : Int)) := Lib.hid (by
            rw [hres2.out, hcmp.out]
            have h1 := hk.out
            have h2 := hk'.out
            cases R with
            | nil =>
              cases R' with
              | nil => simp only [Hg.len] at h1 h2; rw [show K.len = K'.len by omega, cmpI_self]; rfl
              | cons _ _ _ => simp only [Hg.len] at h1 h2; simp only [cmpH, cmpI]; rw [if_pos (by omega)]
            | cons _ _ _ =>
              cases R' with
              | nil => simp only [Hg.len] at h1 h2; simp only [cmpH, cmpI]; rw [if_neg (by omega), if_pos (by omega)]
              | cons _ _ _ => simp only [Hg.len] at h1 h2; omega)
          clear hlt hR hR' HR HR' hk hk' hz hcmp
          go_wp2_with fail
          refine (HO.out _ _ _).mono ?_
          rintro e w3 ⟨rfl, rfl⟩
          go_wp2_with fail
          go_ret
          exact ⟨by rw [hfin.out]; rfl, HBW.out⟩
    · have hm' : K.len ≤ K'.len := by omega
      clear hm
      go_wp2_with fail
      go_loopw [32] (fun i wr => ∃ (k : Nat) (R R' : Hg), i = .int .i64 k ∧ Hid (k + R.len = K.len) ∧ Hid (k + R'.len = K'.len) ∧ Hid (R.size ≤ K.size ∧ R'.size ≤ K'.size) ∧ Hid (cmpH K K' = cmpH R R') ∧ Hid (Below (w.heap.size + 1 + 1) ((w.alloc (.cells #[.int .i64 s, .slice p K.len c] 27)).alloc (.cells #[.int .i64 s', .slice p' K'.len c'] 27)) wr) ∧ Hid (R ≠ .nil → ∃ b o, p = some ⟨b, o, none⟩ ∧ Row w R b (o + k * 2)) ∧ Hid (R' ≠ .nil → ∃ b o, p' = some ⟨b, o, none⟩ ∧ Row w R' b (o + k * 2)))
        (fun i _ => K.len - (intOf i).toNat)
      case atStart => exact ⟨0, K, K', rfl, Lib.hid (by simp), Lib.hid (by simp), Lib.hid ⟨Nat.le_refl _, Nat.le_refl _⟩, Lib.hid rfl, HB2, Lib.hid (by simpa using HR.out), Lib.hid (by simpa using HR'.out)⟩
      case round =>
        obtain ⟨k, R, R', rfl, hk, hk', hz, hcmp, HBr, hR, hR'⟩ := hrel
        clear z0 z1 z2 z3 z4 z5 HBW HB2
        obtain ⟨z0, z1, z2, z3⟩ := HST.out wr HBr.out
        have z6 : w.heap.size + 1 + 1 ≤ wr.heap.size := by
          have h2 := HBr.out.size
          simpa using h2
        have z4 : w.heap.size < wr.heap.size := by omega
        have z5 : w.heap.size + 1 < wr.heap.size := by omega
        have HBW := Lib.hid (HB0.out.trans (HBr.out.mono (by omega)))
        by_cases hlt : k < K.len
        · cases R with
          | nil => exfalso; have h1 := hk.out; have h2 := hk'.out; simp only [Hg.len] at h1; omega
          | cons l a R =>
            cases R' with
            | nil => exfalso; have h1 := hk.out; have h2 := hk'.out; simp only [Hg.len] at h2; omega
            | cons l' a' R' =>
              obtain ⟨b, o, rfl, hr⟩ := hR.out (by simp)
              obtain ⟨b', o', rfl, hr'⟩ := hR'.out (by simp)
              rw [Row.cons_iff] at hr hr'
              obtain ⟨c1, hl, ⟨va, c2, hva⟩, hr⟩ := hr
              obtain ⟨c1', hl', ⟨va', c2', hva'⟩, hr'⟩ := hr'
              have HA := Lib.hid hva
              have HA' := Lib.hid hva'
              obtain ⟨pa, ca, rfl, _, _, _⟩ := hva
              obtain ⟨pa', ca', rfl, _, _, _⟩ := hva'
              have hltK : k < K.len := by omega
              have hltK' : k < K'.len := by omega
              have hk0 : (0 : Int) ≤ (k : Int) := by omega
              have hk1 : (k : Int) < (K.len : Int) := by omega
              have hk2 : (k : Int) < (K'.len : Int) := by omega
              have hsa : a.size < N ∧ a.size ≤ 1000000 ∧ a'.size ≤ 1000000 := by have := hz.out; simp only [Hg.size] at this; omega
              have c1 := cell_later HBW.out c1
              have c2 := cell_later HBW.out c2
              have c1' := cell_later HBW.out c1'
              have c2' := cell_later HBW.out c2'
              have hst2 : ∀ W, Below wr.heap.size wr W → W.cell? ⟨w.heap.size, 1, none⟩ = some (.slice (some ⟨b, o, none⟩) K.len c) ∧ W.cell? ⟨w.heap.size + 1, 1, none⟩ = some (.slice (some ⟨b', o', none⟩) K'.len c') ∧
                  W.cell? ⟨b, o + k * 2, none⟩ = some (.int .i64 l) ∧ W.cell? ⟨b, o + k * 2 + 1, none⟩ = some (.slice pa a.len ca) ∧ W.cell? ⟨b', o' + k * 2, none⟩ = some (.int .i64 l') ∧ W.cell? ⟨b', o' + k * 2 + 1, none⟩ = some (.slice pa' a'.len ca') := fun W hW =>
                ⟨cell_later hW z1, cell_later hW z3, cell_later hW c1, cell_later hW c2, cell_later hW c1', cell_later hW c2'⟩
              have HST2 := Lib.hid hst2
              have HC := Lib.hid (HI.out l l' a a' (.slice pa a.len ca) (.slice pa' a'.len ca') wr.drew hsa.1 hsa.2.1 hsa.2.2 (HA.out.below HBW.out.drew) (HA'.out.below HBW.out.drew))
              have HRR := Lib.hid hr
              have HRR' := Lib.hid hr'
              have hcs : Hid (cmpH K K' = orI (cmpT l a l' a') (cmpH R R')) := Lib.hid (by rw [hcmp.out]; rfl)
              clear hst2 hR hR' hr hr' HR HR' hsa hcmp
              by_cases hq : cmpT l a l' a' = 0
              · have hcs2 : Hid (cmpH K K' = cmpH R R') := Lib.hid (by rw [hcs.out, hq, orI_zero])
                rw [hq] at HC
                clear hq hcs
                go_wp2_with fail
                go_region_held3 (fun W => W.cell? ⟨w.heap.size, 1, none⟩ = some (.slice (some ⟨b, o, none⟩) K.len c) ∧ W.cell? ⟨w.heap.size + 1, 1, none⟩ = some (.slice (some ⟨b', o', none⟩) K'.len c') ∧
                    W.cell? ⟨b, o + k * 2, none⟩ = some (.int .i64 l) ∧ W.cell? ⟨b, o + k * 2 + 1, none⟩ = some (.slice pa a.len ca) ∧ W.cell? ⟨b', o' + k * 2, none⟩ = some (.int .i64 l') ∧ W.cell? ⟨b', o' + k * 2 + 1, none⟩ = some (.slice pa' a'.len ca'))
                  (first | exact HST2.out _ (Below.refl _ _).drew | exact HST2.out _ HB1.out)
                  (first
                    | (go_at_call 21; refine HC.out.mono ?_; rintro e w3 ⟨rfl, hb1⟩; have HB1 : Hid (Below wr.heap.size wr w3) := Lib.hid ((Below.refl _ _).drew.trans hb1); clear hb1))
                all_goals
                  go_wp2_with fail
                  go_roundw
                  case rel =>
                    refine ⟨k + 1, R, R', by go_num, Lib.hid (by have := hk.out; simp only [Hg.len] at this; omega), Lib.hid (by have := hk'.out; simp only [Hg.len] at this; omega), Lib.hid (by have := hz.out; simp only [Hg.size] at this; omega), hcs2, Lib.hid (HBr.out.trans (HB1.out.mono (by omega))), Lib.hid (fun _ => ⟨b, o, rfl, ?_⟩), Lib.hid (fun _ => ⟨b', o', rfl, ?_⟩)⟩
                    · rw [show o + (k + 1) * 2 = o + k * 2 + 2 from by omega]; exact HRR.out
                    · rw [show o' + (k + 1) * 2 = o' + k * 2 + 2 from by omega]; exact HRR'.out
                  case measure => simp [intOf]; omega
              · have hd : (cmpT l a l' a' != 0) = true := by simpa using hq
                have hcs2 : Hid (cmpT s K s' K' = cmpT l a l' a') := Lib.hid (by rw [hres2.out, hcs.out, orI_ne hq])
                clear hq hcs
                go_wp2_with fail
                go_region_held3 (fun W => W.cell? ⟨w.heap.size, 1, none⟩ = some (.slice (some ⟨b, o, none⟩) K.len c) ∧ W.cell? ⟨w.heap.size + 1, 1, none⟩ = some (.slice (some ⟨b', o', none⟩) K'.len c') ∧
                    W.cell? ⟨b, o + k * 2, none⟩ = some (.int .i64 l) ∧ W.cell? ⟨b, o + k * 2 + 1, none⟩ = some (.slice pa a.len ca) ∧ W.cell? ⟨b', o' + k * 2, none⟩ = some (.int .i64 l') ∧ W.cell? ⟨b', o' + k * 2 + 1, none⟩ = some (.slice pa' a'.len ca'))
                  (first | exact HST2.out _ (Below.refl _ _).drew | exact HST2.out _ HB1.out)
                  (first
                    | (go_at_call 21; refine HC.out.mono ?_; rintro e w3 ⟨rfl, hb1⟩; have HB1 : Hid (Below wr.heap.size wr w3) := Lib.hid ((Below.refl _ _).drew.trans hb1); clear hb1))
                all_goals
                  go_wp2_with fail
                  go_ret
                  exact ⟨by rw [hcs2.out]; rfl, HBW.out.trans (HB1.out.mono HBW.out.size)⟩
        · have hge : K.len ≤ k := by omega
          have hfin : Hid (cmpT s K s' K' = cmpI (K.len : Int) (K'.len : Int)) := Lib.hid (by
            rw [hres2.out, hcmp.out]
            have h1 := hk.out
            have h2 := hk'.out
            cases R with
            | nil =>
              cases R' with
              | nil => simp only [Hg.len] at h1 h2; rw [show K.len = K'.len by omega, cmpI_self]; rfl
              | cons _ _ _ => simp only [Hg.len] at h1 h2; simp only [cmpH, cmpI]; rw [if_pos (by omega)]
            | cons _ _ _ =>
              cases R' with
              | nil => simp only [Hg.len] at h1 h2; simp only [cmpH, cmpI]; rw [if_neg (by omega), if_pos (by omega)]
              | cons _ _ _ => simp only [Hg.len] at h1 h2; omega)
          clear hlt hR hR' HR HR' hk hk' hz hcmp
          go_wp2_with fail
          refine (HO.out _ _ _).mono ?_
          rintro e w3 ⟨rfl, rfl⟩
          go_wp2_with fail
          go_ret
          exact ⟨by rw [hfin.out]; rfl, HBW.out⟩

end Go.Proofs.YthhliogcafmnfaaDoor
