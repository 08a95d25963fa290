/- ref02's (*reader).hedge. -/
import Derived.Test.YthdaeblfehclcabHRead
namespace Go.Proofs.Ythdaeblfehclcab
open Go.RowKit Go.Shelf

def cellStr (w : World) (b : Nat) : Nat := match w.cell? ⟨b, 1, none⟩ with
  | some (.string t) => t.size
  | _ => 0
theorem cellStr_blk {w : World} {b : Nat} {t : TypeId} {v u : Value} {s : ByteArray} (h : Blk w b t #[v, .string s, u]) : cellStr w b = s.size := by
  have : w.cell? ⟨b, 1, none⟩ = some (.string s) := by rw [h.cell]; rfl
  simp [cellStr, this]
def strSz : Value → Nat
  | .string t => t.size
  | _ => 0
/-- The text is at its end, or not: every spelling. -/
theorem suf_at_end {s : ByteArray} {k : Nat} (h : k = s.size) : (suf s k).toList = [] ∧ (suf s k).toList.isEmpty = true ∧ ((suf s k).toList == []) = true := by
  have h0 : (suf s k).toList = [] := by
    rw [ByteArray.toList_eq, suf_list, List.drop_eq_nil_iff]; simp [h]
  exact ⟨h0, by rw [h0]; rfl, by rw [h0]; rfl⟩
theorem suf_more {s : ByteArray} {k : Nat} (h : k < s.size) : ¬ (suf s k).toList = [] ∧ (suf s k).toList.isEmpty = false ∧ ((suf s k).toList == []) = false ∧ 0 < (suf s k).size := by
  have hz := suf_size (s := s) (i := k) (by omega)
  have h0 : ¬ (suf s k).toList = [] := fun e => by
    have h1 : (suf s k).data.toList.length = (suf s k).size := by simp
    rw [← ByteArray.toList_eq, e] at h1
    simp only [List.length_nil] at h1
    omega
  exact ⟨h0, by rw [List.isEmpty_eq_false_iff]; exact h0, by simpa using h0, by omega⟩
theorem suf_byte {s : ByteArray} {k : Nat} (h : 0 < (suf s k).size) : (((suf s k)[0]'h).toNat : Int) = byt s k := by
  have := byt_suf s k 0
  rw [byt, dif_pos h] at this
  exact this
theorem suf_one {s : ByteArray} {k : Nat} (h : k < s.size) : (suf s k).extract 1 (suf s k).size = suf s (k + 1) := suf_drop (by omega)

theorem place_nx {s : ByteArray} {names : List ByteArray} (hn : ∀ x ∈ names, nameB x = true) {i : Nat} (h : i < s.size) (hm : 0 ≤ idxS names ((suf s i).extract 0 (wordR (suf s i)))) : i + wordR (suf s i) = nx s i := by
  have hw := wEnd_le (s := s) (i := i) (by omega)
  rw [wordR_suf (by omega)] at hm ⊢
  by_cases hl : letB (byt s i) = true
  · rw [if_pos ⟨hl, h⟩]
    have h2 := wEnd_step (s := s) (k := i) h (by simp [alnum, hl])
    have h3 := wEnd_le (s := s) (i := i + 1) (by omega)
    rw [nx, if_neg (by omega)]; omega
  · rw [if_neg (fun e => hl e.1)] at hm
    have h1 : idxS names ((suf s i).extract 0 0) = -1 := idxS_none (fun j hj => by
      obtain ⟨c, l, hx, _, _⟩ := nameB_bytes (hn _ (List.getElem_mem hj))
      rw [bytes_seq, hx, suf_take (by omega)]; rfl)
    rw [h1] at hm
    exact absurd hm (by decide)

set_option maxRecDepth 100000 in
set_option maxHeartbeats 8000000 in
theorem rhedge_any (s : ByteArray) (names : List ByteArray) (b : Nat) (vn : Value) (hs : s.size ≤ 1000000) (hnl : names.length ≤ 1000000) (hnn : ∀ x ∈ names, nameB x = true) (hnb : ∀ b' o n c, vn = .slice (some ⟨b', o, none⟩) n c → b' ≠ b) (N : Nat) : ∀ (f i : Nat) (w : World), f < N → s.size + 1 ≤ f + i → i ≤ s.size →
    Blk w b 99 #[vn, .string (suf s i), .bool false] → IsStrs w vn names →
    Calls Try.prog 63 #[.pointer (some ⟨b, 0, none⟩)] w fun e w' => Kp (fun c => c ≠ b) w w' ∧
      ((∃ H e' r, rd s names f i = some (H, e') ∧ e = .returned r ∧ IsHS (fun c => w.heap.size ≤ c) w' r H ∧ Blk w' b 99 #[vn, .string (suf s e'), .bool false]) ∨
       (rd s names f i = none ∧ e = .returned (.slice none 0 0) ∧ ∃ t, Blk w' b 99 #[vn, .string t, .bool true])) := by
  induction N with
  | zero => intro f i w hN; omega
  | succ N ih =>
    intro f i w hN hf hi hb hn
    have HWd := Lib.hid (fun t w h => word_ok t w h)
    have HPl := Lib.hid (fun t w hn => place_ok names t vn w hn)
    have HNm := Lib.hid (fun W (hk : Kp (fun c => c ≠ b) w W) => hn.kp hk (fun b' o n c e => hnb b' o n c e))
    obtain ⟨p, c, rfl, _, _, _, _⟩ := hn
    obtain ⟨i0, hinf, hz0, hz1, hz2⟩ := info_parts Try.infoNode
    have HI := Lib.hid ih
    have HB := Lib.hid hb
    have HNN := Lib.hid hnn
    have hblt := hb.lt
    clear ih hb hnb hnn
    go_enter Try.func63, Try.ntmps63
    go_wp2_with fail
    go_loopw [3] (fun ov wr => ∃ (D : DL) (f' i' : Nat) (A : Option Addr) (cap : Nat), ov = .slice A D.length cap ∧ i' ≤ s.size ∧ s.size + 1 ≤ f' + i' ∧ f' ≤ f ∧ Hid (D.length ≤ i') ∧ Hid (Blk wr b 99 #[.slice p names.length c, .string (suf s i'), .bool false]) ∧ Hid (rd s names f i = more D (rd s names f' i')) ∧
        Hid (wr.ownsRow w.heap.size 24 2 (.slice A D.length cap) D.length (dcells D)) ∧ Hid (DIn (fun c => w.heap.size ≤ c ∧ ¬ (Value.slice A D.length cap).ownBlock = some c) wr D) ∧ Hid (Kp (fun c => c ≠ b) w wr))
      (fun _ wr => cellStr wr b)
    case atStart =>
      exact ⟨[], f, i, none, 0, rfl, hi, hf, Nat.le_refl _, Lib.hid (Nat.zero_le _), HB, Lib.hid (more_nil _).symm, Lib.hid (World.ownsRow_nil _ _ _ _), Lib.hid (fun x hx => by cases hx), Lib.hid (Kp.refl _ _)⟩
    case round =>
      rename World => wo
      obtain ⟨D, f', i', A, cap, rfl, hi', hf', hff, hDl, HX, HRD, HO, HDI, HK⟩ := hrel
      obtain ⟨g, rfl⟩ : ∃ g, f' = g + 1 := ⟨f' - 1, by omega⟩
      have HLT0 := Lib.hid (fun g hg => (HO.out.lt g hg).2)
      have HDl2 := Lib.hid hDl.out
      have hsk := skB_le (s := s) hi'
      have HMS : Hid (cellStr wo b = s.size - i') := Lib.hid (by rw [cellStr_blk HX.out, suf_size hi'])
      have q2 : wo.cell? ⟨b, 2, none⟩ = some (.bool false) := by rw [HX.out.cell]; rfl
      have HIX := Lib.hid HX.out
      clear HX
      go_wp2_with fail
      go_loopw [] (fun wq => ∃ k : Nat, k ≤ s.size ∧ i' ≤ k ∧ Hid (Blk wq b 99 #[.slice p names.length c, .string (suf s k), .bool false]) ∧ Hid (skB s i' = skB s k) ∧ Hid (Kp (fun c => c ≠ b) wo wq))
        (fun wq => cellStr wq b)
      case atStart => exact ⟨i', hi', Nat.le_refl _, HIX, Lib.hid rfl, Lib.hid (Kp.refl _ _)⟩
      case round =>
        rename World => wq
        obtain ⟨k, hk, hik, HX, HE, HKQ⟩ := hrel
        have z0 : wq.cell? ⟨b, 0, none⟩ = some (.slice p names.length c) := by rw [HX.out.cell]; rfl
        have z1 : wq.cell? ⟨b, 1, none⟩ = some (.string (suf s k)) := by rw [HX.out.cell]; rfl
        have z2 : wq.cell? ⟨b, 2, none⟩ = some (.bool false) := by rw [HX.out.cell]; rfl
        have z3 := HX.out.frozen 1
        have z4 := HX.out.lt
        have z5 := HX.out.frozen 2
        have hzz := suf_size hk
        by_cases hlt : k < s.size
        · obtain ⟨m1, m2, m3, m4⟩ := suf_more hlt
          have hby := suf_byte m4
          by_cases h32 : byt s k = 32
          · have hd : (((suf s k)[0]'m4).toNat : Int) = 32 := by rw [hby, h32]
            have HE2 : Hid (skB s i' = skB s (k + 1)) := Lib.hid (by rw [HE.out, skB_step hlt h32])
            have hs1 : (1 : Int) ≤ ((suf s k).size : Int) := by omega
            have HS1 := Lib.hid (suf_one hlt)
            have HZ := Lib.hid hzz
            clear hby h32 HE z0 z2 q2 HIX hzz
            go_wp2_with fail
            go_roundw
            case rel =>
              refine ⟨k + 1, by omega, by omega, Lib.hid ?_, HE2, Lib.hid (HKQ.out.setCell (p := ⟨b, 1, none⟩) (fun h => absurd rfl h) _)⟩
              have := HX.out.set_ 1 (.string (suf s (k + 1)))
              rw [HS1.out]; exact this
            case measure =>
              have e1 := cellStr_blk HX.out
              have e2 : cellStr (wq.setCell ⟨b, 1, none⟩ (.string ((suf s k).extract 1 (suf s k).size))) b = s.size - (k + 1) := by
                rw [HS1.out, cellStr_blk (HX.out.set_ 1 (.string (suf s (k + 1)))), suf_size (by omega)]
              rw [e1, e2, HZ.out]
              omega
          · have hd : ¬ (((suf s k)[0]'m4).toNat : Int) = 32 := by rw [hby]; exact h32
            have hdb : ((((suf s k)[0]'m4).toNat : Int) == 32) = false := by simpa using hd
            have HJ : Hid (skB s i' = k) := Lib.hid (by rw [HE.out, skB_stop h32])
            have HB1 := Lib.hid (HK.out.trans HKQ.out)
            clear h32 HE q2 HIX
            by_cases h41 : byt s k = 41
            · have hd4 : (((suf s k)[0]'m4).toNat : Int) = 41 := by rw [hby, h41]
              have HR2 : Hid (rd s names f i = some (dapp D .nil, k)) := Lib.hid (by rw [HRD.out, rd_stop (by rw [HJ.out]; exact .inr h41), HJ.out]; rfl)
              clear hby h41 HRD hzz
              go_wp2_with fail
              go_ret
              exact ⟨HB1.out, .inl ⟨_, _, _, HR2.out, rfl, (HDI.out.kp (HKQ.out.mono (fun c hc h => by omega))).isHS (ownsRow_heap HO.out (fun g hg => HKQ.out.block g (HO.out.lt g hg).2 (by have := (HO.out.lt g hg).1; omega))) (fun c _ h => h.1) (fun c h => h), HX.out⟩⟩
            · have hd4 : ¬ (((suf s k)[0]'m4).toNat : Int) = 41 := by rw [hby]; exact h41
              have hd4b : ((((suf s k)[0]'m4).toNat : Int) == 41) = false := by simpa using hd4
              have HST : Hid (¬ (skB s i' = s.size ∨ byt s (skB s i') = 41)) := Lib.hid (by rw [HJ.out]; rintro (h | h); omega; exact h41 h)
              have HW : Hid (wordR (suf s k) = if letB (byt s k) = true ∧ k < s.size then wEnd s k - k else 0) := Lib.hid (wordR_suf hk)
              have HWl : wordR (suf s k) ≤ (suf s k).size := by
                have h1 := (wEnd_le (s := s) (i := k) hk)
                rw [HW.out, hzz]; split <;> omega
              have hszs : (suf s k).size ≤ 1000000 := by omega
              have HPT := Lib.hid (place_tok (s := s) (i := k) HNN.out hlt)
              clear hby h41 hzz
              have hnb' := HNm.out wq HB1.out
              have HST2 : Hid (∀ W, Below wq.heap.size wq W → W.cell? ⟨b, 0, none⟩ = some (.slice p names.length c) ∧ W.cell? ⟨b, 1, none⟩ = some (.string (suf s k))) := Lib.hid (fun W hW => by
                have hx := HX.out.below hW HX.out.lt
                exact ⟨by rw [hx.cell]; rfl, by rw [hx.cell]; rfl⟩)
              have HNW := Lib.hid (fun W (hW : Below wq.heap.size wq W) => HPl.out ((suf s k).extract 0 (wordR (suf s k))) W (hnb'.below hW))
              obtain ⟨nn, hnn⟩ : ∃ nn, nn = wordR (suf s k) := ⟨_, rfl⟩
              have HWD := Lib.hid (fun w => HWd.out (suf s k) w (by omega))
              have HPX := Lib.hid (place_nx (s := s) (i := k) HNN.out hlt)
              rw [← hnn] at HW HWl HNW HWD HPT HPX
              obtain ⟨m, hmm⟩ : ∃ m, m = idxS names ((suf s k).extract 0 nn) := ⟨_, rfl⟩
              rw [← hmm] at HNW HPT HPX
              have hml : -1 ≤ m ∧ m ≤ 1000000 := by
                rw [hmm]
                constructor
                · unfold idxS; split <;> omega
                · rcases idxS_lt names ((suf s k).extract 0 nn) with h | h
                  · omega
                  · rw [h]; simp [idxS]
              have HNE := Lib.hid hnn
              clear hmm
              have HX3 : Hid (Blk ((wq.alloc (.cells #[.int .i64 m, .slice none 0 0] 24)).drew) wq.heap.size 24 #[.int .i64 m, .slice none 0 0]) := Lib.hid (Blk.new wq _ _).drew
              have HY3 : Hid (Blk ((wq.alloc (.cells #[.int .i64 m, .slice none 0 0] 24)).drew) b 99 #[.slice p names.length c, .string (suf s k), .bool false]) := Lib.hid (HX.out.alloc _).drew
              have HK3 : Hid (Kp (fun c => c ≠ b) w ((wq.alloc (.cells #[.int .i64 m, .slice none 0 0] 24)).drew)) := Lib.hid (HB1.out.alloc _).drew
              have HKP3 : Hid (Kp (fun c => c ≠ b) wo ((wq.alloc (.cells #[.int .i64 m, .slice none 0 0] 24)).drew)) := Lib.hid (HKQ.out.alloc _).drew
              have hi1 : (0 : Int) ≤ (nn : Int) := by omega
              have hi2 : (nn : Int) ≤ ((suf s k).size : Int) := by omega
              clear hnn hnb'
              go_wp2_with fail
              refine (HWD.out _).mono ?_
              rintro e w1 ⟨rfl, rfl⟩
              go_wp2_with fail
              go_region_held3 (fun W => W.cell? ⟨b, 0, none⟩ = some (.slice p names.length c) ∧ W.cell? ⟨b, 1, none⟩ = some (.string (suf s k)))
                (first | exact HST2.out _ (Below.refl _ _).drew | exact HST2.out _ ((Below.refl _ _).drew.alloc (Nat.le_refl _) _) | exact HST2.out _ ((((Below.refl _ _).drew.alloc (Nat.le_refl _) _)).setCell (by simp) _) | go_keep)
                (first
                  | (go_at_call 81; refine (HNW.out _ ?_).mono ?_; (first | exact (Below.refl _ _).drew | exact (Below.refl _ _).drew.alloc (Nat.le_refl _) _); rintro e w1 ⟨rfl, rfl⟩))
              all_goals
                have hnb3 : ¬ b = wq.heap.size := by omega
                have hsz3 := HKQ.out.size
                have hszw := HK.out.size
                generalize hW3 : (wq.alloc (.cells #[.int .i64 m, .slice none 0 0] 24)).drew = w3 at HX3 HY3 HK3 HKP3 ⊢
                obtain ⟨X, hXX⟩ : ∃ X, X = wq.heap.size := ⟨_, rfl⟩
                rw [← hXX] at HX3 hnb3 hsz3 ⊢
                have x0 : w3.cell? ⟨X, 0, none⟩ = some (.int .i64 m) := by rw [HX3.out.cell]; rfl
                have y1 : w3.cell? ⟨b, 1, none⟩ = some (.string (suf s k)) := by rw [HY3.out.cell]; rfl
                have y2 : w3.cell? ⟨b, 2, none⟩ = some (.bool false) := by rw [HY3.out.cell]; rfl
                have y3 := HY3.out.frozen 1
                have y4 := HY3.out.frozen 2
                have y5 := HY3.out.lt
                clear hW3 hXX z0 z1 z2 z3 z4 z5
                by_cases hm : m < 0
                · have HR2 : Hid (rd s names f i = none) := Lib.hid (by rw [HRD.out, rd_bad HST.out (by rw [HJ.out, ← HPT.out]; exact hm)]; rfl)
                  clear HRD
                  go_wp2_with fail
                  go_ret
                  exact ⟨HK3.out.setCell (p := ⟨b, 2, none⟩) (fun h => absurd rfl h) _, .inr ⟨HR2.out, rfl, _, HY3.out.set_ 2 (.bool true)⟩⟩
                · have hm0 : 0 ≤ m := by omega
                  have hnx : k + nn = nx s k := HPX.out hm0
                  obtain ⟨a1, ha1⟩ : ∃ a, a = nx s k := ⟨_, rfl⟩
                  rw [← ha1] at hnx
                  have hn1 : k + 1 ≤ a1 := by rw [ha1]; exact nx_gt hlt
                  have hn2 : a1 ≤ s.size := by rw [ha1]; exact (nx_le hk).2
                  have HSD : Hid ((suf s k).extract nn (suf s k).size = suf s a1) := Lib.hid (by rw [suf_drop (by omega), hnx])
                  have HA1 : Hid (nx s (skB s i') = a1) := Lib.hid (by rw [HJ.out, ← ha1])
                  have HMM : Hid (idxS names (tok s (skB s i')) = m) := Lib.hid (by rw [HJ.out, ← HPT.out])
                  have hs2 := skB_le (s := s) hn2
                  have HX4 : Hid (Blk (w3.setCell ⟨b, 1, none⟩ (.string (suf s a1))) X 24 #[.int .i64 m, .slice none 0 0]) := Lib.hid (HX3.out.far (p := ⟨b, 1, none⟩) (by simp; omega) _)
                  have HY4 : Hid (Blk (w3.setCell ⟨b, 1, none⟩ (.string (suf s a1))) b 99 #[.slice p names.length c, .string (suf s a1), .bool false]) := Lib.hid (HY3.out.set_ 1 (.string (suf s a1)))
                  have HK4 := Lib.hid (HK3.out.setCell (p := ⟨b, 1, none⟩) (fun h => absurd rfl h) (.string (suf s a1)))
                  have HKP4 := Lib.hid (HKP3.out.setCell (p := ⟨b, 1, none⟩) (fun h => absurd rfl h) (.string (suf s a1)))
                  clear ha1 hnx
                  go_wp2_with fail
                  rw [HSD.out]
                  generalize w3.setCell ⟨b, 1, none⟩ (.string (suf s a1)) = w4 at HX4 HY4 HK4 HKP4 ⊢
                  clear HX3 HY3 HK3 HKP3 x0 y1 y2 y3 y4 y5 hm HSD
                  go_loop [6] (fun v => ∃ k2 : Nat, v = .string (suf s k2) ∧ k2 ≤ s.size ∧ a1 ≤ k2 ∧ Hid (skB s a1 = skB s k2)) strSz
                  case atStart => exact ⟨a1, rfl, hn2, Nat.le_refl _, Lib.hid rfl⟩
                  case round =>
                    obtain ⟨k2, rfl, hk2, hak, HE⟩ := hrel
                    have hzz2 := suf_size hk2
                    have x0 : w4.cell? ⟨X, 0, none⟩ = some (.int .i64 m) := by rw [HX4.out.cell]; rfl
                    have x1 : w4.cell? ⟨X, 1, none⟩ = some (.slice none 0 0) := by rw [HX4.out.cell]; rfl
                    have HKV0 : Hid (IsHS (fun c => X < c) w4 (.slice none 0 0) .nil) := Lib.hid ⟨none, 0, rfl, by simp [Hg.len], by simp [maxLen], fun h => absurd rfl h⟩
                    by_cases hlt2 : k2 < s.size
                    · obtain ⟨n1, n2, n3, n4⟩ := suf_more hlt2
                      have hby2 := suf_byte n4
                      by_cases h32b : byt s k2 = 32
                      · have he : (((suf s k2)[0]'n4).toNat : Int) = 32 := by rw [hby2, h32b]
                        have HE2 : Hid (skB s a1 = skB s (k2 + 1)) := Lib.hid (by rw [HE.out, skB_step hlt2 h32b])
                        have hs1 : (1 : Int) ≤ ((suf s k2).size : Int) := by omega
                        have HS1 := Lib.hid (suf_one hlt2)
                        have HZ := Lib.hid hzz2
                        clear hby2 h32b HE hzz2
                        go_wp2_with fail
                        go_round
                        case rel => exact ⟨k2 + 1, by rw [HS1.out], by omega, by omega, HE2⟩
                        case measure =>
                          rw [HS1.out]
                          simp only [strSz]
                          rw [HZ.out, suf_size (by omega)]
                          omega
                      · have he : ¬ (((suf s k2)[0]'n4).toNat : Int) = 32 := by rw [hby2]; exact h32b
                        have heb : ((((suf s k2)[0]'n4).toNat : Int) == 32) = false := by simpa using he
                        have HJ2 : Hid (skB s a1 = k2) := Lib.hid (by rw [HE.out, skB_stop h32b])
                        clear h32b HE
                        by_cases h40 : byt s k2 = 40
                        · have he4 : (((suf s k2)[0]'n4).toNat : Int) = 40 := by rw [hby2, h40]
                          have H40 := Lib.hid h40
                          have hs1 : (1 : Int) ≤ ((suf s k2).size : Int) := by omega
                          have HS1 := Lib.hid (suf_one hlt2)
                          have y1 : w4.cell? ⟨b, 1, none⟩ = some (.string (suf s a1)) := by rw [HY4.out.cell]; rfl
                          have y3 := HY4.out.frozen 1
                          have y5 := HY4.out.lt
                          have HX5 : Hid (Blk (w4.setCell ⟨b, 1, none⟩ (.string (suf s (k2 + 1)))) X 24 #[.int .i64 m, .slice none 0 0]) := Lib.hid (HX4.out.far (p := ⟨b, 1, none⟩) (by simp; omega) _)
                          have HY5 : Hid (Blk (w4.setCell ⟨b, 1, none⟩ (.string (suf s (k2 + 1)))) b 99 #[.slice p names.length c, .string (suf s (k2 + 1)), .bool false]) := Lib.hid (HY4.out.set_ 1 (.string (suf s (k2 + 1))))
                          have HK5 := Lib.hid (HK4.out.setCell (p := ⟨b, 1, none⟩) (fun h => absurd rfl h) (.string (suf s (k2 + 1))))
                          have HKP5 := Lib.hid (HKP4.out.setCell (p := ⟨b, 1, none⟩) (fun h => absurd rfl h) (.string (suf s (k2 + 1))))
                          clear hby2 h40 hzz2
                          go_wp2_with fail
                          rw [HS1.out]
                          generalize w4.setCell ⟨b, 1, none⟩ (.string (suf s (k2 + 1))) = w5 at HX5 HY5 HK5 HKP5 ⊢
                          have hnb4 : ¬ X = b := fun e => hnb3 e.symm
                          have hXlt := HX5.out.lt
                          cases hk : rd s names g (k2 + 1) with
                          | none =>
                            have HR2 : Hid (rd s names f i = none) := Lib.hid (by
                              rw [HRD.out, rd_kid HST.out (by rw [HMM.out]; exact hm0) (by rw [HA1.out, HJ2.out]; exact H40.out), HA1.out, HJ2.out, hk]; rfl)
                            refine (HI.out g (k2 + 1) _ (by omega) (by omega) (by omega) HY5.out (HNm.out _ HK5.out)).mono ?_
                            rintro e w6 ⟨hkp6, ⟨H6, e6, r6, h6, _⟩ | ⟨_, rfl, t6, hb6⟩⟩
                            · rw [hk] at h6; simp at h6
                            have hx6 := HX5.out.kp hkp6 hnb4
                            have q0 : w6.cell? ⟨X, 1, none⟩ = some (.slice none 0 0) := by rw [hx6.cell]; rfl
                            have q1 : w6.cell? ⟨b, 2, none⟩ = some (.bool true) := by rw [hb6.cell]; rfl
                            have q2 := hx6.frozen 1
                            have q3 := hb6.frozen 2
                            have q4 := hx6.lt
                            have q5 := hb6.lt
                            have HB6 := Lib.hid hb6
                            have HK6 := Lib.hid (HK5.out.trans hkp6)
                            clear hk hkp6 hb6 hx6
                            go_wp2_with fail
                            go_ret
                            exact ⟨(HK6.out.setCell (p := ⟨X, 1, none⟩) (fun _ => by simp; omega) _).setCell (p := ⟨b, 2, none⟩) (fun h => absurd rfl h) _, .inr ⟨HR2.out, rfl, _, (HB6.out.far (p := ⟨X, 1, none⟩) hnb3 _).set_ 2 (.bool true)⟩⟩
                          | some y =>
                            obtain ⟨K, e1⟩ := y
                            have hre := rd_end g _ K e1 (by omega) hk
                            obtain ⟨hre1, hre2, hre3, hre4, _⟩ := hre
                            refine (HI.out g (k2 + 1) _ (by omega) (by omega) (by omega) HY5.out (HNm.out _ HK5.out)).mono ?_
                            rintro e w6 ⟨hkp6, ⟨H6, e6, r6, h6, rfl, hv6, hb6⟩ | ⟨h6, _⟩⟩
                            rotate_left
                            · rw [hk] at h6; simp at h6
                            rw [hk] at h6
                            simp only [Option.some.injEq, Prod.mk.injEq] at h6
                            obtain ⟨rfl, rfl⟩ := h6
                            have HV6 := Lib.hid hv6
                            obtain ⟨kp6, kc6, rfl, _, _, _⟩ := hv6
                            have hx6 := HX5.out.kp hkp6 hnb4
                            have q0 : w6.cell? ⟨X, 1, none⟩ = some (.slice none 0 0) := by rw [hx6.cell]; rfl
                            have q1 : w6.cell? ⟨b, 1, none⟩ = some (.string (suf s e1)) := by rw [hb6.cell]; rfl
                            have q2 : w6.cell? ⟨b, 2, none⟩ = some (.bool false) := by rw [hb6.cell]; rfl
                            have q3 := hx6.frozen 1
                            have q4 := hb6.frozen 1
                            have q5 := hb6.frozen 2
                            have q6 := hx6.lt
                            have q7 := hb6.lt
                            have HB6 := Lib.hid (hb6.far (p := ⟨X, 1, none⟩) hnb3 (.slice kp6 K.len kc6))
                            have HX6 := Lib.hid (hx6.set_ 1 (.slice kp6 K.len kc6))
                            have HK6 := Lib.hid ((HK5.out.trans hkp6).setCell (p := ⟨X, 1, none⟩) (fun _ => by simp; omega) (.slice kp6 K.len kc6))
                            have HKP6 := Lib.hid ((HKP5.out.trans hkp6).setCell (p := ⟨X, 1, none⟩) (fun _ => by simp; omega) (.slice kp6 K.len kc6))
                            have HV6' : Hid (IsHS (fun c => X < c) (w6.setCell ⟨X, 1, none⟩ (.slice kp6 K.len kc6)) (.slice kp6 K.len kc6) K) :=
                              Lib.hid ((HV6.out.mono (S' := fun c => X < c) (fun c hc h => by omega)).kp ((Kp.refl _ _).setCell (p := ⟨X, 1, none⟩) (fun h => by simp at h) _))
                            have HKD := Lib.hid hk
                            clear hk hkp6 hb6 hx6 hre3 HX5 HY5 HK5 HKP5 HV6
                            by_cases hp : byt s e1 = 41
                            · have hlt3 := byt_lt hp (by decide)
                              obtain ⟨v1, v2, v3, v4⟩ := suf_more hlt3
                              have hby3 := suf_byte v4
                              have hp4 : (((suf s e1)[0]'v4).toNat : Int) = 41 := by rw [hby3, hp]
                              have hp4b : ((((suf s e1)[0]'v4).toNat : Int) == 41) = true := by simpa using hp4
                              have hs2' : (1 : Int) ≤ ((suf s e1).size : Int) := by omega
                              have HS2 := Lib.hid (suf_one hlt3)
                              have HR3 : Hid (rd s names f i = more D ((rd s names g (e1 + 1)).map fun y => (.cons m K y.1, y.2))) := Lib.hid (by
                                rw [HRD.out, rd_kid HST.out (by rw [HMM.out]; exact hm0) (by rw [HA1.out, HJ2.out]; exact H40.out), HMM.out, HA1.out, HJ2.out, HKD.out]
                                simp only [Option.bind_some]
                                rw [if_pos hp])
                              have HX7 : Hid (Blk ((w6.setCell ⟨X, 1, none⟩ (.slice kp6 K.len kc6)).setCell ⟨b, 1, none⟩ (.string ((suf s e1).extract 1 (suf s e1).size))) X 24 #[.int .i64 m, .slice kp6 K.len kc6]) := Lib.hid (HX6.out.far (p := ⟨b, 1, none⟩) hnb4 _)
                              have HB7 : Hid (Blk ((w6.setCell ⟨X, 1, none⟩ (.slice kp6 K.len kc6)).setCell ⟨b, 1, none⟩ (.string ((suf s e1).extract 1 (suf s e1).size))) b 99 #[.slice p names.length c, .string (suf s (e1 + 1)), .bool false]) := Lib.hid (by
                                have h := HB6.out.set_ 1 (.string ((suf s e1).extract 1 (suf s e1).size))
                                have e : #[Value.slice p names.length c, .string (suf s (e1 + 1)), .bool false] = #[Value.slice p names.length c, .string ((suf s e1).extract 1 (suf s e1).size), .bool false] := by rw [HS2.out]
                                rw [e]; exact h)
                              have HK7 : Hid (Kp (fun c => c ≠ b) w ((w6.setCell ⟨X, 1, none⟩ (.slice kp6 K.len kc6)).setCell ⟨b, 1, none⟩ (.string ((suf s e1).extract 1 (suf s e1).size)))) := Lib.hid (HK6.out.setCell (p := ⟨b, 1, none⟩) (fun h => absurd rfl h) _)
                              have HKP7 : Hid (Kp (fun c => c ≠ b) wo ((w6.setCell ⟨X, 1, none⟩ (.slice kp6 K.len kc6)).setCell ⟨b, 1, none⟩ (.string ((suf s e1).extract 1 (suf s e1).size)))) := Lib.hid (HKP6.out.setCell (p := ⟨b, 1, none⟩) (fun h => absurd rfl h) _)
                              have HKV : Hid (IsHS (fun c => X < c) ((w6.setCell ⟨X, 1, none⟩ (.slice kp6 K.len kc6)).setCell ⟨b, 1, none⟩ (.string ((suf s e1).extract 1 (suf s e1).size))) (.slice kp6 K.len kc6) K) := Lib.hid (HV6'.out.kp ((Kp.refl _ _).setCell (p := ⟨b, 1, none⟩) (fun h => by simp at h; omega) _))
                              clear hp hre4 hby3 HX6 HB6 HK6 HKP6 HV6'
                              have hlt7 := HX7.out.lt
                              have hsz7 := HKP7.out.size
                              have hbl7 := HB7.out.lt
                              have x0 : ((w6.setCell ⟨X, 1, none⟩ (.slice kp6 K.len kc6)).setCell ⟨b, 1, none⟩ (.string ((suf s e1).extract 1 (suf s e1).size))).cell? ⟨X, 0, none⟩ = some (.int .i64 m) := by rw [HX7.out.cell]; rfl
                              have x1 : ((w6.setCell ⟨X, 1, none⟩ (.slice kp6 K.len kc6)).setCell ⟨b, 1, none⟩ (.string ((suf s e1).extract 1 (suf s e1).size))).cell? ⟨X, 1, none⟩ = some (.slice kp6 K.len kc6) := by rw [HX7.out.cell]; rfl
                              have HO7 := Lib.hid (ownsRow_heap HO.out (fun g hg => HKP7.out.block g (HO.out.lt g hg).2 (by have := (HO.out.lt g hg).1; omega)))
                              have HD7 : Hid (DIn (fun c => w.heap.size ≤ c ∧ ¬ (Value.slice A D.length cap).ownBlock = some c ∧ c < ((w6.setCell ⟨X, 1, none⟩ (.slice kp6 K.len kc6)).setCell ⟨b, 1, none⟩ (.string ((suf s e1).extract 1 (suf s e1).size))).heap.size) ((w6.setCell ⟨X, 1, none⟩ (.slice kp6 K.len kc6)).setCell ⟨b, 1, none⟩ (.string ((suf s e1).extract 1 (suf s e1).size))) (D ++ [(m, K, .slice kp6 K.len kc6)])) :=
                                Lib.hid ((((HDI.out.kp (HKP7.out.mono (fun c hc h => by omega))).mono (fun c hc h => ⟨h.1, h.2, hc⟩))).snoc ⟨wf_small hm0 hml.2, HKV.out.mono (fun c hc h => ⟨by omega, fun e => by have := (HO.out.lt c e).2; omega, hc⟩)⟩)
                              have HLT7 := Lib.hid HO7.out.lt
                              have hDl := HDl2.out
                              clear HDI HO
                              have hsz8 : ((w6.setCell ⟨X, 1, none⟩ (.slice kp6 K.len kc6)).setCell ⟨b, 1, none⟩ (.string ((suf s e1).extract 1 (suf s e1).size))).heap.size = w6.heap.size := by simp
                              go_wp2_with (at_builtin; refine wpList_append_own_at _ rfl _ _ 22 rfl w.heap.size 24 i0 _ 2 32 Try.underlying22 hinf hz0 hz1 hz2 rfl (by decide) _ _ _ rfl (HO7.out.alloc _) ⟨w6.heap.size, 0, none⟩ 1 1 [.int .i64 m, .slice kp6 K.len kc6] rfl rfl (two_c1 _ _ _ _ _ (by simp)) (by simp [Value.oneCell']) (by simp only [maxLen]; omega) (by omega) (by simp; omega) ?_)
                              intro v' w9 hown9 hgrow _ hat
                              obtain ⟨g', cap', rfl⟩ := ownsRow_succ hown9
                              have hkw9 : Kp (fun c => c ≠ b) w w9 := (HK7.out.alloc _).grown hgrow (fun k e h => (HLT7.out k e).1)
                              have hb9 : Blk w9 b 99 #[.slice p names.length c, .string (suf s (e1 + 1)), .bool false] := (hgrow.block b (by simp; omega) (fun e => by have := (HLT7.out b e.symm).1; omega)).trans (HB7.out.alloc _)
                              have hO9 : w9.ownsRow w.heap.size 24 2 (.slice (some ⟨g', 0, none⟩) (D.length + 1) cap') (D.length + 1) (dcells (D ++ [(m, K, .slice kp6 K.len kc6)])) := by rw [dcells_snoc]; exact hown9
                              have hD9 : DIn (fun c => w.heap.size ≤ c ∧ ¬ (Value.slice (some ⟨g', 0, none⟩) (D.length + 1) cap').ownBlock = some c) w9 (D ++ [(m, K, .slice kp6 K.len kc6)]) :=
                                (HD7.out.kp (((Kp.refl _ ((w6.setCell ⟨X, 1, none⟩ (.slice kp6 K.len kc6)).setCell ⟨b, 1, none⟩ (.string ((suf s e1).extract 1 (suf s e1).size)))).alloc _).grown hgrow (fun k e hS => absurd e hS.2.1))).mono (fun c hc h => ⟨h.1, fun e => by
                                  rcases hat with hat | hat
                                  · rw [hat] at e; exact h.2.1 e
                                  · rw [hat] at e; simp at e; omega⟩)
                              have HO9 := Lib.hid hO9
                              have HD9 := Lib.hid hD9
                              have HB9 := Lib.hid hb9
                              have HK9 := Lib.hid hkw9
                              clear hown9 hgrow hat hO9 hD9 hb9 hkw9 HO7 HD7 HX7 HKV HK7 HKP7 HB7 x0 x1
                              go_wp2_with fail
                              go_roundw
                              case rel =>
                                refine ⟨D ++ [(m, K, .slice kp6 K.len kc6)], g, (e1 + 1), some ⟨g', 0, none⟩, cap', by simp, by omega, by omega, by omega, Lib.hid (by simp; omega), HB9, Lib.hid ?_, ?_, ?_, HK9⟩
                                · rw [HR3.out, more_snoc]
                                · rw [show (D ++ [(m, K, Value.slice kp6 K.len kc6)]).length = D.length + 1 by simp]
                                  exact HO9
                                · rw [show (D ++ [(m, K, Value.slice kp6 K.len kc6)]).length = D.length + 1 by simp]
                                  exact HD9
                              case measure =>
                                have e2 := cellStr_blk HB9.out
                                rw [e2, HMS.out, suf_size (by omega)]
                                omega
                            · have hpe : e1 = s.size := by
                                rcases hre4 with h | h
                                · exact h
                                · exact absurd h hp
                              obtain ⟨v1, v2, v3⟩ := suf_at_end hpe
                              have HR2 : Hid (rd s names f i = none) := Lib.hid (by
                                rw [HRD.out, rd_kid HST.out (by rw [HMM.out]; exact hm0) (by rw [HA1.out, HJ2.out]; exact H40.out), HA1.out, HJ2.out, HKD.out]
                                simp only [Option.bind_some]
                                rw [if_neg hp]; rfl)
                              clear hp hpe hre4
                              go_wp2_with fail
                              go_ret
                              exact ⟨HK6.out.setCell (p := ⟨b, 2, none⟩) (fun h => absurd rfl h) _, .inr ⟨HR2.out, rfl, _, HB6.out.set_ 2 (.bool true)⟩⟩
                        · have he4 : ¬ (((suf s k2)[0]'n4).toNat : Int) = 40 := by rw [hby2]; exact h40
                          have he4b : ((((suf s k2)[0]'n4).toNat : Int) == 40) = false := by simpa using he4
                          have HR3 : Hid (rd s names f i = more D ((rd s names g a1).map fun y => (.cons m .nil y.1, y.2))) := Lib.hid (by
                            rw [HRD.out, rd_leaf HST.out (by rw [HMM.out]; exact hm0) (by rw [HA1.out, HJ2.out]; exact h40), HMM.out, HA1.out])
                          have HX7 := HX4
                          have HK7 := HK4
                          have HKP7 := HKP4
                          have HB7 := HY4
                          have HKV := HKV0
                          clear hby2 h40 hzz2 x0 x1 HX4 HK4 HKP4 HY4 HKV0
                          have hlt7 := HX7.out.lt
                          have hsz7 := HKP7.out.size
                          have hbl7 := HB7.out.lt
                          have x0 : (w4).cell? ⟨X, 0, none⟩ = some (.int .i64 m) := by rw [HX7.out.cell]; rfl
                          have x1 : (w4).cell? ⟨X, 1, none⟩ = some (.slice none 0 0) := by rw [HX7.out.cell]; rfl
                          have HO7 := Lib.hid (ownsRow_heap HO.out (fun g hg => HKP7.out.block g (HO.out.lt g hg).2 (by have := (HO.out.lt g hg).1; omega)))
                          have HD7 : Hid (DIn (fun c => w.heap.size ≤ c ∧ ¬ (Value.slice A D.length cap).ownBlock = some c ∧ c < (w4).heap.size) (w4) (D ++ [(m, Hg.nil, .slice none 0 0)])) :=
                            Lib.hid ((((HDI.out.kp (HKP7.out.mono (fun c hc h => by omega))).mono (fun c hc h => ⟨h.1, h.2, hc⟩))).snoc ⟨wf_small hm0 hml.2, HKV.out.mono (fun c hc h => ⟨by omega, fun e => by have := (HO.out.lt c e).2; omega, hc⟩)⟩)
                          have HLT7 := Lib.hid HO7.out.lt
                          have hDl := HDl2.out
                          clear HDI HO
                          go_wp2_with (at_builtin; refine wpList_append_own_at _ rfl _ _ 22 rfl w.heap.size 24 i0 _ 2 32 Try.underlying22 hinf hz0 hz1 hz2 rfl (by decide) _ _ _ rfl (HO7.out.alloc _) ⟨(w4).heap.size, 0, none⟩ 1 1 [.int .i64 m, .slice none 0 0] rfl rfl (two_c1 _ _ _ _ _ rfl) (by simp [Value.oneCell']) (by simp only [maxLen]; omega) (by omega) (by simp; omega) ?_)
                          intro v' w9 hown9 hgrow _ hat
                          obtain ⟨g', cap', rfl⟩ := ownsRow_succ hown9
                          have hkw9 : Kp (fun c => c ≠ b) w w9 := (HK7.out.alloc _).grown hgrow (fun k e h => (HLT7.out k e).1)
                          have hb9 : Blk w9 b 99 #[.slice p names.length c, .string (suf s a1), .bool false] := (hgrow.block b (by simp; omega) (fun e => by have := (HLT7.out b e.symm).1; omega)).trans (HB7.out.alloc _)
                          have hO9 : w9.ownsRow w.heap.size 24 2 (.slice (some ⟨g', 0, none⟩) (D.length + 1) cap') (D.length + 1) (dcells (D ++ [(m, Hg.nil, .slice none 0 0)])) := by rw [dcells_snoc]; exact hown9
                          have hD9 : DIn (fun c => w.heap.size ≤ c ∧ ¬ (Value.slice (some ⟨g', 0, none⟩) (D.length + 1) cap').ownBlock = some c) w9 (D ++ [(m, Hg.nil, .slice none 0 0)]) :=
                            (HD7.out.kp (((Kp.refl _ (w4)).alloc _).grown hgrow (fun k e hS => absurd e hS.2.1))).mono (fun c hc h => ⟨h.1, fun e => by
                              rcases hat with hat | hat
                              · rw [hat] at e; exact h.2.1 e
                              · rw [hat] at e; simp at e; omega⟩)
                          have HO9 := Lib.hid hO9
                          have HD9 := Lib.hid hD9
                          have HB9 := Lib.hid hb9
                          have HK9 := Lib.hid hkw9
                          clear hown9 hgrow hat hO9 hD9 hb9 hkw9 HO7 HD7 HX7 HKV HK7 HKP7 HB7 x0 x1
                          go_wp2_with fail
                          go_roundw
                          case rel =>
                            refine ⟨D ++ [(m, Hg.nil, .slice none 0 0)], g, a1, some ⟨g', 0, none⟩, cap', by simp, by omega, by omega, by omega, Lib.hid (by simp; omega), HB9, Lib.hid ?_, ?_, ?_, HK9⟩
                            · rw [HR3.out, more_snoc]
                            · rw [show (D ++ [(m, Hg.nil, Value.slice none 0 0)]).length = D.length + 1 by simp]
                              exact HO9
                            · rw [show (D ++ [(m, Hg.nil, Value.slice none 0 0)]).length = D.length + 1 by simp]
                              exact HD9
                          case measure =>
                            have e2 := cellStr_blk HB9.out
                            rw [e2, HMS.out, suf_size (by omega)]
                            omega
                    · have hke2 : k2 = s.size := by omega
                      obtain ⟨n1, n2, n3⟩ := suf_at_end hke2
                      have HJ2 : Hid (skB s a1 = k2) := Lib.hid (by rw [HE.out, skB_end hlt2])
                      have HR3 : Hid (rd s names f i = more D ((rd s names g a1).map fun y => (.cons m .nil y.1, y.2))) := Lib.hid (by
                        rw [HRD.out, rd_leaf HST.out (by rw [HMM.out]; exact hm0) (by rw [HA1.out, HJ2.out, byt_ge (by omega)]; decide), HMM.out, HA1.out])
                      have HX7 := HX4
                      have HK7 := HK4
                      have HKP7 := HKP4
                      have HB7 := HY4
                      have HKV := HKV0
                      clear HE hke2 hlt2 hzz2 x0 x1 HX4 HK4 HKP4 HY4 HKV0
                      have hlt7 := HX7.out.lt
                      have hsz7 := HKP7.out.size
                      have hbl7 := HB7.out.lt
                      have x0 : (w4).cell? ⟨X, 0, none⟩ = some (.int .i64 m) := by rw [HX7.out.cell]; rfl
                      have x1 : (w4).cell? ⟨X, 1, none⟩ = some (.slice none 0 0) := by rw [HX7.out.cell]; rfl
                      have HO7 := Lib.hid (ownsRow_heap HO.out (fun g hg => HKP7.out.block g (HO.out.lt g hg).2 (by have := (HO.out.lt g hg).1; omega)))
                      have HD7 : Hid (DIn (fun c => w.heap.size ≤ c ∧ ¬ (Value.slice A D.length cap).ownBlock = some c ∧ c < (w4).heap.size) (w4) (D ++ [(m, Hg.nil, .slice none 0 0)])) :=
                        Lib.hid ((((HDI.out.kp (HKP7.out.mono (fun c hc h => by omega))).mono (fun c hc h => ⟨h.1, h.2, hc⟩))).snoc ⟨wf_small hm0 hml.2, HKV.out.mono (fun c hc h => ⟨by omega, fun e => by have := (HO.out.lt c e).2; omega, hc⟩)⟩)
                      have HLT7 := Lib.hid HO7.out.lt
                      have hDl := HDl2.out
                      clear HDI HO
                      go_wp2_with (at_builtin; refine wpList_append_own_at _ rfl _ _ 22 rfl w.heap.size 24 i0 _ 2 32 Try.underlying22 hinf hz0 hz1 hz2 rfl (by decide) _ _ _ rfl (HO7.out.alloc _) ⟨(w4).heap.size, 0, none⟩ 1 1 [.int .i64 m, .slice none 0 0] rfl rfl (two_c1 _ _ _ _ _ rfl) (by simp [Value.oneCell']) (by simp only [maxLen]; omega) (by omega) (by simp; omega) ?_)
                      intro v' w9 hown9 hgrow _ hat
                      obtain ⟨g', cap', rfl⟩ := ownsRow_succ hown9
                      have hkw9 : Kp (fun c => c ≠ b) w w9 := (HK7.out.alloc _).grown hgrow (fun k e h => (HLT7.out k e).1)
                      have hb9 : Blk w9 b 99 #[.slice p names.length c, .string (suf s a1), .bool false] := (hgrow.block b (by simp; omega) (fun e => by have := (HLT7.out b e.symm).1; omega)).trans (HB7.out.alloc _)
                      have hO9 : w9.ownsRow w.heap.size 24 2 (.slice (some ⟨g', 0, none⟩) (D.length + 1) cap') (D.length + 1) (dcells (D ++ [(m, Hg.nil, .slice none 0 0)])) := by rw [dcells_snoc]; exact hown9
                      have hD9 : DIn (fun c => w.heap.size ≤ c ∧ ¬ (Value.slice (some ⟨g', 0, none⟩) (D.length + 1) cap').ownBlock = some c) w9 (D ++ [(m, Hg.nil, .slice none 0 0)]) :=
                        (HD7.out.kp (((Kp.refl _ (w4)).alloc _).grown hgrow (fun k e hS => absurd e hS.2.1))).mono (fun c hc h => ⟨h.1, fun e => by
                          rcases hat with hat | hat
                          · rw [hat] at e; exact h.2.1 e
                          · rw [hat] at e; simp at e; omega⟩)
                      have HO9 := Lib.hid hO9
                      have HD9 := Lib.hid hD9
                      have HB9 := Lib.hid hb9
                      have HK9 := Lib.hid hkw9
                      clear hown9 hgrow hat hO9 hD9 hb9 hkw9 HO7 HD7 HX7 HKV HK7 HKP7 HB7 x0 x1
                      go_wp2_with fail
                      go_roundw
                      case rel =>
                        refine ⟨D ++ [(m, Hg.nil, .slice none 0 0)], g, a1, some ⟨g', 0, none⟩, cap', by simp, by omega, by omega, by omega, Lib.hid (by simp; omega), HB9, Lib.hid ?_, ?_, ?_, HK9⟩
                        · rw [HR3.out, more_snoc]
                        · rw [show (D ++ [(m, Hg.nil, Value.slice none 0 0)]).length = D.length + 1 by simp]
                          exact HO9
                        · rw [show (D ++ [(m, Hg.nil, Value.slice none 0 0)]).length = D.length + 1 by simp]
                          exact HD9
                      case measure =>
                        have e2 := cellStr_blk HB9.out
                        rw [e2, HMS.out, suf_size (by omega)]
                        omega
        · have hke : k = s.size := by omega
          obtain ⟨m1, m2, m3⟩ := suf_at_end hke
          have HJ : Hid (skB s i' = k) := Lib.hid (by rw [HE.out, skB_end (by omega)])
          have HB1 := Lib.hid (HK.out.trans HKQ.out)
          have HR2 : Hid (rd s names f i = some (dapp D .nil, k)) := Lib.hid (by rw [HRD.out, rd_stop (by rw [HJ.out]; exact .inl hke), HJ.out]; rfl)
          clear HE q2 HIX HRD hzz hke
          go_wp2_with fail
          go_ret
          exact ⟨HB1.out, .inl ⟨_, _, _, HR2.out, rfl, (HDI.out.kp (HKQ.out.mono (fun c hc h => by omega))).isHS (ownsRow_heap HO.out (fun g hg => HKQ.out.block g (HO.out.lt g hg).2 (by have := (HO.out.lt g hg).1; omega))) (fun c _ h => h.1) (fun c h => h), HX.out⟩⟩

end Go.Proofs.Ythdaeblfehclcab
