/- hedge.read. -/
import Derived.Test.YthdaeblfehclcabSuf
namespace Go.Proofs.Ythdaeblfehclcab
open Go.RowKit Go.Shelf

def more (D : DL) (o : Option (Hg × Nat)) : Option (Hg × Nat) := o.map fun x => (dapp D x.1, x.2)
theorem more_nil (o : Option (Hg × Nat)) : more [] o = o := by cases o <;> rfl
theorem more_snoc (D : DL) (l : Int) (K : Hg) (kv : Value) (o : Option (Hg × Nat)) : more (D ++ [(l, K, kv)]) o = more D (o.map fun y => (.cons l K y.1, y.2)) := by
  cases o with
  | none => rfl
  | some x => simp [more, dapp_snoc]
theorem nx_one {s : ByteArray} {j : Nat} {c : Int} (h : byt s j = c) (hc : ¬ c = 0) (ha : alnum c = false) : nx s j = j + 1 := by
  have hl := byt_lt h hc
  rw [nx, if_neg (by omega), wEnd_stop (by rw [h]; exact ha)]
  omega

theorem seq_one (t : ByteArray) (c : UInt8) : seq t ⟨#[c]⟩ = (t.toList == [c]) := by
  unfold seq; rw [ByteArray.toList_eq (bs := ⟨#[c]⟩)]
theorem seq_nil (t : ByteArray) : seq t ⟨#[]⟩ = (t.toList == []) := by
  unfold seq; rw [ByteArray.toList_eq (bs := ⟨#[]⟩)]
theorem tokT {s : ByteArray} {j : Nat} (hj : j ≤ s.size) (c : UInt8) (hc : alnum (c.toNat : Int) = false) (h0 : ¬ (c.toNat : Int) = 0) (h : byt s j = c.toNat) : ((tok s j).toList == [c]) = true := by
  rw [← seq_one, tok_one hj c hc h0]; exact decide_eq_true h
theorem tokF {s : ByteArray} {j : Nat} (hj : j ≤ s.size) (c : UInt8) (hc : alnum (c.toNat : Int) = false) (h0 : ¬ (c.toNat : Int) = 0) (h : ¬ byt s j = c.toNat) : ((tok s j).toList == [c]) = false := by
  rw [← seq_one, tok_one hj c hc h0]; exact decide_eq_false h
theorem tokE {s : ByteArray} {j : Nat} (hj : j ≤ s.size) : ((tok s j).toList == []) = decide (j = s.size) := by
  rw [← seq_nil, tok_empty hj]
theorem eqB {l l' : List UInt8} (h : (l == l') = true) : l = l' := by simpa using h
theorem neB {l l' : List UInt8} (h : (l == l') = false) : ¬ l = l' := by simpa using h

theorem wf_small {m : Int} (h0 : 0 ≤ m) (h1 : m ≤ 1000000) : (Lit.int .i64 m).wf = true := by
  have e1 : IntKind.i64.min = -9223372036854775808 := by decide
  have e2 : IntKind.i64.max = 9223372036854775807 := by decide
  simp only [Lit.wf, Bool.and_eq_true, decide_eq_true_eq, e1, e2]
  omega

/-- How a parser gives up. -/
abbrev gaveUp : Ending := .panicked [{ v := .iface 96 (.agg #[.int .i64 4]), recovered := false }]

set_option maxRecDepth 100000 in
set_option maxHeartbeats 4000000 in
theorem read_any (s : ByteArray) (names : List ByteArray) (b : Nat) (vn : Value) (hs : s.size ≤ 1000000) (hnl : names.length ≤ 1000000) (hnb : ∀ b' o n c, vn = .slice (some ⟨b', o, none⟩) n c → b' ≠ b) (N : Nat) : ∀ (f i : Nat) (w : World), f < N → s.size + 1 ≤ f + i → i ≤ s.size →
    Blk w b 124 #[.string s, .int .i64 i] → IsStrs w vn names →
    Calls Try.prog 61 #[.pointer (some ⟨b, 0, none⟩), vn] w fun e w' => Kp (fun c => c ≠ b) w w' ∧
      ((∃ H e' r, rd s names f i = some (H, e') ∧ e = .returned r ∧ IsHS (fun c => w.heap.size ≤ c) w' r H ∧ Blk w' b 124 #[.string s, .int .i64 (e' : Nat)]) ∨ (rd s names f i = none ∧ e = gaveUp)) := by
  induction N with
  | zero => intro f i w hN; omega
  | succ N ih =>
    intro f i w hN hf hi hb hn
    have HPk := Lib.hid (fun i w hb hi => peek_ok b s i w hb hi hs)
    have HNx := Lib.hid (fun i w hb hi => next_ok b s i w hb hi hs)
    have HEx := Lib.hid (fun i w hb hi => expect_ok b s ⟨#[41]⟩ i w hb hi hs)
    have HPi := Lib.hid (fun i w hb hi hn => pick_ok b s i names vn w hb hi hs hn hnb)
    have HNm := Lib.hid (fun W (hk : Kp (fun c => c ≠ b) w W) => hn.kp hk (fun b' o n c e => hnb b' o n c e))
    obtain ⟨p, c, rfl, _, _, _, _⟩ := hn
    obtain ⟨i0, hinf, hz0, hz1, hz2⟩ := info_parts Try.infoNode
    have HI := Lib.hid ih
    have HB := Lib.hid hb
    have hblt := hb.lt
    clear ih hb hnb
    go_enter Try.func61, Try.ntmps61
    go_wp2_with fail
    go_loopw [5] (fun ov wr => ∃ (D : DL) (f' i' : Nat) (A : Option Addr) (cap : Nat), ov = .slice A D.length cap ∧ i' ≤ s.size ∧ s.size + 1 ≤ f' + i' ∧ f' ≤ f ∧ Hid (D.length ≤ i') ∧ Hid (Blk wr b 124 #[.string s, .int .i64 i']) ∧ Hid (rd s names f i = more D (rd s names f' i')) ∧
        Hid (wr.ownsRow w.heap.size 24 2 (.slice A D.length cap) D.length (dcells D)) ∧ Hid (DIn (fun c => w.heap.size ≤ c ∧ ¬ (Value.slice A D.length cap).ownBlock = some c) wr D) ∧ Hid (Kp (fun c => c ≠ b) w wr))
      (fun _ wr => s.size - (cellInt wr b).toNat)
    case atStart =>
      exact ⟨[], f, i, none, 0, rfl, hi, hf, Nat.le_refl _, Lib.hid (Nat.zero_le _), HB, Lib.hid (more_nil _).symm, Lib.hid (World.ownsRow_nil _ _ _ _), Lib.hid (fun x hx => by cases hx), Lib.hid (Kp.refl _ _)⟩
    case round =>
      obtain ⟨D, f', i', A, cap, rfl, hi', hf', hff, hDl, HX, HRD, HO, HDI, HK⟩ := hrel
      obtain ⟨g, rfl⟩ : ∃ g, f' = g + 1 := ⟨f' - 1, by omega⟩
      have HLT0 := Lib.hid (fun g hg => (HO.out.lt g hg).2)
      have HDl2 := Lib.hid hDl.out
      have hsk := skB_le (s := s) hi'
      have HID := Lib.hid (skB_idem (s := s) hi')
      by_cases hst : skB s i' = s.size ∨ byt s (skB s i') = 41
      · have HR2 : Hid (rd s names f i = some (dapp D .nil, skB s i')) := Lib.hid (by rw [HRD.out, rd_stop hst]; rfl)
        by_cases h41 : byt s (skB s i') = 41
        · have hq := tokT hsk.2 41 (by decide) (by decide) h41
          have hq2 := eqB hq
          clear hst h41 HRD
          go_wp2_with fail
          refine (HPk.out i' _ HX.out hi').mono ?_
          rintro e w1 ⟨rfl, hb1, hk1, hkp⟩
          have HB1 := Lib.hid hb1
          have HK1 := Lib.hid (HK.out.trans hkp)
          have HKP := Lib.hid hkp
          clear hb1 hkp
          go_wp2_with fail
          go_ret
          exact ⟨HK1.out, .inl ⟨_, _, _, HR2.out, rfl, (HDI.out.kp (HKP.out.mono (fun c hc h => by omega))).isHS (ownsRow_heap HO.out (fun g hg => HKP.out.block g (HO.out.lt g hg).2 (by have := (HO.out.lt g hg).1; omega))) (fun c _ h => h.1) (fun c h => h), HB1.out⟩⟩
        · have hq := tokF hsk.2 41 (by decide) (by decide) h41
          have hq2 := neB hq
          have hjs : skB s i' = s.size := by rcases hst with h | h; exact h; exact absurd h h41
          have he : ((tok s (skB s i')).toList == []) = true := by rw [tokE hsk.2]; exact decide_eq_true hjs
          have he2 := eqB he
          have he3 : (tok s (skB s i')).toList.isEmpty = true := by rw [he2]; rfl
          clear hst h41 HRD hjs
          go_wp2_with fail
          refine (HPk.out i' _ HX.out hi').mono ?_
          rintro e w1 ⟨rfl, hb1, hk1, hkp⟩
          have HB1 := Lib.hid hb1
          have HK1 := Lib.hid (HK.out.trans hkp)
          have HKP := Lib.hid hkp
          clear hb1 hkp
          go_wp2_with fail
          refine (HPk.out _ _ HB1.out hk1).mono ?_
          rw [HID.out]
          rintro e w2 ⟨rfl, hb2, hk2, hkp2⟩
          have HB2 := Lib.hid hb2
          have HK2 := Lib.hid (HK1.out.trans hkp2)
          have HKP := Lib.hid (HKP.out.trans hkp2)
          clear hb2 hkp2
          go_wp2_with fail
          go_ret
          exact ⟨HK2.out, .inl ⟨_, _, _, HR2.out, rfl, (HDI.out.kp (HKP.out.mono (fun c hc h => by omega))).isHS (ownsRow_heap HO.out (fun g hg => HKP.out.block g (HO.out.lt g hg).2 (by have := (HO.out.lt g hg).1; omega))) (fun c _ h => h.1) (fun c h => h), HB2.out⟩⟩
      · have h41 : ¬ byt s (skB s i') = 41 := fun h => hst (.inr h)
        have hjs : ¬ skB s i' = s.size := fun h => hst (.inl h)
        have hq := tokF hsk.2 41 (by decide) (by decide) h41
        have hq2 := neB hq
        have he : ((tok s (skB s i')).toList == []) = false := by rw [tokE hsk.2]; exact decide_eq_false hjs
        have he2 := neB he
        have he3 : (tok s (skB s i')).toList.isEmpty = false := by rw [List.isEmpty_eq_false_iff]; exact he2
        have HST := Lib.hid hst
        clear hst h41
        have hjlt : skB s i' < s.size := by omega
        clear hjs
        by_cases hm : idxS names (tok s (skB s i')) < 0
        · have HR2 : Hid (rd s names f i = none) := Lib.hid (by rw [HRD.out, rd_bad HST.out hm]; rfl)
          clear HRD HST
          go_wp2_with fail
          refine (HPk.out i' _ HX.out hi').mono ?_
          rintro e w1 ⟨rfl, hb1, hk1, hkp⟩
          have HB1 := Lib.hid hb1
          have HK1 := Lib.hid (HK.out.trans hkp)
          clear hb1 hkp
          go_wp2_with fail
          refine (HPk.out _ _ HB1.out hk1).mono ?_
          rw [HID.out]
          rintro e w2 ⟨rfl, hb2, hk2, hkp2⟩
          have HB2 := Lib.hid hb2
          have HK2 := Lib.hid (HK1.out.trans hkp2)
          clear hb2 hkp2
          go_wp2_with fail
          refine (HPi.out _ _ HB2.out hk1 (HNm.out _ HK2.out)).mono ?_
          rw [HID.out]
          rintro e w3 ⟨hb3, hkp3, ⟨h0, rfl⟩ | ⟨h0, rfl⟩⟩
          · omega
          · have HK3 := Lib.hid (HK2.out.trans hkp3)
            clear hb3 hkp3
            go_wp2_with fail
            exact ⟨rfl, HK3.out, .inr ⟨HR2.out, rfl⟩⟩
        · have hm0 : 0 ≤ idxS names (tok s (skB s i')) := by omega
          have hml : idxS names (tok s (skB s i')) ≤ 1000000 := by
            rcases idxS_lt names (tok s (skB s i')) with h | h
            · omega
            · rw [h]; simp [idxS]
          clear hm
          obtain ⟨m, hmm⟩ : ∃ m, m = idxS names (tok s (skB s i')) := ⟨_, rfl⟩
          rw [← hmm] at hm0 hml
          have hn1 := nx_gt hjlt
          have hn2 := (nx_le (s := s) (j := skB s i') hsk.2).2
          obtain ⟨a1, ha1⟩ : ∃ a, a = nx s (skB s i') := ⟨_, rfl⟩
          rw [← ha1] at hn1 hn2
          have hs2 := skB_le (s := s) hn2
          have HID2 := Lib.hid (skB_idem (s := s) hn2)
          have HMM := Lib.hid hmm
          have HA1 := Lib.hid ha1
          clear hmm ha1
          by_cases h40 : byt s (skB s a1) = 40
          · have hq3 := tokT hs2.2 40 (by decide) (by decide) h40
            have hq4 := eqB hq3
            have H40 := Lib.hid h40
            clear h40
            go_wp2_with fail
            refine (HPk.out i' _ HX.out hi').mono ?_
            rintro e w1 ⟨rfl, hb1, hk1, hkp⟩
            have HB1 := Lib.hid hb1
            have HK1 := Lib.hid (HK.out.trans hkp)
            have HKP1 := Lib.hid hkp
            clear hb1 hkp
            go_wp2_with fail
            refine (HPk.out _ _ HB1.out hk1).mono ?_
            rw [HID.out]
            rintro e w2 ⟨rfl, hb2, hk2, hkp2⟩
            have HB2 := Lib.hid hb2
            have HK2 := Lib.hid (HK1.out.trans hkp2)
            have HKP2 := Lib.hid (HKP1.out.trans hkp2)
            clear hb2 hkp2 hk2 HKP1
            go_wp2_with fail
            refine (HPi.out _ _ HB2.out hk1 (HNm.out _ HK2.out)).mono ?_
            rw [HID.out, ← HMM.out, ← HA1.out]
            rintro e w3 ⟨hb3, hkp3, ⟨h0, rfl⟩ | ⟨h0, rfl⟩⟩
            rotate_left
            · omega
            have HB3 := Lib.hid hb3
            have HK3 := Lib.hid (HK2.out.trans hkp3)
            have HKP3 := Lib.hid (HKP2.out.trans hkp3)
            clear hb3 hkp3 HKP2 hk1 h0
            go_wp2_with fail
            have hltb := HB3.out.lt
            have hszw := HK.out.size
            refine (HPk.out a1 _ (HB3.out.alloc _) hn2).mono ?_
            rintro e w4 ⟨rfl, hb4, hk4, hkp4⟩
            have HB4 := Lib.hid hb4
            have HK4 := Lib.hid ((HK3.out.alloc _).trans hkp4)
            have HKP4 := Lib.hid ((HKP3.out.alloc _).trans hkp4)
            have HX4 := Lib.hid ((Blk.new w3 24 #[.int .i64 m, .slice none 0 0]).kp hkp4 (by omega))
            have hsz3 := HKP3.out.size
            clear hb4 hkp4 HB3 HK3 HKP3 hk4
            go_wp2_with fail
            refine (HNx.out _ _ HB4.out hs2.2).mono ?_
            rw [HID2.out, nx_one (H40.out) (by decide) (by decide)]
            rintro e w5 ⟨rfl, hb5, hk5, hkp5⟩
            have HB5 := Lib.hid hb5
            have HK5 := Lib.hid (HK4.out.trans hkp5)
            have HKP5 := Lib.hid (HKP4.out.trans hkp5)
            have HX5 := Lib.hid (HX4.out.kp hkp5 (by omega))
            have hsz5 := HX5.out.lt
            clear hb5 hkp5 HB4 HK4 HKP4 HX4 hk5
            go_wp2_with fail
            have hj2 := byt_lt H40.out (by decide)
            cases hk : rd s names g (skB s a1 + 1) with
            | none =>
              have HR2 : Hid (rd s names f i = none) := Lib.hid (by rw [HRD.out, rd_kid HST.out (by rw [← HMM.out]; exact hm0) (by rw [← HA1.out]; exact H40.out), ← HA1.out, hk]; rfl)
              refine (HI.out g (skB s a1 + 1) _ (by omega) (by omega) (by omega) HB5.out (HNm.out _ HK5.out)).mono ?_
              rintro e w6 ⟨hkp6, ⟨H6, e6, r6, h6, _⟩ | ⟨_, rfl⟩⟩
              · rw [hk] at h6; simp at h6
              · have HK6 := Lib.hid (HK5.out.trans hkp6)
                clear hk hkp6
                go_wp2_with fail
                exact ⟨rfl, HK6.out, .inr ⟨HR2.out, rfl⟩⟩
            | some y =>
              obtain ⟨K, e1⟩ := y
              have hre := rd_end g _ K e1 (by omega) hk
              obtain ⟨hre1, hre2, hre3, hre4, _⟩ := hre
              refine (HI.out g (skB s a1 + 1) _ (by omega) (by omega) (by omega) HB5.out (HNm.out _ HK5.out)).mono ?_
              rintro e w6 ⟨hkp6, ⟨H6, e6, r6, h6, rfl, hv6, hb6⟩ | ⟨h6, _⟩⟩
              rotate_left
              · rw [hk] at h6; simp at h6
              rw [hk] at h6
              simp only [Option.some.injEq, Prod.mk.injEq] at h6
              obtain ⟨rfl, rfl⟩ := h6
              have HV6 := Lib.hid hv6
              obtain ⟨kp6, kc6, rfl, _, _, _⟩ := hv6
              have hx6 := HX5.out.kp hkp6 (by omega)
              have z1 : w6.cell? ⟨w3.heap.size, 1, none⟩ = some (.slice none 0 0) := by rw [hx6.cell]; rfl
              have z2 := hx6.frozen 1
              have z3 := hx6.lt
              have HB6 := Lib.hid hb6
              have HK6 := Lib.hid ((HK5.out.trans hkp6).setCell (p := ⟨w3.heap.size, 1, none⟩) (fun _ => by have := HK.out.size; simp; omega) (.slice kp6 K.len kc6))
              have HKP6 := Lib.hid ((HKP5.out.trans hkp6).setCell (p := ⟨w3.heap.size, 1, none⟩) (fun _ => by simp; omega) (.slice kp6 K.len kc6))
              have HX6 := Lib.hid (hx6.set_ 1 (.slice kp6 K.len kc6))
              have hb6' := hb6.far (p := ⟨w3.heap.size, 1, none⟩) (by simp; omega) (.slice kp6 K.len kc6)
              have HB6' := Lib.hid hb6'
              have HV6' : Hid (IsHS (fun c => w3.heap.size < c) (w6.setCell ⟨w3.heap.size, 1, none⟩ (.slice kp6 K.len kc6)) (.slice kp6 K.len kc6) K) :=
                Lib.hid ((HV6.out.mono (S' := fun c => w3.heap.size < c) (fun c hc h => by omega)).kp ((Kp.refl _ _).setCell (p := ⟨w3.heap.size, 1, none⟩) (fun h => by simp at h) _))
              have HKD := Lib.hid hk
              have HE3 := Lib.hid hre3
              clear hk hkp6 hb6 hx6 hb6' HB5 HK5 HKP5 HX5 HV6 HB6 hre3
              by_cases hp : byt s e1 = 41
              · have hlt3 := byt_lt hp (by decide)
                have HR3 : Hid (rd s names f i = more D ((rd s names g (e1 + 1)).map fun y => (.cons m K y.1, y.2))) := Lib.hid (by
                  rw [HRD.out, rd_kid HST.out (by rw [← HMM.out]; exact hm0) (by rw [← HA1.out]; exact H40.out), ← HA1.out, HKD.out, ← HMM.out]
                  simp only [Option.bind_some]
                  rw [if_pos hp])
                have HP := Lib.hid hp
                clear hp hre4
                go_wp2_with fail
                refine (HEx.out e1 _ HB6'.out hre2).mono ?_
                rw [HE3.out, nx_one HP.out (by decide) (by decide), tok_one hre2 41 (by decide) (by decide), decide_eq_true (show byt s e1 = ((41 : UInt8).toNat : Int) from HP.out)]
                rintro e w7 ⟨hb7, hkp7, ⟨_, rfl⟩ | ⟨h7, _⟩⟩
                rotate_left
                · simp at h7
                have HB7 := Lib.hid hb7
                have HK7 := Lib.hid (HK6.out.trans hkp7)
                have HKP7 := Lib.hid (HKP6.out.trans hkp7)
                have HX7 : Hid (Blk w7 w3.heap.size 24 #[.int .i64 m, .slice kp6 K.len kc6]) := Lib.hid (HX6.out.kp hkp7 (by omega))
                have HKV := Lib.hid (HV6'.out.kp (hkp7.mono (fun c hc h => by omega)))
                clear hb7 hkp7 HK6 HKP6 HX6 HV6' HB6' z1 z2 z3
                have hlt7 := HX7.out.lt
                have hsz7 := HKP7.out.size
                have hbl7 := HB7.out.lt
                have x0 : (w7).cell? ⟨w3.heap.size, 0, none⟩ = some (.int .i64 m) := by rw [HX7.out.cell]; rfl
                have x1 : (w7).cell? ⟨w3.heap.size, 1, none⟩ = some (.slice kp6 K.len kc6) := by rw [HX7.out.cell]; rfl
                have HO7 := Lib.hid (ownsRow_heap HO.out (fun g hg => HKP7.out.block g (HO.out.lt g hg).2 (by have := (HO.out.lt g hg).1; omega)))
                have HD7 : Hid (DIn (fun c => w.heap.size ≤ c ∧ ¬ (Value.slice A D.length cap).ownBlock = some c ∧ c < (w7).heap.size) (w7) (D ++ [(m, K, .slice kp6 K.len kc6)])) :=
                  Lib.hid ((((HDI.out.kp (HKP7.out.mono (fun c hc h => by omega))).mono (fun c hc h => ⟨h.1, h.2, hc⟩))).snoc ⟨wf_small hm0 hml, HKV.out.mono (fun c hc h => ⟨by omega, fun e => by have := (HO.out.lt c e).2; omega, hc⟩)⟩)
                have HLT7 := Lib.hid HO7.out.lt
                have hDl := HDl2.out
                clear HDI HO
                go_wp2_with (at_builtin; refine wpList_append_own_at _ rfl _ _ 22 rfl w.heap.size 24 i0 _ 2 32 Try.underlying22 hinf hz0 hz1 hz2 rfl (by decide) _ _ _ rfl (HO7.out.alloc _) ⟨(w7).heap.size, 0, none⟩ 1 1 [.int .i64 m, .slice kp6 K.len kc6] rfl rfl ?c1 ?c2 ?c3 ?c4 ?c5 ?_)
                case c1 => exact two_c1 _ _ _ _ _ rfl
                case c2 => simp [Value.oneCell']
                case c3 => simp only [maxLen]; omega
                case c4 => omega
                case c5 => simp; omega
                intro v' w9 hown9 hgrow _ hat
                obtain ⟨g', cap', rfl⟩ := ownsRow_succ hown9
                have hkw9 : Kp (fun c => c ≠ b) w w9 := (HK7.out.alloc _).grown hgrow (fun k e h => (HLT7.out k e).1)
                have hb9 : Blk w9 b 124 #[.string s, .int .i64 ((e1 + 1) : Nat)] := (hgrow.block b (by simp; omega) (fun e => by have := (HLT7.out b e.symm).1; omega)).trans (HB7.out.alloc _)
                have hO9 : w9.ownsRow w.heap.size 24 2 (.slice (some ⟨g', 0, none⟩) (D.length + 1) cap') (D.length + 1) (dcells (D ++ [(m, K, .slice kp6 K.len kc6)])) := by rw [dcells_snoc]; exact hown9
                have hD9 : DIn (fun c => w.heap.size ≤ c ∧ ¬ (Value.slice (some ⟨g', 0, none⟩) (D.length + 1) cap').ownBlock = some c) w9 (D ++ [(m, K, .slice kp6 K.len kc6)]) :=
                  (HD7.out.kp (((Kp.refl _ (w7)).alloc _).grown hgrow (fun k e hS => absurd e hS.2.1))).mono (fun c hc h => ⟨h.1, fun e => by
                    rcases hat with hat | hat
                    · rw [hat] at e; exact h.2.1 e
                    · rw [hat] at e; simp at e; omega⟩)
                have HO9 := Lib.hid hO9
                have HD9 := Lib.hid hD9
                have HB9 := Lib.hid hb9
                have HK9 := Lib.hid hkw9
                clear hown9 hgrow hat hO9 hD9 hb9 hkw9 HO7 HD7 HX7 HKV HK7 HKP7 HB7 x0 x1
                go_wp2_with fail
                go_roundw
                case rel =>
                  refine ⟨D ++ [(m, K, .slice kp6 K.len kc6)], g, (e1 + 1), some ⟨g', 0, none⟩, cap', by simp, by omega, by omega, by omega, Lib.hid (by simp; omega), HB9, Lib.hid ?_, ?_, ?_, HK9⟩
                  · rw [HR3.out, more_snoc]
                  · rw [show (D ++ [(m, K, Value.slice kp6 K.len kc6)]).length = D.length + 1 by simp]
                    exact HO9
                  · rw [show (D ++ [(m, K, Value.slice kp6 K.len kc6)]).length = D.length + 1 by simp]
                    exact HD9
                case measure =>
                  have e1 := cellInt_blk HX.out
                  have e2 := cellInt_blk HB9.out
                  rw [e1, e2]
                  omega
              · have HR2 : Hid (rd s names f i = none) := Lib.hid (by
                  rw [HRD.out, rd_kid HST.out (by rw [← HMM.out]; exact hm0) (by rw [← HA1.out]; exact H40.out), ← HA1.out, HKD.out]
                  simp only [Option.bind_some]
                  rw [if_neg hp]; rfl)
                have HP := Lib.hid hp
                clear hp hre4
                go_wp2_with fail
                refine (HEx.out e1 _ HB6'.out hre2).mono ?_
                rw [HE3.out, tok_one hre2 41 (by decide) (by decide), decide_eq_false (show ¬ byt s e1 = ((41 : UInt8).toNat : Int) from HP.out)]
                rintro e w7 ⟨hb7, hkp7, ⟨h7, _⟩ | ⟨_, rfl⟩⟩
                · simp at h7
                have HK7 := Lib.hid (HK6.out.trans hkp7)
                clear hb7 hkp7
                go_wp2_with fail
                exact ⟨rfl, HK7.out, .inr ⟨HR2.out, rfl⟩⟩
          · have hq3 := tokF hs2.2 40 (by decide) (by decide) h40
            have hq4 := neB hq3
            have HR3 : Hid (rd s names f i = more D ((rd s names g (skB s a1)).map fun y => (.cons m .nil y.1, y.2))) := Lib.hid (by
              rw [HRD.out, rd_leaf HST.out (by rw [← HMM.out]; exact hm0) (by rw [← HA1.out]; exact h40), ← HMM.out, ← HA1.out, rd_skB hn2])
            clear h40
            go_wp2_with fail
            refine (HPk.out i' _ HX.out hi').mono ?_
            rintro e w1 ⟨rfl, hb1, hk1, hkp⟩
            have HB1 := Lib.hid hb1
            have HK1 := Lib.hid (HK.out.trans hkp)
            have HKP1 := Lib.hid hkp
            clear hb1 hkp
            go_wp2_with fail
            refine (HPk.out _ _ HB1.out hk1).mono ?_
            rw [HID.out]
            rintro e w2 ⟨rfl, hb2, hk2, hkp2⟩
            have HB2 := Lib.hid hb2
            have HK2 := Lib.hid (HK1.out.trans hkp2)
            have HKP2 := Lib.hid (HKP1.out.trans hkp2)
            clear hb2 hkp2 hk2 HKP1
            go_wp2_with fail
            refine (HPi.out _ _ HB2.out hk1 (HNm.out _ HK2.out)).mono ?_
            rw [HID.out, ← HMM.out, ← HA1.out]
            rintro e w3 ⟨hb3, hkp3, ⟨h0, rfl⟩ | ⟨h0, rfl⟩⟩
            rotate_left
            · omega
            have HB3 := Lib.hid hb3
            have HK3 := Lib.hid (HK2.out.trans hkp3)
            have HKP3 := Lib.hid (HKP2.out.trans hkp3)
            clear hb3 hkp3 HKP2 hk1 h0
            go_wp2_with fail
            have hltb := HB3.out.lt
            have hszw := HK.out.size
            refine (HPk.out a1 _ (HB3.out.alloc _) hn2).mono ?_
            rintro e w4 ⟨rfl, hb4, hk4, hkp4⟩
            have HB7 := Lib.hid hb4
            have HK7 := Lib.hid ((HK3.out.alloc _).trans hkp4)
            have HKP7 := Lib.hid ((HKP3.out.alloc _).trans hkp4)
            have HX7 := Lib.hid ((Blk.new w3 24 #[.int .i64 m, .slice none 0 0]).kp hkp4 (by omega))
            have hsz3 := HKP3.out.size
            have HKV : Hid (IsHS (fun c => w3.heap.size < c) w4 (.slice none 0 0) .nil) := Lib.hid ⟨none, 0, rfl, by simp [Hg.len], by simp [maxLen], fun h => absurd rfl h⟩
            clear hb4 hkp4 HB3 HK3 HKP3 hk4
            have hlt7 := HX7.out.lt
            have hsz7 := HKP7.out.size
            have hbl7 := HB7.out.lt
            have x0 : (w4).cell? ⟨w3.heap.size, 0, none⟩ = some (.int .i64 m) := by rw [HX7.out.cell]; rfl
            have x1 : (w4).cell? ⟨w3.heap.size, 1, none⟩ = some (.slice none 0 0) := by rw [HX7.out.cell]; rfl
            have HO7 := Lib.hid (ownsRow_heap HO.out (fun g hg => HKP7.out.block g (HO.out.lt g hg).2 (by have := (HO.out.lt g hg).1; omega)))
            have HD7 : Hid (DIn (fun c => w.heap.size ≤ c ∧ ¬ (Value.slice A D.length cap).ownBlock = some c ∧ c < (w4).heap.size) (w4) (D ++ [(m, Hg.nil, .slice none 0 0)])) :=
              Lib.hid ((((HDI.out.kp (HKP7.out.mono (fun c hc h => by omega))).mono (fun c hc h => ⟨h.1, h.2, hc⟩))).snoc ⟨wf_small hm0 hml, HKV.out.mono (fun c hc h => ⟨by omega, fun e => by have := (HO.out.lt c e).2; omega, hc⟩)⟩)
            have HLT7 := Lib.hid HO7.out.lt
            have hDl := HDl2.out
            clear HDI HO
            go_wp2_with (at_builtin; refine wpList_append_own_at _ rfl _ _ 22 rfl w.heap.size 24 i0 _ 2 32 Try.underlying22 hinf hz0 hz1 hz2 rfl (by decide) _ _ _ rfl (HO7.out.alloc _) ⟨(w4).heap.size, 0, none⟩ 1 1 [.int .i64 m, .slice none 0 0] rfl rfl ?c1 ?c2 ?c3 ?c4 ?c5 ?_)
            case c1 => exact two_c1 _ _ _ _ _ rfl
            case c2 => simp [Value.oneCell']
            case c3 => simp only [maxLen]; omega
            case c4 => omega
            case c5 => simp; omega
            intro v' w9 hown9 hgrow _ hat
            obtain ⟨g', cap', rfl⟩ := ownsRow_succ hown9
            have hkw9 : Kp (fun c => c ≠ b) w w9 := (HK7.out.alloc _).grown hgrow (fun k e h => (HLT7.out k e).1)
            have hb9 : Blk w9 b 124 #[.string s, .int .i64 ((skB s a1) : Nat)] := (hgrow.block b (by simp; omega) (fun e => by have := (HLT7.out b e.symm).1; omega)).trans (HB7.out.alloc _)
            have hO9 : w9.ownsRow w.heap.size 24 2 (.slice (some ⟨g', 0, none⟩) (D.length + 1) cap') (D.length + 1) (dcells (D ++ [(m, Hg.nil, .slice none 0 0)])) := by rw [dcells_snoc]; exact hown9
            have hD9 : DIn (fun c => w.heap.size ≤ c ∧ ¬ (Value.slice (some ⟨g', 0, none⟩) (D.length + 1) cap').ownBlock = some c) w9 (D ++ [(m, Hg.nil, .slice none 0 0)]) :=
              (HD7.out.kp (((Kp.refl _ (w4)).alloc _).grown hgrow (fun k e hS => absurd e hS.2.1))).mono (fun c hc h => ⟨h.1, fun e => by
                rcases hat with hat | hat
                · rw [hat] at e; exact h.2.1 e
                · rw [hat] at e; simp at e; omega⟩)
            have HO9 := Lib.hid hO9
            have HD9 := Lib.hid hD9
            have HB9 := Lib.hid hb9
            have HK9 := Lib.hid hkw9
            clear hown9 hgrow hat hO9 hD9 hb9 hkw9 HO7 HD7 HX7 HKV HK7 HKP7 HB7 x0 x1
            go_wp2_with fail
            go_roundw
            case rel =>
              refine ⟨D ++ [(m, Hg.nil, .slice none 0 0)], g, (skB s a1), some ⟨g', 0, none⟩, cap', by simp, by omega, by omega, by omega, Lib.hid (by simp; omega), HB9, Lib.hid ?_, ?_, ?_, HK9⟩
              · rw [HR3.out, more_snoc]
              · rw [show (D ++ [(m, Hg.nil, Value.slice none 0 0)]).length = D.length + 1 by simp]
                exact HO9
              · rw [show (D ++ [(m, Hg.nil, Value.slice none 0 0)]).length = D.length + 1 by simp]
                exact HD9
            case measure =>
              have e1 := cellInt_blk HX.out
              have e2 := cellInt_blk HB9.out
              rw [e1, e2]
              omega

end Go.Proofs.Ythdaeblfehclcab
