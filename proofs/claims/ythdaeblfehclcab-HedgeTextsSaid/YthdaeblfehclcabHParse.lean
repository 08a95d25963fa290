/- hedge.Parse. -/
import Derived.Test.YthdaeblfehclcabHRead
import Derived.Recover
import Derived.Defers
namespace Go.Proofs.Ythdaeblfehclcab
open Go.RowKit Go.Shelf

set_option maxHeartbeats 1000000 in
theorem newReader_ok (s : ByteArray) (w : World) : Calls Try.prog 60 #[.string s] w fun e w' => e = .returned (.pointer (some ⟨w.heap.size, 0, none⟩)) ∧ w' = w.alloc (.cells #[.string s, .int .i64 0] 124) := by
  go_enter Try.func60, Try.ntmps60
  go_wp2_with fail
  go_ret
  exact ⟨rfl, rfl⟩

theorem assertF (v : Value) (w : World) : (Instr.typeAssert (.iface 96 v) 20 96 true).run Try.prog w = .ok (.tuple #[v, .bool true]) w := by kernel_rfl
set_option maxRecDepth 100000 in
set_option maxHeartbeats 1000000 in
theorem cause_ok (x : Int) (w : World) : Calls Try.prog 59 #[.iface 96 (.agg #[.int .i64 x])] w fun e w' => e = .returned (.int .i64 x) ∧ Below w.heap.size w w' := by
  have hta := assertF
  go_enter Try.func59, Try.ntmps59
  go_wp2_with fail
  go_ret
  exact ⟨rfl, (Below.refl _ w).alloc (Nat.le_refl _) _⟩

set_option maxRecDepth 100000 in
set_option maxHeartbeats 1000000 in
theorem catch_panicking (bh be : Nat) (x y : Int) (hv : Value) (older : List PanicEntry) (w : World) (hh : Blk w bh 22 #[hv]) (he : Blk w be 30 #[.int .i64 y]) (hne : ¬ bh = be) :
    CallsD Try.prog 58 #[.pointer (some ⟨bh, 0, none⟩), .pointer (some ⟨be, 0, none⟩)] (.panicking ({ v := .iface 96 (.agg #[.int .i64 x]), recovered := false } :: older)) w fun e u' w' =>
      e = .returned (.tuple #[]) ∧ u' = .panicking ({ v := .iface 96 (.agg #[.int .i64 x]), recovered := true } :: older) ∧ Blk w' bh 22 #[.slice none 0 0] ∧ Blk w' be 30 #[.int .i64 x] ∧ Kp (fun c => c ≠ bh ∧ c ≠ be) w w' := by
  refine callsD_of_wpS Try.func58 rfl fun c₀ cs hu => ?_
  apply wpS_seq
  apply wpS_region
  simp [wpOpsS, go_sem, recoverD, hu, Try.ntmps58, Exit.thenS]
  have HC := Lib.hid (cause_ok x w)
  refine wpS_of_wp ?_
  simp only [List.size_toArray, List.length_cons, List.length_nil, Nat.reduceAdd, Nat.reduceSub, Array.replicate_succ, Array.replicate_zero, List.push_toArray, List.append_toArray, List.nil_append, List.cons_append, List.setIfInBounds_toArray, List.set_cons_succ, List.set_cons_zero]
  have z0 : w.cell? ⟨bh, 0, none⟩ = some hv := by rw [hh.cell]; rfl
  have z1 : w.cell? ⟨be, 0, none⟩ = some (.int .i64 y) := by rw [he.cell]; rfl
  go_wp2_with fail
  refine HC.out.mono ?_
  rintro e w1 ⟨rfl, hb1⟩
  have h1 := hh.below hb1 hh.lt
  have h2 := he.below hb1 he.lt
  have x0 : w1.cell? ⟨bh, 0, none⟩ = some hv := by rw [h1.cell]; rfl
  have x1 : w1.cell? ⟨be, 0, none⟩ = some (.int .i64 y) := by rw [h2.cell]; rfl
  have x2 := h1.frozen 0
  have x3 := h2.frozen 0
  have x4 := h1.lt
  have x5 := h2.lt
  have HB1 := Lib.hid hb1
  have H1 := Lib.hid h1
  have H2 := Lib.hid h2
  clear hb1 h1 h2 z0 z1
  have hne2 : ¬ be = bh := fun e => hne e.symm
  go_wp2_with fail
  have F1 := Lib.hid ((H1.out.set_ 0 (.slice none 0 0)).far (p := ⟨be, 0, none⟩) hne (.int .i64 x))
  have F2 := Lib.hid ((H2.out.far (p := ⟨bh, 0, none⟩) hne2 (.slice none 0 0)).set_ 0 (.int .i64 x))
  have F3 : Hid (Kp (fun c => ¬ c = bh ∧ ¬ c = be) w ((w1.setCell ⟨bh, 0, none⟩ (.slice none 0 0)).setCell ⟨be, 0, none⟩ (.int .i64 x))) := Lib.hid (((Kp.of_below HB1.out (fun c hc _ => hc)).setCell (p := ⟨bh, 0, none⟩) (fun h => absurd rfl h.1) _).setCell (p := ⟨be, 0, none⟩) (fun h => absurd rfl h.2) _)
  simp [bodyPostS, results, Try.results58]
  exact ⟨F1.out, F2.out, F3.out⟩

set_option maxRecDepth 100000 in
set_option maxHeartbeats 1000000 in
theorem catch_idle (bh be : Nat) (w : World) :
    CallsD Try.prog 58 #[.pointer (some ⟨bh, 0, none⟩), .pointer (some ⟨be, 0, none⟩)] .returning w fun e u' w' => e = .returned (.tuple #[]) ∧ u' = .returning ∧ w' = w := by
  refine callsD_of_wpS Try.func58 rfl fun c₀ cs hu => ?_
  apply wpS_seq
  apply wpS_region
  simp [wpOpsS, go_sem, recoverD, hu, Try.ntmps58, Exit.thenS]
  refine wpS_of_wp ?_
  simp only [List.size_toArray, List.length_cons, List.length_nil, Nat.reduceAdd, Nat.reduceSub, Array.replicate_succ, Array.replicate_zero, List.push_toArray, List.append_toArray, List.nil_append, List.cons_append, List.setIfInBounds_toArray, List.set_cons_succ, List.set_cons_zero]
  go_wp2_with fail
  cases c₀
  simp_all [bodyPostS, results, Try.results58]

theorem isH_nil (w : World) : IsH w (.slice none 0 0) .nil := ⟨none, 0, rfl, by simp [Hg.len], by simp [maxLen], fun h => absurd rfl h⟩
theorem paHg_bad {n : Int} {names : List ByteArray} {s : ByteArray} {x : Int} (h : paErr n names s = x) (hx : ¬ x = 0) : paHg n names s = .nil := by
  rw [paHg, if_neg (by rw [h]; exact hx)]

set_option maxRecDepth 100000 in
set_option maxHeartbeats 4000000 in
theorem parse_ok (n : Int) (names : List ByteArray) (vn : Value) (s : ByteArray) (w : World) (hn : IsStrs w vn names) (hs : s.size ≤ 1000000) :
    Calls Try.prog 33 #[.int .i64 n, vn, .string s] w fun e w' => ∃ r, e = .returned (.tuple #[r, .int .i64 (paErr n names s)]) ∧ IsH w' r (paHg n names s) ∧ Below w.heap.size w w' := by
  have HNS := Lib.hid hn
  have HNM := Lib.hid (fun W (hb : Below w.heap.size w W) => names_ok names n vn W (hn.below hb))
  have HVL := Lib.hid (fun W => validLabels_ok n W)
  obtain ⟨pn, cn, rfl, _, _, hnc, _⟩ := hn
  have HNC := Lib.hid hnc
  clear hnc
  have hmf : ∀ (fn : Fn) (first cap : Array Value) (w : World), (Instr.makeFunc fn first cap).run Try.prog w = .ok (.func fn first cap) w := fun _ _ _ _ => rfl
  have HB0 := Lib.hid (((Below.refl _ w).alloc (Nat.le_refl _) (.cells #[.slice none 0 0] 22)).alloc (by simp) (.cells #[.int .i64 0] 30))
  by_cases hv : vlab n = true
  rotate_left
  · have HE : Hid (paErr n names s = 6) := Lib.hid (by rw [paErr, if_neg hv])
    have hv2 : vlab n = false := by simpa using hv
    rw [hv2] at HVL
    clear hv hv2
    go_enter_defers Try.func33, Try.ntmps33
    go_wp2_with fail
    refine (HVL.out _).mono ?_
    rintro e w1 ⟨rfl, rfl⟩
    go_wp2_with fail
    simp [bodyPostD, Leaves, settle, results, Try.results33, go_sem]
    exact ⟨_, ⟨rfl, HE.out.symm⟩, by rw [paHg_bad HE.out (by decide)]; exact isH_nil _, ((Below.refl _ w).alloc (Nat.le_refl _) _).alloc (by simp) _⟩
  · rw [hv] at HVL
    have HVV := Lib.hid hv
    clear hv
    by_cases hb : namesB names n = true
    rotate_left
    · have HE : Hid (paErr n names s = 4) := Lib.hid (by rw [paErr, if_pos HVV.out, if_neg hb])
      have hb2 : namesB names n = false := by simpa using hb
      rw [hb2] at HNM
      clear hb hb2
      go_enter_defers Try.func33, Try.ntmps33
      go_wp2_with fail
      refine (HVL.out _).mono ?_
      rintro e w1 ⟨rfl, rfl⟩
      go_wp2_with fail
      refine (HNM.out _ HB0.out).mono ?_
      rintro e w1 ⟨rfl, rfl⟩
      go_wp2_with fail
      simp [bodyPostD, Leaves, settle, results, Try.results33, go_sem]
      exact ⟨_, ⟨rfl, HE.out.symm⟩, by rw [paHg_bad HE.out (by decide)]; exact isH_nil _, ((Below.refl _ w).alloc (Nat.le_refl _) _).alloc (by simp) _⟩
    · have HNB := Lib.hid hb
      rw [hb] at HNM
      clear hb
      by_cases h16 : s.size ≤ 16384
      rotate_left
      · have HE : Hid (paErr n names s = 3) := Lib.hid (by rw [paErr, if_pos HVV.out, if_pos HNB.out, if_neg h16])
        have h16' : 16384 < s.size := by omega
        clear h16
        go_enter_defers Try.func33, Try.ntmps33
        go_wp2_with fail
        refine (HVL.out _).mono ?_
        rintro e w1 ⟨rfl, rfl⟩
        go_wp2_with fail
        refine (HNM.out _ HB0.out).mono ?_
        rintro e w1 ⟨rfl, rfl⟩
        go_wp2_with fail
        simp [bodyPostD, Leaves, settle, results, Try.results33, go_sem]
        exact ⟨_, ⟨rfl, HE.out.symm⟩, by rw [paHg_bad HE.out (by decide)]; exact isH_nil _, ((Below.refl _ w).alloc (Nat.le_refl _) _).alloc (by simp) _⟩
      · have HE0 : Hid (paErr n names s = prE (prs names s)) := Lib.hid (by rw [paErr, if_pos HVV.out, if_pos HNB.out, if_pos h16])
        have HNR := Lib.hid (fun w => newReader_ok s w)
        go_enter_defers Try.func33, Try.ntmps33
        go_wp2_with fail
        refine (HVL.out _).mono ?_
        rintro e w1 ⟨rfl, rfl⟩
        go_wp2_with fail
        refine (HNM.out _ HB0.out).mono ?_
        rintro e w1 ⟨rfl, rfl⟩
        go_wp2_with fail
        have hsm := namesB_small HNB.out
        have hn1 : 1 ≤ names.length := by
          have := HVV.out
          simp only [vlab, Bool.and_eq_true, decide_eq_true_eq] at this
          omega
        have hn2 : names.length ≤ 1000000 := by
          have := HVV.out
          simp only [vlab, Bool.and_eq_true, decide_eq_true_eq] at this
          omega
        have hnb : ∀ b' o n c, Value.slice pn names.length cn = .slice (some ⟨b', o, none⟩) n c → b' ≠ w.heap.size + 1 + 1 := by
          intro b' o n' c' e
          obtain ⟨b, o2, hp, hcl⟩ := HNC.out (fun h => by simp [h] at hn1)
          have := World.block_lt_of_cell? _ _ (hcl 0 _ (List.getElem?_eq_getElem hn1))
          simp only [Value.slice.injEq, hp, Option.some.injEq, Addr.mk.injEq] at e
          simp only at this
          omega
        have HRd := Lib.hid (read_any s names (w.heap.size + 1 + 1) _ hs hn2 hnb (s.size + 2) (s.size + 1) 0 (((w.alloc (.cells #[.slice none 0 0] 22)).alloc (.cells #[.int .i64 0] 30)).alloc (.cells #[.string s, .int .i64 0] 124)) (by omega) (by omega) (by omega)
          (by have := Blk.new ((w.alloc (.cells #[.slice none 0 0] 22)).alloc (.cells #[.int .i64 0] 30)) 124 #[.string s, .int .i64 0]; simpa using this) (HNS.out.below (HB0.out.alloc (by simp; omega) _)))
        have HBh := Lib.hid (((Blk.new w 22 #[.slice none 0 0]).alloc (.cells #[.int .i64 0] 30)).alloc (.cells #[.string s, .int .i64 0] 124))
        have HBe : Hid (Blk (((w.alloc (.cells #[.slice none 0 0] 22)).alloc (.cells #[.int .i64 0] 30)).alloc (.cells #[.string s, .int .i64 0] 124)) (w.heap.size + 1) 30 #[.int .i64 0]) := Lib.hid (by
          have := (Blk.new (w.alloc (.cells #[.slice none 0 0] 22)) 30 #[.int .i64 0]).alloc (.cells #[.string s, .int .i64 0] 124); simpa using this)
        have HB2 : Hid (Below w.heap.size w (((w.alloc (.cells #[.slice none 0 0] 22)).alloc (.cells #[.int .i64 0] 30)).alloc (.cells #[.string s, .int .i64 0] 124))) := Lib.hid (HB0.out.alloc (by simp; omega) _)
        clear hnb hsm
        cases hrd : rd s names (s.size + 1) 0 with
        | none =>
          have HE : Hid (paErr n names s = 4) := Lib.hid (by rw [HE0.out, prs_none hrd]; rfl)
          have HRD := Lib.hid hrd
          clear hrd
          refine (HNR.out _).mono ?_
          rintro e w1 ⟨rfl, rfl⟩
          go_wp2_with fail
          refine HRd.out.mono ?_
          rintro e w3 ⟨hkp3, ⟨H, e', r, h3, _⟩ | ⟨_, rfl⟩⟩
          · rw [HRD.out] at h3; simp at h3
          have hh3 := HBh.out.kp hkp3 (by omega)
          have he3 := HBe.out.kp hkp3 (by omega)
          have HB3 := Lib.hid (HB2.out.trans (hkp3.below (by simp; omega) (fun k hk => by omega)))
          clear hkp3
          have hsz3 := HB3.out.size
          go_wp2_with fail
          refine leaves_cons (f := 58) (args := #[.pointer (some ⟨w.heap.size, 0, none⟩), .pointer (some ⟨w.heap.size + 1, 0, none⟩)]) (by simp) (by simp [go_sem]) ?_
          refine (catch_panicking w.heap.size (w.heap.size + 1) 4 0 _ [] _ hh3 he3 (by omega)).mono ?_
          rintro e u' w9 ⟨rfl, rfl, hbh, hbe, hkp9⟩
          have y0 : w9.cell? ⟨w.heap.size, 0, none⟩ = some (.slice none 0 0) := by rw [hbh.cell]; rfl
          have y1 : w9.cell? ⟨w.heap.size + 1, 0, none⟩ = some (.int .i64 4) := by rw [hbe.cell]; rfl
          have HKP9 := Lib.hid hkp9
          clear hbh hbe hkp9
          simp [Leaves, settle, results, Try.results33, go_sem, y0, y1]
          exact ⟨_, ⟨rfl, HE.out.symm⟩, by rw [paHg_bad HE.out (by decide)]; exact isH_nil _, HB3.out.trans (HKP9.out.below hsz3 (fun k hk => by omega))⟩
        | some x =>
          obtain ⟨H, e1⟩ := x
          have HP := Lib.hid (prs_some hrd)
          have hre := rd_end _ _ H e1 (by omega) hrd
          obtain ⟨hre1, hre2, hre3, hre4, _⟩ := hre
          have HE3 := Lib.hid hre3
          have HRD := Lib.hid hrd
          clear hrd hre3 hre4
          have HEx := Lib.hid (fun W hb => expect_ok (w.heap.size + 1 + 1) s ⟨#[]⟩ e1 W hb hre2 hs)
          refine (HNR.out _).mono ?_
          rintro e w1 ⟨rfl, rfl⟩
          go_wp2_with fail
          refine HRd.out.mono ?_
          rintro e w3 ⟨hkp3, ⟨H', e', r, h3, rfl, hv3, hb3⟩ | ⟨h3, _⟩⟩
          rotate_left
          · rw [HRD.out] at h3; simp at h3
          rw [HRD.out] at h3
          simp only [Option.some.injEq, Prod.mk.injEq] at h3
          obtain ⟨rfl, rfl⟩ := h3
          have hh3 := HBh.out.kp hkp3 (by omega)
          have he3 := HBe.out.kp hkp3 (by omega)
          have hB3 := HB2.out.trans (hkp3.below (B := w.heap.size) (by simp; omega) (fun k hk => by omega))
          have z0 : w3.cell? ⟨w.heap.size, 0, none⟩ = some (.slice none 0 0) := by rw [hh3.cell]; rfl
          have z2 := hh3.frozen 0
          have z3 := hh3.lt
          have HV3 := Lib.hid hv3
          obtain ⟨rp, rc, rfl, _, _, _⟩ := hv3
          have HEX := Lib.hid (HEx.out (w3.setCell ⟨w.heap.size, 0, none⟩ (.slice rp H.len rc)) (hb3.far (p := ⟨w.heap.size, 0, none⟩) (by simp; omega) _))
          have HBh3 := Lib.hid (hh3.set_ 0 (.slice rp H.len rc))
          have HBe3 := Lib.hid (he3.far (p := ⟨w.heap.size, 0, none⟩) (by simp) (.slice rp H.len rc))
          have HB3 := Lib.hid (hB3.setCell (p := ⟨w.heap.size, 0, none⟩) (Nat.le_refl _) (.slice rp H.len rc))
          have HVV3 := Lib.hid (HV3.out.kp ((Kp.refl _ w3).setCell (p := ⟨w.heap.size, 0, none⟩) (fun h => by simp at h; omega) (.slice rp H.len rc)))
          have hH : H.size ≤ 1000000 := by omega
          clear hkp3 hb3 hh3 he3 hB3 HEx HV3
          have hte := tok_empty hre2
          by_cases hes : e1 = s.size
          rotate_left
          · have HE : Hid (paErr n names s = 4) := Lib.hid (by rw [HE0.out, HP.out, if_neg hes]; rfl)
            have HF : Hid (seq (tok s (skB s e1)) ⟨#[]⟩ = false) := Lib.hid (by rw [HE3.out, hte]; exact decide_eq_false hes)
            clear hte hes
            go_wp2_with fail
            refine HEX.out.mono ?_
            rintro e w4 ⟨_, hkp4, ⟨h4, _⟩ | ⟨_, rfl⟩⟩
            · rw [HF.out] at h4; simp at h4
            have hh4 := HBh3.out.kp hkp4 (by omega)
            have he4 := HBe3.out.kp hkp4 (by omega)
            have HB4 := Lib.hid (HB3.out.trans (hkp4.below (by have := HB3.out.size; omega) (fun k hk => by omega)))
            clear hkp4
            have hsz4 := HB4.out.size
            go_wp2_with fail
            refine leaves_cons (f := 58) (args := #[.pointer (some ⟨w.heap.size, 0, none⟩), .pointer (some ⟨w.heap.size + 1, 0, none⟩)]) (by simp) (by simp [go_sem]) ?_
            refine (catch_panicking w.heap.size (w.heap.size + 1) 4 0 _ [] _ hh4 he4 (by omega)).mono ?_
            rintro e u' w9 ⟨rfl, rfl, hbh, hbe, hkp9⟩
            have y0 : w9.cell? ⟨w.heap.size, 0, none⟩ = some (.slice none 0 0) := by rw [hbh.cell]; rfl
            have y1 : w9.cell? ⟨w.heap.size + 1, 0, none⟩ = some (.int .i64 4) := by rw [hbe.cell]; rfl
            have HKP9 := Lib.hid hkp9
            clear hbh hbe hkp9
            simp [Leaves, settle, results, Try.results33, go_sem, y0, y1]
            exact ⟨_, ⟨rfl, HE.out.symm⟩, by rw [paHg_bad HE.out (by decide)]; exact isH_nil _, HB4.out.trans (HKP9.out.below hsz4 (fun k hk => by omega))⟩
          · have HF : Hid (seq (tok s (skB s e1)) ⟨#[]⟩ = true) := Lib.hid (by rw [HE3.out, hte]; exact decide_eq_true hes)
            have HP2 : Hid (prs names s = some H) := Lib.hid (by rw [HP.out, if_pos hes])
            clear hte hes HP
            by_cases h300 : H.size ≤ 300
            rotate_left
            · have HE : Hid (paErr n names s = 3) := Lib.hid (by rw [HE0.out, HP2.out, prE, if_neg h300])
              have h300' : 300 < H.size := by omega
              clear h300
              go_wp2_with fail
              refine HEX.out.mono ?_
              rintro e w4 ⟨_, hkp4, ⟨_, rfl⟩ | ⟨h4, _⟩⟩
              rotate_left
              · rw [HF.out] at h4; simp at h4
              have hh4 := HBh3.out.kp hkp4 (by omega)
              have he4 := HBe3.out.kp hkp4 (by omega)
              have hx0 : w4.cell? ⟨w.heap.size, 0, none⟩ = some (.slice rp H.len rc) := by rw [hh4.cell]; rfl
              have HS := Lib.hid (size_ok H (.slice rp H.len rc) w4 (HVV3.out.kp (hkp4.mono (fun c hc h => by simp at h; omega))).isH hH)
              have HH4 := Lib.hid hh4
              have HE4 := Lib.hid he4
              have HB4 := Lib.hid (HB3.out.trans (hkp4.below (by have := HB3.out.size; omega) (fun k hk => by omega)))
              clear hkp4 hh4 he4
              go_wp2_with fail
              refine HS.out.mono ?_
              rintro e w5 ⟨rfl, hb5⟩
              have hh5 := HH4.out.below hb5 HH4.out.lt
              have he5 := HE4.out.below hb5 HE4.out.lt
              have HB5 := Lib.hid (HB4.out.trans (hb5.mono HB4.out.size))
              have hsz5 := HB5.out.size
              clear hb5 hx0
              go_wp2_with fail
              refine leaves_cons (f := 58) (args := #[.pointer (some ⟨w.heap.size, 0, none⟩), .pointer (some ⟨w.heap.size + 1, 0, none⟩)]) (by simp) (by simp [go_sem]) ?_
              refine (catch_panicking w.heap.size (w.heap.size + 1) 3 0 _ [] _ hh5 he5 (by omega)).mono ?_
              rintro e u' w9 ⟨rfl, rfl, hbh, hbe, hkp9⟩
              have y0 : w9.cell? ⟨w.heap.size, 0, none⟩ = some (.slice none 0 0) := by rw [hbh.cell]; rfl
              have y1 : w9.cell? ⟨w.heap.size + 1, 0, none⟩ = some (.int .i64 3) := by rw [hbe.cell]; rfl
              have HKP9 := Lib.hid hkp9
              clear hbh hbe hkp9
              simp [Leaves, settle, results, Try.results33, go_sem, y0, y1]
              exact ⟨_, ⟨rfl, HE.out.symm⟩, by rw [paHg_bad HE.out (by decide)]; exact isH_nil _, HB5.out.trans (HKP9.out.below hsz5 (fun k hk => by omega))⟩
            · have HE : Hid (paErr n names s = 0) := Lib.hid (by rw [HE0.out, HP2.out, prE, if_pos h300])
              have HHH : Hid (paHg n names s = H) := Lib.hid (by rw [paHg, if_pos HE.out, HP2.out]; rfl)
              go_wp2_with fail
              refine HEX.out.mono ?_
              rintro e w4 ⟨_, hkp4, ⟨_, rfl⟩ | ⟨h4, _⟩⟩
              rotate_left
              · rw [HF.out] at h4; simp at h4
              have hh4 := HBh3.out.kp hkp4 (by omega)
              have he4 := HBe3.out.kp hkp4 (by omega)
              have hx0 : w4.cell? ⟨w.heap.size, 0, none⟩ = some (.slice rp H.len rc) := by rw [hh4.cell]; rfl
              have hv4 := HVV3.out.kp (hkp4.mono (fun c hc h => by simp at h; omega))
              have HS := Lib.hid (size_ok H (.slice rp H.len rc) w4 hv4.isH hH)
              have HV4 := Lib.hid hv4
              have HH4 := Lib.hid hh4
              have HE4 := Lib.hid he4
              have HB4 := Lib.hid (HB3.out.trans (hkp4.below (by have := HB3.out.size; omega) (fun k hk => by omega)))
              have hlt4 := HH4.out.lt
              clear hkp4 hh4 he4 hv4
              go_wp2_with fail
              refine HS.out.mono ?_
              rintro e w5 ⟨rfl, hb5⟩
              have hh5 := HH4.out.below hb5 HH4.out.lt
              have he5 := HE4.out.below hb5 HE4.out.lt
              have HV5 := Lib.hid (HV4.out.kp (Kp.of_below hb5 (fun k hk _ => hk)))
              have HB5 := Lib.hid (HB4.out.trans (hb5.mono HB4.out.size))
              have hsz5 := HB5.out.size
              have y0 : w5.cell? ⟨w.heap.size, 0, none⟩ = some (.slice rp H.len rc) := by rw [hh5.cell]; rfl
              have y1 : w5.cell? ⟨w.heap.size + 1, 0, none⟩ = some (.int .i64 0) := by rw [he5.cell]; rfl
              have y2 := hh5.frozen 0
              have y3 := he5.frozen 0
              have y4 := hh5.lt
              have y5 := he5.lt
              clear hb5 hx0 hh5 he5
              go_wp2_with fail
              refine leaves_cons (f := 58) (args := #[.pointer (some ⟨w.heap.size, 0, none⟩), .pointer (some ⟨w.heap.size + 1, 0, none⟩)]) (by simp) (by simp [go_sem]) ?_
              refine (catch_idle w.heap.size (w.heap.size + 1) _).mono ?_
              rintro e u' w9 ⟨rfl, rfl, rfl⟩
              simp [Leaves, settle, results, Try.results33, go_sem, y0, y1]
              refine ⟨_, ⟨rfl, HE.out.symm⟩, ?_, ?_⟩
              · rw [HHH.out]
                exact (HV5.out.kp (((Kp.refl _ w5).setCell (p := ⟨w.heap.size, 0, none⟩) (fun h => by simp at h; omega) _).setCell (p := ⟨w.heap.size + 1, 0, none⟩) (fun h => by simp at h; omega) _)).isH
              · exact (HB5.out.setCell (p := ⟨w.heap.size, 0, none⟩) (Nat.le_refl _) _).setCell (p := ⟨w.heap.size + 1, 0, none⟩) (by simp) _

end Go.Proofs.Ythdaeblfehclcab
