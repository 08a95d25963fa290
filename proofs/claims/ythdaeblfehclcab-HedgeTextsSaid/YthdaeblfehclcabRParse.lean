/- ref02.Parse. -/
import Derived.Test.YthdaeblfehclcabRHedge
import Derived.Test.YthdaeblfehclcabHParse
import Derived.Test.YthdaeblfehclcabCount
namespace Go.Proofs.Ythdaeblfehclcab
open Go.RowKit Go.Shelf

set_option maxRecDepth 100000 in
set_option maxHeartbeats 4000000 in
theorem rparse_ok (n : Int) (names : List ByteArray) (vn : Value) (s : ByteArray) (w : World) (hn : IsStrs w vn names) (hs : s.size ≤ 1000000) :
    Calls Try.prog 34 #[.int .i64 n, vn, .string s] w fun e w' => ∃ r, e = .returned (.tuple #[r, .int .i64 (paErr n names s)]) ∧ IsH w' r (paHg n names s) ∧ Below w.heap.size w w' := by
  have HNS := Lib.hid hn
  have HNM := Lib.hid (rnames_ok names n vn w hn)
  obtain ⟨pn, cn, rfl, _, _, hnc, _⟩ := hn
  have HNC := Lib.hid hnc
  clear hnc
  by_cases h1 : n < 1
  · have HE : Hid (paErr n names s = 6) := Lib.hid (by rw [paErr, if_neg (by simp [vlab]; omega)])
    go_enter Try.func34, Try.ntmps34
    go_wp2_with fail
    go_ret2
    exact ⟨_, by rw [HE.out]; rfl, by rw [paHg_bad HE.out (by decide)]; exact isH_nil _, Below.refl _ _⟩
  · by_cases h8 : 8 < n
    · have HE : Hid (paErr n names s = 6) := Lib.hid (by rw [paErr, if_neg (by simp [vlab]; omega)])
      go_enter Try.func34, Try.ntmps34
      go_wp2_with fail
      go_ret2
      exact ⟨_, by rw [HE.out]; rfl, by rw [paHg_bad HE.out (by decide)]; exact isH_nil _, Below.refl _ _⟩
    · have HVV : Hid (vlab n = true) := Lib.hid (by simp [vlab]; omega)
      have h1' : 1 ≤ n := by omega
      have h8' : n ≤ 8 := by omega
      by_cases hb : namesB names n = true
      rotate_left
      · have HE : Hid (paErr n names s = 4) := Lib.hid (by rw [paErr, if_pos HVV.out, if_neg hb])
        have hb2 : namesB names n = false := by simpa using hb
        rw [hb2] at HNM
        clear hb hb2
        go_enter Try.func34, Try.ntmps34
        go_wp2_with fail
        refine HNM.out.mono ?_
        rintro e w1 ⟨rfl, rfl⟩
        go_wp2_with fail
        go_ret2
        exact ⟨_, by rw [HE.out]; rfl, by rw [paHg_bad HE.out (by decide)]; exact isH_nil _, Below.refl _ _⟩
      · have HNB := Lib.hid hb
        rw [hb] at HNM
        clear hb
        by_cases h16 : s.size ≤ 16384
        rotate_left
        · have HE : Hid (paErr n names s = 3) := Lib.hid (by rw [paErr, if_pos HVV.out, if_pos HNB.out, if_neg h16])
          have h16' : 16384 < s.size := by omega
          clear h16
          go_enter Try.func34, Try.ntmps34
          go_wp2_with fail
          refine HNM.out.mono ?_
          rintro e w1 ⟨rfl, rfl⟩
          go_wp2_with fail
          go_ret2
          exact ⟨_, by rw [HE.out]; rfl, by rw [paHg_bad HE.out (by decide)]; exact isH_nil _, Below.refl _ _⟩
        · have HE0 : Hid (paErr n names s = prE (prs names s)) := Lib.hid (by rw [paErr, if_pos HVV.out, if_pos HNB.out, if_pos h16])
          have hsm := namesB_small HNB.out
          have hn1 : 1 ≤ names.length := by omega
          have hn2 : names.length ≤ 1000000 := by omega
          have hnb : ∀ b' o n c, Value.slice pn names.length cn = .slice (some ⟨b', o, none⟩) n c → b' ≠ w.heap.size := by
            intro b' o n' c' e
            obtain ⟨b, o2, hp, hcl⟩ := HNC.out (fun h => by simp [h] at hn1)
            have := World.block_lt_of_cell? _ _ (hcl 0 _ (List.getElem?_eq_getElem hn1))
            simp only [Value.slice.injEq, hp, Option.some.injEq, Addr.mk.injEq] at e
            simp only at this
            omega
          have HRd := Lib.hid (rhedge_any s names w.heap.size _ hs hn2 hsm.2 hnb (s.size + 2) (s.size + 1) 0 (w.alloc (.cells #[.slice pn names.length cn, .string s, .bool false] 99)) (by omega) (by omega) (by omega)
            (by rw [suf_zero]; exact Blk.new w _ _) (HNS.out.below ((Below.refl _ w).alloc (Nat.le_refl _) _)))
          clear hnb hsm
          cases hrd : rd s names (s.size + 1) 0 with
          | none =>
            have HE : Hid (paErr n names s = 4) := Lib.hid (by rw [HE0.out, prs_none hrd]; rfl)
            have HRD := Lib.hid hrd
            clear hrd
            go_enter Try.func34, Try.ntmps34
            go_wp2_with fail
            refine HNM.out.mono ?_
            rintro e w1 ⟨rfl, rfl⟩
            go_wp2_with fail
            refine HRd.out.mono ?_
            rintro e w3 ⟨hkp3, ⟨H, e', r, h3, _⟩ | ⟨_, rfl, t3, hb3⟩⟩
            · rw [HRD.out] at h3; simp at h3
            have q1 : w3.cell? ⟨w.heap.size, 2, none⟩ = some (.bool true) := by rw [hb3.cell]; rfl
            have HB3 := Lib.hid (((Below.refl w.heap.size w).alloc (Nat.le_refl _) _).trans (hkp3.below (B := w.heap.size) (by simp) (fun k hk => by omega)))
            clear hkp3 hb3
            go_wp2_with fail
            go_ret2
            exact ⟨_, by rw [HE.out]; rfl, by rw [paHg_bad HE.out (by decide)]; exact isH_nil _, HB3.out⟩
          | some x =>
            obtain ⟨H, e1⟩ := x
            have HP := Lib.hid (prs_some hrd)
            have hre := rd_end _ _ H e1 (by omega) hrd
            obtain ⟨hre1, hre2, _, _, _⟩ := hre
            have hH : H.size ≤ 1000000 := by omega
            have HRD := Lib.hid hrd
            clear hrd
            go_enter Try.func34, Try.ntmps34
            go_wp2_with fail
            refine HNM.out.mono ?_
            rintro e w1 ⟨rfl, rfl⟩
            go_wp2_with fail
            refine HRd.out.mono ?_
            rintro e w3 ⟨hkp3, ⟨H', e', r, h3, rfl, hv3, hb3⟩ | ⟨h3, _⟩⟩
            rotate_left
            · rw [HRD.out] at h3; simp at h3
            rw [HRD.out] at h3
            simp only [Option.some.injEq, Prod.mk.injEq] at h3
            obtain ⟨rfl, rfl⟩ := h3
            have HV3 := Lib.hid hv3.isH
            have HFew := Lib.hid (few_ok H r 300 w3 hv3.isH (by decide) (by decide))
            obtain ⟨rp, rc, rfl, _, _, _⟩ := hv3
            have q1 : w3.cell? ⟨w.heap.size, 2, none⟩ = some (.bool false) := by rw [hb3.cell]; rfl
            have q2 : w3.cell? ⟨w.heap.size, 1, none⟩ = some (.string (suf s e1)) := by rw [hb3.cell]; rfl
            have q3 := hb3.lt
            have HB3 := Lib.hid (((Below.refl w.heap.size w).alloc (Nat.le_refl _) _).trans (hkp3.below (B := w.heap.size) (by simp) (fun k hk => by omega)))
            clear hkp3 hb3
            by_cases hes : e1 = s.size
            rotate_left
            · have HE : Hid (paErr n names s = 4) := Lib.hid (by rw [HE0.out, HP.out, if_neg hes]; rfl)
              obtain ⟨m1, m2, m3, m4⟩ := suf_more (s := s) (k := e1) (by omega)
              clear hes
              go_wp2_with fail
              go_ret2
              exact ⟨_, by rw [HE.out]; rfl, by rw [paHg_bad HE.out (by decide)]; exact isH_nil _, HB3.out⟩
            · have HP2 : Hid (prs names s = some H) := Lib.hid (by rw [HP.out, if_pos hes])
              obtain ⟨m1, m2, m3⟩ := suf_at_end (s := s) hes
              clear hes HP
              by_cases h300 : H.size ≤ 300
              rotate_left
              · have HE : Hid (paErr n names s = 3) := Lib.hid (by rw [HE0.out, HP2.out, prE, if_neg h300])
                have hdd : decide ((H.size : Int) ≤ 300) = false := decide_eq_false (by omega)
                rw [hdd] at HFew
                clear h300 hdd
                go_wp2_with fail
                refine HFew.out.mono ?_
                rintro e w4 ⟨rfl, hb4⟩
                have HB4 := Lib.hid (HB3.out.trans (hb4.mono HB3.out.size))
                clear hb4
                go_wp2_with fail
                go_ret2
                exact ⟨_, by rw [HE.out]; rfl, by rw [paHg_bad HE.out (by decide)]; exact isH_nil _, HB4.out⟩
              · have HE : Hid (paErr n names s = 0) := Lib.hid (by rw [HE0.out, HP2.out, prE, if_pos h300])
                have HHH : Hid (paHg n names s = H) := Lib.hid (by rw [paHg, if_pos HE.out, HP2.out]; rfl)
                have hdd : decide ((H.size : Int) ≤ 300) = true := decide_eq_true (by omega)
                rw [hdd] at HFew
                clear h300 hdd
                go_wp2_with fail
                refine HFew.out.mono ?_
                rintro e w4 ⟨rfl, hb4⟩
                have HV4 := Lib.hid (HV3.out.below hb4)
                have HB4 := Lib.hid (HB3.out.trans (hb4.mono HB3.out.size))
                clear hb4
                go_wp2_with fail
                go_ret2
                exact ⟨_, by rw [HE.out]; rfl, by rw [HHH.out]; exact HV4.out, HB4.out⟩

end Go.Proofs.Ythdaeblfehclcab
