/- ref01's (*reader).tree. -/
import Derived.Test.YtkgoealanboolaaDoorTM5
import Derived.Test.YtkgoealanboolaaDoorTM6
namespace Go.Proofs.YtkgoealanboolaaDoor
open Go.RowKit Go.Shelf

theorem place_end {s : ByteArray} {names : List ByteArray} (hn : ∀ x ∈ names, nameB x = true) {k : Nat} (h : k = s.size) : idxS names ((suf s k).extract 0 (wordR (suf s k))) = -1 ∧ idxS names (tok s k) = -1 := by
  have h0 : wordR (suf s k) = 0 := by rw [wordR_suf (by omega), if_neg (by omega)]
  rw [h0]
  constructor
  · exact idxS_none (fun j hj => by
      obtain ⟨c, l, hx, _, _⟩ := nameB_bytes (hn _ (List.getElem_mem hj))
      rw [bytes_seq, hx, suf_take (by omega)]; rfl)
  · exact idxS_none (fun j hj => by
      obtain ⟨c, l, hx, _, _⟩ := nameB_bytes (hn _ (List.getElem_mem hj))
      rw [tok, if_pos h, bytes_seq, hx]; rfl)
theorem place_all {s : ByteArray} {names : List ByteArray} (hn : ∀ x ∈ names, nameB x = true) {k : Nat} (h : k ≤ s.size) : idxS names ((suf s k).extract 0 (wordR (suf s k))) = idxS names (tok s k) ∧ (0 ≤ idxS names (tok s k) → k + wordR (suf s k) = nx s k ∧ k < s.size) := by
  rcases Nat.lt_or_ge k s.size with hl | hl
  · have e := place_tok hn hl
    exact ⟨e, fun h0 => ⟨place_nx hn hl (by rw [e]; exact h0), hl⟩⟩
  · obtain ⟨e1, e2⟩ := place_end hn (show k = s.size by omega)
    rw [e1, e2]
    exact ⟨rfl, fun h0 => absurd h0 (by decide)⟩
theorem wordR_le {s : ByteArray} {k : Nat} (h : k ≤ s.size) : wordR (suf s k) ≤ (suf s k).size := by
  have h1 := (wEnd_le (s := s) (i := k) h)
  rw [wordR_suf h, suf_size h]; split <;> omega

theorem step_own_append {ops : Array Oper} {o : Oper} {a : Act} {K : Act → World → Prop} {Q : Exit → Act → World → Prop} {E : Prop} (w : World) (hgd : o.guard = none) (s x : Operand)
    (ho : o.op = .call { callee := .builtin .append, args := #[s, x], argTypes := #[25, 25] })
    (base : Nat) (v : Value) (k : Nat) (xs : List Value) (hs : a.eval s = v) (hown : w.ownsRow base 27 2 v k xs) (g : Nat) (l : Int) (kv : Value) (hx : a.eval x = .slice (some ⟨g, 0, none⟩) 1 1)
    (hB : Blk w g 27 #[.int .i64 l, kv]) (hone : kv.oneCell' = true) (hk : k ≤ 5000) (hbase : base ≤ w.heap.size)
    (h : ∀ v' w', w'.ownsRow base 27 2 v' (k + 1) (xs ++ [.int .i64 l, kv]) → w.grownBy w' v.ownBlock → (v'.ownBlock = v.ownBlock ∨ v'.ownBlock = some w.heap.size) → K (a.put o.dst v') w') :
    if Region.wanted o (yielded ops a.tmps) = true then Oper.wp Tryd.prog o a w K Q else E := by
  have hw : Region.wanted o (yielded ops a.tmps) = true := by simp [Region.wanted, hgd]
  rw [if_pos hw]
  obtain ⟨i0, hi, hz0, hz1, hz2⟩ := info_parts Tryd.infoTree
  obtain ⟨v', w', hr, h2, h3, _, h4⟩ := run_append_own_at (P := Tryd.prog) w base 25 o.type 27 i0 _ 2 32 Tryd.underlying25 hi hz0 hz1 hz2 rfl (by decide) v k xs hown
      ⟨g, 0, none⟩ 1 1 [.int .i64 l, kv] rfl (fun j u' hu' => by
        have e : ((⟨g, 0, none⟩ : Addr).add j) = ⟨g, j, none⟩ := by unfold Addr.add; split <;> simp_all
        rw [e, hB.cell]; simpa using hu') (by intro u hu; simp only [List.mem_cons, List.not_mem_nil, or_false] at hu; rcases hu with rfl | rfl; exact rfl; exact hone) (by simp only [maxLen]; omega) (by omega) hbase
  unfold Oper.wp execOp
  simp only [ho, resolve, invoke, builtin, Sem.run_bind, Sem.run_pure, Result.andThen_ok, List.map_toArray, List.map_cons, List.map_nil, hs, hx, hr]
  exact h v' w' h2 h3 h4

set_option maxRecDepth 100000 in
set_option maxHeartbeats 2000000 in
theorem rtree_any (s : ByteArray) (names : List ByteArray) (al : List Int) (b : Nat) (vn av : Value) (hs : s.size ≤ 1000000) (hnl : names.length = al.length) (hnn : ∀ x ∈ names, nameB x = true) (hva : validAl al = true) (hnb : names ≠ [] → ∀ b' o n c, vn = .slice (some ⟨b', o, none⟩) n c → b' ≠ b) (hab : al ≠ [] → ∀ b' o n c, av = .slice (some ⟨b', o, none⟩) n c → b' ≠ b) (N : Nat) :
    ∀ (f i : Nat) (w : World), f < N → s.size + 1 ≤ f + i → i ≤ s.size → Blk w b 112 #[av, vn, .string (suf s i), .bool false] → IsStrs w vn names → IsInts w av al →
    Calls Tryd.prog 73 #[.pointer (some ⟨b, 0, none⟩)] w fun e w' => ∃ l q n c β tx, e = .returned (.agg #[.int .i64 l, .slice q n c]) ∧ Kp (fun c => c ≠ b) w w' ∧ Blk w' b 112 #[av, vn, .string tx, .bool β] ∧
      ((β = false ∧ ∃ t e', rt s names al f i = some (t, e') ∧ tx = suf s e' ∧ l = t.1 ∧ (Lit.int .i64 t.1).wf = true ∧ IsHS (fun c => w.heap.size ≤ c) w' (.slice q n c) t.2) ∨ (β = true ∧ rt s names al f i = none)) := by
  induction N with
  | zero => intro f i w hN; omega
  | succ N ih =>
    intro f i w hN hf hi hb hn ha
    obtain ⟨g, rfl⟩ : ∃ g, f = g + 1 := ⟨f - 1, by omega⟩
    have HNL := Lib.hid hnl
    have HNN := Lib.hid hnn
    clear hnl hnn
    have hblt := hb.lt
    have HBl := Lib.hid (rblanks_ok s i b av vn false _ (hb.alloc (.cells #[.int .i64 0, .slice none 0 0] 27)) hi)
    have HR0 := Lib.hid (Blk.new w 27 #[.int .i64 0, .slice none 0 0])
    have HK0 := Lib.hid ((Kp.refl (fun c => c ≠ b) w).alloc (.cells #[.int .i64 0, .slice none 0 0] 27))
    have HNm := Lib.hid (fun W (hk : Kp (fun c => c ≠ b) w W) => hn.kp hk hnb)
    have HAm := Lib.hid (fun W (hk : Kp (fun c => c ≠ b) w W) => ha.kp hk hab)
    have HMu := Lib.hid (fun i β c hc0 W hb hi => rmust_ok s i b av vn β c hc0 W hb hi)
    have HI := Lib.hid ih
    have HAB := Lib.hid hab
    have HNE : Hid (∀ x ∈ names, 0 < x.size) := Lib.hid (fun x hx => by have := HNN.out x hx; rw [nameB_eq] at this; simp at this; omega)
    have hsk := skB_le (s := s) hi
    have hn2 := (nx_le (s := s) (j := skB s i) hsk.2).2
    obtain ⟨hpl, hpx⟩ := place_all HNN.out hsk.2
    have HWd := Lib.hid (fun W => word_ok (suf s (skB s i)) W (by have := suf_size hsk.2; omega))
    have hwl := wordR_le hsk.2
    have hsz := suf_size hsk.2
    have HPl := Lib.hid (fun W (hk : Kp (fun c => c ≠ b) w W) => place_ok names ((suf s (skB s i)).extract 0 (wordR (suf s (skB s i)))) vn W (hn.kp hk hnb))
    rw [hpl] at HPl
    obtain ⟨k, hk⟩ : ∃ k, k = skB s i := ⟨_, rfl⟩
    have HKK := Lib.hid hk
    rw [← hk] at HBl HWd HPl hwl hsz hpl hpx hn2
    have hkl : k ≤ s.size := by omega
    have hik : i ≤ k := by omega
    obtain ⟨pn, cn, rfl, _, _, _, _⟩ := hn
    obtain ⟨pa, ca, rfl, ha1, ha2, hac⟩ := ha
    obtain ⟨nn, hnn⟩ : ∃ nn, nn = wordR (suf s k) := ⟨_, rfl⟩
    rw [← hnn] at HWd HPl hwl hpl hpx
    have hi1 : (0 : Int) ≤ (nn : Int) := by omega
    have hi2 : (nn : Int) ≤ ((suf s k).size : Int) := by omega
    obtain ⟨M, hM⟩ : ∃ M, M = idxS names (tok s k) := ⟨_, rfl⟩
    rw [← hM] at HPl hpx
    have HM := Lib.hid hM
    have HSZ := Lib.hid hsz
    have HPX := Lib.hid hpx
    have HND := Lib.hid hac
    clear ih hb hnb hab hk hnn hM hsk hpl hpx hsz hac
    go_enter Tryd.func73, Tryd.ntmps73
    go_wp2_with fail
    refine HBl.out.mono ?_
    rintro e w1 ⟨rfl, hb1, hk1⟩
    have hK1 := HK0.out.trans hk1
    have hR1 := HR0.out.kp hk1 (by omega)
    have z0 : w1.cell? ⟨b, 0, none⟩ = some (.slice pa al.length ca) := by rw [hb1.cell]; rfl
    have z1 : w1.cell? ⟨b, 1, none⟩ = some (.slice pn names.length cn) := by rw [hb1.cell]; rfl
    have z2 : w1.cell? ⟨b, 2, none⟩ = some (.string (suf s k)) := by rw [hb1.cell]; rfl
    have z3 : w1.cell? ⟨b, 3, none⟩ = some (.bool false) := by rw [hb1.cell]; rfl
    have z4 := hb1.frozen 2
    have z5 := hb1.frozen 3
    have z6 := hb1.lt
    have r0 : w1.cell? ⟨w.heap.size, 0, none⟩ = some (.int .i64 0) := by rw [hR1.cell]; rfl
    have r1 : w1.cell? ⟨w.heap.size, 1, none⟩ = some (.slice none 0 0) := by rw [hR1.cell]; rfl
    have r2 := hR1.frozen 0
    have r3 := hR1.frozen 1
    have r4 := hR1.lt
    have HB1 := Lib.hid hb1
    have HK1 := Lib.hid hK1
    have HR1 := Lib.hid hR1
    have HST := Lib.hid (show ∀ W, Below w1.heap.size w1 W → W.cell? ⟨b, 1, none⟩ = some (.slice pn names.length cn) ∧ W.cell? ⟨b, 2, none⟩ = some (.string (suf s k)) from fun W hW => ⟨cell_later hW z1, cell_later hW z2⟩)
    have HPL := Lib.hid (HPl.out w1.drew (HK1.out.drew))
    clear hb1 hk1 hK1 hR1 HBl HPl
    go_wp2_with fail
    refine (HWd.out _).mono ?_
    rintro e w2 ⟨rfl, rfl⟩
    go_wp2_with fail
    go_region_held3 (fun W => W.cell? ⟨b, 1, none⟩ = some (.slice pn names.length cn) ∧ W.cell? ⟨b, 2, none⟩ = some (.string (suf s k)))
      (first | exact HST.out _ (Below.refl _ _).drew | go_keep)
      (first
        | (go_at_call 91; refine HPL.out.mono ?_; rintro e w3 ⟨rfl, rfl⟩))
    all_goals
      by_cases hm : M < 0
      · have HR2 : Hid (rt s names al (g + 1) i = none) := Lib.hid (rt_bad (by rw [← HKK.out, ← HM.out]; exact hm))
        go_wp2_with fail
        refine bodyPost_ret (v := .agg #[.int .i64 0, .slice none 0 0]) (results_cell_row rfl _ _ w.heap.size 27 _ (0, 0) _ rfl (((HR1.out.far (p := ⟨b, 3, none⟩) (by simp; omega) (.bool true)).set_ 0 (.int .i64 0)).set_ 1 (.slice none 0 0)).drew Tryd.underlying27 rfl Tryd.infoTreeS) rfl ?_
        exact ⟨_, _, _, _, true, _, rfl, (((HK1.out.setCell (p := ⟨b, 3, none⟩) (fun h => absurd rfl h) _).setCell (p := ⟨w.heap.size, 0, none⟩) (fun _ => by simp) _).setCell (p := ⟨w.heap.size, 1, none⟩) (fun _ => by simp) _).drew, (((HB1.out.set_ 3 (.bool true)).far (p := ⟨w.heap.size, 0, none⟩) (by simp; omega) _).far (p := ⟨w.heap.size, 1, none⟩) (by simp; omega) _).drew, .inr ⟨rfl, HR2.out⟩⟩
      · have hm0 : 0 ≤ M := by omega
        obtain ⟨hknx, hklt⟩ := HPX.out hm0
        have hidx : idxS names (tok s (skB s i)) = M := by rw [← HKK.out, HM.out]
        obtain ⟨hml, hmI⟩ := sym_range (t := tok s (skB s i)) HNL.out (by rw [hidx]; exact hm0)
        have HLF := Lib.hid (fun h => rt_leaf (s := s) (names := names) (al := al) (f := g) (i := i) (by rw [hidx]; exact hm0) h)
        have HNO := Lib.hid (fun h => rt_node (s := s) (names := names) (al := al) (f := g) (i := i) (by rw [hidx]; exact hm0) h)
        rw [hidx, ← HKK.out] at HLF HNO
        rw [hidx] at hml hmI
        obtain ⟨m, rfl⟩ : ∃ m : Nat, M = m := ⟨_, hmI.symm⟩
        simp only [Int.toNat_natCast] at hml HLF HNO
        have hrr := rank_range hva hml
        obtain ⟨ba, oa, rfl, hcl⟩ := HND.out (fun h => by rw [h] at hml; simp at hml)
        have hca := hcl m (al.getD m 0) (by rw [List.getD_eq_getElem?_getD, List.getElem?_eq_getElem hml]; rfl)
        have hba : ba ≠ b := HAB.out (fun h => by rw [h] at hml; simp at hml) ba oa al.length ca rfl
        obtain ⟨n, hn⟩ : ∃ n : Nat, al.getD m 0 = n := ⟨(al.getD m 0).toNat, by omega⟩
        rw [hn] at hca hrr HLF HNO
        simp only [Int.toNat_natCast] at HNO
        have hn3 : n ≤ 3 := by omega
        have hmwf : Hid ((Lit.int .i64 (m : Int)).wf = true) := Lib.hid (wf_small (by omega) (by
          have := hva
          simp only [validAl, Bool.and_eq_true, decide_eq_true_eq] at this
          omega))
        have x1 : w1.cell? ⟨ba, oa + m, none⟩ = some (.int .i64 (n : Int)) := HK1.out.cell hca hba
        have x3 := World.block_lt_of_cell? _ _ x1
        simp only at x3
        have q1 : (m : Int) < (al.length : Int) := by omega
        have q2 : (0 : Int) ≤ (m : Int) := by omega
        have HSD : Hid ((suf s k).extract nn (suf s k).size = suf s (nx s k)) := Lib.hid (by rw [suf_drop (by omega), hknx])
        have HCA := Lib.hid hca
        clear hm hidx hmI hn hca hcl hknx
        have HRD0 : Hid ((n = 0 → rt s names al (g + 1) i = some (((m : Int), .nil), nx s k)) ∧ (¬ n = 0 → rt s names al (g + 1) i = (more [] (rk s (rt s names al g) (n - 0) true (nx s k))).map fun y => (((m : Int), y.1), y.2))) := Lib.hid ⟨fun h => HLF.out (by omega), fun h => by rw [HNO.out (by omega), more_nil]; rfl⟩
        have hX1 : Blk (((w1.setCell ⟨b, 2, none⟩ (.string (suf s (nx s k)))).alloc (.cells #[.int .i64 (m : Int), .slice none 0 0] 27)).drew) w1.heap.size 27 #[.int .i64 (m : Int), .slice none 0 0] := by
          have := (Blk.new (w1.setCell ⟨b, 2, none⟩ (.string (suf s (nx s k)))) 27 #[.int .i64 (m : Int), .slice none 0 0]).drew
          simpa using this
        have HX1 := Lib.hid hX1
        have HBB : Hid (Blk (((w1.setCell ⟨b, 2, none⟩ (.string (suf s (nx s k)))).alloc (.cells #[.int .i64 (m : Int), .slice none 0 0] 27)).drew) b 112 #[.slice (some ⟨ba, oa, none⟩) al.length ca, .slice pn names.length cn, .string (suf s (nx s k)), .bool false]) := Lib.hid (((HB1.out.set_ 2 (.string (suf s (nx s k)))).alloc _).drew)
        have HRR : Hid (Blk (((w1.setCell ⟨b, 2, none⟩ (.string (suf s (nx s k)))).alloc (.cells #[.int .i64 (m : Int), .slice none 0 0] 27)).drew) w.heap.size 27 #[.int .i64 0, .slice none 0 0]) := Lib.hid (((HR1.out.far (p := ⟨b, 2, none⟩) (by simp; omega) _).alloc _).drew)
        have HKK1 : Hid (Kp (fun c => c ≠ b) w (((w1.setCell ⟨b, 2, none⟩ (.string (suf s (nx s k)))).alloc (.cells #[.int .i64 (m : Int), .slice none 0 0] 27)).drew)) := Lib.hid (((HK1.out.setCell (p := ⟨b, 2, none⟩) (fun h => absurd rfl h) _).alloc _).drew)
        have hnxk := nx_gt hklt
        have hbX : b < w1.heap.size := z6
        have hwX : w.heap.size < w1.heap.size := r4
        clear hX1 HLF HNO
        go_wp2_with fail
        rw [HSD.out]
        go_loopw [50] (fun ix wr => ∃ (D : DL) (i' : Nat) (A : Option Addr) (cap : Nat), ix = .int .i64 D.length ∧ D.length ≤ n ∧ i < i' ∧ i' ≤ s.size ∧ Hid (Blk wr b 112 #[.slice (some ⟨ba, oa, none⟩) al.length ca, .slice pn names.length cn, .string (suf s i'), .bool false]) ∧
            Hid ((n = 0 → rt s names al (g + 1) i = some (((m : Int), .nil), i')) ∧ (¬ n = 0 → rt s names al (g + 1) i = (more D (rk s (rt s names al g) (n - D.length) (decide (D.length = 0)) i')).map fun y => (((m : Int), y.1), y.2))) ∧
            Hid (Blk wr w1.heap.size 27 #[.int .i64 (m : Int), .slice A D.length cap]) ∧ Hid (wr.ownsRow (w1.heap.size + 1) 27 2 (.slice A D.length cap) D.length (dcells D)) ∧ Hid (DIn (fun c => w1.heap.size < c ∧ (Value.slice A D.length cap).ownBlock ≠ some c) wr D) ∧
            Hid (Kp (fun c => c ≠ b) w wr) ∧ Hid (Blk wr w.heap.size 27 #[.int .i64 0, .slice none 0 0]))
          (fun ix _ => n - (intOf ix).toNat)
        case atStart =>
          exact ⟨[], nx s k, none, 0, rfl, Nat.zero_le _, by omega, hn2, HBB, HRD0, HX1, Lib.hid (World.ownsRow_nil _ _ _ _), Lib.hid (fun x hx => by cases hx), HKK1, HRR⟩
        case round =>
          rename World => wr
          obtain ⟨D, i', A, cap, rfl, hDn, hii, hi', HX, HRD, HXO, HOW, HDI, HK, HR⟩ := hrel
          have hs2 := skB_le (s := s) hi'
          have hzr := HK.out.size
          by_cases hD : D.length < n
          · obtain ⟨r, hr⟩ : ∃ r, n - D.length = r + 1 := ⟨n - D.length - 1, by omega⟩
            have HRD2 : Hid (rt s names al (g + 1) i = (more D (rk s (rt s names al g) (r + 1) (decide (D.length = 0)) i')).map fun y => (((m : Int), y.1), y.2)) := Lib.hid (by
              have := HRD.out.2 (by omega)
              rwa [hr] at this)
            have hDI : (D.length : Int) < (n : Int) := by omega
            have HRr := Lib.hid hr
            clear hr HRD
            by_cases h0 : D.length = 0
            · have hzb : ((D.length : Int) == 0) = true := by simpa using h0
              have hzd : decide ((D.length : Int) = 0) = true := decide_eq_true (by omega)
              have HMK : Hid ((if decide (D.length = 0) = true then (40 : Int) else 44) = 40) := Lib.hid (by simp [h0])
              clear h0
              go_wp2_with fail
              refine (HMu.out i' false 40 (by decide) _ HX.out hi').mono ?_
              rintro e w4 ⟨rfl, hk4, ⟨hq, hb4⟩ | ⟨hq, hb4⟩⟩
              rotate_left
              · have HRn : Hid (rt s names al (g + 1) i = none) := Lib.hid (by rw [HRD2.out, rk_bad (by rw [HMK.out]; exact hq)]; rfl)
                have HK4 := Lib.hid (HK.out.trans hk4)
                have hX4 := HXO.out.kp hk4 (by omega)
                have hR4 := HR.out.kp hk4 (by omega)
                have HR4 := Lib.hid hR4
                have HB4 := Lib.hid hb4
                have z3 : w4.cell? ⟨b, 3, none⟩ = some (.bool true) := by rw [hb4.cell]; rfl
                have z4 := hb4.lt
                have x0 : w4.cell? ⟨w1.heap.size, 0, none⟩ = some (.int .i64 (m : Int)) := by rw [hX4.cell]; rfl
                have x1 : w4.cell? ⟨w1.heap.size, 1, none⟩ = some (.slice A D.length cap) := by rw [hX4.cell]; rfl
                have x4 := hX4.lt
                have y6 : w4.cell? ⟨w.heap.size, 0, none⟩ = some (.int .i64 0) := by rw [hR4.cell]; rfl
                have y7 : w4.cell? ⟨w.heap.size, 1, none⟩ = some (.slice none 0 0) := by rw [hR4.cell]; rfl
                have y8 := hR4.frozen 0
                have y9 := hR4.frozen 1
                have y10 := hR4.lt
                clear hk4 hb4 hq hX4 hR4
                go_wp2_with fail
                refine bodyPost_ret (v := .agg #[.int .i64 (m : Int), .slice A D.length cap]) (results_cell_row rfl _ _ w.heap.size 27 _ (0, 0) _ rfl ((HR4.out.set_ 0 _).set_ 1 _) Tryd.underlying27 rfl Tryd.infoTreeS) rfl ?_
                have hkE := (HK4.out.setCell (p := ⟨w.heap.size, 0, none⟩) (fun _ => by simp) (.int .i64 (m : Int))).setCell (p := ⟨w.heap.size, 1, none⟩) (fun _ => by simp) (.slice A D.length cap)
                have hbE := (HB4.out.far (p := ⟨w.heap.size, 0, none⟩) (by simp; omega) (.int .i64 (m : Int))).far (p := ⟨w.heap.size, 1, none⟩) (by simp; omega) (.slice A D.length cap)
                first
                  | exact ⟨_, _, _, _, true, _, rfl, hkE, hbE, .inr ⟨rfl, HRn.out⟩⟩
                  | exact ⟨_, _, _, _, rfl, hkE, .inr ⟨⟨_, hbE⟩, HRn.out⟩⟩
                  | exact ⟨_, _, _, _, rfl, hkE, .inr ⟨_, hbE, HRn.out⟩⟩
              rw [← HMK.out] at hq
              have hjl := mark_lt hq
              have hi2 : skB s i' + 1 ≤ s.size := by omega
              have HRK := Lib.hid (rk_good (g := rt s names al g) (n := r) hq)
              have HK4 := Lib.hid (HK.out.trans hk4)
              have hz4 := hk4.size
              have HX4 := Lib.hid ((HXO.out.kp hk4 (by omega)).drew)
              have HR4 := Lib.hid ((HR.out.kp hk4 (by omega)).drew)
              have HOW4 := Lib.hid (ownsRow_heap HOW.out (fun j hj => hk4.block j (HOW.out.lt j hj).2 (by have := (HOW.out.lt j hj).1; omega)))
              have z3 : w4.cell? ⟨b, 3, none⟩ = some (.bool false) := by rw [hb4.cell]; rfl
              have z4 := hb4.lt
              have x1 : w4.cell? ⟨w1.heap.size, 1, none⟩ = some (.slice A D.length cap) := by have := HX4.out.cell 1; simpa using this
              have x4 : w1.heap.size < w4.heap.size := by simpa using HX4.out.lt
              have HG5 := Lib.hid (show ∀ w5, Kp (fun c => c ≠ b) w4.drew w5 → Hid (w5.ownsRow (w1.heap.size + 1) 27 2 (.slice A D.length cap) D.length (dcells D)) ∧ w5.cell? ⟨w1.heap.size, 0, none⟩ = some (.int .i64 (m : Int)) ∧ w5.cell? ⟨w1.heap.size, 1, none⟩ = some (.slice A D.length cap) ∧ w5.frozen? ⟨w1.heap.size, 1, none⟩ = false ∧ w1.heap.size < w5.heap.size from fun w5 hk5 => by
                have h := HX4.out.kp hk5 (by omega)
                exact ⟨Lib.hid (ownsRow_heap HOW4.out (fun j hj => hk5.block j (HOW4.out.lt j hj).2 (by have := (HOW4.out.lt j hj).1; omega))), by rw [h.cell]; rfl, by rw [h.cell]; rfl, h.frozen 1, h.lt⟩)
              have HG7 := Lib.hid (show ∀ w5, Kp (fun c => c ≠ b) w4.drew w5 → ∀ (β : Bool) (tx : ByteArray) (l : Int) (q : Option Addr) (n' c' : Nat) (v7 : Value) (w7 : World), Blk w5 b 112 #[.slice (some ⟨ba, oa, none⟩) al.length ca, .slice pn names.length cn, .string tx, .bool β] →
                  w7.ownsRow (w1.heap.size + 1) 27 2 v7 (D.length + 1) (dcells D ++ [.int .i64 l, .slice q n' c']) → (w5.alloc (.cells #[.int .i64 l, .slice q n' c'] 27)).grownBy w7 (Value.slice A D.length cap).ownBlock → (v7.ownBlock = (Value.slice A D.length cap).ownBlock ∨ v7.ownBlock = some (w5.alloc (.cells #[.int .i64 l, .slice q n' c'] 27)).heap.size) →
                  w7.cell? ⟨w1.heap.size, 1, none⟩ = some (.slice A D.length cap) ∧ w7.frozen? ⟨w1.heap.size, 1, none⟩ = false ∧ w1.heap.size < w7.heap.size ∧ w7.cell? ⟨w1.heap.size, 0, none⟩ = some (.int .i64 (m : Int)) ∧ w7.cell? ⟨b, 3, none⟩ = some (.bool β) ∧ b < w7.heap.size from fun w5 hk5 β tx l q n' c' v7 w7 hb5 _ hg7 _ => by
                have hX5 := HX4.out.kp hk5 (by omega)
                have hXown : (Value.slice A D.length cap).ownBlock ≠ some w1.heap.size := fun e => by have := (HOW.out.lt _ e).1; omega
                have hbown : (Value.slice A D.length cap).ownBlock ≠ some b := fun e => by have := (HOW.out.lt _ e).1; omega
                have hK : Kp (fun c => c < w5.heap.size ∧ (Value.slice A D.length cap).ownBlock ≠ some c) w5 w7 := ((Kp.refl _ w5).alloc _).grown hg7 (fun k e h => absurd e h.2)
                have h := hX5.kp hK ⟨hX5.lt, hXown⟩
                have h' := hb5.kp hK ⟨hb5.lt, hbown⟩
                exact ⟨by rw [h.cell]; rfl, h.frozen 1, h.lt, by rw [h.cell]; rfl, by rw [h'.cell]; rfl, h'.lt⟩)
              have HCL := Lib.hid (fun W (hW : Below w4.heap.size w4 W) => HI.out g (skB s i' + 1) W (by omega) (by omega) hi2 (hb4.below hW hb4.lt) (HNm.out W (HK4.out.trans (Kp.of_below hW (fun c hc _ => hc)))) (HAm.out W (HK4.out.trans (Kp.of_below hW (fun c hc _ => hc)))))
              have hXb : ¬ w1.heap.size = b := by omega
              have hbX2 : ¬ b = w1.heap.size := by omega
              have HKr4 := Lib.hid hk4
              clear hk4 hb4 hq
              go_wp2_with fail
              refine wp_region_any (by kernel_rfl) ?_
              change wpAny _ _ _ _ _ _ _ (World.drew _)
              refine wpAny_take (i := 0) (v := ?v0_1) rfl (by kernel_rfl) (by kernel_rfl) (by kernel_rfl) (fun _ _ _ h => h) (Or.inl ⟨by rfl, ?h0_1⟩) ?r0_1
              case h0_1 => intro w; go_simp; (try with_reducible rfl)
              try simp only [Act.put, List.setIfInBounds_toArray]
              refine wpAny_take (i := 2) (v := ?v2_2) rfl (by kernel_rfl) (by kernel_rfl) (by kernel_rfl) (fun _ _ _ h => h) (Or.inl ⟨by rfl, ?h2_2⟩) ?r2_2
              case h2_2 => intro w; go_simp; (try with_reducible rfl)
              try simp only [Act.put]
              refine wpAny_ready (rs := [1, 3]) (by kernel_rfl) (by simp) ?_
              refine AllReady.cons rfl (fun K hK => ?_) ?_
              · go_simp
                refine hK _ _ ?_
                clear hK K
                refine wpAny_ready (rs := [3]) (by kernel_rfl) (by simp) ?_
                refine AllReady.cons rfl (fun K hK => ?_) AllReady.nil
                go_simp
                refine (HCL.out _ (Below.refl _ _).drew).mono ?_
                rintro e w5 ⟨l5, q5, n5, c5, β, tx, rfl, hk5, hb5, hc5⟩
                try dsimp only
                obtain ⟨G1, G2, G3, G4, G5⟩ := HG5.out w5 hk5
                have HB5 := Lib.hid hb5
                have HC5 := Lib.hid hc5
                have HK5 := Lib.hid hk5
                clear hb5 hc5 hk5
                refine hK _ _ ?_
                clear hK K
                refine wpAny_ready (rs := [4]) (by kernel_rfl) (by simp) ?_
                refine AllReady.cons rfl (fun K hK => ?_) AllReady.nil
                go_simp
                refine hK _ _ ?_
                clear hK K
                refine wpAny_ready (rs := [5]) (by kernel_rfl) (by simp) ?_
                refine AllReady.cons rfl (fun K hK => ?_) AllReady.nil
                refine step_own_append _ rfl _ _ rfl (w1.heap.size + 1) (.slice A D.length cap) D.length (dcells D) (by rfl) (World.ownsRow.alloc G1.out _) w5.heap.size l5 (.slice q5 n5 c5) (by rfl) (Blk.new w5 _ _) rfl (by omega) (by simp; omega) ?_
                intro v7 w7 hown7 hgr7 hob7
                obtain ⟨A7, cap7, rfl⟩ := ownsRow_shape hown7
                obtain ⟨F1, F2, F3, F4, F5, F6⟩ := HG7.out w5 HK5.out β tx l5 q5 n5 c5 _ w7 HB5.out hown7 hgr7 hob7
                have HGR := Lib.hid hgr7
                have HOB := Lib.hid hob7
                have HON := Lib.hid hown7
                clear hown7 hgr7 hob7
                refine hK _ _ ?_
                clear hK K
                refine wpAny_take (i := 6) (v := ?v6_3) rfl (by kernel_rfl) (by kernel_rfl) (by kernel_rfl) (fun _ _ _ h => h) (Or.inl ⟨by rfl, ?h6_3⟩) ?r6_3
                case h6_3 => intro w; go_simp; (try with_reducible rfl)
                try simp only [Act.put, List.setIfInBounds_toArray]
                refine wpAny_ready (rs := [7]) (by kernel_rfl) (by simp) ?_
                refine AllReady.cons rfl (fun K hK => ?_) AllReady.nil
                go_simp
                refine hK _ _ ?_
                clear hK K
                refine wpAny_done (by kernel_rfl) ?_ _
                have hz5 := HK5.out.size
                have hz4s : w4.heap.size ≤ w5.heap.size := by simpa using hz5
                have hz7 := HGR.out.size
                simp only [World.size_alloc] at hz7
                have hKw7 : Kp (fun c => c < w5.heap.size ∧ (Value.slice A D.length cap).ownBlock ≠ some c) w5 w7 := ((Kp.refl _ w5).alloc _).grown HGR.out (fun k e h => absurd e h.2)
                have hXown : (Value.slice A D.length cap).ownBlock ≠ some w1.heap.size := fun e => by have := (HOW.out.lt _ e).1; omega
                have hbown : (Value.slice A D.length cap).ownBlock ≠ some b := fun e => by have := (HOW.out.lt _ e).1; omega
                have hwown : (Value.slice A D.length cap).ownBlock ≠ some w.heap.size := fun e => by have := (HOW.out.lt _ e).1; omega
                have hX7 := (HX4.out.kp (HK5.out) (by omega)).kp hKw7 ⟨G5, hXown⟩
                have hX8 : Blk (w7.setCell ⟨w1.heap.size, 1, none⟩ (.slice A7 (D.length + 1) cap7)) w1.heap.size 27 #[.int .i64 (m : Int), .slice A7 (D.length + 1) cap7] := by simpa using hX7.set_ 1 (.slice A7 (D.length + 1) cap7)
                have hB8 := (HB5.out.kp hKw7 ⟨by omega, hbown⟩).far (p := ⟨w1.heap.size, 1, none⟩) (by simp; omega) (.slice A7 (D.length + 1) cap7)
                have hR8 := ((HR4.out.kp (HK5.out) (by omega)).kp hKw7 ⟨by omega, hwown⟩).far (p := ⟨w1.heap.size, 1, none⟩) (by simp; omega) (.slice A7 (D.length + 1) cap7)
                have hK8 : Kp (fun c => c ≠ b) w (w7.setCell ⟨w1.heap.size, 1, none⟩ (.slice A7 (D.length + 1) cap7)) := by
                  have h1 : Kp (fun c => c ≠ b ∧ c < w.heap.size) w w7 := ((HK4.out.drew.trans HK5.out).mono (fun k _ h => h.1)).trans (hKw7.mono (fun k _ h => ⟨by omega, fun e => by have := (HOW.out.lt _ e).1; omega⟩))
                  exact (h1.mono (fun k hk h => ⟨h, hk⟩)).setCell (p := ⟨w1.heap.size, 1, none⟩) (fun _ => by simp; omega) _
                have HX8 := Lib.hid hX8
                have HB8 := Lib.hid hB8
                have HR8 := Lib.hid hR8
                have HK8 := Lib.hid hK8
                have y0 : (w7.setCell ⟨w1.heap.size, 1, none⟩ (.slice A7 (D.length + 1) cap7)).cell? ⟨w1.heap.size, 0, none⟩ = some (.int .i64 (m : Int)) := by rw [hX8.cell]; rfl
                have y1 : (w7.setCell ⟨w1.heap.size, 1, none⟩ (.slice A7 (D.length + 1) cap7)).cell? ⟨w1.heap.size, 1, none⟩ = some (.slice A7 (D.length + 1) cap7) := by rw [hX8.cell]; rfl
                have y3 : (w7.setCell ⟨w1.heap.size, 1, none⟩ (.slice A7 (D.length + 1) cap7)).cell? ⟨b, 3, none⟩ = some (.bool β) := by rw [hB8.cell]; rfl
                have y4 := hX8.lt
                have y5 := hB8.lt
                have y6 : (w7.setCell ⟨w1.heap.size, 1, none⟩ (.slice A7 (D.length + 1) cap7)).cell? ⟨w.heap.size, 0, none⟩ = some (.int .i64 0) := by rw [hR8.cell]; rfl
                have y7 : (w7.setCell ⟨w1.heap.size, 1, none⟩ (.slice A7 (D.length + 1) cap7)).cell? ⟨w.heap.size, 1, none⟩ = some (.slice none 0 0) := by rw [hR8.cell]; rfl
                have y8 := hR8.frozen 0
                have y9 := hR8.frozen 1
                have y10 := hR8.lt
                have HKW := Lib.hid hKw7
                have hset : Kp (fun c => c ≠ w1.heap.size) w7 (w7.setCell ⟨w1.heap.size, 1, none⟩ (.slice A7 (D.length + 1) cap7)) := (Kp.refl _ _).setCell (p := ⟨w1.heap.size, 1, none⟩) (fun h => absurd rfl h) _
                have HSET := Lib.hid hset
                generalize w7.setCell ⟨w1.heap.size, 1, none⟩ (.slice A7 (D.length + 1) cap7) = w8 at *
                clear hX7 hX8 hB8 hR8 hK8 hKw7 hset F1 F2 F3 F4 F5 F6 G2 G3 G4
                have hnew : ∀ c, c < w5.heap.size → (Value.slice A D.length cap).ownBlock ≠ some c → (Value.slice A7 (D.length + 1) cap7).ownBlock ≠ some c := by
                  intro c hc h1 h2
                  rcases HOB.out with h | h
                  · exact h1 (by rw [← h, h2])
                  · rw [h2, Option.some.injEq, World.size_alloc] at h; omega
                have HNW := Lib.hid hnew
                clear hnew hXown hbown hwown
                rcases HC5.out with ⟨rfl, t, e', ht, rfl, rfl, hw5, hq5⟩ | ⟨rfl, ht⟩
                · have hend := rt_end HNL.out HNE.out hva g _ t e' hi2 ht
                  have HQ5 := Lib.hid hq5
                  have HT5 := Lib.hid ht
                  have HD8 : Hid (DIn (fun c => w1.heap.size < c ∧ (Value.slice A7 (D.length + 1) cap7).ownBlock ≠ some c) w8 (D ++ [(t.1, t.2, Value.slice q5 n5 c5)])) := Lib.hid (by
                    have hzr4 := HKr4.out.size
                    have hKD : Kp (fun c => (w1.heap.size < c ∧ (Value.slice A D.length cap).ownBlock ≠ some c) ∧ c < wr.heap.size) wr w8 := (((HKr4.out.drew.trans HK5.out).mono (fun k _ h => by omega)).trans (HKW.out.mono (fun k _ h => ⟨by omega, h.1.2⟩))).trans (HSET.out.mono (fun k _ h => by omega))
                    have h1 := ((HDI.out.mono (S' := fun c => (w1.heap.size < c ∧ (Value.slice A D.length cap).ownBlock ≠ some c) ∧ c < wr.heap.size) (fun c hc h => ⟨h, hc⟩)).kp hKD).mono (S' := fun c => w1.heap.size < c ∧ (Value.slice A7 (D.length + 1) cap7).ownBlock ≠ some c) (fun c _ h => ⟨h.1.1, HNW.out c (by omega) h.1.2⟩)
                    have hold : ∀ c, w4.heap.size ≤ c → (Value.slice A D.length cap).ownBlock ≠ some c := fun c hc e => by have := (HOW.out.lt _ e).2; omega
                    have h2 := ((HQ5.out.mono (S' := fun c => w4.heap.size ≤ c ∧ c < w5.heap.size) (fun c hc h => ⟨h, hc⟩)).kp ((HKW.out.mono (fun k _ h => ⟨h.2, hold k h.1⟩)).trans (HSET.out.mono (fun k _ h => by omega)))).mono (S' := fun c => w1.heap.size < c ∧ (Value.slice A7 (D.length + 1) cap7).ownBlock ≠ some c) (fun c _ h => ⟨by omega, HNW.out c h.2 (hold c h.1)⟩)
                    exact h1.snoc (x := (t.1, t.2, Value.slice q5 n5 c5)) ⟨hw5, h2⟩)
                  have HO8 : Hid (w8.ownsRow (w1.heap.size + 1) 27 2 (.slice A7 (D.length + 1) cap7) (D.length + 1) (dcells (D ++ [(t.1, t.2, Value.slice q5 n5 c5)]))) := Lib.hid (by
                    rw [dcells_snoc]
                    exact ownsRow_heap HON.out (fun j hj => HSET.out.block j (HON.out.lt j hj).2 (by have := (HON.out.lt j hj).1; omega)))
                  have HR5 : Hid (rt s names al (g + 1) i = (more (D ++ [(t.1, t.2, Value.slice q5 n5 c5)]) (rk s (rt s names al g) r false e')).map fun y => (((m : Int), y.1), y.2)) := Lib.hid (by rw [HRD2.out, HRK.out, HT5.out, more_snoc]; rfl)
                  clear hq5 ht
                  go_wp2_with fail
                  go_roundw
                  case rel =>
                    have hl : (D ++ [(t.1, t.2, Value.slice q5 n5 c5)]).length = D.length + 1 := by simp
                    have hrr := HRr.out
                    refine ⟨D ++ [(t.1, t.2, Value.slice q5 n5 c5)], e', A7, cap7, by rw [hl]; go_num, by rw [hl]; omega, by omega, hend.2.1, HB8, Lib.hid ⟨fun h => absurd h (by omega), fun _ => ?_⟩, by rw [hl]; exact HX8, by rw [hl]; exact HO8, by rw [hl]; exact HD8, HK8, HR8⟩
                    rw [hl, show n - (D.length + 1) = r by omega, show decide (D.length + 1 = 0) = false by simp]
                    exact HR5.out
                  case measure => simp [intOf]; omega
                · have HRn : Hid (rt s names al (g + 1) i = none) := Lib.hid (by rw [HRD2.out, HRK.out, ht]; rfl)
                  clear ht
                  go_wp2_with fail
                  refine bodyPost_ret (v := .agg #[.int .i64 (m : Int), .slice A7 (D.length + 1) cap7]) (results_cell_row rfl _ _ w.heap.size 27 _ (0, 0) _ rfl ((HR8.out.set_ 0 _).set_ 1 _) Tryd.underlying27 rfl Tryd.infoTreeS) rfl ?_
                  have hkE := (HK8.out.setCell (p := ⟨w.heap.size, 0, none⟩) (fun _ => by simp) (.int .i64 (m : Int))).setCell (p := ⟨w.heap.size, 1, none⟩) (fun _ => by simp) (.slice A7 (D.length + 1) cap7)
                  have hbE := (HB8.out.far (p := ⟨w.heap.size, 0, none⟩) (by simp; omega) (.int .i64 (m : Int))).far (p := ⟨w.heap.size, 1, none⟩) (by simp; omega) (.slice A7 (D.length + 1) cap7)
                  first
                    | exact ⟨_, _, _, _, true, _, rfl, hkE, hbE, .inr ⟨rfl, HRn.out⟩⟩
                    | exact ⟨_, _, _, _, rfl, hkE, .inr ⟨⟨_, hbE⟩, HRn.out⟩⟩
                    | exact ⟨_, _, _, _, rfl, hkE, .inr ⟨_, hbE, HRn.out⟩⟩
              refine AllReady.cons rfl (fun K hK => ?_) AllReady.nil
              go_simp
              refine (HCL.out _ (Below.refl _ _).drew).mono ?_
              rintro e w5 ⟨l5, q5, n5, c5, β, tx, rfl, hk5, hb5, hc5⟩
              try dsimp only
              obtain ⟨G1, G2, G3, G4, G5⟩ := HG5.out w5 hk5
              have HB5 := Lib.hid hb5
              have HC5 := Lib.hid hc5
              have HK5 := Lib.hid hk5
              clear hb5 hc5 hk5
              refine hK _ _ ?_
              clear hK K
              refine wpAny_ready (rs := [1, 4]) (by kernel_rfl) (by simp) ?_
              refine AllReady.cons rfl (fun K hK => ?_) ?_
              · go_simp
                refine hK _ _ ?_
                clear hK K
                refine wpAny_ready (rs := [4]) (by kernel_rfl) (by simp) ?_
                refine AllReady.cons rfl (fun K hK => ?_) AllReady.nil
                go_simp
                refine hK _ _ ?_
                clear hK K
                refine wpAny_ready (rs := [5]) (by kernel_rfl) (by simp) ?_
                refine AllReady.cons rfl (fun K hK => ?_) AllReady.nil
                refine step_own_append _ rfl _ _ rfl (w1.heap.size + 1) (.slice A D.length cap) D.length (dcells D) (by rfl) (World.ownsRow.alloc G1.out _) w5.heap.size l5 (.slice q5 n5 c5) (by rfl) (Blk.new w5 _ _) rfl (by omega) (by simp; omega) ?_
                intro v7 w7 hown7 hgr7 hob7
                obtain ⟨A7, cap7, rfl⟩ := ownsRow_shape hown7
                obtain ⟨F1, F2, F3, F4, F5, F6⟩ := HG7.out w5 HK5.out β tx l5 q5 n5 c5 _ w7 HB5.out hown7 hgr7 hob7
                have HGR := Lib.hid hgr7
                have HOB := Lib.hid hob7
                have HON := Lib.hid hown7
                clear hown7 hgr7 hob7
                refine hK _ _ ?_
                clear hK K
                refine wpAny_take (i := 6) (v := ?v6_4) rfl (by kernel_rfl) (by kernel_rfl) (by kernel_rfl) (fun _ _ _ h => h) (Or.inl ⟨by rfl, ?h6_4⟩) ?r6_4
                case h6_4 => intro w; go_simp; (try with_reducible rfl)
                try simp only [Act.put, List.setIfInBounds_toArray]
                refine wpAny_ready (rs := [7]) (by kernel_rfl) (by simp) ?_
                refine AllReady.cons rfl (fun K hK => ?_) AllReady.nil
                go_simp
                refine hK _ _ ?_
                clear hK K
                refine wpAny_done (by kernel_rfl) ?_ _
                have hz5 := HK5.out.size
                have hz4s : w4.heap.size ≤ w5.heap.size := by simpa using hz5
                have hz7 := HGR.out.size
                simp only [World.size_alloc] at hz7
                have hKw7 : Kp (fun c => c < w5.heap.size ∧ (Value.slice A D.length cap).ownBlock ≠ some c) w5 w7 := ((Kp.refl _ w5).alloc _).grown HGR.out (fun k e h => absurd e h.2)
                have hXown : (Value.slice A D.length cap).ownBlock ≠ some w1.heap.size := fun e => by have := (HOW.out.lt _ e).1; omega
                have hbown : (Value.slice A D.length cap).ownBlock ≠ some b := fun e => by have := (HOW.out.lt _ e).1; omega
                have hwown : (Value.slice A D.length cap).ownBlock ≠ some w.heap.size := fun e => by have := (HOW.out.lt _ e).1; omega
                have hX7 := (HX4.out.kp (HK5.out) (by omega)).kp hKw7 ⟨G5, hXown⟩
                have hX8 : Blk (w7.setCell ⟨w1.heap.size, 1, none⟩ (.slice A7 (D.length + 1) cap7)) w1.heap.size 27 #[.int .i64 (m : Int), .slice A7 (D.length + 1) cap7] := by simpa using hX7.set_ 1 (.slice A7 (D.length + 1) cap7)
                have hB8 := (HB5.out.kp hKw7 ⟨by omega, hbown⟩).far (p := ⟨w1.heap.size, 1, none⟩) (by simp; omega) (.slice A7 (D.length + 1) cap7)
                have hR8 := ((HR4.out.kp (HK5.out) (by omega)).kp hKw7 ⟨by omega, hwown⟩).far (p := ⟨w1.heap.size, 1, none⟩) (by simp; omega) (.slice A7 (D.length + 1) cap7)
                have hK8 : Kp (fun c => c ≠ b) w (w7.setCell ⟨w1.heap.size, 1, none⟩ (.slice A7 (D.length + 1) cap7)) := by
                  have h1 : Kp (fun c => c ≠ b ∧ c < w.heap.size) w w7 := ((HK4.out.drew.trans HK5.out).mono (fun k _ h => h.1)).trans (hKw7.mono (fun k _ h => ⟨by omega, fun e => by have := (HOW.out.lt _ e).1; omega⟩))
                  exact (h1.mono (fun k hk h => ⟨h, hk⟩)).setCell (p := ⟨w1.heap.size, 1, none⟩) (fun _ => by simp; omega) _
                have HX8 := Lib.hid hX8
                have HB8 := Lib.hid hB8
                have HR8 := Lib.hid hR8
                have HK8 := Lib.hid hK8
                have y0 : (w7.setCell ⟨w1.heap.size, 1, none⟩ (.slice A7 (D.length + 1) cap7)).cell? ⟨w1.heap.size, 0, none⟩ = some (.int .i64 (m : Int)) := by rw [hX8.cell]; rfl
                have y1 : (w7.setCell ⟨w1.heap.size, 1, none⟩ (.slice A7 (D.length + 1) cap7)).cell? ⟨w1.heap.size, 1, none⟩ = some (.slice A7 (D.length + 1) cap7) := by rw [hX8.cell]; rfl
                have y3 : (w7.setCell ⟨w1.heap.size, 1, none⟩ (.slice A7 (D.length + 1) cap7)).cell? ⟨b, 3, none⟩ = some (.bool β) := by rw [hB8.cell]; rfl
                have y4 := hX8.lt
                have y5 := hB8.lt
                have y6 : (w7.setCell ⟨w1.heap.size, 1, none⟩ (.slice A7 (D.length + 1) cap7)).cell? ⟨w.heap.size, 0, none⟩ = some (.int .i64 0) := by rw [hR8.cell]; rfl
                have y7 : (w7.setCell ⟨w1.heap.size, 1, none⟩ (.slice A7 (D.length + 1) cap7)).cell? ⟨w.heap.size, 1, none⟩ = some (.slice none 0 0) := by rw [hR8.cell]; rfl
                have y8 := hR8.frozen 0
                have y9 := hR8.frozen 1
                have y10 := hR8.lt
                have HKW := Lib.hid hKw7
                have hset : Kp (fun c => c ≠ w1.heap.size) w7 (w7.setCell ⟨w1.heap.size, 1, none⟩ (.slice A7 (D.length + 1) cap7)) := (Kp.refl _ _).setCell (p := ⟨w1.heap.size, 1, none⟩) (fun h => absurd rfl h) _
                have HSET := Lib.hid hset
                generalize w7.setCell ⟨w1.heap.size, 1, none⟩ (.slice A7 (D.length + 1) cap7) = w8 at *
                clear hX7 hX8 hB8 hR8 hK8 hKw7 hset F1 F2 F3 F4 F5 F6 G2 G3 G4
                have hnew : ∀ c, c < w5.heap.size → (Value.slice A D.length cap).ownBlock ≠ some c → (Value.slice A7 (D.length + 1) cap7).ownBlock ≠ some c := by
                  intro c hc h1 h2
                  rcases HOB.out with h | h
                  · exact h1 (by rw [← h, h2])
                  · rw [h2, Option.some.injEq, World.size_alloc] at h; omega
                have HNW := Lib.hid hnew
                clear hnew hXown hbown hwown
                rcases HC5.out with ⟨rfl, t, e', ht, rfl, rfl, hw5, hq5⟩ | ⟨rfl, ht⟩
                · have hend := rt_end HNL.out HNE.out hva g _ t e' hi2 ht
                  have HQ5 := Lib.hid hq5
                  have HT5 := Lib.hid ht
                  have HD8 : Hid (DIn (fun c => w1.heap.size < c ∧ (Value.slice A7 (D.length + 1) cap7).ownBlock ≠ some c) w8 (D ++ [(t.1, t.2, Value.slice q5 n5 c5)])) := Lib.hid (by
                    have hzr4 := HKr4.out.size
                    have hKD : Kp (fun c => (w1.heap.size < c ∧ (Value.slice A D.length cap).ownBlock ≠ some c) ∧ c < wr.heap.size) wr w8 := (((HKr4.out.drew.trans HK5.out).mono (fun k _ h => by omega)).trans (HKW.out.mono (fun k _ h => ⟨by omega, h.1.2⟩))).trans (HSET.out.mono (fun k _ h => by omega))
                    have h1 := ((HDI.out.mono (S' := fun c => (w1.heap.size < c ∧ (Value.slice A D.length cap).ownBlock ≠ some c) ∧ c < wr.heap.size) (fun c hc h => ⟨h, hc⟩)).kp hKD).mono (S' := fun c => w1.heap.size < c ∧ (Value.slice A7 (D.length + 1) cap7).ownBlock ≠ some c) (fun c _ h => ⟨h.1.1, HNW.out c (by omega) h.1.2⟩)
                    have hold : ∀ c, w4.heap.size ≤ c → (Value.slice A D.length cap).ownBlock ≠ some c := fun c hc e => by have := (HOW.out.lt _ e).2; omega
                    have h2 := ((HQ5.out.mono (S' := fun c => w4.heap.size ≤ c ∧ c < w5.heap.size) (fun c hc h => ⟨h, hc⟩)).kp ((HKW.out.mono (fun k _ h => ⟨h.2, hold k h.1⟩)).trans (HSET.out.mono (fun k _ h => by omega)))).mono (S' := fun c => w1.heap.size < c ∧ (Value.slice A7 (D.length + 1) cap7).ownBlock ≠ some c) (fun c _ h => ⟨by omega, HNW.out c h.2 (hold c h.1)⟩)
                    exact h1.snoc (x := (t.1, t.2, Value.slice q5 n5 c5)) ⟨hw5, h2⟩)
                  have HO8 : Hid (w8.ownsRow (w1.heap.size + 1) 27 2 (.slice A7 (D.length + 1) cap7) (D.length + 1) (dcells (D ++ [(t.1, t.2, Value.slice q5 n5 c5)]))) := Lib.hid (by
                    rw [dcells_snoc]
                    exact ownsRow_heap HON.out (fun j hj => HSET.out.block j (HON.out.lt j hj).2 (by have := (HON.out.lt j hj).1; omega)))
                  have HR5 : Hid (rt s names al (g + 1) i = (more (D ++ [(t.1, t.2, Value.slice q5 n5 c5)]) (rk s (rt s names al g) r false e')).map fun y => (((m : Int), y.1), y.2)) := Lib.hid (by rw [HRD2.out, HRK.out, HT5.out, more_snoc]; rfl)
                  clear hq5 ht
                  go_wp2_with fail
                  go_roundw
                  case rel =>
                    have hl : (D ++ [(t.1, t.2, Value.slice q5 n5 c5)]).length = D.length + 1 := by simp
                    have hrr := HRr.out
                    refine ⟨D ++ [(t.1, t.2, Value.slice q5 n5 c5)], e', A7, cap7, by rw [hl]; go_num, by rw [hl]; omega, by omega, hend.2.1, HB8, Lib.hid ⟨fun h => absurd h (by omega), fun _ => ?_⟩, by rw [hl]; exact HX8, by rw [hl]; exact HO8, by rw [hl]; exact HD8, HK8, HR8⟩
                    rw [hl, show n - (D.length + 1) = r by omega, show decide (D.length + 1 = 0) = false by simp]
                    exact HR5.out
                  case measure => simp [intOf]; omega
                · have HRn : Hid (rt s names al (g + 1) i = none) := Lib.hid (by rw [HRD2.out, HRK.out, ht]; rfl)
                  clear ht
                  go_wp2_with fail
                  refine bodyPost_ret (v := .agg #[.int .i64 (m : Int), .slice A7 (D.length + 1) cap7]) (results_cell_row rfl _ _ w.heap.size 27 _ (0, 0) _ rfl ((HR8.out.set_ 0 _).set_ 1 _) Tryd.underlying27 rfl Tryd.infoTreeS) rfl ?_
                  have hkE := (HK8.out.setCell (p := ⟨w.heap.size, 0, none⟩) (fun _ => by simp) (.int .i64 (m : Int))).setCell (p := ⟨w.heap.size, 1, none⟩) (fun _ => by simp) (.slice A7 (D.length + 1) cap7)
                  have hbE := (HB8.out.far (p := ⟨w.heap.size, 0, none⟩) (by simp; omega) (.int .i64 (m : Int))).far (p := ⟨w.heap.size, 1, none⟩) (by simp; omega) (.slice A7 (D.length + 1) cap7)
                  first
                    | exact ⟨_, _, _, _, true, _, rfl, hkE, hbE, .inr ⟨rfl, HRn.out⟩⟩
                    | exact ⟨_, _, _, _, rfl, hkE, .inr ⟨⟨_, hbE⟩, HRn.out⟩⟩
                    | exact ⟨_, _, _, _, rfl, hkE, .inr ⟨_, hbE, HRn.out⟩⟩
              refine AllReady.cons rfl (fun K hK => ?_) AllReady.nil
              go_simp
              refine hK _ _ ?_
              clear hK K
              refine wpAny_ready (rs := [1]) (by kernel_rfl) (by simp) ?_
              refine AllReady.cons rfl (fun K hK => ?_) AllReady.nil
              go_simp
              refine hK _ _ ?_
              clear hK K
              refine wpAny_ready (rs := [5]) (by kernel_rfl) (by simp) ?_
              refine AllReady.cons rfl (fun K hK => ?_) AllReady.nil
              refine step_own_append _ rfl _ _ rfl (w1.heap.size + 1) (.slice A D.length cap) D.length (dcells D) (by rfl) (World.ownsRow.alloc G1.out _) w5.heap.size l5 (.slice q5 n5 c5) (by rfl) (Blk.new w5 _ _) rfl (by omega) (by simp; omega) ?_
              intro v7 w7 hown7 hgr7 hob7
              obtain ⟨A7, cap7, rfl⟩ := ownsRow_shape hown7
              obtain ⟨F1, F2, F3, F4, F5, F6⟩ := HG7.out w5 HK5.out β tx l5 q5 n5 c5 _ w7 HB5.out hown7 hgr7 hob7
              have HGR := Lib.hid hgr7
              have HOB := Lib.hid hob7
              have HON := Lib.hid hown7
              clear hown7 hgr7 hob7
              refine hK _ _ ?_
              clear hK K
              refine wpAny_take (i := 6) (v := ?v6_5) rfl (by kernel_rfl) (by kernel_rfl) (by kernel_rfl) (fun _ _ _ h => h) (Or.inl ⟨by rfl, ?h6_5⟩) ?r6_5
              case h6_5 => intro w; go_simp; (try with_reducible rfl)
              try simp only [Act.put, List.setIfInBounds_toArray]
              refine wpAny_ready (rs := [7]) (by kernel_rfl) (by simp) ?_
              refine AllReady.cons rfl (fun K hK => ?_) AllReady.nil
              go_simp
              refine hK _ _ ?_
              clear hK K
              refine wpAny_done (by kernel_rfl) ?_ _
              have hz5 := HK5.out.size
              have hz4s : w4.heap.size ≤ w5.heap.size := by simpa using hz5
              have hz7 := HGR.out.size
              simp only [World.size_alloc] at hz7
              have hKw7 : Kp (fun c => c < w5.heap.size ∧ (Value.slice A D.length cap).ownBlock ≠ some c) w5 w7 := ((Kp.refl _ w5).alloc _).grown HGR.out (fun k e h => absurd e h.2)
              have hXown : (Value.slice A D.length cap).ownBlock ≠ some w1.heap.size := fun e => by have := (HOW.out.lt _ e).1; omega
              have hbown : (Value.slice A D.length cap).ownBlock ≠ some b := fun e => by have := (HOW.out.lt _ e).1; omega
              have hwown : (Value.slice A D.length cap).ownBlock ≠ some w.heap.size := fun e => by have := (HOW.out.lt _ e).1; omega
              have hX7 := (HX4.out.kp (HK5.out) (by omega)).kp hKw7 ⟨G5, hXown⟩
              have hX8 : Blk (w7.setCell ⟨w1.heap.size, 1, none⟩ (.slice A7 (D.length + 1) cap7)) w1.heap.size 27 #[.int .i64 (m : Int), .slice A7 (D.length + 1) cap7] := by simpa using hX7.set_ 1 (.slice A7 (D.length + 1) cap7)
              have hB8 := (HB5.out.kp hKw7 ⟨by omega, hbown⟩).far (p := ⟨w1.heap.size, 1, none⟩) (by simp; omega) (.slice A7 (D.length + 1) cap7)
              have hR8 := ((HR4.out.kp (HK5.out) (by omega)).kp hKw7 ⟨by omega, hwown⟩).far (p := ⟨w1.heap.size, 1, none⟩) (by simp; omega) (.slice A7 (D.length + 1) cap7)
              have hK8 : Kp (fun c => c ≠ b) w (w7.setCell ⟨w1.heap.size, 1, none⟩ (.slice A7 (D.length + 1) cap7)) := by
                have h1 : Kp (fun c => c ≠ b ∧ c < w.heap.size) w w7 := ((HK4.out.drew.trans HK5.out).mono (fun k _ h => h.1)).trans (hKw7.mono (fun k _ h => ⟨by omega, fun e => by have := (HOW.out.lt _ e).1; omega⟩))
                exact (h1.mono (fun k hk h => ⟨h, hk⟩)).setCell (p := ⟨w1.heap.size, 1, none⟩) (fun _ => by simp; omega) _
              have HX8 := Lib.hid hX8
              have HB8 := Lib.hid hB8
              have HR8 := Lib.hid hR8
              have HK8 := Lib.hid hK8
              have y0 : (w7.setCell ⟨w1.heap.size, 1, none⟩ (.slice A7 (D.length + 1) cap7)).cell? ⟨w1.heap.size, 0, none⟩ = some (.int .i64 (m : Int)) := by rw [hX8.cell]; rfl
              have y1 : (w7.setCell ⟨w1.heap.size, 1, none⟩ (.slice A7 (D.length + 1) cap7)).cell? ⟨w1.heap.size, 1, none⟩ = some (.slice A7 (D.length + 1) cap7) := by rw [hX8.cell]; rfl
              have y3 : (w7.setCell ⟨w1.heap.size, 1, none⟩ (.slice A7 (D.length + 1) cap7)).cell? ⟨b, 3, none⟩ = some (.bool β) := by rw [hB8.cell]; rfl
              have y4 := hX8.lt
              have y5 := hB8.lt
              have y6 : (w7.setCell ⟨w1.heap.size, 1, none⟩ (.slice A7 (D.length + 1) cap7)).cell? ⟨w.heap.size, 0, none⟩ = some (.int .i64 0) := by rw [hR8.cell]; rfl
              have y7 : (w7.setCell ⟨w1.heap.size, 1, none⟩ (.slice A7 (D.length + 1) cap7)).cell? ⟨w.heap.size, 1, none⟩ = some (.slice none 0 0) := by rw [hR8.cell]; rfl
              have y8 := hR8.frozen 0
              have y9 := hR8.frozen 1
              have y10 := hR8.lt
              have HKW := Lib.hid hKw7
              have hset : Kp (fun c => c ≠ w1.heap.size) w7 (w7.setCell ⟨w1.heap.size, 1, none⟩ (.slice A7 (D.length + 1) cap7)) := (Kp.refl _ _).setCell (p := ⟨w1.heap.size, 1, none⟩) (fun h => absurd rfl h) _
              have HSET := Lib.hid hset
              generalize w7.setCell ⟨w1.heap.size, 1, none⟩ (.slice A7 (D.length + 1) cap7) = w8 at *
              clear hX7 hX8 hB8 hR8 hK8 hKw7 hset F1 F2 F3 F4 F5 F6 G2 G3 G4
              have hnew : ∀ c, c < w5.heap.size → (Value.slice A D.length cap).ownBlock ≠ some c → (Value.slice A7 (D.length + 1) cap7).ownBlock ≠ some c := by
                intro c hc h1 h2
                rcases HOB.out with h | h
                · exact h1 (by rw [← h, h2])
                · rw [h2, Option.some.injEq, World.size_alloc] at h; omega
              have HNW := Lib.hid hnew
              clear hnew hXown hbown hwown
              rcases HC5.out with ⟨rfl, t, e', ht, rfl, rfl, hw5, hq5⟩ | ⟨rfl, ht⟩
              · have hend := rt_end HNL.out HNE.out hva g _ t e' hi2 ht
                have HQ5 := Lib.hid hq5
                have HT5 := Lib.hid ht
                have HD8 : Hid (DIn (fun c => w1.heap.size < c ∧ (Value.slice A7 (D.length + 1) cap7).ownBlock ≠ some c) w8 (D ++ [(t.1, t.2, Value.slice q5 n5 c5)])) := Lib.hid (by
                  have hzr4 := HKr4.out.size
                  have hKD : Kp (fun c => (w1.heap.size < c ∧ (Value.slice A D.length cap).ownBlock ≠ some c) ∧ c < wr.heap.size) wr w8 := (((HKr4.out.drew.trans HK5.out).mono (fun k _ h => by omega)).trans (HKW.out.mono (fun k _ h => ⟨by omega, h.1.2⟩))).trans (HSET.out.mono (fun k _ h => by omega))
                  have h1 := ((HDI.out.mono (S' := fun c => (w1.heap.size < c ∧ (Value.slice A D.length cap).ownBlock ≠ some c) ∧ c < wr.heap.size) (fun c hc h => ⟨h, hc⟩)).kp hKD).mono (S' := fun c => w1.heap.size < c ∧ (Value.slice A7 (D.length + 1) cap7).ownBlock ≠ some c) (fun c _ h => ⟨h.1.1, HNW.out c (by omega) h.1.2⟩)
                  have hold : ∀ c, w4.heap.size ≤ c → (Value.slice A D.length cap).ownBlock ≠ some c := fun c hc e => by have := (HOW.out.lt _ e).2; omega
                  have h2 := ((HQ5.out.mono (S' := fun c => w4.heap.size ≤ c ∧ c < w5.heap.size) (fun c hc h => ⟨h, hc⟩)).kp ((HKW.out.mono (fun k _ h => ⟨h.2, hold k h.1⟩)).trans (HSET.out.mono (fun k _ h => by omega)))).mono (S' := fun c => w1.heap.size < c ∧ (Value.slice A7 (D.length + 1) cap7).ownBlock ≠ some c) (fun c _ h => ⟨by omega, HNW.out c h.2 (hold c h.1)⟩)
                  exact h1.snoc (x := (t.1, t.2, Value.slice q5 n5 c5)) ⟨hw5, h2⟩)
                have HO8 : Hid (w8.ownsRow (w1.heap.size + 1) 27 2 (.slice A7 (D.length + 1) cap7) (D.length + 1) (dcells (D ++ [(t.1, t.2, Value.slice q5 n5 c5)]))) := Lib.hid (by
                  rw [dcells_snoc]
                  exact ownsRow_heap HON.out (fun j hj => HSET.out.block j (HON.out.lt j hj).2 (by have := (HON.out.lt j hj).1; omega)))
                have HR5 : Hid (rt s names al (g + 1) i = (more (D ++ [(t.1, t.2, Value.slice q5 n5 c5)]) (rk s (rt s names al g) r false e')).map fun y => (((m : Int), y.1), y.2)) := Lib.hid (by rw [HRD2.out, HRK.out, HT5.out, more_snoc]; rfl)
                clear hq5 ht
                go_wp2_with fail
                go_roundw
                case rel =>
                  have hl : (D ++ [(t.1, t.2, Value.slice q5 n5 c5)]).length = D.length + 1 := by simp
                  have hrr := HRr.out
                  refine ⟨D ++ [(t.1, t.2, Value.slice q5 n5 c5)], e', A7, cap7, by rw [hl]; go_num, by rw [hl]; omega, by omega, hend.2.1, HB8, Lib.hid ⟨fun h => absurd h (by omega), fun _ => ?_⟩, by rw [hl]; exact HX8, by rw [hl]; exact HO8, by rw [hl]; exact HD8, HK8, HR8⟩
                  rw [hl, show n - (D.length + 1) = r by omega, show decide (D.length + 1 = 0) = false by simp]
                  exact HR5.out
                case measure => simp [intOf]; omega
              · have HRn : Hid (rt s names al (g + 1) i = none) := Lib.hid (by rw [HRD2.out, HRK.out, ht]; rfl)
                clear ht
                go_wp2_with fail
                refine bodyPost_ret (v := .agg #[.int .i64 (m : Int), .slice A7 (D.length + 1) cap7]) (results_cell_row rfl _ _ w.heap.size 27 _ (0, 0) _ rfl ((HR8.out.set_ 0 _).set_ 1 _) Tryd.underlying27 rfl Tryd.infoTreeS) rfl ?_
                have hkE := (HK8.out.setCell (p := ⟨w.heap.size, 0, none⟩) (fun _ => by simp) (.int .i64 (m : Int))).setCell (p := ⟨w.heap.size, 1, none⟩) (fun _ => by simp) (.slice A7 (D.length + 1) cap7)
                have hbE := (HB8.out.far (p := ⟨w.heap.size, 0, none⟩) (by simp; omega) (.int .i64 (m : Int))).far (p := ⟨w.heap.size, 1, none⟩) (by simp; omega) (.slice A7 (D.length + 1) cap7)
                first
                  | exact ⟨_, _, _, _, true, _, rfl, hkE, hbE, .inr ⟨rfl, HRn.out⟩⟩
                  | exact ⟨_, _, _, _, rfl, hkE, .inr ⟨⟨_, hbE⟩, HRn.out⟩⟩
                  | exact ⟨_, _, _, _, rfl, hkE, .inr ⟨_, hbE, HRn.out⟩⟩
            · have hzb : ((D.length : Int) == 0) = false := by simpa using h0
              have hzd : decide ((D.length : Int) = 0) = false := decide_eq_false (by omega)
              have HMK : Hid ((if decide (D.length = 0) = true then (40 : Int) else 44) = 44) := Lib.hid (by simp [h0])
              clear h0
              go_wp2_with fail
              refine (HMu.out i' false 44 (by decide) _ HX.out hi').mono ?_
              rintro e w4 ⟨rfl, hk4, ⟨hq, hb4⟩ | ⟨hq, hb4⟩⟩
              rotate_left
              · have HRn : Hid (rt s names al (g + 1) i = none) := Lib.hid (by rw [HRD2.out, rk_bad (by rw [HMK.out]; exact hq)]; rfl)
                have HK4 := Lib.hid (HK.out.trans hk4)
                have hX4 := HXO.out.kp hk4 (by omega)
                have hR4 := HR.out.kp hk4 (by omega)
                have HR4 := Lib.hid hR4
                have HB4 := Lib.hid hb4
                have z3 : w4.cell? ⟨b, 3, none⟩ = some (.bool true) := by rw [hb4.cell]; rfl
                have z4 := hb4.lt
                have x0 : w4.cell? ⟨w1.heap.size, 0, none⟩ = some (.int .i64 (m : Int)) := by rw [hX4.cell]; rfl
                have x1 : w4.cell? ⟨w1.heap.size, 1, none⟩ = some (.slice A D.length cap) := by rw [hX4.cell]; rfl
                have x4 := hX4.lt
                have y6 : w4.cell? ⟨w.heap.size, 0, none⟩ = some (.int .i64 0) := by rw [hR4.cell]; rfl
                have y7 : w4.cell? ⟨w.heap.size, 1, none⟩ = some (.slice none 0 0) := by rw [hR4.cell]; rfl
                have y8 := hR4.frozen 0
                have y9 := hR4.frozen 1
                have y10 := hR4.lt
                clear hk4 hb4 hq hX4 hR4
                go_wp2_with fail
                refine bodyPost_ret (v := .agg #[.int .i64 (m : Int), .slice A D.length cap]) (results_cell_row rfl _ _ w.heap.size 27 _ (0, 0) _ rfl ((HR4.out.set_ 0 _).set_ 1 _) Tryd.underlying27 rfl Tryd.infoTreeS) rfl ?_
                have hkE := (HK4.out.setCell (p := ⟨w.heap.size, 0, none⟩) (fun _ => by simp) (.int .i64 (m : Int))).setCell (p := ⟨w.heap.size, 1, none⟩) (fun _ => by simp) (.slice A D.length cap)
                have hbE := (HB4.out.far (p := ⟨w.heap.size, 0, none⟩) (by simp; omega) (.int .i64 (m : Int))).far (p := ⟨w.heap.size, 1, none⟩) (by simp; omega) (.slice A D.length cap)
                first
                  | exact ⟨_, _, _, _, true, _, rfl, hkE, hbE, .inr ⟨rfl, HRn.out⟩⟩
                  | exact ⟨_, _, _, _, rfl, hkE, .inr ⟨⟨_, hbE⟩, HRn.out⟩⟩
                  | exact ⟨_, _, _, _, rfl, hkE, .inr ⟨_, hbE, HRn.out⟩⟩
              rw [← HMK.out] at hq
              have hjl := mark_lt hq
              have hi2 : skB s i' + 1 ≤ s.size := by omega
              have HRK := Lib.hid (rk_good (g := rt s names al g) (n := r) hq)
              have HK4 := Lib.hid (HK.out.trans hk4)
              have hz4 := hk4.size
              have HX4 := Lib.hid ((HXO.out.kp hk4 (by omega)).drew)
              have HR4 := Lib.hid ((HR.out.kp hk4 (by omega)).drew)
              have HOW4 := Lib.hid (ownsRow_heap HOW.out (fun j hj => hk4.block j (HOW.out.lt j hj).2 (by have := (HOW.out.lt j hj).1; omega)))
              have z3 : w4.cell? ⟨b, 3, none⟩ = some (.bool false) := by rw [hb4.cell]; rfl
              have z4 := hb4.lt
              have x1 : w4.cell? ⟨w1.heap.size, 1, none⟩ = some (.slice A D.length cap) := by have := HX4.out.cell 1; simpa using this
              have x4 : w1.heap.size < w4.heap.size := by simpa using HX4.out.lt
              have HG5 := Lib.hid (show ∀ w5, Kp (fun c => c ≠ b) w4.drew w5 → Hid (w5.ownsRow (w1.heap.size + 1) 27 2 (.slice A D.length cap) D.length (dcells D)) ∧ w5.cell? ⟨w1.heap.size, 0, none⟩ = some (.int .i64 (m : Int)) ∧ w5.cell? ⟨w1.heap.size, 1, none⟩ = some (.slice A D.length cap) ∧ w5.frozen? ⟨w1.heap.size, 1, none⟩ = false ∧ w1.heap.size < w5.heap.size from fun w5 hk5 => by
                have h := HX4.out.kp hk5 (by omega)
                exact ⟨Lib.hid (ownsRow_heap HOW4.out (fun j hj => hk5.block j (HOW4.out.lt j hj).2 (by have := (HOW4.out.lt j hj).1; omega))), by rw [h.cell]; rfl, by rw [h.cell]; rfl, h.frozen 1, h.lt⟩)
              have HG7 := Lib.hid (show ∀ w5, Kp (fun c => c ≠ b) w4.drew w5 → ∀ (β : Bool) (tx : ByteArray) (l : Int) (q : Option Addr) (n' c' : Nat) (v7 : Value) (w7 : World), Blk w5 b 112 #[.slice (some ⟨ba, oa, none⟩) al.length ca, .slice pn names.length cn, .string tx, .bool β] →
                  w7.ownsRow (w1.heap.size + 1) 27 2 v7 (D.length + 1) (dcells D ++ [.int .i64 l, .slice q n' c']) → (w5.alloc (.cells #[.int .i64 l, .slice q n' c'] 27)).grownBy w7 (Value.slice A D.length cap).ownBlock → (v7.ownBlock = (Value.slice A D.length cap).ownBlock ∨ v7.ownBlock = some (w5.alloc (.cells #[.int .i64 l, .slice q n' c'] 27)).heap.size) →
                  w7.cell? ⟨w1.heap.size, 1, none⟩ = some (.slice A D.length cap) ∧ w7.frozen? ⟨w1.heap.size, 1, none⟩ = false ∧ w1.heap.size < w7.heap.size ∧ w7.cell? ⟨w1.heap.size, 0, none⟩ = some (.int .i64 (m : Int)) ∧ w7.cell? ⟨b, 3, none⟩ = some (.bool β) ∧ b < w7.heap.size from fun w5 hk5 β tx l q n' c' v7 w7 hb5 _ hg7 _ => by
                have hX5 := HX4.out.kp hk5 (by omega)
                have hXown : (Value.slice A D.length cap).ownBlock ≠ some w1.heap.size := fun e => by have := (HOW.out.lt _ e).1; omega
                have hbown : (Value.slice A D.length cap).ownBlock ≠ some b := fun e => by have := (HOW.out.lt _ e).1; omega
                have hK : Kp (fun c => c < w5.heap.size ∧ (Value.slice A D.length cap).ownBlock ≠ some c) w5 w7 := ((Kp.refl _ w5).alloc _).grown hg7 (fun k e h => absurd e h.2)
                have h := hX5.kp hK ⟨hX5.lt, hXown⟩
                have h' := hb5.kp hK ⟨hb5.lt, hbown⟩
                exact ⟨by rw [h.cell]; rfl, h.frozen 1, h.lt, by rw [h.cell]; rfl, by rw [h'.cell]; rfl, h'.lt⟩)
              have HCL := Lib.hid (fun W (hW : Below w4.heap.size w4 W) => HI.out g (skB s i' + 1) W (by omega) (by omega) hi2 (hb4.below hW hb4.lt) (HNm.out W (HK4.out.trans (Kp.of_below hW (fun c hc _ => hc)))) (HAm.out W (HK4.out.trans (Kp.of_below hW (fun c hc _ => hc)))))
              have hXb : ¬ w1.heap.size = b := by omega
              have hbX2 : ¬ b = w1.heap.size := by omega
              have HKr4 := Lib.hid hk4
              clear hk4 hb4 hq
              go_wp2_with fail
              refine wp_region_any (by kernel_rfl) ?_
              change wpAny _ _ _ _ _ _ _ (World.drew _)
              refine wpAny_take (i := 0) (v := ?v0_6) rfl (by kernel_rfl) (by kernel_rfl) (by kernel_rfl) (fun _ _ _ h => h) (Or.inl ⟨by rfl, ?h0_6⟩) ?r0_6
              case h0_6 => intro w; go_simp; (try with_reducible rfl)
              try simp only [Act.put, List.setIfInBounds_toArray]
              refine wpAny_take (i := 2) (v := ?v2_7) rfl (by kernel_rfl) (by kernel_rfl) (by kernel_rfl) (fun _ _ _ h => h) (Or.inl ⟨by rfl, ?h2_7⟩) ?r2_7
              case h2_7 => intro w; go_simp; (try with_reducible rfl)
              try simp only [Act.put]
              refine wpAny_ready (rs := [1, 3]) (by kernel_rfl) (by simp) ?_
              refine AllReady.cons rfl (fun K hK => ?_) ?_
              · go_simp
                refine hK _ _ ?_
                clear hK K
                refine wpAny_ready (rs := [3]) (by kernel_rfl) (by simp) ?_
                refine AllReady.cons rfl (fun K hK => ?_) AllReady.nil
                go_simp
                refine (HCL.out _ (Below.refl _ _).drew).mono ?_
                rintro e w5 ⟨l5, q5, n5, c5, β, tx, rfl, hk5, hb5, hc5⟩
                try dsimp only
                obtain ⟨G1, G2, G3, G4, G5⟩ := HG5.out w5 hk5
                have HB5 := Lib.hid hb5
                have HC5 := Lib.hid hc5
                have HK5 := Lib.hid hk5
                clear hb5 hc5 hk5
                refine hK _ _ ?_
                clear hK K
                refine wpAny_ready (rs := [4]) (by kernel_rfl) (by simp) ?_
                refine AllReady.cons rfl (fun K hK => ?_) AllReady.nil
                go_simp
                refine hK _ _ ?_
                clear hK K
                refine wpAny_ready (rs := [5]) (by kernel_rfl) (by simp) ?_
                refine AllReady.cons rfl (fun K hK => ?_) AllReady.nil
                refine step_own_append _ rfl _ _ rfl (w1.heap.size + 1) (.slice A D.length cap) D.length (dcells D) (by rfl) (World.ownsRow.alloc G1.out _) w5.heap.size l5 (.slice q5 n5 c5) (by rfl) (Blk.new w5 _ _) rfl (by omega) (by simp; omega) ?_
                intro v7 w7 hown7 hgr7 hob7
                obtain ⟨A7, cap7, rfl⟩ := ownsRow_shape hown7
                obtain ⟨F1, F2, F3, F4, F5, F6⟩ := HG7.out w5 HK5.out β tx l5 q5 n5 c5 _ w7 HB5.out hown7 hgr7 hob7
                have HGR := Lib.hid hgr7
                have HOB := Lib.hid hob7
                have HON := Lib.hid hown7
                clear hown7 hgr7 hob7
                refine hK _ _ ?_
                clear hK K
                refine wpAny_take (i := 6) (v := ?v6_8) rfl (by kernel_rfl) (by kernel_rfl) (by kernel_rfl) (fun _ _ _ h => h) (Or.inl ⟨by rfl, ?h6_8⟩) ?r6_8
                case h6_8 => intro w; go_simp; (try with_reducible rfl)
                try simp only [Act.put, List.setIfInBounds_toArray]
                refine wpAny_ready (rs := [7]) (by kernel_rfl) (by simp) ?_
                refine AllReady.cons rfl (fun K hK => ?_) AllReady.nil
                go_simp
                refine hK _ _ ?_
                clear hK K
                refine wpAny_done (by kernel_rfl) ?_ _
                have hz5 := HK5.out.size
                have hz4s : w4.heap.size ≤ w5.heap.size := by simpa using hz5
                have hz7 := HGR.out.size
                simp only [World.size_alloc] at hz7
                have hKw7 : Kp (fun c => c < w5.heap.size ∧ (Value.slice A D.length cap).ownBlock ≠ some c) w5 w7 := ((Kp.refl _ w5).alloc _).grown HGR.out (fun k e h => absurd e h.2)
                have hXown : (Value.slice A D.length cap).ownBlock ≠ some w1.heap.size := fun e => by have := (HOW.out.lt _ e).1; omega
                have hbown : (Value.slice A D.length cap).ownBlock ≠ some b := fun e => by have := (HOW.out.lt _ e).1; omega
                have hwown : (Value.slice A D.length cap).ownBlock ≠ some w.heap.size := fun e => by have := (HOW.out.lt _ e).1; omega
                have hX7 := (HX4.out.kp (HK5.out) (by omega)).kp hKw7 ⟨G5, hXown⟩
                have hX8 : Blk (w7.setCell ⟨w1.heap.size, 1, none⟩ (.slice A7 (D.length + 1) cap7)) w1.heap.size 27 #[.int .i64 (m : Int), .slice A7 (D.length + 1) cap7] := by simpa using hX7.set_ 1 (.slice A7 (D.length + 1) cap7)
                have hB8 := (HB5.out.kp hKw7 ⟨by omega, hbown⟩).far (p := ⟨w1.heap.size, 1, none⟩) (by simp; omega) (.slice A7 (D.length + 1) cap7)
                have hR8 := ((HR4.out.kp (HK5.out) (by omega)).kp hKw7 ⟨by omega, hwown⟩).far (p := ⟨w1.heap.size, 1, none⟩) (by simp; omega) (.slice A7 (D.length + 1) cap7)
                have hK8 : Kp (fun c => c ≠ b) w (w7.setCell ⟨w1.heap.size, 1, none⟩ (.slice A7 (D.length + 1) cap7)) := by
                  have h1 : Kp (fun c => c ≠ b ∧ c < w.heap.size) w w7 := ((HK4.out.drew.trans HK5.out).mono (fun k _ h => h.1)).trans (hKw7.mono (fun k _ h => ⟨by omega, fun e => by have := (HOW.out.lt _ e).1; omega⟩))
                  exact (h1.mono (fun k hk h => ⟨h, hk⟩)).setCell (p := ⟨w1.heap.size, 1, none⟩) (fun _ => by simp; omega) _
                have HX8 := Lib.hid hX8
                have HB8 := Lib.hid hB8
                have HR8 := Lib.hid hR8
                have HK8 := Lib.hid hK8
                have y0 : (w7.setCell ⟨w1.heap.size, 1, none⟩ (.slice A7 (D.length + 1) cap7)).cell? ⟨w1.heap.size, 0, none⟩ = some (.int .i64 (m : Int)) := by rw [hX8.cell]; rfl
                have y1 : (w7.setCell ⟨w1.heap.size, 1, none⟩ (.slice A7 (D.length + 1) cap7)).cell? ⟨w1.heap.size, 1, none⟩ = some (.slice A7 (D.length + 1) cap7) := by rw [hX8.cell]; rfl
                have y3 : (w7.setCell ⟨w1.heap.size, 1, none⟩ (.slice A7 (D.length + 1) cap7)).cell? ⟨b, 3, none⟩ = some (.bool β) := by rw [hB8.cell]; rfl
                have y4 := hX8.lt
                have y5 := hB8.lt
                have y6 : (w7.setCell ⟨w1.heap.size, 1, none⟩ (.slice A7 (D.length + 1) cap7)).cell? ⟨w.heap.size, 0, none⟩ = some (.int .i64 0) := by rw [hR8.cell]; rfl
                have y7 : (w7.setCell ⟨w1.heap.size, 1, none⟩ (.slice A7 (D.length + 1) cap7)).cell? ⟨w.heap.size, 1, none⟩ = some (.slice none 0 0) := by rw [hR8.cell]; rfl
                have y8 := hR8.frozen 0
                have y9 := hR8.frozen 1
                have y10 := hR8.lt
                have HKW := Lib.hid hKw7
                have hset : Kp (fun c => c ≠ w1.heap.size) w7 (w7.setCell ⟨w1.heap.size, 1, none⟩ (.slice A7 (D.length + 1) cap7)) := (Kp.refl _ _).setCell (p := ⟨w1.heap.size, 1, none⟩) (fun h => absurd rfl h) _
                have HSET := Lib.hid hset
                generalize w7.setCell ⟨w1.heap.size, 1, none⟩ (.slice A7 (D.length + 1) cap7) = w8 at *
                clear hX7 hX8 hB8 hR8 hK8 hKw7 hset F1 F2 F3 F4 F5 F6 G2 G3 G4
                have hnew : ∀ c, c < w5.heap.size → (Value.slice A D.length cap).ownBlock ≠ some c → (Value.slice A7 (D.length + 1) cap7).ownBlock ≠ some c := by
                  intro c hc h1 h2
                  rcases HOB.out with h | h
                  · exact h1 (by rw [← h, h2])
                  · rw [h2, Option.some.injEq, World.size_alloc] at h; omega
                have HNW := Lib.hid hnew
                clear hnew hXown hbown hwown
                rcases HC5.out with ⟨rfl, t, e', ht, rfl, rfl, hw5, hq5⟩ | ⟨rfl, ht⟩
                · have hend := rt_end HNL.out HNE.out hva g _ t e' hi2 ht
                  have HQ5 := Lib.hid hq5
                  have HT5 := Lib.hid ht
                  have HD8 : Hid (DIn (fun c => w1.heap.size < c ∧ (Value.slice A7 (D.length + 1) cap7).ownBlock ≠ some c) w8 (D ++ [(t.1, t.2, Value.slice q5 n5 c5)])) := Lib.hid (by
                    have hzr4 := HKr4.out.size
                    have hKD : Kp (fun c => (w1.heap.size < c ∧ (Value.slice A D.length cap).ownBlock ≠ some c) ∧ c < wr.heap.size) wr w8 := (((HKr4.out.drew.trans HK5.out).mono (fun k _ h => by omega)).trans (HKW.out.mono (fun k _ h => ⟨by omega, h.1.2⟩))).trans (HSET.out.mono (fun k _ h => by omega))
                    have h1 := ((HDI.out.mono (S' := fun c => (w1.heap.size < c ∧ (Value.slice A D.length cap).ownBlock ≠ some c) ∧ c < wr.heap.size) (fun c hc h => ⟨h, hc⟩)).kp hKD).mono (S' := fun c => w1.heap.size < c ∧ (Value.slice A7 (D.length + 1) cap7).ownBlock ≠ some c) (fun c _ h => ⟨h.1.1, HNW.out c (by omega) h.1.2⟩)
                    have hold : ∀ c, w4.heap.size ≤ c → (Value.slice A D.length cap).ownBlock ≠ some c := fun c hc e => by have := (HOW.out.lt _ e).2; omega
                    have h2 := ((HQ5.out.mono (S' := fun c => w4.heap.size ≤ c ∧ c < w5.heap.size) (fun c hc h => ⟨h, hc⟩)).kp ((HKW.out.mono (fun k _ h => ⟨h.2, hold k h.1⟩)).trans (HSET.out.mono (fun k _ h => by omega)))).mono (S' := fun c => w1.heap.size < c ∧ (Value.slice A7 (D.length + 1) cap7).ownBlock ≠ some c) (fun c _ h => ⟨by omega, HNW.out c h.2 (hold c h.1)⟩)
                    exact h1.snoc (x := (t.1, t.2, Value.slice q5 n5 c5)) ⟨hw5, h2⟩)
                  have HO8 : Hid (w8.ownsRow (w1.heap.size + 1) 27 2 (.slice A7 (D.length + 1) cap7) (D.length + 1) (dcells (D ++ [(t.1, t.2, Value.slice q5 n5 c5)]))) := Lib.hid (by
                    rw [dcells_snoc]
                    exact ownsRow_heap HON.out (fun j hj => HSET.out.block j (HON.out.lt j hj).2 (by have := (HON.out.lt j hj).1; omega)))
                  have HR5 : Hid (rt s names al (g + 1) i = (more (D ++ [(t.1, t.2, Value.slice q5 n5 c5)]) (rk s (rt s names al g) r false e')).map fun y => (((m : Int), y.1), y.2)) := Lib.hid (by rw [HRD2.out, HRK.out, HT5.out, more_snoc]; rfl)
                  clear hq5 ht
                  go_wp2_with fail
                  go_roundw
                  case rel =>
                    have hl : (D ++ [(t.1, t.2, Value.slice q5 n5 c5)]).length = D.length + 1 := by simp
                    have hrr := HRr.out
                    refine ⟨D ++ [(t.1, t.2, Value.slice q5 n5 c5)], e', A7, cap7, by rw [hl]; go_num, by rw [hl]; omega, by omega, hend.2.1, HB8, Lib.hid ⟨fun h => absurd h (by omega), fun _ => ?_⟩, by rw [hl]; exact HX8, by rw [hl]; exact HO8, by rw [hl]; exact HD8, HK8, HR8⟩
                    rw [hl, show n - (D.length + 1) = r by omega, show decide (D.length + 1 = 0) = false by simp]
                    exact HR5.out
                  case measure => simp [intOf]; omega
                · have HRn : Hid (rt s names al (g + 1) i = none) := Lib.hid (by rw [HRD2.out, HRK.out, ht]; rfl)
                  clear ht
                  go_wp2_with fail
                  refine bodyPost_ret (v := .agg #[.int .i64 (m : Int), .slice A7 (D.length + 1) cap7]) (results_cell_row rfl _ _ w.heap.size 27 _ (0, 0) _ rfl ((HR8.out.set_ 0 _).set_ 1 _) Tryd.underlying27 rfl Tryd.infoTreeS) rfl ?_
                  have hkE := (HK8.out.setCell (p := ⟨w.heap.size, 0, none⟩) (fun _ => by simp) (.int .i64 (m : Int))).setCell (p := ⟨w.heap.size, 1, none⟩) (fun _ => by simp) (.slice A7 (D.length + 1) cap7)
                  have hbE := (HB8.out.far (p := ⟨w.heap.size, 0, none⟩) (by simp; omega) (.int .i64 (m : Int))).far (p := ⟨w.heap.size, 1, none⟩) (by simp; omega) (.slice A7 (D.length + 1) cap7)
                  first
                    | exact ⟨_, _, _, _, true, _, rfl, hkE, hbE, .inr ⟨rfl, HRn.out⟩⟩
                    | exact ⟨_, _, _, _, rfl, hkE, .inr ⟨⟨_, hbE⟩, HRn.out⟩⟩
                    | exact ⟨_, _, _, _, rfl, hkE, .inr ⟨_, hbE, HRn.out⟩⟩
              refine AllReady.cons rfl (fun K hK => ?_) AllReady.nil
              go_simp
              refine (HCL.out _ (Below.refl _ _).drew).mono ?_
              rintro e w5 ⟨l5, q5, n5, c5, β, tx, rfl, hk5, hb5, hc5⟩
              try dsimp only
              obtain ⟨G1, G2, G3, G4, G5⟩ := HG5.out w5 hk5
              have HB5 := Lib.hid hb5
              have HC5 := Lib.hid hc5
              have HK5 := Lib.hid hk5
              clear hb5 hc5 hk5
              refine hK _ _ ?_
              clear hK K
              refine wpAny_ready (rs := [1, 4]) (by kernel_rfl) (by simp) ?_
              refine AllReady.cons rfl (fun K hK => ?_) ?_
              · go_simp
                refine hK _ _ ?_
                clear hK K
                refine wpAny_ready (rs := [4]) (by kernel_rfl) (by simp) ?_
                refine AllReady.cons rfl (fun K hK => ?_) AllReady.nil
                go_simp
                refine hK _ _ ?_
                clear hK K
                refine wpAny_ready (rs := [5]) (by kernel_rfl) (by simp) ?_
                refine AllReady.cons rfl (fun K hK => ?_) AllReady.nil
                refine step_own_append _ rfl _ _ rfl (w1.heap.size + 1) (.slice A D.length cap) D.length (dcells D) (by rfl) (World.ownsRow.alloc G1.out _) w5.heap.size l5 (.slice q5 n5 c5) (by rfl) (Blk.new w5 _ _) rfl (by omega) (by simp; omega) ?_
                intro v7 w7 hown7 hgr7 hob7
                obtain ⟨A7, cap7, rfl⟩ := ownsRow_shape hown7
                obtain ⟨F1, F2, F3, F4, F5, F6⟩ := HG7.out w5 HK5.out β tx l5 q5 n5 c5 _ w7 HB5.out hown7 hgr7 hob7
                have HGR := Lib.hid hgr7
                have HOB := Lib.hid hob7
                have HON := Lib.hid hown7
                clear hown7 hgr7 hob7
                refine hK _ _ ?_
                clear hK K
                refine wpAny_take (i := 6) (v := ?v6_9) rfl (by kernel_rfl) (by kernel_rfl) (by kernel_rfl) (fun _ _ _ h => h) (Or.inl ⟨by rfl, ?h6_9⟩) ?r6_9
                case h6_9 => intro w; go_simp; (try with_reducible rfl)
                try simp only [Act.put, List.setIfInBounds_toArray]
                refine wpAny_ready (rs := [7]) (by kernel_rfl) (by simp) ?_
                refine AllReady.cons rfl (fun K hK => ?_) AllReady.nil
                go_simp
                refine hK _ _ ?_
                clear hK K
                refine wpAny_done (by kernel_rfl) ?_ _
                have hz5 := HK5.out.size
                have hz4s : w4.heap.size ≤ w5.heap.size := by simpa using hz5
                have hz7 := HGR.out.size
                simp only [World.size_alloc] at hz7
                have hKw7 : Kp (fun c => c < w5.heap.size ∧ (Value.slice A D.length cap).ownBlock ≠ some c) w5 w7 := ((Kp.refl _ w5).alloc _).grown HGR.out (fun k e h => absurd e h.2)
                have hXown : (Value.slice A D.length cap).ownBlock ≠ some w1.heap.size := fun e => by have := (HOW.out.lt _ e).1; omega
                have hbown : (Value.slice A D.length cap).ownBlock ≠ some b := fun e => by have := (HOW.out.lt _ e).1; omega
                have hwown : (Value.slice A D.length cap).ownBlock ≠ some w.heap.size := fun e => by have := (HOW.out.lt _ e).1; omega
                have hX7 := (HX4.out.kp (HK5.out) (by omega)).kp hKw7 ⟨G5, hXown⟩
                have hX8 : Blk (w7.setCell ⟨w1.heap.size, 1, none⟩ (.slice A7 (D.length + 1) cap7)) w1.heap.size 27 #[.int .i64 (m : Int), .slice A7 (D.length + 1) cap7] := by simpa using hX7.set_ 1 (.slice A7 (D.length + 1) cap7)
                have hB8 := (HB5.out.kp hKw7 ⟨by omega, hbown⟩).far (p := ⟨w1.heap.size, 1, none⟩) (by simp; omega) (.slice A7 (D.length + 1) cap7)
                have hR8 := ((HR4.out.kp (HK5.out) (by omega)).kp hKw7 ⟨by omega, hwown⟩).far (p := ⟨w1.heap.size, 1, none⟩) (by simp; omega) (.slice A7 (D.length + 1) cap7)
                have hK8 : Kp (fun c => c ≠ b) w (w7.setCell ⟨w1.heap.size, 1, none⟩ (.slice A7 (D.length + 1) cap7)) := by
                  have h1 : Kp (fun c => c ≠ b ∧ c < w.heap.size) w w7 := ((HK4.out.drew.trans HK5.out).mono (fun k _ h => h.1)).trans (hKw7.mono (fun k _ h => ⟨by omega, fun e => by have := (HOW.out.lt _ e).1; omega⟩))
                  exact (h1.mono (fun k hk h => ⟨h, hk⟩)).setCell (p := ⟨w1.heap.size, 1, none⟩) (fun _ => by simp; omega) _
                have HX8 := Lib.hid hX8
                have HB8 := Lib.hid hB8
                have HR8 := Lib.hid hR8
                have HK8 := Lib.hid hK8
                have y0 : (w7.setCell ⟨w1.heap.size, 1, none⟩ (.slice A7 (D.length + 1) cap7)).cell? ⟨w1.heap.size, 0, none⟩ = some (.int .i64 (m : Int)) := by rw [hX8.cell]; rfl
                have y1 : (w7.setCell ⟨w1.heap.size, 1, none⟩ (.slice A7 (D.length + 1) cap7)).cell? ⟨w1.heap.size, 1, none⟩ = some (.slice A7 (D.length + 1) cap7) := by rw [hX8.cell]; rfl
                have y3 : (w7.setCell ⟨w1.heap.size, 1, none⟩ (.slice A7 (D.length + 1) cap7)).cell? ⟨b, 3, none⟩ = some (.bool β) := by rw [hB8.cell]; rfl
                have y4 := hX8.lt
                have y5 := hB8.lt
                have y6 : (w7.setCell ⟨w1.heap.size, 1, none⟩ (.slice A7 (D.length + 1) cap7)).cell? ⟨w.heap.size, 0, none⟩ = some (.int .i64 0) := by rw [hR8.cell]; rfl
                have y7 : (w7.setCell ⟨w1.heap.size, 1, none⟩ (.slice A7 (D.length + 1) cap7)).cell? ⟨w.heap.size, 1, none⟩ = some (.slice none 0 0) := by rw [hR8.cell]; rfl
                have y8 := hR8.frozen 0
                have y9 := hR8.frozen 1
                have y10 := hR8.lt
                have HKW := Lib.hid hKw7
                have hset : Kp (fun c => c ≠ w1.heap.size) w7 (w7.setCell ⟨w1.heap.size, 1, none⟩ (.slice A7 (D.length + 1) cap7)) := (Kp.refl _ _).setCell (p := ⟨w1.heap.size, 1, none⟩) (fun h => absurd rfl h) _
                have HSET := Lib.hid hset
                generalize w7.setCell ⟨w1.heap.size, 1, none⟩ (.slice A7 (D.length + 1) cap7) = w8 at *
                clear hX7 hX8 hB8 hR8 hK8 hKw7 hset F1 F2 F3 F4 F5 F6 G2 G3 G4
                have hnew : ∀ c, c < w5.heap.size → (Value.slice A D.length cap).ownBlock ≠ some c → (Value.slice A7 (D.length + 1) cap7).ownBlock ≠ some c := by
                  intro c hc h1 h2
                  rcases HOB.out with h | h
                  · exact h1 (by rw [← h, h2])
                  · rw [h2, Option.some.injEq, World.size_alloc] at h; omega
                have HNW := Lib.hid hnew
                clear hnew hXown hbown hwown
                rcases HC5.out with ⟨rfl, t, e', ht, rfl, rfl, hw5, hq5⟩ | ⟨rfl, ht⟩
                · have hend := rt_end HNL.out HNE.out hva g _ t e' hi2 ht
                  have HQ5 := Lib.hid hq5
                  have HT5 := Lib.hid ht
                  have HD8 : Hid (DIn (fun c => w1.heap.size < c ∧ (Value.slice A7 (D.length + 1) cap7).ownBlock ≠ some c) w8 (D ++ [(t.1, t.2, Value.slice q5 n5 c5)])) := Lib.hid (by
                    have hzr4 := HKr4.out.size
                    have hKD : Kp (fun c => (w1.heap.size < c ∧ (Value.slice A D.length cap).ownBlock ≠ some c) ∧ c < wr.heap.size) wr w8 := (((HKr4.out.drew.trans HK5.out).mono (fun k _ h => by omega)).trans (HKW.out.mono (fun k _ h => ⟨by omega, h.1.2⟩))).trans (HSET.out.mono (fun k _ h => by omega))
                    have h1 := ((HDI.out.mono (S' := fun c => (w1.heap.size < c ∧ (Value.slice A D.length cap).ownBlock ≠ some c) ∧ c < wr.heap.size) (fun c hc h => ⟨h, hc⟩)).kp hKD).mono (S' := fun c => w1.heap.size < c ∧ (Value.slice A7 (D.length + 1) cap7).ownBlock ≠ some c) (fun c _ h => ⟨h.1.1, HNW.out c (by omega) h.1.2⟩)
                    have hold : ∀ c, w4.heap.size ≤ c → (Value.slice A D.length cap).ownBlock ≠ some c := fun c hc e => by have := (HOW.out.lt _ e).2; omega
                    have h2 := ((HQ5.out.mono (S' := fun c => w4.heap.size ≤ c ∧ c < w5.heap.size) (fun c hc h => ⟨h, hc⟩)).kp ((HKW.out.mono (fun k _ h => ⟨h.2, hold k h.1⟩)).trans (HSET.out.mono (fun k _ h => by omega)))).mono (S' := fun c => w1.heap.size < c ∧ (Value.slice A7 (D.length + 1) cap7).ownBlock ≠ some c) (fun c _ h => ⟨by omega, HNW.out c h.2 (hold c h.1)⟩)
                    exact h1.snoc (x := (t.1, t.2, Value.slice q5 n5 c5)) ⟨hw5, h2⟩)
                  have HO8 : Hid (w8.ownsRow (w1.heap.size + 1) 27 2 (.slice A7 (D.length + 1) cap7) (D.length + 1) (dcells (D ++ [(t.1, t.2, Value.slice q5 n5 c5)]))) := Lib.hid (by
                    rw [dcells_snoc]
                    exact ownsRow_heap HON.out (fun j hj => HSET.out.block j (HON.out.lt j hj).2 (by have := (HON.out.lt j hj).1; omega)))
                  have HR5 : Hid (rt s names al (g + 1) i = (more (D ++ [(t.1, t.2, Value.slice q5 n5 c5)]) (rk s (rt s names al g) r false e')).map fun y => (((m : Int), y.1), y.2)) := Lib.hid (by rw [HRD2.out, HRK.out, HT5.out, more_snoc]; rfl)
                  clear hq5 ht
                  go_wp2_with fail
                  go_roundw
                  case rel =>
                    have hl : (D ++ [(t.1, t.2, Value.slice q5 n5 c5)]).length = D.length + 1 := by simp
                    have hrr := HRr.out
                    refine ⟨D ++ [(t.1, t.2, Value.slice q5 n5 c5)], e', A7, cap7, by rw [hl]; go_num, by rw [hl]; omega, by omega, hend.2.1, HB8, Lib.hid ⟨fun h => absurd h (by omega), fun _ => ?_⟩, by rw [hl]; exact HX8, by rw [hl]; exact HO8, by rw [hl]; exact HD8, HK8, HR8⟩
                    rw [hl, show n - (D.length + 1) = r by omega, show decide (D.length + 1 = 0) = false by simp]
                    exact HR5.out
                  case measure => simp [intOf]; omega
                · have HRn : Hid (rt s names al (g + 1) i = none) := Lib.hid (by rw [HRD2.out, HRK.out, ht]; rfl)
                  clear ht
                  go_wp2_with fail
                  refine bodyPost_ret (v := .agg #[.int .i64 (m : Int), .slice A7 (D.length + 1) cap7]) (results_cell_row rfl _ _ w.heap.size 27 _ (0, 0) _ rfl ((HR8.out.set_ 0 _).set_ 1 _) Tryd.underlying27 rfl Tryd.infoTreeS) rfl ?_
                  have hkE := (HK8.out.setCell (p := ⟨w.heap.size, 0, none⟩) (fun _ => by simp) (.int .i64 (m : Int))).setCell (p := ⟨w.heap.size, 1, none⟩) (fun _ => by simp) (.slice A7 (D.length + 1) cap7)
                  have hbE := (HB8.out.far (p := ⟨w.heap.size, 0, none⟩) (by simp; omega) (.int .i64 (m : Int))).far (p := ⟨w.heap.size, 1, none⟩) (by simp; omega) (.slice A7 (D.length + 1) cap7)
                  first
                    | exact ⟨_, _, _, _, true, _, rfl, hkE, hbE, .inr ⟨rfl, HRn.out⟩⟩
                    | exact ⟨_, _, _, _, rfl, hkE, .inr ⟨⟨_, hbE⟩, HRn.out⟩⟩
                    | exact ⟨_, _, _, _, rfl, hkE, .inr ⟨_, hbE, HRn.out⟩⟩
              refine AllReady.cons rfl (fun K hK => ?_) AllReady.nil
              go_simp
              refine hK _ _ ?_
              clear hK K
              refine wpAny_ready (rs := [1]) (by kernel_rfl) (by simp) ?_
              refine AllReady.cons rfl (fun K hK => ?_) AllReady.nil
              go_simp
              refine hK _ _ ?_
              clear hK K
              refine wpAny_ready (rs := [5]) (by kernel_rfl) (by simp) ?_
              refine AllReady.cons rfl (fun K hK => ?_) AllReady.nil
              refine step_own_append _ rfl _ _ rfl (w1.heap.size + 1) (.slice A D.length cap) D.length (dcells D) (by rfl) (World.ownsRow.alloc G1.out _) w5.heap.size l5 (.slice q5 n5 c5) (by rfl) (Blk.new w5 _ _) rfl (by omega) (by simp; omega) ?_
              intro v7 w7 hown7 hgr7 hob7
              obtain ⟨A7, cap7, rfl⟩ := ownsRow_shape hown7
              obtain ⟨F1, F2, F3, F4, F5, F6⟩ := HG7.out w5 HK5.out β tx l5 q5 n5 c5 _ w7 HB5.out hown7 hgr7 hob7
              have HGR := Lib.hid hgr7
              have HOB := Lib.hid hob7
              have HON := Lib.hid hown7
              clear hown7 hgr7 hob7
              refine hK _ _ ?_
              clear hK K
              refine wpAny_take (i := 6) (v := ?v6_10) rfl (by kernel_rfl) (by kernel_rfl) (by kernel_rfl) (fun _ _ _ h => h) (Or.inl ⟨by rfl, ?h6_10⟩) ?r6_10
              case h6_10 => intro w; go_simp; (try with_reducible rfl)
              try simp only [Act.put, List.setIfInBounds_toArray]
              refine wpAny_ready (rs := [7]) (by kernel_rfl) (by simp) ?_
              refine AllReady.cons rfl (fun K hK => ?_) AllReady.nil
              go_simp
              refine hK _ _ ?_
              clear hK K
              refine wpAny_done (by kernel_rfl) ?_ _
              have hz5 := HK5.out.size
              have hz4s : w4.heap.size ≤ w5.heap.size := by simpa using hz5
              have hz7 := HGR.out.size
              simp only [World.size_alloc] at hz7
              have hKw7 : Kp (fun c => c < w5.heap.size ∧ (Value.slice A D.length cap).ownBlock ≠ some c) w5 w7 := ((Kp.refl _ w5).alloc _).grown HGR.out (fun k e h => absurd e h.2)
              have hXown : (Value.slice A D.length cap).ownBlock ≠ some w1.heap.size := fun e => by have := (HOW.out.lt _ e).1; omega
              have hbown : (Value.slice A D.length cap).ownBlock ≠ some b := fun e => by have := (HOW.out.lt _ e).1; omega
              have hwown : (Value.slice A D.length cap).ownBlock ≠ some w.heap.size := fun e => by have := (HOW.out.lt _ e).1; omega
              have hX7 := (HX4.out.kp (HK5.out) (by omega)).kp hKw7 ⟨G5, hXown⟩
              have hX8 : Blk (w7.setCell ⟨w1.heap.size, 1, none⟩ (.slice A7 (D.length + 1) cap7)) w1.heap.size 27 #[.int .i64 (m : Int), .slice A7 (D.length + 1) cap7] := by simpa using hX7.set_ 1 (.slice A7 (D.length + 1) cap7)
              have hB8 := (HB5.out.kp hKw7 ⟨by omega, hbown⟩).far (p := ⟨w1.heap.size, 1, none⟩) (by simp; omega) (.slice A7 (D.length + 1) cap7)
              have hR8 := ((HR4.out.kp (HK5.out) (by omega)).kp hKw7 ⟨by omega, hwown⟩).far (p := ⟨w1.heap.size, 1, none⟩) (by simp; omega) (.slice A7 (D.length + 1) cap7)
              have hK8 : Kp (fun c => c ≠ b) w (w7.setCell ⟨w1.heap.size, 1, none⟩ (.slice A7 (D.length + 1) cap7)) := by
                have h1 : Kp (fun c => c ≠ b ∧ c < w.heap.size) w w7 := ((HK4.out.drew.trans HK5.out).mono (fun k _ h => h.1)).trans (hKw7.mono (fun k _ h => ⟨by omega, fun e => by have := (HOW.out.lt _ e).1; omega⟩))
                exact (h1.mono (fun k hk h => ⟨h, hk⟩)).setCell (p := ⟨w1.heap.size, 1, none⟩) (fun _ => by simp; omega) _
              have HX8 := Lib.hid hX8
              have HB8 := Lib.hid hB8
              have HR8 := Lib.hid hR8
              have HK8 := Lib.hid hK8
              have y0 : (w7.setCell ⟨w1.heap.size, 1, none⟩ (.slice A7 (D.length + 1) cap7)).cell? ⟨w1.heap.size, 0, none⟩ = some (.int .i64 (m : Int)) := by rw [hX8.cell]; rfl
              have y1 : (w7.setCell ⟨w1.heap.size, 1, none⟩ (.slice A7 (D.length + 1) cap7)).cell? ⟨w1.heap.size, 1, none⟩ = some (.slice A7 (D.length + 1) cap7) := by rw [hX8.cell]; rfl
              have y3 : (w7.setCell ⟨w1.heap.size, 1, none⟩ (.slice A7 (D.length + 1) cap7)).cell? ⟨b, 3, none⟩ = some (.bool β) := by rw [hB8.cell]; rfl
              have y4 := hX8.lt
              have y5 := hB8.lt
              have y6 : (w7.setCell ⟨w1.heap.size, 1, none⟩ (.slice A7 (D.length + 1) cap7)).cell? ⟨w.heap.size, 0, none⟩ = some (.int .i64 0) := by rw [hR8.cell]; rfl
              have y7 : (w7.setCell ⟨w1.heap.size, 1, none⟩ (.slice A7 (D.length + 1) cap7)).cell? ⟨w.heap.size, 1, none⟩ = some (.slice none 0 0) := by rw [hR8.cell]; rfl
              have y8 := hR8.frozen 0
              have y9 := hR8.frozen 1
              have y10 := hR8.lt
              have HKW := Lib.hid hKw7
              have hset : Kp (fun c => c ≠ w1.heap.size) w7 (w7.setCell ⟨w1.heap.size, 1, none⟩ (.slice A7 (D.length + 1) cap7)) := (Kp.refl _ _).setCell (p := ⟨w1.heap.size, 1, none⟩) (fun h => absurd rfl h) _
              have HSET := Lib.hid hset
              generalize w7.setCell ⟨w1.heap.size, 1, none⟩ (.slice A7 (D.length + 1) cap7) = w8 at *
              clear hX7 hX8 hB8 hR8 hK8 hKw7 hset F1 F2 F3 F4 F5 F6 G2 G3 G4
              have hnew : ∀ c, c < w5.heap.size → (Value.slice A D.length cap).ownBlock ≠ some c → (Value.slice A7 (D.length + 1) cap7).ownBlock ≠ some c := by
                intro c hc h1 h2
                rcases HOB.out with h | h
                · exact h1 (by rw [← h, h2])
                · rw [h2, Option.some.injEq, World.size_alloc] at h; omega
              have HNW := Lib.hid hnew
              clear hnew hXown hbown hwown
              rcases HC5.out with ⟨rfl, t, e', ht, rfl, rfl, hw5, hq5⟩ | ⟨rfl, ht⟩
              · have hend := rt_end HNL.out HNE.out hva g _ t e' hi2 ht
                have HQ5 := Lib.hid hq5
                have HT5 := Lib.hid ht
                have HD8 : Hid (DIn (fun c => w1.heap.size < c ∧ (Value.slice A7 (D.length + 1) cap7).ownBlock ≠ some c) w8 (D ++ [(t.1, t.2, Value.slice q5 n5 c5)])) := Lib.hid (by
                  have hzr4 := HKr4.out.size
                  have hKD : Kp (fun c => (w1.heap.size < c ∧ (Value.slice A D.length cap).ownBlock ≠ some c) ∧ c < wr.heap.size) wr w8 := (((HKr4.out.drew.trans HK5.out).mono (fun k _ h => by omega)).trans (HKW.out.mono (fun k _ h => ⟨by omega, h.1.2⟩))).trans (HSET.out.mono (fun k _ h => by omega))
                  have h1 := ((HDI.out.mono (S' := fun c => (w1.heap.size < c ∧ (Value.slice A D.length cap).ownBlock ≠ some c) ∧ c < wr.heap.size) (fun c hc h => ⟨h, hc⟩)).kp hKD).mono (S' := fun c => w1.heap.size < c ∧ (Value.slice A7 (D.length + 1) cap7).ownBlock ≠ some c) (fun c _ h => ⟨h.1.1, HNW.out c (by omega) h.1.2⟩)
                  have hold : ∀ c, w4.heap.size ≤ c → (Value.slice A D.length cap).ownBlock ≠ some c := fun c hc e => by have := (HOW.out.lt _ e).2; omega
                  have h2 := ((HQ5.out.mono (S' := fun c => w4.heap.size ≤ c ∧ c < w5.heap.size) (fun c hc h => ⟨h, hc⟩)).kp ((HKW.out.mono (fun k _ h => ⟨h.2, hold k h.1⟩)).trans (HSET.out.mono (fun k _ h => by omega)))).mono (S' := fun c => w1.heap.size < c ∧ (Value.slice A7 (D.length + 1) cap7).ownBlock ≠ some c) (fun c _ h => ⟨by omega, HNW.out c h.2 (hold c h.1)⟩)
                  exact h1.snoc (x := (t.1, t.2, Value.slice q5 n5 c5)) ⟨hw5, h2⟩)
                have HO8 : Hid (w8.ownsRow (w1.heap.size + 1) 27 2 (.slice A7 (D.length + 1) cap7) (D.length + 1) (dcells (D ++ [(t.1, t.2, Value.slice q5 n5 c5)]))) := Lib.hid (by
                  rw [dcells_snoc]
                  exact ownsRow_heap HON.out (fun j hj => HSET.out.block j (HON.out.lt j hj).2 (by have := (HON.out.lt j hj).1; omega)))
                have HR5 : Hid (rt s names al (g + 1) i = (more (D ++ [(t.1, t.2, Value.slice q5 n5 c5)]) (rk s (rt s names al g) r false e')).map fun y => (((m : Int), y.1), y.2)) := Lib.hid (by rw [HRD2.out, HRK.out, HT5.out, more_snoc]; rfl)
                clear hq5 ht
                go_wp2_with fail
                go_roundw
                case rel =>
                  have hl : (D ++ [(t.1, t.2, Value.slice q5 n5 c5)]).length = D.length + 1 := by simp
                  have hrr := HRr.out
                  refine ⟨D ++ [(t.1, t.2, Value.slice q5 n5 c5)], e', A7, cap7, by rw [hl]; go_num, by rw [hl]; omega, by omega, hend.2.1, HB8, Lib.hid ⟨fun h => absurd h (by omega), fun _ => ?_⟩, by rw [hl]; exact HX8, by rw [hl]; exact HO8, by rw [hl]; exact HD8, HK8, HR8⟩
                  rw [hl, show n - (D.length + 1) = r by omega, show decide (D.length + 1 = 0) = false by simp]
                  exact HR5.out
                case measure => simp [intOf]; omega
              · have HRn : Hid (rt s names al (g + 1) i = none) := Lib.hid (by rw [HRD2.out, HRK.out, ht]; rfl)
                clear ht
                go_wp2_with fail
                refine bodyPost_ret (v := .agg #[.int .i64 (m : Int), .slice A7 (D.length + 1) cap7]) (results_cell_row rfl _ _ w.heap.size 27 _ (0, 0) _ rfl ((HR8.out.set_ 0 _).set_ 1 _) Tryd.underlying27 rfl Tryd.infoTreeS) rfl ?_
                have hkE := (HK8.out.setCell (p := ⟨w.heap.size, 0, none⟩) (fun _ => by simp) (.int .i64 (m : Int))).setCell (p := ⟨w.heap.size, 1, none⟩) (fun _ => by simp) (.slice A7 (D.length + 1) cap7)
                have hbE := (HB8.out.far (p := ⟨w.heap.size, 0, none⟩) (by simp; omega) (.int .i64 (m : Int))).far (p := ⟨w.heap.size, 1, none⟩) (by simp; omega) (.slice A7 (D.length + 1) cap7)
                first
                  | exact ⟨_, _, _, _, true, _, rfl, hkE, hbE, .inr ⟨rfl, HRn.out⟩⟩
                  | exact ⟨_, _, _, _, rfl, hkE, .inr ⟨⟨_, hbE⟩, HRn.out⟩⟩
                  | exact ⟨_, _, _, _, rfl, hkE, .inr ⟨_, hbE, HRn.out⟩⟩
          · have hDe : D.length = n := by omega
            have HDE := Lib.hid hDe
            have hDI : ¬ (D.length : Int) < (n : Int) := by omega
            have z0 : wr.cell? ⟨b, 0, none⟩ = some (.slice (some ⟨ba, oa, none⟩) al.length ca) := by rw [HX.out.cell]; rfl
            have z6 := HX.out.lt
            have x1 : wr.cell? ⟨ba, oa + m, none⟩ = some (.int .i64 (n : Int)) := HK.out.cell HCA.out hba
            have x3 := World.block_lt_of_cell? _ _ x1
            simp only at x3
            have HIS : Hid (IsHS (fun c => w1.heap.size < c) wr (.slice A D.length cap) (dapp D .nil)) := Lib.hid (HDI.out.isHS HOW.out (fun c _ h => h.1) (fun c h => by omega))
            have hdl : (dapp D .nil).len = D.length := by rw [dapp_len]; rfl
            clear hDe hD
            by_cases hn0 : n = 0
            · have HRs : Hid (rt s names al (g + 1) i = some (((m : Int), dapp D .nil), i')) := Lib.hid (by
                have := HRD.out.1 hn0
                have hD0 : D = [] := List.eq_nil_of_length_eq_zero (by have := HDE.out; omega)
                rw [this, hD0]; rfl)
              have hg0 : ¬ (0 : Int) < (n : Int) := by omega
              have hgd : decide ((0 : Int) < (n : Int)) = false := decide_eq_false hg0
              have x0 : wr.cell? ⟨w1.heap.size, 0, none⟩ = some (.int .i64 (m : Int)) := by rw [HXO.out.cell]; rfl
              have x1' : wr.cell? ⟨w1.heap.size, 1, none⟩ = some (.slice A D.length cap) := by rw [HXO.out.cell]; rfl
              have x4 := HXO.out.lt
              have y6 : wr.cell? ⟨w.heap.size, 0, none⟩ = some (.int .i64 0) := by rw [HR.out.cell]; rfl
              have y7 : wr.cell? ⟨w.heap.size, 1, none⟩ = some (.slice none 0 0) := by rw [HR.out.cell]; rfl
              have y8 := HR.out.frozen 0
              have y9 := HR.out.frozen 1
              have y10 := HR.out.lt
              clear hn0 HRD
              go_wp2_with fail
              refine bodyPost_ret (v := .agg #[.int .i64 (m : Int), .slice A D.length cap]) (results_cell_row rfl _ _ w.heap.size 27 _ (0, 0) _ rfl ((HR.out.set_ 0 _).set_ 1 _) Tryd.underlying27 rfl Tryd.infoTreeS) rfl ?_
              have hkE := (HK.out.setCell (p := ⟨w.heap.size, 0, none⟩) (fun _ => by simp) (.int .i64 (m : Int))).setCell (p := ⟨w.heap.size, 1, none⟩) (fun _ => by simp) (.slice A D.length cap)
              have hbE := (HX.out.far (p := ⟨w.heap.size, 0, none⟩) (by simp; omega) (.int .i64 (m : Int))).far (p := ⟨w.heap.size, 1, none⟩) (by simp; omega) (.slice A D.length cap)
              have hqE := (HIS.out.kp (((Kp.refl _ wr).setCell (p := ⟨w.heap.size, 0, none⟩) (fun h => by simp at h; omega) (.int .i64 (m : Int))).setCell (p := ⟨w.heap.size, 1, none⟩) (fun h => by simp at h; omega) (.slice A D.length cap))).mono (S' := fun c => w.heap.size ≤ c) (fun c _ h => by omega)
              first
                | exact ⟨_, _, _, _, false, _, rfl, hkE, hbE, .inl ⟨rfl, _, _, HRs.out, rfl, rfl, hmwf.out, hqE⟩⟩
                | exact ⟨_, _, _, _, rfl, hkE, .inl ⟨_, hbE, _, _, _, HRs.out, rfl, rfl, hmwf.out, hqE⟩⟩
            · have hg0 : (0 : Int) < (n : Int) := by omega
              have hgd : decide ((0 : Int) < (n : Int)) = true := decide_eq_true hg0
              have HRZ : Hid (rt s names al (g + 1) i = (more D (if byt s (skB s i') = 41 then some (.nil, skB s i' + 1) else none)).map fun y => (((m : Int), y.1), y.2)) := Lib.hid (by
                rw [HRD.out.2 hn0, HDE.out, Nat.sub_self, rk_zero])
              clear hn0 HRD
              go_wp2_with fail
              refine (HMu.out i' false 41 (by decide) _ HX.out hi').mono ?_
              rintro e w4 ⟨rfl, hk4, hc4⟩
              have HK4 := Lib.hid (HK.out.trans hk4)
              have hX4 := HXO.out.kp hk4 (by omega)
              have hR4 := HR.out.kp hk4 (by omega)
              have HR4 := Lib.hid hR4
              have HC4 := Lib.hid hc4
              have HIS4 := Lib.hid (HIS.out.kp (hk4.mono (fun c _ h => by omega)))
              have x0 : w4.cell? ⟨w1.heap.size, 0, none⟩ = some (.int .i64 (m : Int)) := by rw [hX4.cell]; rfl
              have x1' : w4.cell? ⟨w1.heap.size, 1, none⟩ = some (.slice A D.length cap) := by rw [hX4.cell]; rfl
              have x4 := hX4.lt
              have y6 : w4.cell? ⟨w.heap.size, 0, none⟩ = some (.int .i64 0) := by rw [hR4.cell]; rfl
              have y7 : w4.cell? ⟨w.heap.size, 1, none⟩ = some (.slice none 0 0) := by rw [hR4.cell]; rfl
              have y8 := hR4.frozen 0
              have y9 := hR4.frozen 1
              have y10 := hR4.lt
              clear hk4 hc4 hX4 hR4 z0 z6 x1 x3
              go_wp2_with fail
              rcases HC4.out with ⟨hq, hb4⟩ | ⟨hq, hb4⟩
              · have HRs : Hid (rt s names al (g + 1) i = some (((m : Int), dapp D .nil), skB s i' + 1)) := Lib.hid (by rw [HRZ.out, if_pos hq]; rfl)
                refine bodyPost_ret (v := .agg #[.int .i64 (m : Int), .slice A D.length cap]) (results_cell_row rfl _ _ w.heap.size 27 _ (0, 0) _ rfl ((HR4.out.set_ 0 _).set_ 1 _) Tryd.underlying27 rfl Tryd.infoTreeS) rfl ?_
                have hkE := (HK4.out.setCell (p := ⟨w.heap.size, 0, none⟩) (fun _ => by simp) (.int .i64 (m : Int))).setCell (p := ⟨w.heap.size, 1, none⟩) (fun _ => by simp) (.slice A D.length cap)
                have hbE := (hb4.far (p := ⟨w.heap.size, 0, none⟩) (by simp; omega) (.int .i64 (m : Int))).far (p := ⟨w.heap.size, 1, none⟩) (by simp; omega) (.slice A D.length cap)
                have hqE := (HIS4.out.kp (((Kp.refl _ w4).setCell (p := ⟨w.heap.size, 0, none⟩) (fun h => by simp at h; omega) (.int .i64 (m : Int))).setCell (p := ⟨w.heap.size, 1, none⟩) (fun h => by simp at h; omega) (.slice A D.length cap))).mono (S' := fun c => w.heap.size ≤ c) (fun c _ h => by omega)
                first
                  | exact ⟨_, _, _, _, false, _, rfl, hkE, hbE, .inl ⟨rfl, _, _, HRs.out, rfl, rfl, hmwf.out, hqE⟩⟩
                  | exact ⟨_, _, _, _, rfl, hkE, .inl ⟨_, hbE, _, _, _, HRs.out, rfl, rfl, hmwf.out, hqE⟩⟩
              · have HRn : Hid (rt s names al (g + 1) i = none) := Lib.hid (by rw [HRZ.out, if_neg hq]; rfl)
                refine bodyPost_ret (v := .agg #[.int .i64 (m : Int), .slice A D.length cap]) (results_cell_row rfl _ _ w.heap.size 27 _ (0, 0) _ rfl ((HR4.out.set_ 0 _).set_ 1 _) Tryd.underlying27 rfl Tryd.infoTreeS) rfl ?_
                have hkE := (HK4.out.setCell (p := ⟨w.heap.size, 0, none⟩) (fun _ => by simp) (.int .i64 (m : Int))).setCell (p := ⟨w.heap.size, 1, none⟩) (fun _ => by simp) (.slice A D.length cap)
                have hbE := (hb4.far (p := ⟨w.heap.size, 0, none⟩) (by simp; omega) (.int .i64 (m : Int))).far (p := ⟨w.heap.size, 1, none⟩) (by simp; omega) (.slice A D.length cap)
                first
                  | exact ⟨_, _, _, _, true, _, rfl, hkE, hbE, .inr ⟨rfl, HRn.out⟩⟩
                  | exact ⟨_, _, _, _, rfl, hkE, .inr ⟨⟨_, hbE⟩, HRn.out⟩⟩
                  | exact ⟨_, _, _, _, rfl, hkE, .inr ⟨_, hbE, HRn.out⟩⟩

end Go.Proofs.YtkgoealanboolaaDoor
