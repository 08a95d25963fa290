/- auto.node.appendRun. -/
import Derived.Test.YtopineheelkcmaaDoorRG4
import Derived.Test.YtopineheelkcmaaDoorRFol
import Derived.Test.YtopineheelkcmaaDoorACk
namespace Go.Proofs.YtopineheelkcmaaDoor
open Go.RowKit Go.Shelf

set_option maxRecDepth 100000 in
set_option maxHeartbeats 1000000 in
theorem admits_at (w : World) (bx bo : Nat) (vk : Value) (KS : List (Nat → Nat)) (g : Nat) (s : Int) (l : List Nat) (W : Nat → Nat) (hl3 : l.length = 3) (hk3 : KS.length ≤ 3) (hlt : ∀ q ∈ l, q < 320)
    (hx : w.cell? ⟨bx, bo + 6, none⟩ = some vk) (hks : IsKs w vk KS) (hg : ∀ (i : Nat) (q : Nat), l[i]? = some q → w.cell? ⟨g, 1 + i, none⟩ = some (.int .i64 (q : Int))) :
    Calls Tryd.prog 93 #[.pointer (some ⟨bx, bo, none⟩), .pointer (some ⟨g, 0, none⟩)] w fun e w' => e = .returned (.bool (admB KS l)) ∧ Below w.heap.size w w' := by
  have HKS := Lib.hid hks
  have HG := Lib.hid hg
  have HLT := Lib.hid hlt
  obtain ⟨p, c, rfl, hc1, hc2, hcl⟩ := hks
  unfold maxLen at hc2
  have HCL := Lib.hid hcl
  have hbx := World.block_lt_of_cell? _ _ hx
  simp only at hbx
  clear hcl hg hlt
  go_enter Tryd.func93, Tryd.ntmps93
  go_wp2_with fail
  go_loopw [11] (fun iv wr => ∃ k : Nat, iv = .int .i64 (k : Nat) ∧ k ≤ KS.length ∧ Hid (admB KS l = admB (KS.drop k) (l.drop k)) ∧ Hid (Below w.heap.size w wr)) (fun iv _ => KS.length - (intOf iv).toNat)
  case atStart => exact ⟨0, rfl, by omega, Lib.hid rfl, Lib.hid (Below.refl _ _)⟩
  case round =>
    rename World => wr
    obtain ⟨k, rfl, hk, HE, HBr⟩ := hrel
    by_cases hlt : k < KS.length
    · obtain ⟨V, hV⟩ : ∃ V, KS[k]? = some V := ⟨_, List.getElem?_eq_getElem hlt⟩
      obtain ⟨q, hq⟩ : ∃ q, l[k]? = some q := ⟨_, List.getElem?_eq_getElem (by omega)⟩
      obtain ⟨b, o, rfl, hcl⟩ := HCL.out (fun h => by simp [h] at hlt)
      have hq320 := HLT.out q (List.mem_of_getElem? hq)
      have hD := Lib.hid (admB_drop hV hq)
      have x0 := cell_later HBr.out hx
      have y0 := cell_later HBr.out (HG.out k q hq)
      have hxl := World.block_lt_of_cell? _ _ x0
      have hyl := World.block_lt_of_cell? _ _ y0
      simp only at hxl hyl
      have hk3' : k < 3 := by omega
      have hlt1 : (k : Int) < (KS.length : Int) := by omega
      have hk3i : (k : Int) < 3 := by omega
      have HH := Lib.hid (has_ok wr.drew b (o + k * 7 + 1) V q (q : Int) rfl hq320 (((hcl k V hV).1.below HBr.out).below (Below.refl _ _).drew) (hcl k V hV).2)
      clear hV hq hcl hlt
      have HST : Hid (∀ W : World, W.heap = wr.heap → W.cell? ⟨bx, bo + 6, none⟩ = some (.slice (some ⟨b, o, none⟩) KS.length c) ∧ W.cell? ⟨g, 1 + k, none⟩ = some (.int .i64 (q : Int))) := Lib.hid (fun W hW => by
        unfold World.cell? at x0 y0 ⊢
        rw [hW]
        exact ⟨x0, y0⟩)
      cases hm : mem V q with
      | true =>
        have HM := Lib.hid hm
        rw [hm] at HH
        clear hm
        go_wp2_with fail
        go_region_held3 (fun W => W.cell? ⟨bx, bo + 6, none⟩ = some (.slice (some ⟨b, o, none⟩) KS.length c) ∧ W.cell? ⟨g, 1 + k, none⟩ = some (.int .i64 (q : Int)))
          (first | exact HST.out _ rfl)
          (first
            | (go_at_call 97; refine HH.out.mono ?_; rintro e w9 ⟨rfl, nn, rfl⟩))
        go_wp2_with fail
        go_roundw
        case rel => exact ⟨k + 1, by go_num, by omega, Lib.hid (by rw [HE.out, hD.out, HM.out]; rfl), Lib.hid (below_drewN HBr.out _)⟩
        case measure => simp [intOf]; omega
      | false =>
        have HM := Lib.hid hm
        rw [hm] at HH
        clear hm
        go_wp2_with fail
        go_region_held3 (fun W => W.cell? ⟨bx, bo + 6, none⟩ = some (.slice (some ⟨b, o, none⟩) KS.length c) ∧ W.cell? ⟨g, 1 + k, none⟩ = some (.int .i64 (q : Int)))
          (first | exact HST.out _ rfl)
          (first
            | (go_at_call 97; refine HH.out.mono ?_; rintro e w9 ⟨rfl, nn, rfl⟩))
        go_wp2_with fail
        go_ret
        exact ⟨ret_bool (by rw [HE.out, hD.out, HM.out]; rfl), below_drewN HBr.out _⟩
    · have hge : KS.length ≤ k := by omega
      have HD : Hid (KS.drop k = []) := Lib.hid (List.drop_eq_nil_iff.2 hge)
      clear hlt
      go_wp2_with fail
      go_ret
      exact ⟨ret_bool (by rw [HE.out, HD.out]; rfl), HBr.out⟩


theorem nd_sets (R : List Ru) {S : Nat → Prop} {w : World} : ∀ (K : Hg) (b o : Nat), NdRow R S w K b o → ∃ KS, KS.length = K.len ∧ SetsOf KS (ofL R K) ∧ ∀ (i : Nat) (V : Nat → Nat), KS[i]? = some V → SetAt w b (o + i * 7 + 1) V ∧ W64 V
  | .nil, _, _, _ => ⟨[], rfl, trivial, fun i V h => by simp at h⟩
  | .cons l k r, b, o, ⟨_, _, ⟨W, h2, h2', h2''⟩, _, h7⟩ => by
    obtain ⟨KS, e1, e2, e3⟩ := nd_sets R r b (o + 7) h7
    refine ⟨W :: KS, by simp [Hg.len, e1], ⟨h2'', e2⟩, fun i V hi => ?_⟩
    cases i with
    | zero =>
      simp at hi; subst hi
      exact ⟨by simpa using h2, h2'⟩
    | succ i =>
      have := e3 i V (by simpa using hi)
      rwa [show o + (i + 1) * 7 + 1 = o + 7 + i * 7 + 1 by omega]
theorem nd_isKs (R : List Ru) {S : Nat → Prop} {w : World} {v : Value} {K : Hg} (h : NdK R S w v K) : ∃ KS, KS.length = K.len ∧ SetsOf KS (ofL R K) ∧ IsKs w v KS := by
  obtain ⟨p, c, rfl, h1, h2, h3⟩ := h
  by_cases hk : K = .nil
  · subst hk
    exact ⟨[], rfl, trivial, p, c, rfl, Nat.zero_le _, h2, fun h => absurd rfl h⟩
  · obtain ⟨b', rfl, hr⟩ := h3 hk
    obtain ⟨KS, e1, e2, e3⟩ := nd_sets R K b' 0 hr
    exact ⟨KS, e1, e2, _, c, by rw [e1], by omega, h2, fun _ => ⟨b', 0, rfl, fun i V hi => by simpa using e3 i V hi⟩⟩

theorem adm_same : ∀ {KS KT : List (Nat → Nat)} {S : List (List Int)} {l : List Nat}, SetsOf KS S → SetsOf KT S → admB KS l = admB KT l
  | [], [], _, _, _, _ => by simp [admB]
  | [], _ :: _, [], _, _, h => by simp [SetsOf] at h
  | [], _ :: _, _ :: _, _, h, _ => by simp [SetsOf] at h
  | _ :: _, [], [], _, h, _ => by simp [SetsOf] at h
  | _ :: _, [], _ :: _, _, _, h => by simp [SetsOf] at h
  | _ :: _, _ :: _, [], _, h, _ => by simp [SetsOf] at h
  | V :: KS, W :: KT, s :: S, [], _, _ => rfl
  | V :: KS, W :: KT, s :: S, q :: l, h, h' => by
    simp only [SetsOf] at h h'
    have e : mem V q = mem W q := by rw [Bool.eq_iff_iff, h.1 q, h'.1 q]
    rw [admB, admB, e, adm_same h.2 h'.2]

set_option maxRecDepth 100000 in
set_option maxHeartbeats 8000000 in
theorem appendRun_ok (A : Au) {B0 : Nat} {T G M n : Nat} {GL : List GB} {rows : List Value} {f : Lit → Option Value} (hM : Means A.ru GL) (hr : ∀ r ∈ A.ru, RuV n r) (hn : n ≤ 1000) (hgl : GL.length ≤ 20000) (wB : World) (hT : Tab B0 (ksOf A.ru) T G M n wB GL rows f) :
    ∀ (N : Nat) (s : Nat) (K : Hg) (b o : Nat) (run : List Int) (rv : Value) (q : Nat) (w : World), K.size < N → Below wB.heap.size wB w → NdRow A.ru (fun _ => True) wB (.cons (s : Int) K .nil) b o → s < n → K.len ≤ 3 → OkS n K → (∀ x ∈ A.ru, x.sym = (s : Int) → x.fr.length = K.len) → OkX A.ru K →
    (q : Int) ∈ stepL A.ru (s : Int) (ofL A.ru K) [] → q < 320 → run.length + K.size + 1 ≤ 100000 → w.ownsRow wB.heap.size 3 1 rv run.length (run.map (Value.int .i64)) →
    Calls Tryd.prog 72 #[.pointer (some ⟨b, o, none⟩), rv, .pointer (some ⟨T, 0, none⟩), .int .i64 (q : Int)] w fun e w' => (∃ v' L, e = .returned v' ∧ w'.ownsRow wB.heap.size 3 1 v' (run ++ (q : Int) :: L).length ((run ++ (q : Int) :: L).map (Value.int .i64)) ∧ ∀ rest, wkT A.ru (s : Int) K ((q : Int) :: L ++ rest) = some rest) ∧ Below wB.heap.size wB w' := by
  intro N
  induction N with
  | zero => intro s K b o run rv q w h; omega
  | succ N ih =>
    intro s K b o run rv q w hN hbB hnd hs hk3 hos hfit hok hq hq320 hlen hown0
    obtain ⟨i0, hi, hz0, hz1, hz2⟩ := info_parts Tryd.infoInt
    have HI := Lib.hid hi
    have HIH := Lib.hid ih
    have HT := Lib.hid hT
    have HM := Lib.hid hM
    have HRV := Lib.hid hr
    have HFIT := Lib.hid hfit
    have HOK := Lib.hid hok
    have HOS := Lib.hid hos
    have HQ := Lib.hid hq
    have HBB := Lib.hid hbB
    obtain ⟨_, n0, ⟨Wx, n1, n1', n1''⟩, ⟨pk, ck, n2, n3, n4, n5⟩, _⟩ := hnd
    have HNK : Hid (NdK A.ru (fun _ => True) wB (.slice pk K.len ck) K) := Lib.hid ⟨pk, ck, rfl, n3, n4, n5⟩
    have HN0 := Lib.hid n0
    have HN2 := Lib.hid n2
    have HNR := Lib.hid n5
    unfold maxLen at n4
    have HBA := Lib.hid ((Below.refl _ w).alloc (Nat.le_refl _) (.cells #[.int .i64 (q : Int)] 3))
    have HNT := Lib.hid (Blk.new w 3 #[.int .i64 (q : Int)])
    have HO2 := Lib.hid (ownsRow_below hown0 HBA.out)
    have HOB : Hid (∀ z, rv.ownBlock = some z → wB.heap.size ≤ z) := Lib.hid (fun z e => (own_cells hown0 e).choose_spec.2)
    have hBz := hbB.size
    clear ih hT hM hr hfit hok hos hq hi n0 n1 n1' n1'' n2 n5 hbB
    go_enter Tryd.func72, Tryd.ntmps72
    go_wp2_with (at_builtin; go_loud (refine wpList_append_own_at _ rfl (.tmp 12) (.tmp 14) 22 rfl wB.heap.size 3 i0 _ 1 8 Tryd.underlying22 HI.out hz0 hz1 hz2 rfl (by decide) rv run.length (run.map (Value.int .i64)) rfl HO2.out ⟨w.heap.size, 0, none⟩ 1 1 [.int .i64 (q : Int)] rfl rfl (fun a x hx => by rw [show ((⟨w.heap.size, 0, none⟩ : Addr).add a) = ⟨w.heap.size, a, none⟩ by (unfold Addr.add; split <;> simp_all), HNT.out.cell]; simpa using hx) (fun x hx => by simp only [List.mem_cons, List.not_mem_nil, or_false] at hx; (rcases hx with rfl); rfl) (by simp only [maxLen]; omega) (by omega) (by simp; omega) ?_))
    intro v2 w2 hown hgr _ _
    have HB2 : Hid (Below wB.heap.size wB w2) := Lib.hid ((HBB.out.trans (HBA.out.mono HBB.out.size)).grown hgr (by simp; omega) (fun z e => HOB.out z e))
    have HR2 : Hid (w2.ownsRow wB.heap.size 3 1 v2 (run ++ [(q : Int)]).length ((run ++ [(q : Int)]).map (Value.int .i64))) := Lib.hid (by rw [List.length_append, List.map_append]; exact hown)
    have x0 : w2.cell? ⟨b, o, none⟩ = some (.int .i64 (s : Int)) := cell_later HB2.out HN0.out
    have xl := World.block_lt_of_cell? _ _ x0
    simp only at xl
    obtain ⟨rv0, hrv0⟩ : ∃ rv0, rows[s]? = some rv0 := ⟨_, List.getElem?_eq_getElem (by rw [HT.out.len]; exact hs)⟩
    have HT2 := Lib.hid (HT.out.below HB2.out)
    have HRW := Lib.hid (HT.out.row s rv0 hrv0)
    clear hown hgr HO2 HNT HBA
    go_wp2_with fail
    refine (groups_ok HT2.out s rv0 hrv0 hn).mono ?_
    rintro e w3 ⟨rfl, rfl⟩
    obtain ⟨ga, gc, rfl⟩ := own_slice2 HRW.out
    have hLl : (ptrs (rowsOf s GL)).length = (rowsOf s GL).length := by unfold ptrs; rw [List.length_map]
    have HLL := Lib.hid hLl
    rw [hLl]
    clear hLl hrv0 x0
    have hrl : (rowsOf s GL).length ≤ 20000 := Nat.le_trans (List.length_filter_le _ _) hgl
    go_wp2_with fail
    go_loopw [1, 23] (fun uv iv wj => ∃ j : Nat, iv = .int .i64 (j : Nat) ∧ j ≤ (rowsOf s GL).length ∧ uv = v2 ∧ Hid (∀ y ∈ (rowsOf s GL).take j, ∀ KS, SetsOf KS (ofL A.ru K) → admB KS [y.a.toNat, y.b.toNat, y.c.toNat] = true → mem y.W q = true → False) ∧ Hid (Below w3.heap.size w3 wj)) (fun _ iv _ => (rowsOf s GL).length - (intOf iv).toNat)
    case atStart => exact ⟨0, rfl, by omega, rfl, Lib.hid (fun y hy => by simp at hy), Lib.hid (Below.refl _ _)⟩
    case round =>
      rename World => wj
      obtain ⟨j, rfl, hj, rfl, HNO, HBj⟩ := hrel
      have HBw := Lib.hid (HB2.out.trans (HBj.out.mono HB2.out.size))
      by_cases hjl : j < (rowsOf s GL).length
      · obtain ⟨y, hy⟩ : ∃ y, (rowsOf s GL)[j]? = some y := ⟨_, List.getElem?_eq_getElem hjl⟩
        have hym : y ∈ GL := (List.mem_filter.1 (List.mem_of_getElem? hy)).1
        have hys : y.s = (s : Int) := by simpa using (List.mem_filter.1 (List.mem_of_getElem? hy)).2
        have hgb := HT.out.gb y hym
        have hgj := hgb.1.below HBw.out hgb.1.lt
        obtain ⟨ra, rb, rc⟩ := HT.out.rule HRV.out hn hym
        have HYM := Lib.hid hym
        have HYS := Lib.hid hys
        have HTK : Hid ((rowsOf s GL).take (j + 1) = (rowsOf s GL).take j ++ [y]) := Lib.hid (by rw [List.take_add_one, hy]; rfl)
        rcases HRW.out.2 with ⟨_, e3⟩ | ⟨gr, cap, cur, e2, _, _, _, _, _, _⟩
        · exact absurd e3 (by rw [HLL.out]; omega)
        · simp only [Value.slice.injEq] at e2
          obtain ⟨rfl, _, rfl⟩ := e2
          have pj := own_at (i := j) (u := y.ptr) HRW.out (by unfold ptrs; rw [List.getElem?_map, hy]; rfl)
          have p1 : wj.cell? ⟨gr, j, none⟩ = some (.pointer (some ⟨y.blk, 0, none⟩)) := cell_later HBw.out pj.1
          have p2 := World.block_lt_of_cell? _ _ p1
          simp only at p2
          have HSA := Lib.hid (scs_setAt hgj)
          have HGC : Hid (∀ (i : Nat) (z : Nat), [y.a.toNat, y.b.toNat, y.c.toNat][i]? = some z → ∀ W, Below wB.heap.size wB W → W.cell? ⟨y.blk, 1 + i, none⟩ = some (.int .i64 (z : Int))) := Lib.hid (fun i z hz W hW => by
            have hgw := hgb.1.below hW hgb.1.lt
            have hi : i < 3 := (List.getElem?_eq_some_iff.1 hz).1
            rw [hgw.cell]
            have : i = 0 ∨ i = 1 ∨ i = 2 := by omega
            rcases this with rfl | rfl | rfl
            · simp at hz; subst hz; rw [Int.toNat_of_nonneg ra.1]; rfl
            · simp at hz; subst hz; rw [Int.toNat_of_nonneg rb.1]; rfl
            · simp at hz; subst hz; rw [Int.toNat_of_nonneg rc.1]; rfl)
          have hyl := hgj.lt
          have HHAS := Lib.hid (has_ok wj y.blk 4 y.W q (q : Int) rfl hq320 HSA.out hgb.2.1)
          have hji : (j : Int) < ((rowsOf s GL).length : Int) := by omega
          have HLT3 : Hid (∀ z ∈ [y.a.toNat, y.b.toNat, y.c.toNat], z < 320) := Lib.hid (fun z hz => by
            simp only [List.mem_cons, List.not_mem_nil, or_false] at hz
            rcases hz with rfl | rfl | rfl <;> omega)
          clear hy pj hgb hgj ra rb rc hym hys
          cases hm : mem y.W q with
          | false =>
            rw [hm] at HHAS
            have HNO2 : Hid (∀ z ∈ (rowsOf s GL).take (j + 1), ∀ KS, SetsOf KS (ofL A.ru K) → admB KS [z.a.toNat, z.b.toNat, z.c.toNat] = true → mem z.W q = true → False) := Lib.hid (fun z hz => by
              rw [HTK.out] at hz
              rcases List.mem_append.1 hz with h | h
              · exact HNO.out z h
              · simp at h; subst h; exact fun KS _ _ h3 => by rw [hm] at h3; cases h3)
            clear hm
            go_wp2_with fail
            refine HHAS.out.mono ?_
            rintro e w4 ⟨rfl, m4, rfl⟩
            go_wp2_with fail
            go_roundw
            case rel => exact ⟨j + 1, by go_num, by omega, rfl, HNO2, Lib.hid (below_drewN HBj.out _)⟩
            case measure => simp [intOf]; omega
          | true =>
            rw [hm] at HHAS
            have HMT := Lib.hid hm
            clear hm
            go_wp2_with fail
            refine HHAS.out.mono ?_
            rintro e w4 ⟨rfl, m4, rfl⟩
            have HB4 : Hid (Below wj.heap.size wj (wj.drewN m4)) := Lib.hid (below_drewN (Below.refl _ _) _)
            have HBw4 := Lib.hid (HBw.out.trans (HB4.out.mono HBw.out.size))
            obtain ⟨KS, hkl, hks, hki⟩ := nd_isKs A.ru (HNK.out.kp (Kp.of_below HBw4.out (fun z hz _ => hz)))
            have HKS := Lib.hid hks
            have HADM := Lib.hid (admits_at (wj.drewN m4) b o (.slice pk K.len ck) KS y.blk 0 [y.a.toNat, y.b.toNat, y.c.toNat] (fun _ => 0) rfl (by omega) HLT3.out (cell_later HBw4.out HN2.out) hki (fun i z hz => HGC.out i z hz _ HBw4.out))
            clear hks hki
            cases had : admB KS [y.a.toNat, y.b.toNat, y.c.toNat] with
            | false =>
              rw [had] at HADM
              have HNO2 : Hid (∀ z ∈ (rowsOf s GL).take (j + 1), ∀ KS, SetsOf KS (ofL A.ru K) → admB KS [z.a.toNat, z.b.toNat, z.c.toNat] = true → mem z.W q = true → False) := Lib.hid (fun z hz => by
                rw [HTK.out] at hz
                rcases List.mem_append.1 hz with h | h
                · exact HNO.out z h
                · simp at h; subst h
                  intro KS2 h1 h2 _
                  rw [adm_same h1 HKS.out] at h2
                  rw [had] at h2; cases h2)
              clear had
              go_wp2_with fail
              refine HADM.out.mono ?_
              rintro e w5 ⟨rfl, hb5⟩
              have HB5 := Lib.hid (HBj.out.trans ((HB4.out.trans (hb5.mono HB4.out.size)).mono HBj.out.size))
              clear hb5
              go_wp2_with fail
              go_roundw
              case rel => exact ⟨j + 1, by go_num, by omega, rfl, HNO2, HB5⟩
              case measure => simp [intOf]; omega
            | true =>
              rw [had] at HADM
              obtain ⟨r, hrm, hrk, hrt⟩ := HM.out.sound y HYM.out q HMT.out
              have hrs : r.sym = (s : Int) := by
                have := congrArg (·.1) hrk
                simp only [Ru.key, GB.key] at this
                rw [this]; exact HYS.out
              have hrl3 := HFIT.out r hrm hrs
              have HRUN : Hid (ruHas A.ru (s : Int) (q : Int) r.fr = true) := Lib.hid (List.any_eq_true.2 ⟨r, hrm, by simp [ruIs, hrs, hrt]⟩)
              have hfr0 : ∀ x ∈ r.fr, 0 ≤ x ∧ x < 300 := (HRV.out r hrm).fr
              have hyk : y.a = r.fr.getD 0 0 ∧ y.b = r.fr.getD 1 0 ∧ y.c = r.fr.getD 2 0 := by
                simp only [Ru.key, GB.key, Prod.mk.injEq] at hrk
                exact ⟨hrk.2.1.symm, hrk.2.2.1.symm, hrk.2.2.2.symm⟩
              have hfits : fitsL (ofL A.ru K) r.fr = true := by
                have h1 := adm_fits (F := r.fr) (List.replicate (3 - r.fr.length) 0) HKS.out (by rw [ofL_len]; omega) (fun x hx => (hfr0 x hx).1)
                rw [← pad3 (by omega), ← hyk.1, ← hyk.2.1, ← hyk.2.2, had] at h1
                exact h1.symm
              have HFQ : Hid (∀ (i : Nat) (x : Int), r.fr[i]? = some x → ∃ qi : Nat, x = (qi : Int) ∧ qi < 320 ∧ [y.a.toNat, y.b.toNat, y.c.toNat][i]? = some qi) := Lib.hid (fun i x hx => by
                have hx0 := hfr0 x (List.mem_of_getElem? hx)
                refine ⟨x.toNat, by omega, by omega, ?_⟩
                have hi : i < r.fr.length := (List.getElem?_eq_some_iff.1 hx).1
                have hgd : r.fr.getD i 0 = x := by rw [List.getD_eq_getElem?_getD, hx]; rfl
                have : i = 0 ∨ i = 1 ∨ i = 2 := by omega
                rcases this with rfl | rfl | rfl
                · rw [← hyk.1] at hgd; show some y.a.toNat = some x.toNat; rw [hgd]
                · rw [← hyk.2.1] at hgd; show some y.b.toNat = some x.toNat; rw [hgd]
                · rw [← hyk.2.2] at hgd; show some y.c.toNat = some x.toNat; rw [hgd])
              have HFL := Lib.hid hrl3
              have HFITS := Lib.hid hfits
              generalize r.fr = fr at HRUN HFQ HFL HFITS
              clear had hrm hrk hrt hrs hrl3 hfr0 hyk hfits HNO
              go_wp2_with fail
              refine HADM.out.mono ?_
              rintro e w5 ⟨rfl, hb5⟩
              have HE5 := Lib.hid (HB4.out.trans (hb5.mono HB4.out.size))
              have HB5 := Lib.hid (HBw.out.trans (HE5.out.mono HBw.out.size))
              have HR5 := Lib.hid (ownsRow_below HR2.out (HBj.out.trans (HE5.out.mono HBj.out.size)))
              have x6 : w5.cell? ⟨b, o + 6, none⟩ = some (.slice pk K.len ck) := cell_later HB5.out HN2.out
              have x6l := World.block_lt_of_cell? _ _ x6
              simp only at x6l
              clear hb5 HADM HHAS
              go_wp2_with fail
              go_loopw [1, 42] (fun uv iv wi => ∃ (i : Nat) (R : Hg) (fs L : List Int), iv = .int .i64 (i : Nat) ∧ Hid (i + R.len = K.len) ∧ Hid (fs = fr.take i) ∧ Hid (∀ rest, wkH A.ru K (L ++ rest) = addF fs (wkH A.ru R rest)) ∧ Hid (fitsL (ofL A.ru R) (fr.drop i) = true) ∧ Hid (OkX A.ru R) ∧ Hid (OkS n R) ∧ Hid (R.size ≤ K.size) ∧ Hid (L.length + R.size = K.size) ∧
                  Hid (R ≠ .nil → ∃ bk, pk = some ⟨bk, 0, none⟩ ∧ NdRow A.ru (fun _ => True) wB R bk (i * 7)) ∧ Hid (wi.ownsRow wB.heap.size 3 1 uv (run ++ (q : Int) :: L).length ((run ++ (q : Int) :: L).map (Value.int .i64))) ∧ Hid (Below wB.heap.size wB wi))
                (fun _ iv _ => K.len - (intOf iv).toNat)
              case atStart => exact ⟨0, K, [], [], rfl, Lib.hid (by simp), Lib.hid (by simp), Lib.hid (fun rest => (addF_nil _).symm), Lib.hid (by simpa using HFITS.out), HOK, HOS, Lib.hid (Nat.le_refl _), Lib.hid (by simp), Lib.hid (fun h => by
                obtain ⟨b', e, hr⟩ := HNR.out h
                exact ⟨b', e, by simpa using hr⟩), HR5, HB5⟩
              case round =>
                rename World => wi
                obtain ⟨i, R, fs, L, rfl, hi, HFS, HWK, HFI, HOKR, HOSR, HSZ, HLN, HRR, HOW, HBi⟩ := hrel
                cases R with
                | nil =>
                  have hge : K.len ≤ i := by have := hi.out; simp only [Hg.len] at this; omega
                  have HFE : Hid (fs = fr) := Lib.hid (by rw [HFS.out]; exact List.take_of_length_le (by have := HFL.out; omega))
                  have HWT : Hid (∀ rest, wkT A.ru (s : Int) K ((q : Int) :: L ++ rest) = some rest) := Lib.hid (fun rest => by
                    have h1 := HWK.out rest
                    simp only [wkH, addF, List.append_nil] at h1
                    rw [HFE.out] at h1
                    show wkT A.ru (s : Int) K ((q : Int) :: (L ++ rest)) = some rest
                    simp only [wkT, h1, HRUN.out, if_true])
                  have hkd : decide (i < K.len) = false := decide_eq_false (by omega)
                  have hkd2 : decide ((i : Int) < (K.len : Int)) = false := decide_eq_false (by omega)
                  clear HRR HWK HFI hi
                  go_wp2_with fail
                  go_ret
                  exact ⟨⟨_, L, rfl, HOW.out, HWT.out⟩, HBi.out⟩
                | cons l2 K2 R2 =>
                  have hlt : i < K.len := by have := hi.out; simp only [Hg.len] at this; omega
                  obtain ⟨bk, rfl, hndr⟩ := HRR.out (by simp)
                  obtain ⟨⟨s2, rfl, hs2n⟩, hk23, hos2, hosr⟩ := HOSR.out
                  have hndk : NdRow A.ru (fun _ => True) wB (.cons (s2 : Int) K2 .nil) bk (i * 7) := ⟨hndr.1, hndr.2.1, hndr.2.2.1, hndr.2.2.2.1, trivial⟩
                  have HND2 := Lib.hid hndk
                  have HNDR : Hid (NdRow A.ru (fun _ => True) wB R2 bk ((i + 1) * 7)) := Lib.hid (by rw [show (i + 1) * 7 = i * 7 + 7 by omega]; exact hndr.2.2.2.2)
                  have HOS2 := Lib.hid hos2
                  have HOSR2 := Lib.hid hosr
                  have HFX := Lib.hid HOKR.out.1
                  have HOX2 := Lib.hid HOKR.out.2.1
                  have HOXR := Lib.hid HOKR.out.2.2
                  obtain ⟨fi, frest, hdrop⟩ : ∃ fi frest, fr.drop i = fi :: frest := by
                    cases hd : fr.drop i with
                    | nil =>
                      have h1 := congrArg List.length hd
                      rw [List.length_drop] at h1
                      have := HFL.out
                      simp at h1
                      omega
                    | cons a t => exact ⟨a, t, rfl⟩
                  have hfi : fr[i]? = some fi := by
                    have h1 := congrArg (fun z => z[0]?) hdrop
                    simpa [List.getElem?_drop] using h1
                  have hdrop1 : fr.drop (i + 1) = frest := by
                    have h1 := congrArg (List.drop 1) hdrop
                    simpa [List.drop_drop, Nat.add_comm] using h1
                  obtain ⟨qi, rfl, hqi, hget⟩ := HFQ.out i fi hfi
                  have hft := HFI.out
                  rw [hdrop, ofL] at hft
                  simp only [fitsL, Bool.and_eq_true] at hft
                  have HIN := Lib.hid (inB_iff.1 hft.1)
                  have HFI2 : Hid (fitsL (ofL A.ru R2) (fr.drop (i + 1)) = true) := Lib.hid (by rw [hdrop1]; exact hft.2)
                  have HFS2 : Hid (fs ++ [(qi : Int)] = fr.take (i + 1)) := Lib.hid (by rw [List.take_add_one, hfi, HFS.out]; rfl)
                  have HSK : Hid (K2.size < N ∧ R2.size ≤ K.size ∧ (run ++ (q : Int) :: L).length + K2.size + 1 ≤ 100000) := Lib.hid (by
                    have h1 := HSZ.out
                    have h2 := HLN.out
                    simp only [Hg.size] at h1 h2
                    simp only [List.length_append, List.length_cons]
                    omega)
                  have HLN2 : Hid (∀ L2 : List Int, L2.length = K2.size → (L ++ (qi : Int) :: L2).length + R2.size = K.size) := Lib.hid (fun L2 h => by
                    have h2 := HLN.out
                    simp only [Hg.size] at h2
                    simp only [List.length_append, List.length_cons]
                    omega)
                  have HSS : Hid (∀ W, Below wB.heap.size wB W → W.cell? ⟨b, o + 6, none⟩ = some (.slice (some ⟨bk, 0, none⟩) K.len ck) ∧ W.cell? ⟨y.blk, 1 + i, none⟩ = some (.int .i64 (qi : Int))) := Lib.hid (fun W hW => ⟨cell_later hW HN2.out, HGC.out i qi hget W hW⟩)
                  have hs0 := HSS.out wi HBi.out
                  have hsb := World.block_lt_of_cell? _ _ hs0.1
                  have hsy := World.block_lt_of_cell? _ _ hs0.2
                  simp only at hsb hsy
                  have hii : (i : Int) < (K.len : Int) := by omega
                  have hi3 : (i : Int) < 3 := by omega
                  have hi3n : i < 3 := by omega
                  have hkb : i < 9223372036854775807 := by omega
                  have HOWD := Lib.hid (ownsRow_below HOW.out (Below.refl wi.heap.size wi).drew)
                  have HHC := Lib.hid (HIH.out s2 K2 bk (i * 7) (run ++ (q : Int) :: L) u1 qi wi.drew HSK.out.1 HBi.out.drew HND2.out hs2n hk23 HOS2.out HFX.out HOX2.out HIN.out hqi HSK.out.2.2 HOWD.out)
                  clear hndr hndk hos2 hosr hdrop hfi hdrop1 hget hft HRR HOSR HOKR hs0
                  go_wp2_with fail
                  go_region_held3 (fun W => W.cell? ⟨b, o + 6, none⟩ = some (.slice (some ⟨bk, 0, none⟩) K.len ck) ∧ W.cell? ⟨y.blk, 1 + i, none⟩ = some (.int .i64 (qi : Int)))
                    (first | exact HSS.out _ HE9.out | exact HSS.out _ HBi.out.drew)
                    (first
                      | (go_at_call 72; refine HHC.out.mono ?_; rintro e w9 ⟨⟨v9, L2, rfl, ho9, hw9⟩, hb9⟩; have HE9 := Lib.hid hb9; have HO9 := Lib.hid ho9; have HW9 := Lib.hid hw9; clear hb9 ho9 hw9))
                  have HL2 : Hid (L2.length = K2.size) := Lib.hid (by
                    have h1 := wkT_len _ (HW9.out [])
                    simp only [List.append_nil, List.length_cons, List.length_nil] at h1
                    omega)
                  have HWK2 : Hid (∀ rest, wkH A.ru K ((L ++ (qi : Int) :: L2) ++ rest) = addF (fs ++ [(qi : Int)]) (wkH A.ru R2 rest)) := Lib.hid (fun rest => by
                    rw [List.append_assoc, HWK.out]
                    exact addF_some _ (HW9.out rest))
                  have HO10 : Hid (w9.ownsRow wB.heap.size 3 1 v9 (run ++ (q : Int) :: (L ++ (qi : Int) :: L2)).length ((run ++ (q : Int) :: (L ++ (qi : Int) :: L2)).map (Value.int .i64))) := Lib.hid (by
                    have := HO9.out
                    rwa [show (run ++ (q : Int) :: L) ++ (qi : Int) :: L2 = run ++ (q : Int) :: (L ++ (qi : Int) :: L2) by simp] at this)
                  have HIL : Hid (i + 1 + R2.len = K.len) := Lib.hid (by have := hi.out; simp only [Hg.len] at this; omega)
                  clear HHC HOWD HW9 HO9
                  go_wp2_with fail
                  refine ⟨⟨i + 1, R2, fs ++ [(qi : Int)], L ++ (qi : Int) :: L2, by go_num, HIL, HFS2, HWK2, HFI2, HOXR, HOSR2, Lib.hid HSK.out.2.1, Lib.hid (HLN2.out L2 HL2.out), Lib.hid (fun _ => ⟨bk, rfl, HNDR.out⟩), HO10, HE9⟩, ?_⟩
                  simp [intOf]; omega
      · exfalso
        have hge : (rowsOf s GL).length ≤ j := by omega
        obtain ⟨KS, _, hks, _⟩ := nd_isKs A.ru HNK.out
        obtain ⟨y, h1, h2, h3⟩ := (rows_mem HM.out HRV.out s hks (fun r hr e => by rw [ofL_len, HFIT.out r hr e]; exact Nat.le_refl _) q).2 HQ.out
        exact HNO.out y (by rw [List.take_of_length_le hge]; exact h1) KS hks h2 h3

end Go.Proofs.YtopineheelkcmaaDoor
