/- hedge.ranked. -/
import Derived.Test.YtkbcehapalcadabDec
import Derived.Test.YtkbcehapalcadabBin
namespace Go.Proofs.Ytkbcehapalcadab
open Go.RowKit Go.Shelf

def zer : Nat → List Value
  | 0 => []
  | m + 1 => .int .i64 0 :: .slice none 0 0 :: zer m
theorem zer_length (m : Nat) : (zer m).length = m * 2 := by
  induction m with
  | zero => rfl
  | succ m ih => simp only [zer, List.length_cons, ih]; omega
theorem zer_at (m : Nat) : ∀ j, j < m * 2 → (zer m)[j]? = some (if j % 2 = 0 then .int .i64 0 else .slice none 0 0) := by
  induction m with
  | zero => intro j h; omega
  | succ m ih =>
    intro j h
    match j with
    | 0 => rfl
    | 1 => rfl
    | j + 2 =>
      simp only [zer, List.getElem?_cons_succ]
      rw [ih j (by omega), show (j + 2) % 2 = j % 2 by omega]
theorem made_zer (m : Nat) : (madeCells #[.int .i64 0, .slice none 0 0] (m * 2)).toList = zer m := by
  apply List.ext_getElem?
  intro j
  by_cases hj : j < m * 2
  · rw [zer_at m j hj]
    rcases Nat.mod_two_eq_zero_or_one j with h | h
    · simp [madeCells, hj, h]
    · simp [madeCells, hj, h]
  · have : (zer m)[j]? = none := by rw [List.getElem?_eq_none]; rw [zer_length]; omega
    rw [this]
    simp [madeCells, hj]
theorem rk_set (D : DL) (m : Nat) (l : Int) (K : Hg) (v : Value) : ((dcells D ++ zer (m + 1)).set (D.length * 2) (.int .i64 l)).set (D.length * 2 + 1) v = dcells (D ++ [(l, K, v)]) ++ zer m := by
  rw [List.set_append_right _ _ (by rw [dcells_length]; omega), dcells_length, Nat.sub_self]
  rw [List.set_append_right _ _ (by rw [dcells_length]; omega), dcells_length, show D.length * 2 + 1 - D.length * 2 = 1 by omega]
  rw [dcells_snoc]
  simp [zer]
theorem rk_at (D : DL) (m : Nat) : (dcells D ++ zer (m + 1))[D.length * 2]? = some (.int .i64 0) ∧ (dcells D ++ zer (m + 1))[D.length * 2 + 1]? = some (.slice none 0 0) := by
  constructor
  · rw [List.getElem?_append_right (by rw [dcells_length]; omega), dcells_length, Nat.sub_self]; rfl
  · rw [List.getElem?_append_right (by rw [dcells_length]; omega), dcells_length, show D.length * 2 + 1 - D.length * 2 = 1 by omega]; rfl

theorem Try.infoTreeZ : (Try.prog.info? 41).map (fun i => (i.zero, i.size, i.bytes)) = some (some (.agg #[.int .i64 0, .slice none 0 0]), 2, 32) := by kernel_rfl

set_option maxRecDepth 100000 in
set_option maxHeartbeats 1000000 in
theorem ranked_any (N : Nat) : ∀ (l : Int) (K : Hg) (vk : Value) (w : World), K.size < N → K.size ≤ 1000000 → (Lit.int .i64 l).wf = true → IsH w vk K →
    Calls Try.prog 40 #[.agg #[.int .i64 l, vk]] w fun e w' => ∃ r, e = .returned r ∧ IsTS (fun c => w.heap.size ≤ c) w' r (l, K) ∧ Below w.heap.size w w' := by
  induction N with
  | zero => intro l K vk w hN; omega
  | succ N ih =>
    intro l K vk w hN hmax hwf hv
    obtain ⟨p, c, rfl, hc1, hc2, hrow⟩ := hv
    obtain ⟨i0, hi, hz0, hz1, hz2⟩ := info_parts Try.infoTreeZ
    have hlen := Hg.len_le_size K
    have HI := Lib.hid ih
    have HR := Lib.hid hrow
    have HWF := Lib.hid hwf
    clear ih hrow hwf
    unfold maxLen at hc2
    go_enter Try.func40, Try.ntmps40
    go_wp2_with (at_make; refine wpList_make_full _ rfl _ _ 39 rfl (w.heap.size + 1 + 1) 41 i0 _ 2 Try.underlying39 hi hz0 hz1 _ _ _ _ K.len rfl rfl ?d1 ?d2 ?d3 ?d4 ?d5 ?_)
    case d1 => rfl
    case d2 => rfl
    case d3 => rw [hz2]; omega
    case d4 => simp only [maxLen]; omega
    case d5 => simp
    intro w2 hown hgrow
    have hown2 : w2.ownsRow (w.heap.size + 1 + 1) 41 2 (.slice (some ⟨w.heap.size + 1 + 1, 0, none⟩) K.len K.len) K.len (dcells [] ++ zer K.len) := by
      have : (madeCells #[Value.int IntKind.i64 0, .slice none 0 0] (K.len * 2)).toList = dcells [] ++ zer K.len := made_zer _
      rw [← this]
      simpa using hown
    have hbx0 : Blk ((w.alloc (.cells #[.int .i64 l, .slice p K.len c] 24)).alloc (.cells #[.int .i64 0, .slice none 0 0] 41)) w.heap.size 24 #[.int .i64 l, .slice p K.len c] := (Blk.new w _ _).alloc _
    have hbx : Blk w2 w.heap.size 24 #[.int .i64 l, .slice p K.len c] := (hgrow.block _ (by simp; omega) (by simp)).trans hbx0
    have hby0 : Blk ((w.alloc (.cells #[.int .i64 l, .slice p K.len c] 24)).alloc (.cells #[.int .i64 0, .slice none 0 0] 41)) (w.heap.size + 1) 41 #[.int .i64 0, .slice none 0 0] := by
      have := Blk.new (w.alloc (.cells #[.int .i64 l, .slice p K.len c] 24)) 41 #[.int .i64 0, .slice none 0 0]; rwa [World.size_alloc] at this
    have hby : Blk w2 (w.heap.size + 1) 41 #[.int .i64 0, .slice none 0 0] := (hgrow.block _ (by simp) (by simp)).trans hby0
    have hb2 : Below w.heap.size w w2 := (((Below.refl _ w).alloc (Nat.le_refl _) _).alloc (by simp) _).grown hgrow (by simp; omega) (fun j e => by simp at e)
    have z0 : w2.cell? ⟨w.heap.size, 0, none⟩ = some (.int .i64 l) := by rw [hbx.cell]; rfl
    have z1 : w2.cell? ⟨w.heap.size, 1, none⟩ = some (.slice p K.len c) := by rw [hbx.cell]; rfl
    have z2 : w.heap.size < w2.heap.size := hbx.lt
    have HO := Lib.hid hown2
    have HBX := Lib.hid hbx
    have HBY := Lib.hid hby
    have HB2 := Lib.hid hb2
    clear hown hgrow hown2 hbx hby hb2 hbx0 hby0
    go_wp2_with fail
    go_loopw [13] (fun i wr => ∃ (D : DL) (R : Hg), i = .int .i64 D.length ∧ Hid (dapp D R = K) ∧ Hid (wr.ownsRow (w.heap.size + 1 + 1) 41 2 (.slice (some ⟨w.heap.size + 1 + 1, 0, none⟩) K.len K.len) K.len (dcells D ++ zer R.len)) ∧ Hid (DIn (fun c => w.heap.size + 1 + 1 < c) wr D) ∧
        Hid (Blk wr w.heap.size 24 #[.int .i64 l, .slice p K.len c]) ∧ Hid (Blk wr (w.heap.size + 1) 41 #[.int .i64 0, .slice none 0 0]) ∧ Hid (Below w.heap.size w wr) ∧ Hid (R ≠ .nil → ∃ b o, p = some ⟨b, o, none⟩ ∧ Row w R b (o + D.length * 2)))
      (fun i _ => K.len - (intOf i).toNat)
    case atStart =>
      exact ⟨[], K, rfl, Lib.hid rfl, HO, Lib.hid (fun x hx => by cases hx), HBX, HBY, HB2, Lib.hid (by simpa using HR.out)⟩
    case round =>
      obtain ⟨D, R, rfl, hD, HO1, HDI, HX1, HY1, HB1, hR⟩ := hrel
      have z7 : w.heap.size + 1 + 1 < wr.heap.size := (HO1.out.lt _ rfl).2
      have hlD : D.length + R.len = K.len := by rw [← hD.out, dapp_len]
      cases R with
      | nil =>
        have hge : K.len ≤ D.length := by simp only [Hg.len] at hlD; omega
        have x0 : wr.cell? ⟨w.heap.size, 0, none⟩ = some (.int .i64 l) := by rw [HX1.out.cell]; rfl
        have y0 : wr.cell? ⟨w.heap.size + 1, 0, none⟩ = some (.int .i64 0) := by rw [HY1.out.cell]; rfl
        have y1 : wr.cell? ⟨w.heap.size + 1, 1, none⟩ = some (.slice none 0 0) := by rw [HY1.out.cell]; rfl
        have y2 := HY1.out.frozen 0
        have y3 := HY1.out.frozen 1
        have hDl : D.length = K.len := by simp only [Hg.len] at hlD; omega
        have HDL := Lib.hid hDl
        clear hR HO HBX HBY HB2 HR hDl z0 z1
        go_wp2_with fail
        refine bodyPost_ret (v := .agg #[.int .i64 l, .slice (some ⟨w.heap.size + 1 + 1, 0, none⟩) K.len K.len]) (results_cell_row rfl _ _ (w.heap.size + 1) 41 _ (0, 0) _ rfl ((HY1.out.set_ 0 _).set_ 1 _) Try.underlying41 rfl Try.infoTree) rfl ⟨_, rfl, ⟨_, rfl, HWF.out, ?_⟩, (HB1.out.setCell (p := ⟨w.heap.size + 1, 0, none⟩) (by simp) _).setCell (p := ⟨w.heap.size + 1, 1, none⟩) (by simp) _⟩
        have ho := HO1.out
        simp only [zer, Hg.len, List.append_nil] at ho
        rw [← HDL.out] at ho ⊢
        have hfin := HDI.out.isHS (S' := fun c => w.heap.size + 1 + 1 ≤ c) ho (fun c _ h => by omega) (fun c h => h)
        rw [hD.out] at hfin
        exact (hfin.kp (((Kp.refl _ _).setCell (p := ⟨w.heap.size + 1, 0, none⟩) (fun h => by simp at h; omega) _).setCell (p := ⟨w.heap.size + 1, 1, none⟩) (fun h => by simp at h; omega) _)).mono (fun c _ h => by omega)
      | cons kl k R =>
        obtain ⟨b, o, rfl, hr⟩ := hR.out (by simp)
        rw [Row.cons_iff] at hr
        obtain ⟨c1, hl, ⟨kv, c2, hkv⟩, hr⟩ := hr
        have HKV := Lib.hid hkv
        obtain ⟨p', c', rfl, _, _, _⟩ := hkv
        have hbl0 := World.block_lt_of_cell? _ _ c1
        simp only at hbl0
        have c1 := (HB1.out.cell (p := ⟨b, o + D.length * 2, none⟩) hbl0).trans c1
        have c2 := (HB1.out.cell (p := ⟨b, o + D.length * 2 + 1, none⟩) hbl0).trans c2
        have hbl : b < wr.heap.size := by omega
        have hlt : D.length < K.len := by simp only [Hg.len] at hlD; omega
        have hszk : k.size < N ∧ k.size ≤ 1000000 := by
          have := dapp_size D (.cons kl k R)
          rw [hD.out] at this
          simp only [Hg.size] at this
          omega
        have x0 : wr.cell? ⟨w.heap.size, 1, none⟩ = some (.slice (some ⟨b, o, none⟩) K.len c) := by rw [HX1.out.cell]; rfl
        have hba := (Below.refl wr.heap.size wr).alloc (Nat.le_refl _) (.cells #[.int .i64 kl, .slice p' k.len c'] 24)
        have hsz := HB1.out.size
        have HC := Lib.hid (HI.out kl k (.slice p' k.len c') (wr.alloc (.cells #[.int .i64 kl, .slice p' k.len c'] 24)) hszk.1 hszk.2 hl (HKV.out.below (HB1.out.alloc hsz _)))
        have HBA := Lib.hid hba
        have HRR := Lib.hid hr
        clear hR HO HBX HBY HB2 HR hr hba hszk z0 z1 hlD
        go_wp2_with fail
        refine HC.out.mono ?_
        rintro e w3 ⟨r3, rfl, hr3, hb3⟩
        obtain ⟨v3, rfl, hwf3, hq3⟩ := hr3
        have HQ := Lib.hid hq3
        obtain ⟨p3, c3, rfl, _, _, _⟩ := hq3
        have hb3' : Below wr.heap.size wr w3 := HBA.out.trans (hb3.mono (by simp))
        have hsz3 := hb3'.size
        have ho3 := ownsRow_heap HO1.out (fun g hg => hb3'.block g (HO1.out.lt g hg).2)
        have u0 : w3.cell? ⟨w.heap.size + 1 + 1, D.length * 2, none⟩ = some (.int .i64 0) := by rw [ho3.cellAt _ (by omega)]; exact (rk_at D R.len).1
        have u1 : w3.cell? ⟨w.heap.size + 1 + 1, D.length * 2 + 1, none⟩ = some (.slice none 0 0) := by rw [ho3.cellAt _ (by omega)]; exact (rk_at D R.len).2
        have u2 := ho3.frozenAt (D.length * 2)
        have u3 := ho3.frozenAt (D.length * 2 + 1)
        have u4 : w.heap.size + 1 + 1 < w3.heap.size := by omega
        have hst := (((ho3.stored (D.length * 2) (.int .i64 kl)).1).stored (D.length * 2 + 1) (.slice p3 k.len c3)).1
        have hst2 : ((w3.setCell ⟨w.heap.size + 1 + 1, D.length * 2, none⟩ (.int .i64 kl)).setCell ⟨w.heap.size + 1 + 1, D.length * 2 + 1, none⟩ (.slice p3 k.len c3)).ownsRow (w.heap.size + 1 + 1) 41 2 (.slice (some ⟨w.heap.size + 1 + 1, 0, none⟩) K.len K.len) K.len (dcells (D ++ [(kl, k, .slice p3 k.len c3)]) ++ zer R.len) := by
          rw [← rk_set D R.len kl k (.slice p3 k.len c3)]; exact hst
        have hkp : ∀ u v, Kp (fun c => w.heap.size + 1 + 1 < c) w3 ((w3.setCell ⟨w.heap.size + 1 + 1, D.length * 2, none⟩ u).setCell ⟨w.heap.size + 1 + 1, D.length * 2 + 1, none⟩ v) := fun u v =>
          ((Kp.refl _ _).setCell (p := ⟨w.heap.size + 1 + 1, D.length * 2, none⟩) (fun h => by simp at h) u).setCell (p := ⟨w.heap.size + 1 + 1, D.length * 2 + 1, none⟩) (fun h => by simp at h) v
        have HST := Lib.hid hst2
        have HKP := Lib.hid hkp
        have HD3 := Lib.hid ((HDI.out.kp (Kp.of_below hb3' (fun c hc _ => hc))).snoc (x := (kl, k, .slice p3 k.len c3)) ⟨hwf3, HQ.out.mono (fun c _ h => by simp at h; omega)⟩)
        have HX3 := Lib.hid (HX1.out.below hb3' HX1.out.lt)
        have HY3 := Lib.hid (HY1.out.below hb3' HY1.out.lt)
        have HB3 := Lib.hid (HB1.out.trans (hb3'.mono hsz))
        clear hst hst2 hkp hb3 hb3' ho3 hwf3
        go_wp2_with fail
        go_roundw
        case rel =>
          refine ⟨D ++ [(kl, k, .slice p3 k.len c3)], R, by simp, Lib.hid (by rw [dapp_snoc]; exact hD.out), HST, Lib.hid (HD3.out.kp (HKP.out _ _)), Lib.hid ?_, Lib.hid ?_, Lib.hid ?_, Lib.hid (fun _ => ⟨b, o, rfl, ?_⟩)⟩
          · exact (HX3.out.far (by simp; omega) _).far (by simp; omega) _
          · exact (HY3.out.far (by simp) _).far (by simp) _
          · exact (HB3.out.setCell (p := ⟨w.heap.size + 1 + 1, D.length * 2, none⟩) (by simp; omega) _).setCell (p := ⟨w.heap.size + 1 + 1, D.length * 2 + 1, none⟩) (by simp; omega) _
          · rw [List.length_append, show o + (D.length + [(kl, k, Value.slice p3 k.len c3)].length) * 2 = o + D.length * 2 + 2 from by simp; omega]; exact HRR.out
        case measure => simp [intOf]; omega

end Go.Proofs.Ytkbcehapalcadab
