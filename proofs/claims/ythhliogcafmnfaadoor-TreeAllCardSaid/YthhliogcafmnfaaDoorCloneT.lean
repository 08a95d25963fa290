/- clone. -/
import Derived.Test.YthhliogcafmnfaaDoorClone
namespace Go.Proofs.YthhliogcafmnfaaDoor
open Go.RowKit Go.Shelf

theorem cl_set (D D' : DL) (l : Int) (K : Hg) (kv v : Value) : ((dcells D ++ dcells ((l, K, kv) :: D')).set (D.length * 2) (.int .i64 l)).set (D.length * 2 + 1) v = dcells (D ++ [(l, K, v)]) ++ dcells D' := by
  rw [List.set_append_right _ _ (by rw [dcells_length]; omega), dcells_length, Nat.sub_self]
  rw [List.set_append_right _ _ (by rw [dcells_length]; omega), dcells_length, show D.length * 2 + 1 - D.length * 2 = 1 by omega]
  rw [dcells_snoc]
  simp [dcells]
theorem cl_at (D D' : DL) (l : Int) (K : Hg) (kv : Value) : (dcells D ++ dcells ((l, K, kv) :: D'))[D.length * 2]? = some (.int .i64 l) ∧ (dcells D ++ dcells ((l, K, kv) :: D'))[D.length * 2 + 1]? = some kv := by
  constructor
  · rw [List.getElem?_append_right (by rw [dcells_length]; omega), dcells_length, Nat.sub_self]; rfl
  · rw [List.getElem?_append_right (by rw [dcells_length]; omega), dcells_length, show D.length * 2 + 1 - D.length * 2 = 1 by omega]; rfl

theorem Tryd.infoTreeS : (Tryd.prog.info? 27).map (·.size) = some 2 := by kernel_rfl

theorem ownsRow_heap {w w' : World} {base : Nat} {e : TypeId} {size n : Nat} {v : Value} {xs : List Value} (h : w.ownsRow base e size v n xs) (hh : ∀ g, v.ownBlock = some g → w'.heap[g]? = w.heap[g]?) : w'.ownsRow base e size v n xs := by
  refine ⟨h.1, ?_⟩
  rcases h.2 with hn | ⟨g, cap, cur, rfl, hb, hg, rest⟩
  · exact .inl hn
  · exact .inr ⟨g, cap, cur, rfl, hb, (hh g rfl).trans hg, rest⟩

set_option maxRecDepth 100000 in
set_option maxHeartbeats 2000000 in
theorem clone_any (N : Nat) : ∀ (l : Int) (K : Hg) (vk : Value) (w : World), K.size < N → K.size ≤ 1000000 → (Lit.int .i64 l).wf = true → IsH w vk K →
    Calls Tryd.prog 72 #[.agg #[.int .i64 l, vk]] w fun e w' => ∃ r, e = .returned r ∧ IsTS (fun c => w.heap.size ≤ c) w' r (l, K) ∧ Below w.heap.size w w' := by
  induction N with
  | zero => intro l K vk w hN; omega
  | succ N ih =>
    intro l K vk w hN hmax hwf hv
    have hv' := hv.isHS
    obtain ⟨p, c, rfl, hc1, hc2, hrow⟩ := hv'
    have hlen := Hg.len_le_size K
    obtain ⟨D0, hD0, hDl0, hDI0, hcells, hone⟩ : ∃ D : DL, dapp D .nil = K ∧ D.length = K.len ∧ DIn (fun c => c < w.heap.size) w D ∧ (0 < K.len → ∃ b o, p = some ⟨b, o, none⟩ ∧ b < w.heap.size ∧ ∀ i u, (dcells D)[i]? = some u → w.cell? ⟨b, o + i, none⟩ = some u) ∧ (∀ u ∈ dcells D, u.oneCell' = true) := by
      by_cases hne : K = .nil
      · subst hne
        exact ⟨[], rfl, rfl, fun x hx => (by cases hx), fun h => by simp [Hg.len] at h, fun u hu => by simp [dcells] at hu⟩
      · obtain ⟨b, o, rfl, hr⟩ := hrow hne
        obtain ⟨D, e1, e2, e3, e4, e5⟩ := hg_list K o hr
        refine ⟨D, e1, e2, e3, fun _ => ⟨b, o, rfl, ?_, e4⟩, e5⟩
        cases K with
        | nil => exact absurd rfl hne
        | cons a b c => rw [RowS.cons_iff] at hr; exact hr.1
    have hba : Below w.heap.size w ((w.alloc (.cells #[.int .i64 l, .slice p K.len c] 27)).alloc (.cells #[.int .i64 0, .slice none 0 0] 27)) := ((Below.refl _ w).alloc (Nat.le_refl _) _).alloc (by simp) _
    have hcl := slclone_any ((w.alloc (.cells #[.int .i64 l, .slice p K.len c] 27)).alloc (.cells #[.int .i64 0, .slice none 0 0] 27)) K.len p c D0 (by omega) hDl0 (fun h => by
      obtain ⟨b, o, e1, e2, e3⟩ := hcells h
      exact ⟨b, o, e1, by simp; omega, fun i u hu => cell_later hba (e3 i u hu)⟩) hone
    have HCL := Lib.hid hcl
    have HI := Lib.hid ih
    have HWF := Lib.hid hwf
    have HBA := Lib.hid hba
    have HD0 := Lib.hid hD0
    have HDL := Lib.hid hDl0
    have HDI := Lib.hid hDI0
    have HB0 := Lib.hid (blk_0 w 27 #[.int .i64 l, .slice p K.len c] (.cells #[.int .i64 0, .slice none 0 0] 27) (.cells #[] 0))
    clear ih hrow hwf hcl hba hcells hone hD0 hDl0 hDI0
    unfold maxLen at hc2
    go_enter Tryd.func72, Tryd.ntmps72
    go_wp2_with fail
    refine HCL.out.mono ?_
    rintro e w2 ⟨hb2, v2, rfl, ho2⟩
    have hsz2 : w.heap.size + 1 + 1 ≤ w2.heap.size := by have := hb2.size; simpa using this
    have hb2' : Below w.heap.size w w2 := HBA.out.trans (hb2.mono (by simp; omega))
    have hbx : Blk w2 w.heap.size 27 #[.int .i64 l, .slice p K.len c] := ((Blk.new w 27 #[.int .i64 l, .slice p K.len c]).alloc (.cells #[.int .i64 0, .slice none 0 0] 27)).below hb2 (by simp; omega)
    have hby : Blk w2 (w.heap.size + 1) 27 #[.int .i64 0, .slice none 0 0] := by
      have := Blk.new (w.alloc (.cells #[.int .i64 l, .slice p K.len c] 27)) 27 #[.int .i64 0, .slice none 0 0]
      rw [World.size_alloc] at this
      exact this.below hb2 (by simp)
    have hba : ((w.alloc (.cells #[.int .i64 l, .slice p K.len c] 27)).alloc (.cells #[.int .i64 0, .slice none 0 0] 27)).heap.size = w.heap.size + 1 + 1 := by simp
    rw [hba] at ho2
    have HBX := Lib.hid hbx
    have HBY := Lib.hid hby
    have HB2 := Lib.hid hb2'
    have ho2' := ho2
    clear hb2 hb2' hbx hby hba HCL HBA HB0
    rcases ho2'.2 with ⟨rfl, hn⟩ | ⟨g, cap, cur, rfl, hbg, hg', hcap, hmax, hcs, htake⟩
    · have hK : K = .nil := by cases K with
        | nil => rfl
        | cons a b c => simp [Hg.len] at hn
      subst hK
      clear ho2 ho2' hn
      go_wp2_with fail
      go_loopw [11] (fun i wr => i = .int .i64 0 ∧ Hid (Blk wr w.heap.size 27 #[.int .i64 l, .slice p Hg.nil.len c]) ∧ Hid (Blk wr (w.heap.size + 1) 27 #[.int .i64 0, .slice none 0 0]) ∧ Hid (Below w.heap.size w wr))
        (fun i _ => 0)
      case atStart => exact ⟨rfl, HBX, HBY, HB2⟩
      case round =>
        obtain ⟨rfl, HX1, HY1, HB1⟩ := hrel
        have x0 : wr.cell? ⟨w.heap.size, 0, none⟩ = some (.int .i64 l) := by rw [HX1.out.cell]; rfl
        have y0 : wr.cell? ⟨w.heap.size + 1, 0, none⟩ = some (.int .i64 0) := by rw [HY1.out.cell]; rfl
        have y1 : wr.cell? ⟨w.heap.size + 1, 1, none⟩ = some (.slice none 0 0) := by rw [HY1.out.cell]; rfl
        have y2 := HY1.out.frozen 0
        have y3 := HY1.out.frozen 1
        have z1 := HX1.out.lt
        have z2 := HY1.out.lt
        clear HBX HBY
        go_wp2_with fail
        refine bodyPost_ret (v := .agg #[.int .i64 l, .slice none 0 0]) (results_cell_row rfl _ _ (w.heap.size + 1) 27 _ (0, 0) _ rfl ((HY1.out.set_ 0 _).set_ 1 _) Tryd.underlying27 rfl Tryd.infoTreeS) rfl ⟨_, rfl, ⟨_, rfl, HWF.out, ?_⟩, (HB1.out.setCell (p := ⟨w.heap.size + 1, 0, none⟩) (by simp) _).setCell (p := ⟨w.heap.size + 1, 1, none⟩) (by simp) _⟩
        exact ⟨none, 0, rfl, by simp [Hg.len], by simp [maxLen], fun h => absurd rfl h⟩
    · have HO := Lib.hid ho2
      have hmax' := hmax
      unfold maxLen at hmax
      clear ho2 ho2' hg' hcs htake
      go_wp2_with fail
      go_loopw [11] (fun i wr => ∃ (D D' : DL), i = .int .i64 D.length ∧ Hid (dapp D (dapp D' .nil) = K) ∧ Hid (wr.ownsRow (w.heap.size + 1 + 1) 27 2 (.slice (some ⟨g, 0, none⟩) K.len cap) K.len (dcells D ++ dcells D')) ∧ Hid (DIn (fun c => g < c) wr D) ∧ Hid (DIn (fun c => c < w.heap.size) w D') ∧
          Hid (Blk wr w.heap.size 27 #[.int .i64 l, .slice p K.len c]) ∧ Hid (Blk wr (w.heap.size + 1) 27 #[.int .i64 0, .slice none 0 0]) ∧ Hid (Below w.heap.size w wr))
        (fun i _ => K.len - (intOf i).toNat)
      case atStart =>
        exact ⟨[], D0, rfl, Lib.hid HD0.out, Lib.hid (by simpa [dcells] using HO.out), Lib.hid (fun x hx => by cases hx), HDI, HBX, HBY, HB2⟩
      case round =>
        obtain ⟨D, D', rfl, hD, HO1, HDN, HDO, HX1, HY1, HB1⟩ := hrel
        have z7 : g < wr.heap.size := (HO1.out.lt _ rfl).2
        have hlD : D.length + D'.length = K.len := by
          have := HO1.out.1
          rw [List.length_append, dcells_length, dcells_length] at this
          omega
        have x0 : wr.cell? ⟨w.heap.size, 0, none⟩ = some (.int .i64 l) := by rw [HX1.out.cell]; rfl
        have z1 := HX1.out.lt
        have z2 := HY1.out.lt
        cases D' with
        | nil =>
          have hge : K.len ≤ D.length := by simp at hlD; omega
          have y0 : wr.cell? ⟨w.heap.size + 1, 0, none⟩ = some (.int .i64 0) := by rw [HY1.out.cell]; rfl
          have y1 : wr.cell? ⟨w.heap.size + 1, 1, none⟩ = some (.slice none 0 0) := by rw [HY1.out.cell]; rfl
          have y2 := HY1.out.frozen 0
          have y3 := HY1.out.frozen 1
          have hDl : D.length = K.len := by simp at hlD; omega
          have HDL2 := Lib.hid hDl
          clear HO HBX HBY hDl hlD
          go_wp2_with fail
          refine bodyPost_ret (v := .agg #[.int .i64 l, .slice (some ⟨g, 0, none⟩) K.len cap]) (results_cell_row rfl _ _ (w.heap.size + 1) 27 _ (0, 0) _ rfl ((HY1.out.set_ 0 _).set_ 1 _) Tryd.underlying27 rfl Tryd.infoTreeS) rfl ⟨_, rfl, ⟨_, rfl, HWF.out, ?_⟩, (HB1.out.setCell (p := ⟨w.heap.size + 1, 0, none⟩) (by simp) _).setCell (p := ⟨w.heap.size + 1, 1, none⟩) (by simp) _⟩
          have ho := HO1.out
          have hdn : dcells ([] : DL) = [] := rfl
          rw [hdn, List.append_nil, ← HDL2.out] at ho
          rw [← HDL2.out]
          have hfin := HDN.out.isHS (S' := fun c => w.heap.size + 1 + 1 ≤ c) ho (fun c _ h => by omega) (fun c h => h)
          have hD2 := hD.out
          rw [show dapp ([] : DL) .nil = .nil from rfl] at hD2
          rw [hD2] at hfin
          exact (hfin.kp (((Kp.refl _ _).setCell (p := ⟨w.heap.size + 1, 0, none⟩) (fun h => by simp at h; omega) _).setCell (p := ⟨w.heap.size + 1, 1, none⟩) (fun h => by simp at h; omega) _)).mono (fun c _ h => by omega)
        | cons x D' =>
          obtain ⟨kl, k, kv⟩ := x
          have hl : (Lit.int .i64 kl).wf = true := (HDO.out (kl, k, kv) (List.mem_cons_self ..)).1
          have hkv : IsHS (fun c => c < w.heap.size) w kv k := (HDO.out (kl, k, kv) (List.mem_cons_self ..)).2
          have hkv2 := hkv.isH
          have hlt : D.length < K.len := by simp at hlD; omega
          have v0 := HO1.out.cellAt (D.length * 2) (by omega)
          have v1 := HO1.out.cellAt (D.length * 2 + 1) (by omega)
          rw [(cl_at D D' kl k kv).1] at v0
          rw [(cl_at D D' kl k kv).2] at v1
          have HKV := Lib.hid hkv2
          obtain ⟨p', c', rfl, _, _, _⟩ := hkv
          have hszk : k.size < N ∧ k.size ≤ 1000000 := by
            have := dapp_size D (.cons kl k (dapp D' .nil))
            rw [show dapp D (.cons kl k (dapp D' .nil)) = K from hD.out] at this
            simp only [Hg.size] at this
            omega
          have hba := (Below.refl wr.heap.size wr).alloc (Nat.le_refl _) (.cells #[.int .i64 kl, .slice p' k.len c'] 27)
          have hsz := HB1.out.size
          have HC := Lib.hid (HI.out kl k (.slice p' k.len c') (wr.alloc (.cells #[.int .i64 kl, .slice p' k.len c'] 27)) hszk.1 hszk.2 hl (HKV.out.below (HB1.out.alloc hsz _)))
          have HBA := Lib.hid hba
          clear HO HBX HBY hba hszk hlD hkv2
          go_wp2_with fail
          refine HC.out.mono ?_
          rintro e w3 ⟨r3, rfl, hr3, hb3⟩
          obtain ⟨v3, rfl, hwf3, hq3⟩ := hr3
          have HQ := Lib.hid hq3
          obtain ⟨p3, c3, rfl, _, _, _⟩ := hq3
          have hb3' : Below wr.heap.size wr w3 := HBA.out.trans (hb3.mono (by simp))
          have hsz3 := hb3'.size
          have ho3 := ownsRow_heap HO1.out (fun g hg => hb3'.block g (HO1.out.lt g hg).2)
          have u0 : w3.cell? ⟨g, D.length * 2, none⟩ = some (.int .i64 kl) := by rw [ho3.cellAt _ (by omega)]; exact (cl_at D D' kl k _).1
          have u1 : w3.cell? ⟨g, D.length * 2 + 1, none⟩ = some (.slice p' k.len c') := by rw [ho3.cellAt _ (by omega)]; exact (cl_at D D' kl k _).2
          have u2 := ho3.frozenAt (D.length * 2)
          have u3 := ho3.frozenAt (D.length * 2 + 1)
          have u4 : g < w3.heap.size := by omega
          have hst := (((ho3.stored (D.length * 2) (.int .i64 kl)).1).stored (D.length * 2 + 1) (.slice p3 k.len c3)).1
          have hst2 : ((w3.setCell ⟨g, D.length * 2, none⟩ (.int .i64 kl)).setCell ⟨g, D.length * 2 + 1, none⟩ (.slice p3 k.len c3)).ownsRow (w.heap.size + 1 + 1) 27 2 (.slice (some ⟨g, 0, none⟩) K.len cap) K.len (dcells (D ++ [(kl, k, .slice p3 k.len c3)]) ++ dcells D') := by
            rw [← cl_set D D' kl k (.slice p' k.len c') (.slice p3 k.len c3)]; exact hst
          have hkp : ∀ u v, Kp (fun c => g < c) w3 ((w3.setCell ⟨g, D.length * 2, none⟩ u).setCell ⟨g, D.length * 2 + 1, none⟩ v) := fun u v =>
            ((Kp.refl _ _).setCell (p := ⟨g, D.length * 2, none⟩) (fun h => by simp at h) u).setCell (p := ⟨g, D.length * 2 + 1, none⟩) (fun h => by simp at h) v
          have HST := Lib.hid hst2
          have HKP := Lib.hid hkp
          have HD3 := Lib.hid ((HDN.out.kp (Kp.of_below hb3' (fun c hc _ => hc))).snoc (x := (kl, k, .slice p3 k.len c3)) ⟨hwf3, HQ.out.mono (fun c _ h => by simp at h; omega)⟩)
          have HX3 := Lib.hid (HX1.out.below hb3' HX1.out.lt)
          have HY3 := Lib.hid (HY1.out.below hb3' HY1.out.lt)
          have HB3 := Lib.hid (HB1.out.trans (hb3'.mono hsz))
          clear hst hst2 hkp hb3 hb3' ho3 hwf3
          go_wp2_with fail
          go_roundw
          case rel =>
            refine ⟨D ++ [(kl, k, .slice p3 k.len c3)], D', by simp, Lib.hid (by rw [dapp_snoc]; exact hD.out), HST, Lib.hid (HD3.out.kp (HKP.out _ _)), Lib.hid (fun x hx => HDO.out x (List.mem_cons_of_mem _ hx)), Lib.hid ?_, Lib.hid ?_, Lib.hid ?_⟩
            · exact (HX3.out.far (by simp; omega) _).far (by simp; omega) _
            · exact (HY3.out.far (by simp; omega) _).far (by simp; omega) _
            · exact (HB3.out.setCell (p := ⟨g, D.length * 2, none⟩) (by simp; omega) _).setCell (p := ⟨g, D.length * 2 + 1, none⟩) (by simp; omega) _
          case measure => simp [intOf]; omega

end Go.Proofs.YthhliogcafmnfaaDoor
