/- ref02.Uncode. -/
import Derived.Test.YtkbcehapalcadabNodeApp
namespace Go.Proofs.Ytkbcehapalcadab
open Go.RowKit Go.Shelf

theorem step_unc1 {ops : Array Oper} {o : Oper} {a : Act} {Kt : Act → World → Prop} {Q : Exit → Act → World → Prop} {E : Prop} (w1 w2 : World) (hgd : o.guard = none) (s x : Operand)
    (ho : o.op = .call { callee := .builtin .append, args := #[s, x], argTypes := #[22, 22] })
    (B : Nat) (l : Int) (K R : Hg) (kv xv : Value) (hB : B ≤ w1.heap.size) (hs : a.eval s = .slice (some ⟨w1.heap.size, 0, none⟩) 1 1) (hx : a.eval x = xv)
    (hwf : (Lit.int .i64 l).wf = true) (hkv : IsHS (fun c => B ≤ c) w1 kv K) (hb2 : Below (w1.heap.size + 1) (w1.alloc (.cells #[.int .i64 l, kv] 24)) w2) (hxv : IsHS (fun c => w1.heap.size + 1 ≤ c) w2 xv R) (hR : R.len ≤ 1000000)
    (h : ∀ v' w', Hid (IsHS (fun c => B ≤ c) w' v' (.cons l K R)) → Hid (Below B w2 w') → Kt (a.put o.dst v') w') :
    if Region.wanted o (yielded ops a.tmps) = true then Oper.wp Try.prog o a w2 Kt Q else E := by
  refine step_node_append w2 hgd s x ho B (fun c => B ≤ c ∧ c ≠ w1.heap.size) w1.heap.size l K R kv xv hs hx ((Blk.new w1 _ _).below hb2 (by omega)) hwf ?_ ?_ (fun c h => h) hB hR h
  · refine (hkv.mono (S' := fun c => B ≤ c ∧ c ≠ w1.heap.size) (fun c hc h => ⟨h, by omega⟩)).kp ?_
    exact (((Kp.refl _ w1).alloc _).trans (Kp.of_below (S := fun c => B ≤ c ∧ c ≠ w1.heap.size) hb2 (fun c hc h => by simp at hc; omega)))
  · exact hxv.mono (fun c hc h => ⟨by omega, by omega⟩)

theorem step_unc2 {ops : Array Oper} {o : Oper} {a : Act} {Kt : Act → World → Prop} {Q : Exit → Act → World → Prop} {E : Prop} (w1 w2 : World) (hgd : o.guard = none) (s x : Operand)
    (ho : o.op = .call { callee := .builtin .append, args := #[s, x], argTypes := #[22, 22] })
    (B : Nat) (l : Int) (K R : Hg) (kv xv : Value) (hB : B ≤ w1.heap.size) (hs : a.eval s = .slice (some ⟨w2.heap.size, 0, none⟩) 1 1) (hx : a.eval x = xv)
    (hwf : (Lit.int .i64 l).wf = true) (hkv : IsHS (fun c => B ≤ c) w1 kv K) (hb2 : Below w1.heap.size w1 w2) (hxv : IsHS (fun c => w1.heap.size ≤ c) w2 xv R) (hR : R.len ≤ 1000000)
    (h : ∀ v' w', Hid (IsHS (fun c => B ≤ c) w' v' (.cons l K R)) → Hid (Below B (w2.alloc (.cells #[.int .i64 l, kv] 24)) w') → Kt (a.put o.dst v') w') :
    if Region.wanted o (yielded ops a.tmps) = true then Oper.wp Try.prog o a (w2.alloc (.cells #[.int .i64 l, kv] 24)) Kt Q else E := by
  have hsz := hb2.size
  refine step_node_append _ hgd s x ho B (fun c => B ≤ c ∧ c ≠ w2.heap.size) w2.heap.size l K R kv xv hs hx (Blk.new w2 _ _) hwf ?_ ?_ (fun c h => h) (by omega) hR h
  · exact ((hkv.kp (Kp.of_below hb2 (fun c hc _ => hc))).mono (S' := fun c => B ≤ c ∧ c ≠ w2.heap.size) (fun c hc h => ⟨h, by omega⟩)).kp ((Kp.refl _ _).alloc _)
  · exact (hxv.mono (S' := fun c => B ≤ c ∧ c ≠ w2.heap.size) (fun c hc h => ⟨by omega, by omega⟩)).kp ((Kp.refl _ _).alloc _)

set_option maxRecDepth 100000 in
set_option maxHeartbeats 1000000 in
theorem uncode_any (n : Int) (N : Nat) : ∀ (H : Hg) (vk : Value) (w : World), H.size < N → H.size ≤ 1000000 → (Lit.int .i64 (H.enc n).1).wf = true → H.no n → IsH w vk (H.enc n).2 →
    Calls Try.prog 50 #[.int .i64 n, .agg #[.int .i64 (H.enc n).1, vk]] w fun e w' => ∃ r, e = .returned r ∧ IsHS (fun c => w.heap.size ≤ c) w' r H ∧ Below w.heap.size w w' := by
  induction N with
  | zero => intro H vk w hN; omega
  | succ N ih =>
    intro H vk w hN hmax hwf hno hv
    have HI := Lib.hid ih
    clear ih
    cases H with
    | nil =>
      obtain ⟨p, c, rfl, hc1, hc2, hrow⟩ := hv
      simp only [Hg.enc] at *
      clear hrow
      go_enter Try.func50, Try.ntmps50
      go_wp2_with fail
      go_ret
      exact ⟨_, rfl, ⟨none, 0, rfl, by simp [Hg.len], by simp [maxLen], fun h => absurd rfl h⟩, (Below.refl _ w).alloc (Nat.le_refl _) _⟩
    | cons l K R =>
      have hln : ¬ l = n := hno.1
      have hlnd : (l == n) = false := by simpa using hln
      obtain ⟨p2, cr, rfl, hl2, hm2, hrr⟩ := hv
      obtain ⟨b, o, rfl, hr⟩ := hrr (by simp [Hg.enc])
      simp only [Hg.enc] at hr hwf
      rw [Row.cons_iff] at hr
      obtain ⟨a1, hwa, ⟨va, a2, hva⟩, hr⟩ := hr
      rw [Row.cons_iff] at hr
      obtain ⟨b1, hwb, ⟨vb, b2, hvb⟩, _⟩ := hr
      have HVA := Lib.hid hva
      have HVB := Lib.hid hvb
      obtain ⟨pa, ca, rfl, _, _, _⟩ := hva
      obtain ⟨pb, cb, rfl, _, _, _⟩ := hvb
      have hbl := World.block_lt_of_cell? _ _ a1
      simp only at hbl
      have hl2' : 2 ≤ cr := by simpa [Hg.enc, Hg.len] using hl2
      have hR1 : R.len ≤ 1000000 := by have := Hg.len_le_size R; simp only [Hg.size] at hmax; omega
      have hszK : K.size < N := by simp only [Hg.size] at hN; omega
      have hszR : R.size < N := by simp only [Hg.size] at hN; omega
      have hszK2 : K.size ≤ 1000000 := by simp only [Hg.size] at hmax; omega
      have hszR2 : R.size ≤ 1000000 := by simp only [Hg.size] at hmax; omega
      simp only [Hg.enc, Hg.len]
      have hB0 : Below w.heap.size w (w.alloc (.cells #[.int .i64 l, .slice (some ⟨b, o, none⟩) 2 cr] 41)) := (Below.refl _ w).alloc (Nat.le_refl _) _
      have hst : ∀ W, Below (w.heap.size + 1) (w.alloc (.cells #[.int .i64 l, .slice (some ⟨b, o, none⟩) 2 cr] 41)) W →
          W.cell? ⟨w.heap.size, 0, none⟩ = some (.int .i64 l) ∧ W.cell? ⟨w.heap.size, 1, none⟩ = some (.slice (some ⟨b, o, none⟩) 2 cr) ∧ W.cell? ⟨b, o, none⟩ = some (.int .i64 (K.enc n).1) ∧ W.cell? ⟨b, o + 1, none⟩ = some (.slice pa (K.enc n).2.len ca) ∧
            W.cell? ⟨b, o + 2, none⟩ = some (.int .i64 (R.enc n).1) ∧ W.cell? ⟨b, o + 2 + 1, none⟩ = some (.slice pb (R.enc n).2.len cb) := fun W hW => by
        have hbk := (Blk.new w 41 #[.int .i64 l, .slice (some ⟨b, o, none⟩) 2 cr]).below hW (by omega)
        have hb0 := hB0.trans (hW.mono (by omega))
        refine ⟨by rw [hbk.cell]; rfl, by rw [hbk.cell]; rfl, (hb0.cell (p := ⟨b, o, none⟩) hbl).trans a1, (hb0.cell (p := ⟨b, o + 1, none⟩) hbl).trans a2, (hb0.cell (p := ⟨b, o + 2, none⟩) hbl).trans b1, (hb0.cell (p := ⟨b, o + 2 + 1, none⟩) hbl).trans b2⟩
      have HST := Lib.hid hst
      have HB0 := Lib.hid hB0
      have HWA := Lib.hid hwa
      have HWB := Lib.hid hwb
      have HWL := Lib.hid hwf
      have HNO := Lib.hid hno
      clear hst hB0 hwa hwb hwf hno hl2 hm2 hrr a1 a2 b1 b2 hN hmax
      go_enter Try.func50, Try.ntmps50
      go_wp2_with fail
      go_region_held3 (fun W => W.cell? ⟨w.heap.size, 0, none⟩ = some (.int .i64 l) ∧ W.cell? ⟨w.heap.size, 1, none⟩ = some (.slice (some ⟨b, o, none⟩) 2 cr) ∧ W.cell? ⟨b, o, none⟩ = some (.int .i64 (K.enc n).1) ∧ W.cell? ⟨b, o + 1, none⟩ = some (.slice pa (K.enc n).2.len ca) ∧
            W.cell? ⟨b, o + 2, none⟩ = some (.int .i64 (R.enc n).1) ∧ W.cell? ⟨b, o + 2 + 1, none⟩ = some (.slice pb (R.enc n).2.len cb))
        (first | exact HST.out _ (Below.refl _ _).drew | exact HST.out _ HBA.out | exact HST.out _ (HBA.out.alloc hsz1 _) | exact HST.out _ HBB.out | exact HST.out _ (HBB.out.alloc hsz2 _) | exact HST.out _ (HBB.out.trans HBC.out) | exact HST.out _ ((HBB.out.alloc hsz2 _).trans HBC.out))
        (first
          | (go_at_call_of 50 (Value.agg #[Value.int .i64 (K.enc n).1, Value.slice pa (K.enc n).2.len ca]); refine (HI.out K _ _ hszK hszK2 HWA.out HNO.out.2.1 (HVA.out.below HB0.out.drew)).mono ?_; rintro e w1 ⟨r1, rfl, hk1, hb1⟩; have HK1 := Lib.hid hk1; obtain ⟨p1, c1, rfl, _⟩ := hk1; have hsz1 : w.heap.size + 1 ≤ w1.heap.size := (by have := hb1.size; simpa using this); have HBA : Hid (Below (w.heap.size + 1) (w.alloc (.cells #[.int .i64 l, .slice (some ⟨b, o, none⟩) 2 cr] 41)) w1) := Lib.hid ((Below.refl _ _).drew.trans (hb1.mono (by simp))); clear hb1)
          | (go_at_call 50; refine (HI.out R _ _ hszR hszR2 HWB.out HNO.out.2.2 ?_).mono ?_; (first | exact HVB.out.below (HB0.out.trans (HBA.out.mono (by omega))) | exact HVB.out.below ((HB0.out.trans (HBA.out.mono (by omega))).alloc (by omega) _)); rintro e w2 ⟨r2, rfl, hk2, hb2⟩; have HK2 := Lib.hid hk2; obtain ⟨p2, c2, rfl, _⟩ := hk2; have HB2 := Lib.hid hb2; have hsz2 : w.heap.size + 1 ≤ w2.heap.size := (by have := hb2.size; (try simp only [World.size_alloc] at this); omega); have HBB : Hid (Below (w.heap.size + 1) (w.alloc (.cells #[.int .i64 l, .slice (some ⟨b, o, none⟩) 2 cr] 41)) w2) := Lib.hid (by first | exact HBA.out.trans (hb2.mono (by omega)) | exact (HBA.out.alloc hsz1 _).trans (hb2.mono (by simp only [World.size_alloc]; omega))); clear hb2)
          | (refine step_unc2 w1 w2 (by rfl) _ _ (by rfl) (w.heap.size + 1) l K R (.slice p1 K.len c1) (.slice p2 R.len c2) hsz1 (by rfl) (by rfl) HWL.out ?_ HB2.out HK2.out hR1 ?_; (simpa using HK1.out); intro v' w3 HV3 HBC)
          | (refine step_unc1 w1 w2 (by rfl) _ _ (by rfl) (w.heap.size + 1) l K R (.slice p1 K.len c1) (.slice p2 R.len c2) hsz1 (by rfl) (by rfl) HWL.out ?_ ?_ ?_ hR1 ?_; (simpa using HK1.out); (simpa using HB2.out); (simpa using HK2.out); intro v' w3 HV3 HBC))
      all_goals
        go_wp2_with fail
        go_ret
        refine ⟨_, rfl, HV3.out.mono (fun c _ h => by omega), ?_⟩
        first
          | exact HB0.out.trans ((HBB.out.trans HBC.out).mono (by omega))
          | exact HB0.out.trans (((HBB.out.alloc hsz2 _).trans HBC.out).mono (by omega))

end Go.Proofs.Ytkbcehapalcadab
