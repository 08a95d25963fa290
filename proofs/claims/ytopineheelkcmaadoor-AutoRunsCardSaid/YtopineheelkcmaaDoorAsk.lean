/- ref03.Asked, States, Accepts. -/
import Derived.Test.YtopineheelkcmaaDoorHas
namespace Go.Proofs.YtopineheelkcmaaDoor
open Go.RowKit Go.Shelf

def askB (al : List Int) (A : Au) (l : Int) (K : Hg) : Bool := validA al A && tvalid al l K

def askE (al : List Int) (A : Au) (l : Int) (K : Hg) : Int := if askB al A l K then 0 else 1

theorem ruB_fit {al : List Int} {st : Int} {r : Ru} (h : ruB al st r = true) : 0 ≤ r.sym ∧ r.sym < al.length ∧ (r.fr.length : Int) = al.getD r.sym.toNat 0 := by
  unfold ruB at h
  simp only [Bool.and_eq_true, decide_eq_true_eq, beq_iff_eq] at h
  exact ⟨h.1, h.2.1, h.2.2.1⟩
theorem okH_of {al : List Int} {R : List Ru} (hr : ∀ x ∈ R, (x.fr.length : Int) = al.getD x.sym.toNat 0) : ∀ (K : Hg), K.fitAll al = true → OkH R K
  | .nil, _ => trivial
  | .cons l k r, h => by
    simp only [Hg.fitAll, Bool.and_eq_true] at h
    refine ⟨fun x hx e => ?_, okH_of hr k h.2.1, okH_of hr r h.2.2⟩
    have := hr x hx
    have hf := h.1
    unfold fit at hf
    simp only [Bool.and_eq_true, decide_eq_true_eq, beq_iff_eq] at hf
    rw [e] at this
    omega
theorem ask_ok {al : List Int} {A : Au} {l : Int} {K : Hg} (h : askB al A l K = true) : (∀ x ∈ A.ru, x.sym = l → K.len ≤ x.fr.length) ∧ OkH A.ru K := by
  unfold askB validA tvalid at h
  simp only [Bool.and_eq_true] at h
  have hr : ∀ x ∈ A.ru, (x.fr.length : Int) = al.getD x.sym.toNat 0 := fun x hx => (ruB_fit (List.all_eq_true.1 h.1.2.2.2.2.2 x hx)).2.2
  have := okH_of hr (.cons l K .nil) (by simp only [Hg.fitAll, Bool.and_eq_true]; exact ⟨h.2.2.2.1, h.2.2.2.2, trivial⟩)
  exact ⟨this.1, this.2.1⟩

/-- Three boxes. -/
theorem three_boxes (w : World) (a b c : Array Value) (ta tb tc : TypeId) : ∀ W, Below (((w.alloc (.cells a ta)).alloc (.cells b tb)).alloc (.cells c tc)).heap.size (((w.alloc (.cells a ta)).alloc (.cells b tb)).alloc (.cells c tc)) W →
    Blk W w.heap.size ta a ∧ Blk W (w.heap.size + 1) tb b ∧ Blk W (w.heap.size + 1 + 1) tc c ∧ Below w.heap.size w W := fun W hW => by
  refine ⟨?_, ?_, ?_, ?_⟩
  · exact (((Blk.new w _ _).alloc _).alloc _).below hW (by simp; omega)
  · have := (Blk.new (w.alloc (.cells a ta)) tb b).alloc (.cells c tc)
    rw [World.size_alloc] at this
    exact this.below hW (by simp)
  · have := Blk.new ((w.alloc (.cells a ta)).alloc (.cells b tb)) tc c
    rw [World.size_alloc, World.size_alloc] at this
    exact this.below hW (by simp)
  · exact ((((Below.refl _ w).alloc (Nat.le_refl _) _).alloc (by simp) _).alloc (by simp; omega) _).trans (hW.mono (by simp; omega))

set_option maxRecDepth 100000 in
set_option maxHeartbeats 1000000 in
theorem asked_ok (al : List Int) (A : Au) (l : Int) (K : Hg) (av v vk : Value) (w : World) (ha : IsInts w av al) (hA : IsAu w v A) (hK : IsH w vk K) :
    Calls Tryd.prog 65 #[.agg #[av], v, .agg #[.int .i64 l, vk]] w fun e w' => e = .returned (.int .i64 (askE al A l K)) ∧ Below w.heap.size w w' := by
  have HA := Lib.hid hA
  have HAL := Lib.hid ha
  have HK := Lib.hid hK
  obtain ⟨fv, rv, rfl, hf, hr⟩ := hA
  have H3 := Lib.hid (three_boxes w #[av] #[.int .i64 A.st, fv, rv] #[.int .i64 l, vk] 24 27 43)
  obtain ⟨p1, c1, rfl, _⟩ := hf
  obtain ⟨p2, c2, rfl, _⟩ := hr
  obtain ⟨p, c, rfl, _⟩ := hK
  obtain ⟨pa, ca, rfl, _⟩ := ha
  have h0 := H3.out _ (Below.refl _ _)
  have HV := Lib.hid (rvalid_ok al A _ _ _ (HAL.out.below h0.2.2.2) (HA.out.below h0.2.2.2))
  clear h0
  go_enter Tryd.func65, Tryd.ntmps65
  go_wp2_with fail
  refine HV.out.mono ?_
  rintro e w1 ⟨rfl, hb1⟩
  have h1 := H3.out w1 hb1
  have HB1 := Lib.hid h1.2.2.2
  by_cases hva : validA al A = true
  · have x0 : w1.cell? ⟨w.heap.size, 0, none⟩ = some (.slice pa al.length ca) := by rw [h1.1.cell]; rfl
    have x1 : w1.cell? ⟨w.heap.size + 1 + 1, 0, none⟩ = some (.int .i64 l) := by rw [h1.2.2.1.cell]; rfl
    have x2 : w1.cell? ⟨w.heap.size + 1 + 1, 1, none⟩ = some (.slice p K.len c) := by rw [h1.2.2.1.cell]; rfl
    have s1 := h1.2.2.1.lt
    have s0 := h1.1.lt
    have HT := Lib.hid (rtvalid_ok al _ l _ K w1 (HAL.out.below h1.2.2.2) (HK.out.below h1.2.2.2))
    have HVA := Lib.hid hva
    clear h1 hb1 hva
    rw [HVA.out]
    cases htv : tvalid al l K with
    | true =>
      have HTV := Lib.hid htv
      rw [htv] at HT
      clear htv
      go_wp2_with fail
      refine HT.out.mono ?_
      rintro e w2 ⟨rfl, hb2⟩
      have HB2 := Lib.hid (HB1.out.trans (hb2.mono HB1.out.size))
      clear hb2
      go_wp2_with fail
      go_ret
      exact ⟨by unfold askE askB; rw [HVA.out, HTV.out]; rfl, HB2.out⟩
    | false =>
      have HTV := Lib.hid htv
      rw [htv] at HT
      clear htv
      go_wp2_with fail
      refine HT.out.mono ?_
      rintro e w2 ⟨rfl, hb2⟩
      have HB2 := Lib.hid (HB1.out.trans (hb2.mono HB1.out.size))
      clear hb2
      go_wp2_with fail
      go_ret
      exact ⟨by unfold askE askB; rw [HVA.out, HTV.out]; rfl, HB2.out⟩
  · have hva' : validA al A = false := by simpa using hva
    have HVA := Lib.hid hva'
    clear h1 hb1 hva hva'
    rw [HVA.out]
    go_wp2_with fail
    go_ret
    exact ⟨by unfold askE askB; rw [HVA.out]; rfl, HB1.out⟩

end Go.Proofs.YtopineheelkcmaaDoor
