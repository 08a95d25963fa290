/- ref01.Valid. ref03.Has, Asked, States, Accepts. ref03.Asked, States, Accepts. -/
import Derived.Test.YtedfldbknjcnlaaDoorFG8
import Derived.Test.YtedfldbknjcnlaaDoorFG4
import Derived.Test.YtedfldbknjcnlaaDoorFG3
import Derived.Test.YtedfldbknjcnlaaDoorRAuV
namespace Go.Proofs.YtedfldbknjcnlaaDoor
section
open Go.RowKit Go.Shelf

set_option maxRecDepth 100000 in
set_option maxHeartbeats 1000000 in
theorem rtvalid_ok (al : List Int) (av : Value) (s : Int) (vk : Value) (K : Hg) (w : World) (ha : IsInts w av al) (hv : IsH w vk K) :
    Calls Tryd.prog 37 #[.agg #[av], .agg #[.int .i64 s, vk]] w fun e w' => e = .returned (.bool (tvalid al s K)) ∧ Below w.heap.size w w' := by
  have hbw : Below w.heap.size w ((w.alloc (.cells #[av] 24)).alloc (.cells #[.int .i64 s, vk] 43)) := ((Below.refl _ w).alloc (Nat.le_refl _) _).alloc (by simp) _
  have hB0 : Blk ((w.alloc (.cells #[av] 24)).alloc (.cells #[.int .i64 s, vk] 43)) w.heap.size 24 #[av] := (Blk.new w _ _).alloc _
  have hB1 : Blk ((w.alloc (.cells #[av] 24)).alloc (.cells #[.int .i64 s, vk] 43)) (w.heap.size + 1) 43 #[.int .i64 s, vk] := by
    have := Blk.new (w.alloc (.cells #[av] 24)) 43 #[.int .i64 s, vk]; rwa [World.size_alloc] at this
  have HV := Lib.hid (rvalidAlphabet_ok al av _ (ha.below hbw))
  have HA := Lib.hid ha
  have HH := Lib.hid hv
  have HB0 := Lib.hid hB0
  have HB1 := Lib.hid hB1
  have HBW := Lib.hid hbw
  obtain ⟨pa, ca, rfl, ha1, ha2, haa⟩ := ha
  obtain ⟨p, c, rfl, hc1, hc2, hrow⟩ := hv
  clear haa hrow hB0 hB1 hbw
  have step : ∀ w1, Below ((w.alloc (.cells #[.slice pa al.length ca] 24)).alloc (.cells #[.int .i64 s, .slice p K.len c] 43)).heap.size ((w.alloc (.cells #[.slice pa al.length ca] 24)).alloc (.cells #[.int .i64 s, .slice p K.len c] 43)) w1 →
      (w1.cell? ⟨w.heap.size, 0, none⟩ = some (.slice pa al.length ca) ∧ w1.cell? ⟨w.heap.size + 1, 0, none⟩ = some (.int .i64 s) ∧ w1.cell? ⟨w.heap.size + 1, 1, none⟩ = some (.slice p K.len c)) ∧ w.heap.size < w1.heap.size ∧ w.heap.size + 1 < w1.heap.size ∧ Below w.heap.size w w1 := by
    intro w1 hb
    have h0 := HB0.out.below hb (by simp; omega)
    have h1 := HB1.out.below hb (by simp)
    refine ⟨⟨?_, ?_, ?_⟩, h0.lt, h1.lt, HBW.out.trans (hb.mono (by simp; omega))⟩
    · rw [h0.cell]; rfl
    · rw [h1.cell]; rfl
    · rw [h1.cell]; rfl
  have HST := Lib.hid step
  clear step
  cases hva : validAl al with
  | false =>
    have HT : Hid (tvalid al s K = false) := Lib.hid (by simp [tvalid, hva])
    rw [hva] at HV
    clear hva
    go_enter Tryd.func37, Tryd.ntmps37
    go_wp2_with fail
    refine HV.out.mono ?_
    rintro e w1 ⟨rfl, hb1⟩
    have HB := Lib.hid hb1
    clear hb1
    go_wp2_with fail
    go_ret
    exact ⟨ret_bool (by rw [HT.out]), HBW.out.trans (HB.out.mono (by simp; omega))⟩
  | true =>
    have HVA := Lib.hid hva
    rw [hva] at HV
    clear hva
    go_enter Tryd.func37, Tryd.ntmps37
    go_wp2_with fail
    refine HV.out.mono ?_
    rintro e w1 ⟨rfl, hb1⟩
    obtain ⟨⟨z1, z2, z3⟩, z4, z5, hb1'⟩ := HST.out w1 hb1
    have HF := Lib.hid (few01_ok s K _ 300 w1 (HH.out.below hb1') (by omega) (by omega))
    have HB := Lib.hid hb1
    clear hb1 hb1'
    by_cases h3 : K.size + 1 ≤ 300
    · have hd : decide ((K.size : Int) + 1 ≤ 300) = true := decide_eq_true (by omega)
      rw [hd] at HF
      clear hd
      go_wp2_with fail
      refine HF.out.mono ?_
      rintro e w2 ⟨rfl, hb2⟩
      have hb2 := HB.out.trans (hb2.mono HB.out.size)
      obtain ⟨⟨y1, y2, y3⟩, y4, y5, hb2'⟩ := HST.out w2 hb2
      have HS := Lib.hid (shaped_any al (K.size + 1) _ s _ K w2 (by omega) (HA.out.below hb2') (HH.out.below hb2'))
      have HB2 := Lib.hid hb2'
      clear hb2 hb2'
      go_wp2_with fail
      refine HS.out.mono ?_
      rintro e w3 ⟨rfl, hb3⟩
      have HB3 := Lib.hid (HB2.out.trans (hb3.mono (by omega)))
      clear hb3
      go_wp2_with fail
      go_ret
      exact ⟨ret_bool (by simp [tvalid, HVA.out, h3, shape]), HB3.out⟩
    · have hd : decide ((K.size : Int) + 1 ≤ 300) = false := decide_eq_false (by omega)
      have HT : Hid (tvalid al s K = false) := Lib.hid (by simp [tvalid, h3])
      rw [hd] at HF
      clear hd h3
      go_wp2_with fail
      refine HF.out.mono ?_
      rintro e w2 ⟨rfl, hb2⟩
      have HB2 := Lib.hid (HBW.out.trans ((HB.out.trans (hb2.mono HB.out.size)).mono (by simp; omega)))
      clear hb2
      go_wp2_with fail
      go_ret
      exact ⟨ret_bool (by rw [HT.out]), HB2.out⟩
end

section
open Go.RowKit Go.Shelf

/-- The states of a tree. -/
def stsL (A : Au) (l : Int) (K : Hg) : List Int := stepL A.ru l (ofL A.ru K) []
def hasB (A : Au) (l : Int) (K : Hg) : Bool := meetB (stsL A l K) A.fin

set_option maxRecDepth 100000 in
set_option maxHeartbeats 1000000 in
theorem has_tree_ok (A : Au) (hlen : A.ru.length ≤ 1000) (l : Int) (K : Hg) (v vk : Value) (w : World) (h2000 : K.size ≤ 2000) (hA : IsAu w v A) (hK : IsH w vk K) (hfit : ∀ x ∈ A.ru, x.sym = l → K.len ≤ x.fr.length) (hok : OkH A.ru K) :
    Calls Tryd.prog 33 #[v, .agg #[.int .i64 l, vk]] w fun e w' => e = .returned (.bool (hasB A l K)) ∧ Below w.heap.size w w' := by
  have HA := Lib.hid hA
  obtain ⟨fv, rv, rfl, hf, hr⟩ := hA
  have hbw : Below w.heap.size w ((w.alloc (.cells #[.int .i64 A.st, fv, rv] 27)).alloc (.cells #[.int .i64 l, vk] 43)) := ((Below.refl _ w).alloc (Nat.le_refl _) _).alloc (by simp) _
  have HX0 := Lib.hid ((Blk.new w 27 #[.int .i64 A.st, fv, rv]).alloc (.cells #[.int .i64 l, vk] 43))
  have HX1 : Hid (Blk ((w.alloc (.cells #[.int .i64 A.st, fv, rv] 27)).alloc (.cells #[.int .i64 l, vk] 43)) (w.heap.size + 1) 43 #[.int .i64 l, vk]) := Lib.hid (by simpa using Blk.new (w.alloc (.cells #[.int .i64 A.st, fv, rv] 27)) 43 #[.int .i64 l, vk])
  have HB := Lib.hid hbw
  have HF := Lib.hid hf
  have hst : ∀ W, Below ((w.alloc (.cells #[.int .i64 A.st, fv, rv] 27)).alloc (.cells #[.int .i64 l, vk] 43)).heap.size ((w.alloc (.cells #[.int .i64 A.st, fv, rv] 27)).alloc (.cells #[.int .i64 l, vk] 43)) W →
      W.cell? ⟨w.heap.size, 0, none⟩ = some (.int .i64 A.st) ∧ W.cell? ⟨w.heap.size, 1, none⟩ = some fv ∧ W.cell? ⟨w.heap.size, 2, none⟩ = some rv ∧ W.cell? ⟨w.heap.size + 1, 0, none⟩ = some (.int .i64 l) ∧ W.cell? ⟨w.heap.size + 1, 1, none⟩ = some vk := fun W hW => by
    have h0 := HX0.out.below hW (by simp; omega)
    have h1 := HX1.out.below hW (by simp)
    exact ⟨by rw [h0.cell]; rfl, by rw [h0.cell]; rfl, by rw [h0.cell]; rfl, by rw [h1.cell]; rfl, by rw [h1.cell]; rfl⟩
  have HST := Lib.hid hst
  have HOF := Lib.hid (of_ok A hlen (K.size + 1) l K _ _ _ (Nat.lt_succ_self _) h2000 (HA.out.below hbw.drew) (hK.below hbw.drew) hfit hok)
  obtain ⟨p1, c1, rfl, _⟩ := hf
  obtain ⟨p2, c2, rfl, _⟩ := hr
  obtain ⟨p, c, rfl, _⟩ := hK
  clear hst hbw
  go_enter Tryd.func33, Tryd.ntmps33
  go_wp2_with fail
  go_region_held3 (fun W => W.cell? ⟨w.heap.size, 0, none⟩ = some (.int .i64 A.st) ∧ W.cell? ⟨w.heap.size, 1, none⟩ = some (.slice p1 A.fin.length c1) ∧ W.cell? ⟨w.heap.size, 2, none⟩ = some (.slice p2 A.ru.length c2) ∧ W.cell? ⟨w.heap.size + 1, 0, none⟩ = some (.int .i64 l) ∧ W.cell? ⟨w.heap.size + 1, 1, none⟩ = some (.slice p K.len c))
    (first | exact HST.out _ (Below.refl _ _).drew | exact HST.out _ HB1.out)
    (first
      | (go_at_call 66; refine HOF.out.mono ?_; rintro e w1 ⟨⟨u, rfl, hu, -⟩, hb1⟩; have HU := Lib.hid hu.isInts; have HB1 : Hid (Below ((w.alloc (.cells #[.int .i64 A.st, .slice p1 A.fin.length c1, .slice p2 A.ru.length c2] 27)).alloc (.cells #[.int .i64 l, .slice p K.len c] 43)).heap.size ((w.alloc (.cells #[.int .i64 A.st, .slice p1 A.fin.length c1, .slice p2 A.ru.length c2] 27)).alloc (.cells #[.int .i64 l, .slice p K.len c] 43)) w1) := Lib.hid ((Below.refl _ _).drew.trans hb1); have HBW := Lib.hid (HB.out.trans (HB1.out.mono (by simp; omega))); clear hb1 hu)
      | (go_at_call 73; refine (meet_ok _ _ _ _ _ HU.out (HF.out.below HBW.out)).mono ?_; rintro e w2 ⟨rfl, rfl⟩))
  go_wp2_with fail
  go_ret
  exact ⟨ret_bool rfl, HBW.out⟩
end

section
open Go.RowKit Go.Shelf

def askB (al : List Int) (A : Au) (l : Int) (K : Hg) : Bool := validA al A && tvalid al l K

def askE (al : List Int) (A : Au) (l : Int) (K : Hg) : Int := if askB al A l K then 0 else 1

theorem ruB_fit {al : List Int} {st : Int} {r : Ru} (h : ruB al st r = true) : 0 ≤ r.sym ∧ r.sym < al.length ∧ (r.fr.length : Int) = al.getD r.sym.toNat 0 := by
  unfold ruB at h
  simp only [Bool.and_eq_true, decide_eq_true_eq, beq_iff_eq] at h
  exact ⟨h.1, h.2.1, h.2.2.1⟩
theorem okH_of {al : List Int} {R : List Ru} (hr : ∀ x ∈ R, (x.fr.length : Int) = al.getD x.sym.toNat 0) : ∀ (K : Hg), K.fitAll al = true → OkH R K
  | .nil, _ => trivial
  | .cons l k r, h => by
    simp only [Hg.fitAll, Bool.and_eq_true] at h
    refine ⟨fun x hx e => ?_, okH_of hr k h.2.1, okH_of hr r h.2.2⟩
    have := hr x hx
    have hf := h.1
    unfold fit at hf
    simp only [Bool.and_eq_true, decide_eq_true_eq, beq_iff_eq] at hf
    rw [e] at this
    omega
theorem ask_ok {al : List Int} {A : Au} {l : Int} {K : Hg} (h : askB al A l K = true) : (∀ x ∈ A.ru, x.sym = l → K.len ≤ x.fr.length) ∧ OkH A.ru K := by
  unfold askB validA tvalid at h
  simp only [Bool.and_eq_true] at h
  have hr : ∀ x ∈ A.ru, (x.fr.length : Int) = al.getD x.sym.toNat 0 := fun x hx => (ruB_fit (List.all_eq_true.1 h.1.2.2.2.2.2 x hx)).2.2
  have := okH_of hr (.cons l K .nil) (by simp only [Hg.fitAll, Bool.and_eq_true]; exact ⟨h.2.2.2.1, h.2.2.2.2, trivial⟩)
  exact ⟨this.1, this.2.1⟩

/-- Three boxes. -/
theorem three_boxes (w : World) (a b c : Array Value) (ta tb tc : TypeId) : ∀ W, Below (((w.alloc (.cells a ta)).alloc (.cells b tb)).alloc (.cells c tc)).heap.size (((w.alloc (.cells a ta)).alloc (.cells b tb)).alloc (.cells c tc)) W →
    Blk W w.heap.size ta a ∧ Blk W (w.heap.size + 1) tb b ∧ Blk W (w.heap.size + 1 + 1) tc c ∧ Below w.heap.size w W := fun W hW => by
  refine ⟨?_, ?_, ?_, ?_⟩
  · exact (((Blk.new w _ _).alloc _).alloc _).below hW (by simp; omega)
  · have := (Blk.new (w.alloc (.cells a ta)) tb b).alloc (.cells c tc)
    rw [World.size_alloc] at this
    exact this.below hW (by simp)
  · have := Blk.new ((w.alloc (.cells a ta)).alloc (.cells b tb)) tc c
    rw [World.size_alloc, World.size_alloc] at this
    exact this.below hW (by simp)
  · exact ((((Below.refl _ w).alloc (Nat.le_refl _) _).alloc (by simp) _).alloc (by simp; omega) _).trans (hW.mono (by simp; omega))

set_option maxRecDepth 100000 in
set_option maxHeartbeats 1000000 in
theorem asked_ok (al : List Int) (A : Au) (l : Int) (K : Hg) (av v vk : Value) (w : World) (ha : IsInts w av al) (hA : IsAu w v A) (hK : IsH w vk K) :
    Calls Tryd.prog 65 #[.agg #[av], v, .agg #[.int .i64 l, vk]] w fun e w' => e = .returned (.int .i64 (askE al A l K)) ∧ Below w.heap.size w w' := by
  have HA := Lib.hid hA
  have HAL := Lib.hid ha
  have HK := Lib.hid hK
  obtain ⟨fv, rv, rfl, hf, hr⟩ := hA
  have H3 := Lib.hid (three_boxes w #[av] #[.int .i64 A.st, fv, rv] #[.int .i64 l, vk] 24 27 43)
  obtain ⟨p1, c1, rfl, _⟩ := hf
  obtain ⟨p2, c2, rfl, _⟩ := hr
  obtain ⟨p, c, rfl, _⟩ := hK
  obtain ⟨pa, ca, rfl, _⟩ := ha
  have h0 := H3.out _ (Below.refl _ _)
  have HV := Lib.hid (rvalid_ok al A _ _ _ (HAL.out.below h0.2.2.2) (HA.out.below h0.2.2.2))
  clear h0
  go_enter Tryd.func65, Tryd.ntmps65
  go_wp2_with fail
  refine HV.out.mono ?_
  rintro e w1 ⟨rfl, hb1⟩
  have h1 := H3.out w1 hb1
  have HB1 := Lib.hid h1.2.2.2
  by_cases hva : validA al A = true
  · have x0 : w1.cell? ⟨w.heap.size, 0, none⟩ = some (.slice pa al.length ca) := by rw [h1.1.cell]; rfl
    have x1 : w1.cell? ⟨w.heap.size + 1 + 1, 0, none⟩ = some (.int .i64 l) := by rw [h1.2.2.1.cell]; rfl
    have x2 : w1.cell? ⟨w.heap.size + 1 + 1, 1, none⟩ = some (.slice p K.len c) := by rw [h1.2.2.1.cell]; rfl
    have s1 := h1.2.2.1.lt
    have s0 := h1.1.lt
    have HT := Lib.hid (rtvalid_ok al _ l _ K w1 (HAL.out.below h1.2.2.2) (HK.out.below h1.2.2.2))
    have HVA := Lib.hid hva
    clear h1 hb1 hva
    rw [HVA.out]
    cases htv : tvalid al l K with
    | true =>
      have HTV := Lib.hid htv
      rw [htv] at HT
      clear htv
      go_wp2_with fail
      refine HT.out.mono ?_
      rintro e w2 ⟨rfl, hb2⟩
      have HB2 := Lib.hid (HB1.out.trans (hb2.mono HB1.out.size))
      clear hb2
      go_wp2_with fail
      go_ret
      exact ⟨by unfold askE askB; rw [HVA.out, HTV.out]; rfl, HB2.out⟩
    | false =>
      have HTV := Lib.hid htv
      rw [htv] at HT
      clear htv
      go_wp2_with fail
      refine HT.out.mono ?_
      rintro e w2 ⟨rfl, hb2⟩
      have HB2 := Lib.hid (HB1.out.trans (hb2.mono HB1.out.size))
      clear hb2
      go_wp2_with fail
      go_ret
      exact ⟨by unfold askE askB; rw [HVA.out, HTV.out]; rfl, HB2.out⟩
  · have hva' : validA al A = false := by simpa using hva
    have HVA := Lib.hid hva'
    clear h1 hb1 hva hva'
    rw [HVA.out]
    go_wp2_with fail
    go_ret
    exact ⟨by unfold askE askB; rw [HVA.out]; rfl, HB1.out⟩
end

end Go.Proofs.YtedfldbknjcnlaaDoor
