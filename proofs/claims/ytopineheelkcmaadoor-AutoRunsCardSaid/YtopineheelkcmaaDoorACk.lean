/- auto.Check. -/
import Derived.Test.YtopineheelkcmaaDoorASm
import Derived.Test.YtopineheelkcmaaDoorRG3
import Derived.Test.YtopineheelkcmaaDoorRFol
import Derived.Test.YtopineheelkcmaaDoorRG2
import Derived.Test.YtopineheelkcmaaDoorAuOk
import Derived.Test.YtopineheelkcmaaDoorTValid
namespace Go.Proofs.YtopineheelkcmaaDoor
open Go.RowKit Go.Shelf

theorem wkH_to (R : List Ru) : ∀ (h : Hg) (run fs rest : List Int), wkH R h run = some (fs, rest) → ∀ x ∈ run, x ∈ rest ∨ ∃ r ∈ R, r.to = x
  | .nil, run, fs, rest, e => by
    simp only [wkH, Option.some.injEq, Prod.mk.injEq] at e
    obtain ⟨rfl, rfl⟩ := e
    exact fun x hx => .inl hx
  | .cons l k r, [], fs, rest, e => by simp [wkH] at e
  | .cons l k r, to :: run, fs, rest, e => by
    simp only [wkH] at e
    cases h1 : wkH R k run with
    | none => rw [h1] at e; cases e
    | some x =>
      obtain ⟨fr, rs⟩ := x
      rw [h1] at e
      simp only at e
      split at e
      · rename_i hru
        cases h2 : wkH R r rs with
        | none => rw [h2] at e; cases e
        | some y =>
          obtain ⟨f2, r2⟩ := y
          rw [h2] at e
          simp only [Option.some.injEq, Prod.mk.injEq] at e
          obtain ⟨rfl, rfl⟩ := e
          intro x hx
          rcases List.mem_cons.1 hx with rfl | hx
          · obtain ⟨q, hq, hq2⟩ := List.any_eq_true.1 hru
            simp only [ruIs, Bool.and_eq_true, beq_iff_eq] at hq2
            exact .inr ⟨q, hq, hq2.2.1⟩
          · rcases wkH_to R k run fr rs h1 x hx with h | h
            · exact wkH_to R r rs f2 r2 h2 x h
            · exact .inr h
      · cases e
theorem wkT_to (R : List Ru) {l : Int} {K : Hg} {run rest : List Int} (e : wkT R l K run = some rest) : ∀ x ∈ run, x ∈ rest ∨ ∃ r ∈ R, r.to = x := by
  cases run with
  | nil => intro x hx; cases hx
  | cons to run =>
    simp only [wkT] at e
    cases h1 : wkH R K run with
    | none => rw [h1] at e; cases e
    | some x =>
      obtain ⟨fr, rs⟩ := x
      rw [h1] at e
      simp only at e
      split at e
      · rename_i hru
        simp only [Option.some.injEq] at e
        subst e
        intro x hx
        rcases List.mem_cons.1 hx with rfl | hx
        · obtain ⟨q, hq, hq2⟩ := List.any_eq_true.1 hru
          simp only [ruIs, Bool.and_eq_true, beq_iff_eq] at hq2
          exact .inr ⟨q, hq, hq2.2.1⟩
        · exact wkH_to R K run fr rs h1 x hx
      · cases e
theorem isAu_fin {w : World} {A : Au} {fv rv : Value} (h : IsAu w (.agg #[.int .i64 A.st, fv, rv]) A) : IsInts w fv A.fin := by
  obtain ⟨f2, r2, e, h1, _⟩ := h
  simp only [Value.agg.injEq, Array.mk.injEq, List.cons.injEq, and_true, true_and] at e
  rw [e.1]; exact h1
/-- A run has states of the automaton. -/
theorem isRun_st {al : List Int} {A : Au} {l : Int} {K : Hg} {run : List Int} (hv : validA al A = true) (h : isRunB A l K run = true) : ∀ x ∈ run, stIn A.st x = true := by
  unfold isRunB at h
  simp only [Bool.and_eq_true, decide_eq_true_eq] at h
  obtain ⟨h1, _, h3⟩ := h
  obtain ⟨rest, hr⟩ := Option.isSome_iff_exists.1 h3
  have hl := wkT_len _ hr
  have hnil : rest = [] := List.eq_nil_of_length_eq_zero (by omega)
  subst hnil
  intro x hx
  rcases wkT_to _ hr x hx with h | ⟨r, hm, rfl⟩
  · cases h
  · unfold validA at hv
    simp only [Bool.and_eq_true] at hv
    have hb := List.all_eq_true.1 hv.2.2.2.2.2 r hm
    unfold ruB at hb
    simp only [Bool.and_eq_true] at hb
    exact hb.2.2.2.1
theorem ask_x {al : List Int} {A : Au} {l : Int} {K : Hg} (h : askB al A l K = true) : (∀ x ∈ A.ru, x.sym = l → x.fr.length = K.len) ∧ OkX A.ru K := by
  unfold askB validA tvalid at h
  simp only [Bool.and_eq_true] at h
  have hr : ∀ x ∈ A.ru, (x.fr.length : Int) = al.getD x.sym.toNat 0 := fun x hx => (ruB_fit (List.all_eq_true.1 h.1.2.2.2.2.2 x hx)).2.2
  have := okX_of hr (.cons l K .nil) (by simp only [Hg.fitAll, Bool.and_eq_true]; exact ⟨h.2.2.2.1, h.2.2.2.2, trivial⟩)
  exact ⟨this.1, this.2.1⟩
theorem st_rng {A : Au} {al : List Int} (hv : validA al A = true) {x : Int} (h : stIn A.st x = true) : 0 ≤ x ∧ x < 300 := by
  unfold validA at hv
  unfold stIn at h
  simp only [Bool.and_eq_true, decide_eq_true_eq] at hv h
  omega

set_option maxRecDepth 100000 in
set_option maxHeartbeats 6000000 in
theorem check_ok (al : List Int) (A : Au) (l : Int) (K : Hg) (run : List Int) (av v vk rv : Value) (w : World) (hsz : K.size ≤ 100000) (hwf : (Lit.int .i64 l).wf = true) (ha : IsInts w av al) (hA : IsAu w v A) (hK : IsH w vk K) (hR : IsInts w rv run) :
    Calls Tryd.prog 30 #[.agg #[av], v, .agg #[.int .i64 l, vk], rv] w fun e w' => e = .returned (.tuple #[.bool (askB al A l K && isRunB A l K run), .int .i64 (askE al A l K)]) ∧ Below w.heap.size w w' := by
  have HA := Lib.hid hA
  have HAL := Lib.hid ha
  have HK := Lib.hid hK
  have HR := Lib.hid hR
  have HWF := Lib.hid hwf
  obtain ⟨fv, rv, rfl, hf, hr⟩ := hA
  have H3 := Lib.hid (three_boxes w #[av] #[.int .i64 A.st, fv, rv] #[.int .i64 l, vk] 24 27 43)
  obtain ⟨p1, c1, rfl, _⟩ := hf
  obtain ⟨p2, c2, rfl, _⟩ := hr
  obtain ⟨p, c, rfl, _⟩ := hK
  obtain ⟨pa, ca, rfl, _⟩ := ha
  obtain ⟨pr, cr, rfl, hr1, hr2, hr3⟩ := hR
  unfold maxLen at hr2
  have h0 := H3.out _ (Below.refl _ _)
  have HV := Lib.hid (valid_ok al A _ _ _ (HAL.out.below h0.2.2.2) (HA.out.below h0.2.2.2))
  clear h0
  go_enter Tryd.func30, Tryd.ntmps30
  go_wp2_with fail
  refine HV.out.mono ?_
  rintro e w1 ⟨rfl, hb1⟩
  have h1 := H3.out w1 hb1
  have HB1 := Lib.hid h1.2.2.2
  by_cases hva : validA al A = true
  · have x0 : w1.cell? ⟨w.heap.size, 0, none⟩ = some (.slice pa al.length ca) := by rw [h1.1.cell]; rfl
    have x1 : w1.cell? ⟨w.heap.size + 1 + 1, 0, none⟩ = some (.int .i64 l) := by rw [h1.2.2.1.cell]; rfl
    have x2 : w1.cell? ⟨w.heap.size + 1 + 1, 1, none⟩ = some (.slice p K.len c) := by rw [h1.2.2.1.cell]; rfl
    have s1 := h1.2.2.1.lt
    have s0 := h1.1.lt
    have HT := Lib.hid (tvalid_ok al _ l _ K w1 (HAL.out.below h1.2.2.2) hwf (HK.out.below h1.2.2.2) (by omega))
    have HVA := Lib.hid hva
    have HBX := Lib.hid hb1
    clear h1 hb1 hva
    rw [HVA.out]
    cases htv : tvalid al l K with
    | true =>
      have HTV := Lib.hid htv
      have HQ : Hid (askB al A l K = true) := Lib.hid (by unfold askB; rw [HVA.out, htv]; rfl)
      rw [htv] at HT
      clear htv
      go_wp2_with fail
      refine HT.out.mono ?_
      rintro e w2 ⟨rfl, hb2⟩
      have HB2 := Lib.hid (HBX.out.trans (hb2.mono HBX.out.size))
      clear hb2 x0 x1 x2 s1 s0
      obtain ⟨s, hs, hgood⟩ := good_of HQ.out
      subst hs
      have HGD := Lib.hid hgood
      go_wp2_with fail
      have HSS : Hid (∀ W, Below w2.heap.size w2 W → (fun W => W.cell? ⟨w.heap.size + 1, 1, none⟩ = some (.slice p1 A.fin.length c1) ∧ W.cell? ⟨w.heap.size + 1 + 1, 0, none⟩ = some (.int .i64 (s : Int)) ∧ W.cell? ⟨w.heap.size + 1 + 1, 1, none⟩ = some (.slice p K.len c)) W) := Lib.hid (fun W hW => by
        have h := H3.out W (HB2.out.trans (hW.mono HB2.out.size))
        exact ⟨by rw [h.2.1.cell]; rfl, by rw [h.2.2.1.cell]; rfl, by rw [h.2.2.1.cell]; rfl⟩)
      have HW2 : Hid (Below w.heap.size w w2) := Lib.hid (H3.out w2 HB2.out).2.2.2
      have HD0 : Hid (Below w2.heap.size w2 w2.drew) := Lib.hid (Below.refl _ _).drew
      have HSZ := Lib.hid (tsize_ok (s : Int) _ K w2.drew HWF.out (HK.out.below (HW2.out.trans (HD0.out.mono HW2.out.size))) (by have := HGD.out.size; omega))
      by_cases hlen : run.length = K.size + 1
      · cases run with
        | nil => simp at hlen
        | cons to run =>
        obtain ⟨br, or, rfl, hcell⟩ := hr3 (by simp)
        have HCL : Hid (∀ W, Below w.heap.size w W → W.cell? ⟨br, or, none⟩ = some (.int .i64 to)) := Lib.hid (fun W hW => cell_later hW (by simpa using hcell 0 to rfl))
        have hn0 : (0 : Int) < (run.length : Int) + 1 := by omega
        have hn2 : (0 : Int) < ((run.length + 1 : Nat) : Int) := by simp <;> omega
        have HLEN := Lib.hid hlen
        have hse : ((K.size : Int) + 1) = (run.length : Int) + 1 := by simp only [List.length_cons] at hlen; omega
        rw [hse] at HSZ
        clear hlen hse hcell hr3
        simp only [List.length_cons] at *
        go_region_held3 (fun W => W.cell? ⟨w.heap.size + 1, 1, none⟩ = some (.slice p1 A.fin.length c1) ∧ W.cell? ⟨w.heap.size + 1 + 1, 0, none⟩ = some (.int .i64 (s : Int)) ∧ W.cell? ⟨w.heap.size + 1 + 1, 1, none⟩ = some (.slice p K.len c) ∧ W.cell? ⟨br, or, none⟩ = some (.int .i64 to))
          (first | (have h9 := HSS.out _ HE5.out; exact ⟨h9.1, h9.2.1, h9.2.2, HCL.out _ (HW2.out.trans (HE5.out.mono HW2.out.size))⟩) | (have h9 := HSS.out _ HE4.out; exact ⟨h9.1, h9.2.1, h9.2.2, HCL.out _ (HW2.out.trans (HE4.out.mono HW2.out.size))⟩) | (have h9 := HSS.out _ HD0.out; exact ⟨h9.1, h9.2.1, h9.2.2, HCL.out _ (HW2.out.trans (HD0.out.mono HW2.out.size))⟩))
          (first
            | (go_at_call 68; refine HSZ.out.mono ?_; rintro e w4 ⟨rfl, hb4⟩; have HE4 : Hid (Below w2.heap.size w2 w4) := Lib.hid (HD0.out.trans (hb4.mono HD0.out.size)); clear hb4)
            | (go_at_call 69; refine (containsI_ok A.fin to _ _ (isAu_fin (HA.out.below (HW2.out.trans (HE4.out.mono HW2.out.size))))).mono ?_; rintro e w5 ⟨rfl, hb5⟩; have HE5 : Hid (Below w2.heap.size w2 w5) := Lib.hid (HE4.out.trans (hb5.mono HE4.out.size)); clear hb5))
        cases hin : inB A.fin to with
        | false =>
          have HN : Hid (isRunB A (s : Int) K (to :: run) = false) := Lib.hid (by unfold isRunB; rw [show (to :: run).getD 0 0 = to from rfl, hin]; simp)
          clear hin
          go_wp2_with fail
          go_ret2
          exact ⟨by unfold askE; rw [HQ.out, HN.out]; rfl, HW2.out.trans (HE5.out.mono HW2.out.size)⟩
        | true =>
          have HNN : Hid (isRunB A (s : Int) K (to :: run) = (wkT A.ru (s : Int) K (to :: run)).isSome) := Lib.hid (by unfold isRunB; rw [show (to :: run).getD 0 0 = to from rfl, hin, decide_eq_true (show (to :: run).length = K.size + 1 from HLEN.out)]; rfl)
          have HC5 := Lib.hid (HB2.out.trans (HE5.out.mono HB2.out.size))
          have HRC : Hid (∀ (W : World) (k : Nat) (x : Int), Below w.heap.size w W → (to :: run)[k]? = some x → W.cell? ⟨br, or + k, none⟩ = some (.int .i64 x)) := Lib.hid (fun W k x hW hx => by
            obtain ⟨p9, c9, e9, _, _, h9⟩ := HR.out
            simp only [Value.slice.injEq] at e9
            obtain ⟨rfl, _, rfl⟩ := e9
            obtain ⟨b9, o9, e8, hcc⟩ := h9 (by simp)
            simp only [Option.some.injEq, Addr.mk.injEq, and_true] at e8
            obtain ⟨rfl, rfl⟩ := e8
            exact cell_later hW (hcc k x hx))
          clear hin
          (try simp only [Bool.not_true])
          go_wp2_with fail
          go_loopw [40] (fun iv wr => ∃ k : Nat, iv = .int .i64 (k : Nat) ∧ k ≤ run.length + 1 ∧ Hid (∀ x ∈ (to :: run).take k, stIn A.st x = true) ∧ Hid (Below w2.heap.size w2 wr)) (fun iv _ => run.length + 1 - (intOf iv).toNat)
          case atStart => exact ⟨0, rfl, by omega, Lib.hid (fun x hx => by simp at hx), HE5⟩
          case round =>
            rename World => wr
            obtain ⟨k, rfl, hk, HS, HEr⟩ := hrel
            have h := H3.out wr (HB2.out.trans (HEr.out.mono HB2.out.size))
            have x0 : wr.cell? ⟨w.heap.size + 1, 0, none⟩ = some (.int .i64 A.st) := by rw [h.2.1.cell]; rfl
            have x1 : wr.cell? ⟨w.heap.size + 1, 1, none⟩ = some (.slice p1 A.fin.length c1) := by rw [h.2.1.cell]; rfl
            have x2 : wr.cell? ⟨w.heap.size + 1, 2, none⟩ = some (.slice p2 A.ru.length c2) := by rw [h.2.1.cell]; rfl
            have xl := h.2.1.lt
            have HBr := Lib.hid h.2.2.2
            clear h
            by_cases hlt : k < run.length + 1
            · obtain ⟨x, hx⟩ : ∃ x, (to :: run)[k]? = some x := ⟨_, List.getElem?_eq_getElem (by simpa using hlt)⟩
              have c0 := HRC.out wr k x HBr.out hx
              have cl := World.block_lt_of_cell? _ _ c0
              simp only at cl
              have HX := Lib.hid hx
              have hlt1 : (k : Int) < (run.length : Int) + 1 := by omega
              have HHS := Lib.hid (hasState_ok A _ x wr (HA.out.below HBr.out))
              clear hx
              cases hst : stIn A.st x with
              | false =>
                rw [hst] at HHS
                have HN : Hid (isRunB A (s : Int) K (to :: run) = false) := Lib.hid (by
                  cases h9 : isRunB A (s : Int) K (to :: run) with
                  | false => rfl
                  | true => rw [isRun_st HVA.out h9 x (List.mem_of_getElem? HX.out)] at hst; cases hst)
                clear hst
                go_wp2_with fail
                refine HHS.out.mono ?_
                rintro e w6 ⟨rfl, hb6⟩
                have HB6 := Lib.hid (HBr.out.trans (hb6.mono HBr.out.size))
                clear hb6
                go_wp2_with fail
                go_ret2
                exact ⟨by unfold askE; rw [HQ.out, HN.out]; rfl, HB6.out⟩
              | true =>
                rw [hst] at HHS
                have HS2 : Hid (∀ x ∈ (to :: run).take (k + 1), stIn A.st x = true) := Lib.hid (fun z hz => by
                  rw [List.take_add_one, HX.out] at hz
                  rcases List.mem_append.1 hz with h | h
                  · exact HS.out z h
                  · simp at h; subst h; exact hst)
                clear hst
                go_wp2_with fail
                refine HHS.out.mono ?_
                rintro e w6 ⟨rfl, hb6⟩
                have HE6 := Lib.hid (HEr.out.trans (hb6.mono HEr.out.size))
                clear hb6
                go_wp2_with fail
                go_roundw
                case rel => exact ⟨k + 1, by go_num, by omega, HS2, HE6⟩
                case measure => simp [intOf]; omega
            · have hge : run.length + 1 ≤ k := by omega
              have HALLS : Hid (∀ x ∈ to :: run, stIn A.st x = true) := Lib.hid (by have := HS.out; rwa [List.take_of_length_le (by simpa using hge)] at this)
              have HRNG : Hid (∀ x ∈ to :: run, 0 ≤ x ∧ x < 300) := Lib.hid (fun x hx => st_rng HVA.out (HALLS.out x hx))
              have HSR : Hid (∀ W, Below wr.heap.size wr W → (fun W => W.cell? ⟨w.heap.size, 0, none⟩ = some (.slice pa al.length ca) ∧ W.cell? ⟨w.heap.size + 1, 0, none⟩ = some (.int .i64 A.st) ∧ W.cell? ⟨w.heap.size + 1, 1, none⟩ = some (.slice p1 A.fin.length c1) ∧ W.cell? ⟨w.heap.size + 1, 2, none⟩ = some (.slice p2 A.ru.length c2) ∧ W.cell? ⟨w.heap.size + 1 + 1, 0, none⟩ = some (.int .i64 (s : Int)) ∧ W.cell? ⟨w.heap.size + 1 + 1, 1, none⟩ = some (.slice p K.len c)) W) := Lib.hid (fun W hW => by
                have h := H3.out W ((HB2.out.trans (HEr.out.mono HB2.out.size)).trans (hW.mono (HB2.out.trans (HEr.out.mono HB2.out.size)).size))
                exact ⟨by rw [h.1.cell]; rfl, by rw [h.2.1.cell]; rfl, by rw [h.2.1.cell]; rfl, by rw [h.2.1.cell]; rfl, by rw [h.2.2.1.cell]; rfl, by rw [h.2.2.1.cell]; rfl⟩)
              have HDR : Hid (Below wr.heap.size wr wr.drew) := Lib.hid (Below.refl _ _).drew
              have HKX := Lib.hid (ask_x HQ.out)
              have hkd : decide (k < run.length + 1) = false := decide_eq_false hlt
              have hkd2 : decide ((k : Int) < (run.length : Int) + 1) = false := decide_eq_false (by omega)
              clear hlt x0 x1 x2 HS
              go_wp2_with fail
              go_region_held3 (fun W => W.cell? ⟨w.heap.size, 0, none⟩ = some (.slice pa al.length ca) ∧ W.cell? ⟨w.heap.size + 1, 0, none⟩ = some (.int .i64 A.st) ∧ W.cell? ⟨w.heap.size + 1, 1, none⟩ = some (.slice p1 A.fin.length c1) ∧ W.cell? ⟨w.heap.size + 1, 2, none⟩ = some (.slice p2 A.ru.length c2) ∧ W.cell? ⟨w.heap.size + 1 + 1, 0, none⟩ = some (.int .i64 (s : Int)) ∧ W.cell? ⟨w.heap.size + 1 + 1, 1, none⟩ = some (.slice p K.len c))
                (first | exact HSR.out _ HE8.out | exact HSR.out _ HE7.out | exact HSR.out _ HDR.out)
                (first
                  | (go_at_call 53; refine (newTable_ok al A _ _ _ (HAL.out.below (HBr.out.trans (HDR.out.mono HBr.out.size))) (HA.out.below (HBr.out.trans (HDR.out.mono HBr.out.size))) HGD.out.alen HGD.out.rlen HGD.out.rus).mono ?_; rintro e w7 ⟨⟨T, G, M, GL, rows, f, rfl, ht, hm, hgl⟩, hb7⟩; have HTB := Lib.hid ht; have HMN := Lib.hid hm; have HE7 : Hid (Below wr.heap.size wr w7) := Lib.hid (HDR.out.trans (hb7.mono HDR.out.size)); clear ht hm hgl hb7)
                  | (go_at_call 71; refine (follow_ok A HMN.out HGD.out.alen (K.size + 1) s K _ _ (to :: run) w _ (HBr.out.trans (HE7.out.mono HBr.out.size)) (Nat.lt_succ_self _) (by have := HGD.out.size; omega) (by have := HLEN.out; simp only [List.length_cons] at this ⊢; omega) HTB.out (HK.out.below (HBr.out.trans (HE7.out.mono HBr.out.size))) HGD.out.slt HGD.out.k3 HGD.out.oks HKX.out.1 HKX.out.2 HRNG.out HR.out).mono ?_; rintro e w8 ⟨⟨u8, rfl, hu8⟩, hb8⟩; have HE8 : Hid (Below wr.heap.size wr w8) := Lib.hid (HE7.out.trans (hb8.mono HE7.out.size)); clear hu8 hb8))
              go_wp2_with fail
              go_ret2
              exact ⟨by unfold askE; rw [HQ.out, HNN.out]; rfl, HBr.out.trans (HE8.out.mono HBr.out.size)⟩
      · have hd1 : ((run.length : Int) != (K.size : Int) + 1) = true := by simp; omega
        have hd2 : ((run.length : Int) == (K.size : Int) + 1) = false := by simp; omega
        have HN : Hid (isRunB A (s : Int) K run = false) := Lib.hid (by unfold isRunB; rw [decide_eq_false hlen]; rfl)
        clear hlen hr3
        refine wp_region_held_drew (S := (fun W => W.cell? ⟨w.heap.size + 1, 1, none⟩ = some (.slice p1 A.fin.length c1) ∧ W.cell? ⟨w.heap.size + 1 + 1, 0, none⟩ = some (.int .i64 (s : Int)) ∧ W.cell? ⟨w.heap.size + 1 + 1, 1, none⟩ = some (.slice p K.len c))) (by kernel_rfl) (by (try dsimp only); exact HSS.out _ HD0.out) (fun hHeld => ?_)
        refine wpAnyH_take (i := 0) (oi := ⟨some 24, _, _, _, _, _⟩) (v := ?v_1) rfl (by kernel_rfl) (by kernel_rfl) (by kernel_rfl) (fun _ _ _ h => h) (Or.inl ⟨by rfl, ?y_1⟩) (by assumption) ?r_1
        case y_1 => (intro w hSw; (try dsimp only at hSw); go_simp); (try with_reducible rfl)
        (try simp only [Act.put, List.setIfInBounds_toArray, List.set_cons_zero, List.set_cons_succ])
        refine wpAnyH_take (i := 1) (oi := ⟨some 25, _, _, _, _, _⟩) (v := ?v_2) rfl (by kernel_rfl) (by kernel_rfl) (by kernel_rfl) (fun _ _ _ h => h) (Or.inl ⟨by rfl, ?y_2⟩) (by assumption) ?r_2
        case y_2 => (intro w hSw; (try dsimp only at hSw); go_simp); (try with_reducible rfl)
        (try simp only [Act.put, List.setIfInBounds_toArray, List.set_cons_zero, List.set_cons_succ])
        refine wpAnyH_take (i := 2) (oi := ⟨some 26, _, _, _, _, _⟩) (v := ?v_3) rfl (by kernel_rfl) (by kernel_rfl) (by kernel_rfl) (fun _ _ _ h => h) (Or.inl ⟨by rfl, ?y_3⟩) (by assumption) ?r_3
        case y_3 => (intro w hSw; (try dsimp only at hSw); go_simp); (try with_reducible rfl)
        (try simp only [Act.put, List.setIfInBounds_toArray, List.set_cons_zero, List.set_cons_succ])
        refine wpAnyH_ready (rs := [3]) (by kernel_rfl) (by simp) ?_
        refine AllReadyH.cons rfl (fun KK hK => ?_) AllReadyH.nil
        go_simp
        refine HSZ.out.mono ?_
        rintro e w4 ⟨rfl, hb4⟩
        have HE4 : Hid (Below w2.heap.size w2 w4) := Lib.hid (HD0.out.trans (hb4.mono HD0.out.size))
        clear hb4
        (try go_wp2_with fail)
        refine hK.out _ _ (by (try dsimp only); exact HSS.out _ HE4.out) (fun hHeld => ?_)
        clear hK KK
        (try simp only [Act.put, List.setIfInBounds_toArray, List.set_cons_zero, List.set_cons_succ])
        refine wpAnyH_take (i := 4) (oi := ⟨some 28, _, _, _, _, _⟩) (v := ?v_4) rfl (by kernel_rfl) (by kernel_rfl) (by kernel_rfl) (fun _ _ _ h => h) (Or.inl ⟨by rfl, ?y_4⟩) (by assumption) ?r_4
        case y_4 => (intro w hSw; (try dsimp only at hSw); go_simp); (try with_reducible rfl)
        (try simp only [Act.put, List.setIfInBounds_toArray, List.set_cons_zero, List.set_cons_succ])
        refine wpAnyH_take (i := 5) (oi := ⟨some 29, _, _, _, _, _⟩) (v := ?v_5) rfl (by kernel_rfl) (by kernel_rfl) (by kernel_rfl) (fun _ _ _ h => h) (Or.inl ⟨by rfl, ?y_5⟩) (by assumption) ?r_5
        case y_5 => (intro w hSw; (try dsimp only at hSw); go_simp); (try with_reducible rfl)
        (try simp only [Act.put, List.setIfInBounds_toArray, List.set_cons_zero, List.set_cons_succ])
        refine wpAnyH_take (i := 6) (oi := ⟨some 30, _, _, _, _, _⟩) (v := undef) rfl (by kernel_rfl) (by kernel_rfl) (by kernel_rfl) (fun _ _ _ h => h) (Or.inr ⟨by first | kernel_rfl | rfl, rfl⟩) (by assumption) ?r_6
        (try simp only [Act.put, List.setIfInBounds_toArray, List.set_cons_zero, List.set_cons_succ])
        refine wpAnyH_take (i := 7) (oi := ⟨some 31, _, _, _, _, _⟩) (v := undef) rfl (by kernel_rfl) (by kernel_rfl) (by kernel_rfl) (fun _ _ _ h => h) (Or.inr ⟨by first | kernel_rfl | rfl, rfl⟩) (by assumption) ?r_7
        (try simp only [Act.put, List.setIfInBounds_toArray, List.set_cons_zero, List.set_cons_succ])
        refine wpAnyH_take (i := 8) (oi := ⟨some 32, _, _, _, _, _⟩) (v := undef) rfl (by kernel_rfl) (by kernel_rfl) (by kernel_rfl) (fun _ _ _ h => h) (Or.inr ⟨by first | kernel_rfl | rfl, rfl⟩) (by assumption) ?r_8
        (try simp only [Act.put, List.setIfInBounds_toArray, List.set_cons_zero, List.set_cons_succ])
        refine wpAnyH_take (i := 9) (oi := ⟨some 33, _, _, _, _, _⟩) (v := undef) rfl (by kernel_rfl) (by kernel_rfl) (by kernel_rfl) (fun _ _ _ h => h) (Or.inr ⟨by first | kernel_rfl | rfl, rfl⟩) (by assumption) ?r_9
        (try simp only [Act.put, List.setIfInBounds_toArray, List.set_cons_zero, List.set_cons_succ])
        refine wpAnyH_take (i := 10) (oi := ⟨some 34, _, _, _, _, _⟩) (v := undef) rfl (by kernel_rfl) (by kernel_rfl) (by kernel_rfl) (fun _ _ _ h => h) (Or.inr ⟨by first | kernel_rfl | rfl, rfl⟩) (by assumption) ?r_10
        (try simp only [Act.put, List.setIfInBounds_toArray, List.set_cons_zero, List.set_cons_succ])
        refine wpAnyH_take (i := 11) (oi := ⟨some 35, _, _, _, _, _⟩) (v := undef) rfl (by kernel_rfl) (by kernel_rfl) (by kernel_rfl) (fun _ _ _ h => h) (Or.inr ⟨by first | kernel_rfl | rfl, rfl⟩) (by assumption) ?r_11
        (try simp only [Act.put, List.setIfInBounds_toArray, List.set_cons_zero, List.set_cons_succ])
        refine wpAnyH_take (i := 12) (oi := ⟨some 36, _, _, _, _, _⟩) (v := undef) rfl (by kernel_rfl) (by kernel_rfl) (by kernel_rfl) (fun _ _ _ h => h) (Or.inr ⟨by first | kernel_rfl | rfl, rfl⟩) (by assumption) ?r_12
        (try simp only [Act.put, List.setIfInBounds_toArray, List.set_cons_zero, List.set_cons_succ])
        refine wpAnyH_take (i := 13) (oi := ⟨some 37, _, _, _, _, _⟩) (v := ?v_13) rfl (by kernel_rfl) (by kernel_rfl) (by kernel_rfl) (fun _ _ _ h => h) (Or.inl ⟨by rfl, ?y_13⟩) (by assumption) ?r_13
        case y_13 => (intro w hSw; (try dsimp only at hSw); go_simp); (try with_reducible rfl)
        (try simp only [Act.put, List.setIfInBounds_toArray, List.set_cons_zero, List.set_cons_succ])
        refine wpAnyH_done (by kernel_rfl) ?_ _
        go_wp2_with fail
        go_ret2
        exact ⟨by unfold askE; rw [HQ.out, HN.out]; rfl, HW2.out.trans (HE4.out.mono HW2.out.size)⟩
    | false =>
      have HTV := Lib.hid htv
      rw [htv] at HT
      clear htv
      go_wp2_with fail
      refine HT.out.mono ?_
      rintro e w2 ⟨rfl, hb2⟩
      have HB2 := Lib.hid (HB1.out.trans (hb2.mono HB1.out.size))
      clear hb2
      go_wp2_with fail
      go_ret2
      exact ⟨by unfold askE askB; rw [HVA.out, HTV.out]; rfl, HB2.out⟩
  · have hva' : validA al A = false := by simpa using hva
    have HVA := Lib.hid hva'
    clear h1 hb1 hva hva'
    rw [HVA.out]
    go_wp2_with fail
    go_ret2
    exact ⟨by unfold askE askB; rw [HVA.out]; rfl, HB1.out⟩

end Go.Proofs.YtopineheelkcmaaDoor
