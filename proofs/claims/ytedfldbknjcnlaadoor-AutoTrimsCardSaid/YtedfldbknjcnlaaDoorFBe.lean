/- auto.rulesBetween. -/
import Derived.Test.YtedfldbknjcnlaaDoorFG22
import Derived.Test.YtedfldbknjcnlaaDoorRKe
import Derived.Test.YtedfldbknjcnlaaDoorFG12
namespace Go.Proofs.YtedfldbknjcnlaaDoor
open Go.RowKit Go.Shelf Go.Maps Go.WideElems

/-- The new numbers of all states. -/
def numA (M : List Bool) (n : Nat) : List Int := (List.range n).map fun i => (numK M i : Int)
theorem numA_at {W : World} {nb n q : Nat} {M : List Bool} (hb : Blk W nb 3 (intV (numA M n)).toArray) (hq : q < n) : W.cell? ⟨nb, q, none⟩ = some (.int .i64 (numK M q : Int)) := by
  rw [hb.cell]
  unfold intV numA
  simp [List.getElem?_range hq]
theorem own_low {w : World} {B B' n size : Nat} {e : TypeId} {v : Value} {xs : List Value} (h : w.ownsRow B e size v n xs) (hB : B' ≤ B) : w.ownsRow B' e size v n xs := by
  refine ⟨h.1, ?_⟩
  rcases h.2 with h2 | ⟨g, cap, cur, e2, h3, rest⟩
  · exact .inl h2
  · exact .inr ⟨g, cap, cur, e2, Nat.le_trans hB h3, rest⟩
/-- The states that were renumbered when j of them were seen. -/
def frL (M : List Bool) (fr : List Int) (j : Nat) : List Int := (fr.take j).map (nuI M) ++ List.replicate (fr.length - j) 0
theorem frL_zero (M : List Bool) (fr : List Int) : frL M fr 0 = List.replicate fr.length 0 := rfl
theorem frL_all (M : List Bool) (fr : List Int) : frL M fr fr.length = fr.map (nuI M) := by
  unfold frL
  rw [List.take_length, Nat.sub_self]
  simp
theorem frL_len {M : List Bool} {fr : List Int} {j : Nat} (h : j ≤ fr.length) : (frL M fr j).length = fr.length := by
  unfold frL
  rw [List.length_append, List.length_map, List.length_take, List.length_replicate]
  omega
theorem frL_next {M : List Bool} {fr : List Int} {j : Nat} {x : Int} (hx : fr[j]? = some x) : frL M fr (j + 1) = (frL M fr j).set j (nuI M x) := by
  have hj := (List.getElem?_eq_some_iff.1 hx).1
  have hl : ((fr.take j).map (nuI M)).length = j := by rw [List.length_map, List.length_take]; omega
  unfold frL
  rw [List.set_append_right _ _ (by omega), hl, Nat.sub_self, List.take_add_one, hx, List.map_append, show fr.length - j = (fr.length - (j + 1)) + 1 by omega, List.replicate_succ, List.set_cons_zero, List.append_assoc]
  rfl

set_option maxRecDepth 100000 in
set_option maxHeartbeats 8000000 in
theorem between_ok (A : Au) (n : Nat) (hst : A.st = (n : Int)) (hn : n ≤ 300) (hlen : A.ru.length ≤ 20000) (hru : ∀ r ∈ A.ru, stIn A.st r.to = true ∧ ∀ x ∈ r.fr, stIn A.st x = true) (h3 : ∀ r ∈ A.ru, r.fr.length ≤ 3)
    (hR : ∀ x ∈ A.ru, ∀ y ∈ A.ru, x.sym = y.sym → x.fr.length = y.fr.length) (M : List Bool) (hM : M.length = n) (v : Value) (kb nb : Nat) (w : World) (hA : IsAu w v A) (hK : BB w kb M) (hN : Blk w nb 3 (intV (numA M n)).toArray) :
    Calls Tryd.prog 61 #[v, .slice (some ⟨kb, 0, none⟩) n n, .slice (some ⟨nb, 0, none⟩) n n] w fun e w' => (∃ (u : Value) (D : List (Ru × Value)), e = .returned u ∧ w'.ownsRow w.heap.size 70 3 u D.length (rcells D) ∧ StrS (D.map Prod.fst) ∧ (∀ r, r ∈ D.map Prod.fst ↔ r ∈ ruK M A.ru) ∧ (∀ x ∈ D, IsIntsT w.heap.size w' x.2 x.1.fr)) ∧ Below w.heap.size w w' := by
  have HRU := Lib.hid hru
  have HST := Lib.hid hst
  have HR3 := Lib.hid h3
  have HML := Lib.hid hM
  have hkl : kb < w.heap.size := Blk.lt (show Blk w kb 4 (M.map Value.bool).toArray from hK)
  have hnl0 : nb < w.heap.size := hN.lt
  obtain ⟨fv, uv, rfl, hf, hr⟩ := hA
  obtain ⟨p1, c1, rfl, _⟩ := hf
  obtain ⟨p2, c2, D, rfl, hDR, hc2, hDI, hrow⟩ := rus_rows hr
  have hDl : D.length = A.ru.length := by rw [← hDR, List.length_map]
  have hDl2 : D.length ≤ 20000 := by omega
  have HDR := Lib.hid hDR
  have HDI := Lib.hid hDI
  have HRR : Hid (∀ x ∈ D, ∀ y ∈ D, x.1.sym = y.1.sym → x.1.fr.length = y.1.fr.length) := Lib.hid (fun x hx y hy => hR _ (hDR ▸ List.mem_map_of_mem hx) _ (hDR ▸ List.mem_map_of_mem hy))
  obtain ⟨w0, hw0⟩ : ∃ w0, w0 = w.alloc (.cells #[.int .i64 A.st, .slice p1 A.fin.length c1, .slice p2 D.length c2] 27) := ⟨_, rfl⟩
  have HB0 : Hid (Below w.heap.size w w0) := Lib.hid (hw0 ▸ (Below.refl _ w).alloc (Nat.le_refl _) _)
  have HX0 : Hid (Blk w0 w.heap.size 27 #[.int .i64 A.st, .slice p1 A.fin.length c1, .slice p2 D.length c2]) := Lib.hid (hw0 ▸ Blk.new w _ _)
  have HCL := Lib.hid (rsclone_ok w0 D.length p2 c2 D hDl2 rfl (fun h => by
    obtain ⟨b, o, e, hb, hc⟩ := hrow h
    exact ⟨b, o, e, Nat.lt_of_lt_of_le hb HB0.out.size, fun i u hu => cell_later HB0.out (hc i u hu)⟩) (rcells_one D (fun x hx => by
    obtain ⟨_, _, e, _⟩ := hDI x hx
    rw [e]; rfl)))
  have HK := Lib.hid hK
  have HN := Lib.hid hN
  have HLEN := Lib.hid hDl
  have x2 : w0.cell? ⟨w.heap.size, 2, none⟩ = some (.slice p2 D.length c2) := by rw [HX0.out.cell]; rfl
  have xl := HX0.out.lt
  have HW0 := Lib.hid hw0
  rw [hw0] at x2 xl
  clear hru hst h3 hM hR hK hN hr hDR hDI hrow hDl hw0
  go_enter Tryd.func61, Tryd.ntmps61
  go_wp2_with fail
  have hw0 := HW0.out
  simp only [← hw0] at *
  clear hw0 HW0
  refine HCL.out.mono ?_
  rintro e w1 ⟨hb1, v1, rfl, ho1⟩
  obtain ⟨a1, d1, rfl⟩ := own_slice2 ho1
  have hs01 : w.heap.size < w0.heap.size := xl
  have hz1 := hb1.size
  have HBI1 : ∀ b, (Value.slice a1 D.length d1).ownBlock = some b → w0.heap.size ≤ b := fun b e => by
    obtain ⟨cur, _, hB⟩ := own_cells ho1 e
    exact hB
  have HB1 : Hid (Below w.heap.size w w1) := Lib.hid (HB0.out.trans (hb1.mono (by omega)))
  have HS := Lib.hid (rsortA_ok D hDl2 _ w0.heap.size w1 ho1 (fun x hx W hW => (HDI.out x hx).below (HB1.out.trans (hW.below HB1.out.size (fun k hk e => by have := HBI1 k e; omega)))) HRR.out)
  have HI1 := Lib.hid HBI1
  clear hb1 ho1 HCL x2 xl HBI1
  go_wp2_with fail
  refine HS.out.mono ?_
  rintro e w2 ⟨rfl, E, hp, hpw, ho2, hk2⟩
  have HB2 : Hid (Below w.heap.size w w2) := Lib.hid (HB1.out.trans (hk2.below HB1.out.size (fun k hk e => by have := HI1.out k e; omega)))
  have hEl : E.length ≤ 20000 := by rw [hp.length_eq]; exact hDl2
  have HC := Lib.hid (rcompA_ok E hEl _ w0.heap.size w2 ho2 (fun x hx W hW => (HDI.out x (hp.mem_iff.1 hx)).below (HB2.out.trans (hW.below HB2.out.size (fun k hk e => by have := HI1.out k e; omega)))) (fun x hx y hy => HRR.out x (hp.mem_iff.1 hx) y (hp.mem_iff.1 hy)) hpw)
  have HP := Lib.hid hp
  have hz2 := hk2.size
  clear hp hpw ho2 hk2 HS
  go_wp2_with fail
  refine HC.out.mono ?_
  rintro e w3 ⟨⟨u3, F, rfl, ho3, hst3, hm3, hsub3, hl3⟩, hk3⟩
  have HB3 : Hid (Below w.heap.size w w3) := Lib.hid (HB2.out.trans (hk3.below HB2.out.size (fun k hk e => by have := HI1.out k e; omega)))
  obtain ⟨a3, d3, rfl⟩ := own_slice2 ho3
  have HFD : Hid (∀ x ∈ F, IsInts w x.2 x.1.fr ∧ x.1 ∈ A.ru) := Lib.hid (fun x hx => by
    have h := HP.out.mem_iff.1 (hsub3 x hx)
    exact ⟨HDI.out x h, HDR.out ▸ List.mem_map_of_mem h⟩)
  have HFM : Hid (∀ r, r ∈ F.map Prod.fst ↔ r ∈ A.ru) := Lib.hid (fun r => by
    rw [hm3 r, ← HDR.out]
    exact (HP.out.map Prod.fst).mem_iff)
  have HFS := Lib.hid hst3
  have HO3 := Lib.hid ho3
  have hFl : F.length ≤ 20000 := by omega
  have hz3 := hk3.size
  have hs3 : w.heap.size < w3.heap.size ∧ w0.heap.size ≤ w3.heap.size := by omega
  clear ho3 hst3 hm3 hsub3 hl3 hk3 HC HP hEl HRR hDl2 hz1 hz2 hz3
  obtain ⟨i2, hi2, hx0, hx1, hx2⟩ := info_parts Tryd.infoRule
  obtain ⟨i1, hi1, hy0, hy1, hy2⟩ := info_parts Tryd.infoInt
  have HI1 := Lib.hid hi1
  have HI2 := Lib.hid hi2
  clear hi1 hi2
  have HD0 : Hid (w3.ownsRow w3.heap.size 70 3 (.slice none 0 0) ([] : List (Ru × Value)).length (rcells [])) := Lib.hid (World.ownsRow_nil w3 _ _ _)
  go_wp2_with fail
  go_loopw [8, 23] (fun kv iv wr => ∃ (k : Nat) (Q : List (Ru × Value)), iv = .int .i64 (k : Nat) ∧ k ≤ F.length ∧ Hid (wr.ownsRow w3.heap.size 70 3 kv Q.length (rcells Q)) ∧ Hid (Q.map Prod.fst = ruK M ((F.map Prod.fst).take k)) ∧ Hid (∀ x ∈ Q, IsIntsT w.heap.size wr x.2 x.1.fr) ∧ Hid (Kp (fun c => c < w3.heap.size) w3 wr)) (fun _ iv _ => F.length - (intOf iv).toNat)
  case atStart => exact ⟨0, [], rfl, by omega, HD0, Lib.hid rfl, Lib.hid (fun x hx => by cases hx), Lib.hid (Kp.refl _ _)⟩
  case round =>
    rename World => wr
    obtain ⟨k, Q, rfl, hk, HQ, HQM, HQI, HKr⟩ := hrel
    have hsr := HKr.out.size
    obtain ⟨aq, mq, cq, rfl⟩ := own_slice HQ.out
    have HBr : Hid (Below w.heap.size w wr) := Lib.hid (HB3.out.trans (HKr.out.below HB3.out.size (fun c hc => by omega)))
    have HKBr : Hid (BB wr kb M) := Lib.hid (Blk.below (show Blk w kb 4 (M.map Value.bool).toArray from HK.out) HBr.out hkl)
    have HNr : Hid (Blk wr nb 3 (intV (numA M n)).toArray) := Lib.hid (HN.out.below HBr.out hnl0)
    by_cases hlt : k < F.length
    · obtain ⟨x, hx⟩ : ∃ x, F[k]? = some x := ⟨_, List.getElem?_eq_getElem hlt⟩
      have hxr := rcells_at hx
      have HOr : Hid (wr.ownsRow w0.heap.size 70 3 (.slice a3 F.length d3) F.length (rcells F)) := Lib.hid (ownsRow_kp HO3.out HKr.out (fun b e => by
        obtain ⟨cur, hc, _⟩ := own_cells HO3.out e
        exact hc.lt))
      obtain ⟨g, cap, e, hgB, hcap1, hcap2, hgl, _⟩ := row3_shape HOr.out (by omega)
      simp only [Value.slice.injEq] at e
      obtain ⟨rfl, _, rfl⟩ := e
      have q0 := row3_cell HOr.out _ _ hxr.1
      have q1 := row3_cell HOr.out _ _ hxr.2.1
      have q2 := row3_cell HOr.out _ _ hxr.2.2
      obtain ⟨hxi, hxa⟩ := HFD.out x (List.mem_of_getElem? hx)
      have HFK : Hid ((F.map Prod.fst)[k]? = some x.1) := Lib.hid (by rw [List.getElem?_map, hx]; rfl)
      obtain ⟨⟨rs, fr, rt⟩, ux⟩ := x
      have hin := HRU.out _ hxa
      have hf3 := HR3.out _ hxa
      simp only at q0 q1 q2 hin hf3 hxi HFK
      have HU := Lib.hid (hxi.below HBr.out)
      obtain ⟨pu, cu, rfl, hu3, hu4, huc⟩ := hxi
      unfold maxLen at hu4
      obtain ⟨qt, hqt, hqn⟩ := st_nat HST.out hin.1
      subst hqt
      have HFI := Lib.hid hin.2
      have HUC := Lib.hid huc
      have hk1 : (k : Int) < (F.length : Int) := by omega
      have hqi : (qt : Int) < (n : Int) := by omega
      obtain ⟨wa, hwa⟩ : ∃ wa, wa = wr.alloc (.cells #[.int .i64 rs, .slice pu fr.length cu, .int .i64 (qt : Int)] 70) := ⟨_, rfl⟩
      have HKA : Hid (Kp (fun _ => True) wr wa) := Lib.hid (hwa ▸ (Kp.refl _ wr).alloc _)
      have HNA : Hid (Blk wa wr.heap.size 70 #[.int .i64 rs, .slice pu fr.length cu, .int .i64 (qt : Int)]) := Lib.hid (hwa ▸ Blk.new wr _ _)
      have HKBA : Hid (BB wa kb M) := Lib.hid (HKBr.out.kp HKA.out trivial)
      have HBA : Hid (Below w.heap.size w wa) := Lib.hid (HBr.out.trans (HKA.out.below HBr.out.size (fun _ _ => trivial)))
      have b0 : wa.cell? ⟨kb, qt, none⟩ = some (.bool (M.getD qt false)) := HKBA.out.at (by have := HML.out; omega)
      have n2 : wa.cell? ⟨wr.heap.size, 2, none⟩ = some (.int .i64 (qt : Int)) := by rw [HNA.out.cell]; rfl
      have n1 : wa.cell? ⟨wr.heap.size, 1, none⟩ = some (.slice pu fr.length cu) := by rw [HNA.out.cell]; rfl
      have nl := HNA.out.lt
      have bl2 : kb < wa.heap.size := by have := HKA.out.size; omega
      have hsa : w3.heap.size ≤ wa.heap.size := by have := HKA.out.size; omega
      have HAO := Lib.hid (allOf_ok M n fr kb (.slice pu fr.length cu) wa HKBA.out HML.out hn (HU.out.below (HKA.out.below (Nat.le_refl _) (fun _ _ => trivial))) (fun x hx => st_nat HST.out (hin.2 x hx)))
      obtain ⟨t0, ht0⟩ : ∃ t0, t0 = M.getD qt false := ⟨_, rfl⟩
      rw [← ht0] at b0
      have HT0 := Lib.hid ht0
      obtain ⟨t1, ht1⟩ : ∃ t1, t1 = mkd M fr := ⟨_, rfl⟩
      rw [← ht1] at HAO
      have HT1 := Lib.hid ht1
      rw [hwa] at b0 n1 n2 nl bl2
      have HWA := Lib.hid hwa
      have HSKIP : Hid ((t0 && t1) = false → Q.map Prod.fst = ruK M ((F.map Prod.fst).take (k + 1))) := Lib.hid (fun h => by
        rw [List.take_add_one, HFK.out, Option.toList_some, ruK_app, ruK_one, HQM.out]
        have : keepB M ⟨rs, fr, (qt : Int)⟩ = (t0 && t1) := by rw [ht0, ht1]; rfl
        rw [this, h]
        simp)
      have HQA : Hid (wa.ownsRow w3.heap.size 70 3 (.slice aq mq cq) Q.length (rcells Q)) := Lib.hid (ownsRow_kp HQ.out HKA.out (fun _ _ => trivial))
      have HQIA : Hid (∀ x ∈ Q, IsIntsT w.heap.size wa x.2 x.1.fr) := Lib.hid (fun x hx => (HQI.out x hx).kp HKA.out (fun _ _ _ _ => trivial))
      have HK3A : Hid (Kp (fun c => c < w3.heap.size) w3 wa) := Lib.hid (HKr.out.trans (HKA.out.mono (fun _ _ _ => trivial)))
      clear hxr hx hxa hin huc hwa ht0 ht1
      cases t0 with
      | false =>
        go_wp2_with fail
        have HWA' := HWA.out
        simp only [← HWA'] at *
        clear HWA' HWA
        go_roundw
        case rel => exact ⟨k + 1, Q, by go_num, by omega, HQA, Lib.hid (HSKIP.out rfl), HQIA, HK3A⟩
        case measure => simp [intOf]; omega
      | true =>
        go_wp2_with fail
        have HWA' := HWA.out
        simp only [← HWA'] at *
        clear HWA' HWA
        refine HAO.out.mono ?_
        rintro e w4 ⟨rfl, rfl⟩
        cases t1 with
        | false =>
          go_wp2_with fail
          go_roundw
          case rel => exact ⟨k + 1, Q, by go_num, by omega, HQA, Lib.hid (HSKIP.out rfl), HQIA, HK3A⟩
          case measure => simp [intOf]; omega
        | true =>
          go_wp2_with (at_make; refine wpList_make_full _ rfl _ _ 22 rfl w4.heap.size 3 i1 _ 1 Tryd.underlying22 HI1.out hy0 hy1 _ _ _ _ fr.length rfl rfl rfl rfl (by rw [hy2]; omega) (by simp only [maxLen]; omega) (by simp) ?_)
          intro w5 hown hgrow
          have hG := own_full hown
          rw [toList_madeCells_one] at hG
          have hGl := hG.lt
          have HK5 : Hid (Kp (fun _ => True) w4 w5) := Lib.hid ((Kp.refl _ w4).grown hgrow (fun j e => by simp at e))
          have HG5 : Hid (Blk w5 w4.heap.size 3 (intV (frL M fr 0)).toArray) := Lib.hid (by
            rw [frL_zero]
            unfold intV
            rw [List.map_replicate]
            exact hG)
          have HN5 : Hid (Blk w5 wr.heap.size 70 #[.int .i64 rs, .slice pu fr.length cu, .int .i64 (qt : Int)]) := Lib.hid (HNA.out.kp HK5.out trivial)
          have r1 : w5.cell? ⟨wr.heap.size, 1, none⟩ = some (.slice pu fr.length cu) := by rw [HN5.out.cell]; rfl
          have rl := HN5.out.lt
          clear hown hgrow hG
          go_wp2_with fail
          go_loopw [47] (fun jv wj => ∃ j : Nat, jv = .int .i64 (j : Nat) ∧ j ≤ fr.length ∧ Hid (Blk wj w4.heap.size 3 (intV (frL M fr j)).toArray) ∧ Hid (Kp (fun c => c ≠ w4.heap.size) w5 wj)) (fun jv _ => fr.length - (intOf jv).toNat)
          case atStart => exact ⟨0, rfl, by omega, HG5, Lib.hid (Kp.refl _ _)⟩
          case round =>
            rename World => wj
            obtain ⟨j, rfl, hj, HGj, HKj⟩ := hrel
            have hsj := HKj.out.size
            have hs4 := HKA.out.size
            have HKWJ : Hid (Kp (fun _ => True) wr wj) := Lib.hid ((((HKA.out.trans HK5.out).mono (fun _ _ _ => trivial)).trans HKj.out).mono (fun c hc _ => by omega))
            have HBj : Hid (Below w.heap.size w wj) := Lib.hid (HBr.out.trans (HKWJ.out.below HBr.out.size (fun _ _ => trivial)))
            have HNJ : Hid (Blk wj nb 3 (intV (numA M n)).toArray) := Lib.hid (HNr.out.kp HKWJ.out trivial)
            have hnj := HNJ.out.lt
            by_cases hjl : j < fr.length
            · obtain ⟨x, hx⟩ : ∃ x, fr[j]? = some x := ⟨_, List.getElem?_eq_getElem hjl⟩
              obtain ⟨qx, rfl, hqx⟩ := st_nat HST.out (HFI.out x (List.mem_of_getElem? hx))
              obtain ⟨bu, ou, rfl, hcu⟩ := HUC.out (fun h => by simp [h] at hjl)
              have u0 : wj.cell? ⟨bu, ou + j, none⟩ = some (.int .i64 (qx : Int)) := cell_later HBj.out (hcu j _ hx)
              have m3 := numA_at HNJ.out hqx
              have hj1 : (j : Int) < (fr.length : Int) := by omega
              have hq1 : (qx : Int) < (n : Int) := by omega
              have hll := frL_len (M := M) (fr := fr) (j := j) hj
              have n0 : wj.cell? ⟨w4.heap.size, j, none⟩ = some (.int .i64 ((frL M fr j).getD j 0)) := by
                rw [HGj.out.cell, List.getD_eq_getElem?_getD]
                have h2 : j < (frL M fr j).length := by omega
                simp [intV, h2]
              have nf := HGj.out.frozen j
              have nl := HGj.out.lt
              have HG6 : Hid (Blk (wj.setCell ⟨w4.heap.size, j, none⟩ (.int .i64 (numK M qx : Int))) w4.heap.size 3 (intV (frL M fr (j + 1))).toArray) := Lib.hid (by
                rw [frL_next hx]
                have h := HGj.out.set_ j (.int .i64 (numK M qx : Int))
                rw [List.setIfInBounds_toArray] at h
                unfold intV
                rw [List.map_set]
                exact h)
              have HK6 : Hid (Kp (fun c => c ≠ w4.heap.size) w5 (wj.setCell ⟨w4.heap.size, j, none⟩ (.int .i64 (numK M qx : Int)))) := Lib.hid (HKj.out.setCell (p := ⟨w4.heap.size, j, none⟩) (fun h => absurd rfl h) _)
              obtain ⟨nq, hnq⟩ : ∃ nq : Int, nq = (numK M qx : Int) := ⟨_, rfl⟩
              rw [← hnq] at m3 HG6 HK6
              clear hcu hx hll hnq
              go_wp2_with fail
              go_roundw
              case rel => exact ⟨j + 1, by go_num, by omega, HG6, HK6⟩
              case measure => simp [intOf]; omega
            · have hjd : decide (j < fr.length) = false := decide_eq_false hjl
              have hjd2 : decide ((j : Int) < (fr.length : Int)) = false := decide_eq_false (by omega)
              have HGF : Hid (Blk wj w4.heap.size 3 (intV (fr.map (nuI M))).toArray) := Lib.hid (by
                have h := HGj.out
                rw [show j = fr.length by omega, frL_all] at h
                exact h)
              have HQJ : Hid (wj.ownsRow w3.heap.size 70 3 (.slice aq mq cq) Q.length (rcells Q)) := Lib.hid (ownsRow_kp HQ.out HKWJ.out (fun _ _ => trivial))
              have HPJ : Hid (Blk wj wr.heap.size 70 #[.int .i64 rs, .slice pu fr.length cu, .int .i64 (qt : Int)]) := Lib.hid (HN5.out.kp HKj.out (by have := HNA.out.lt; omega))
              have HVB : Hid (∀ b, (Value.slice aq mq cq).ownBlock = some b → w3.heap.size ≤ b ∧ b < wr.heap.size ∧ ∃ cur, Blk wr b 70 cur) := Lib.hid (fun b e => by
                obtain ⟨cur, hc, hB⟩ := own_cells HQ.out e
                exact ⟨hB, hc.lt, cur, hc⟩)
              have hb3 := HB3.out.size
              have HVO : Hid ((Value.slice aq mq cq).ownBlock ≠ some nb ∧ (Value.slice aq mq cq).ownBlock ≠ some wr.heap.size) := Lib.hid ⟨fun e => by have := (HVB.out _ e).1; omega, fun e => by have := (HVB.out _ e).2.1; omega⟩
              obtain ⟨nq, hnq⟩ : ∃ nq : Int, nq = (numK M qt : Int) := ⟨_, rfl⟩
              have HNQ := Lib.hid hnq
              have HCS : Hid (∀ W : World, Kp (fun c => (Value.slice aq mq cq).ownBlock ≠ some c) wj W → (W.cell? ⟨wr.heap.size, 0, none⟩ = some (.int .i64 rs) ∧ W.cell? ⟨wr.heap.size, 2, none⟩ = some (.int .i64 (qt : Int))) ∧ W.cell? ⟨nb, qt, none⟩ = some (.int .i64 nq)) := Lib.hid (fun W hW => by
                have h1 := HNJ.out.kp hW HVO.out.1
                have h3 := HPJ.out.kp hW HVO.out.2
                exact ⟨⟨by rw [h3.cell]; rfl, by rw [h3.cell]; rfl⟩, by rw [numA_at h1 hqn, ← HNQ.out]⟩)
              have HKX : Hid (∀ o : Obj, Kp (fun c => (Value.slice aq mq cq).ownBlock ≠ some c) wj (wj.alloc o).drew) := Lib.hid (fun o => ((Kp.refl _ wj).alloc o).drew)
              have HKG : Hid (∀ (o : Obj) (W : World), ((wj.alloc o).drew).grownBy W (Value.slice aq mq cq).ownBlock → Kp (fun c => (Value.slice aq mq cq).ownBlock ≠ some c) wj W) := Lib.hid (fun o W hg => ((Kp.refl _ wj).alloc o).drew.grown hg (fun k e hS => absurd e hS))
              have HOX : Hid (∀ o : Obj, ((wj.alloc o).drew).ownsRow w3.heap.size 70 3 (.slice aq mq cq) Q.length (rcells Q)) := Lib.hid (fun o => ownsRow_kp HQJ.out ((Kp.refl (fun _ => True) wj).alloc o).drew (fun _ _ => trivial))
              have HONE : Hid (∀ u ∈ [Value.int .i64 rs, .slice (some ⟨w4.heap.size, 0, none⟩) fr.length fr.length, .int .i64 nq], u.oneCell' = true) := Lib.hid (one_three rfl)
              have hQl : Q.length ≤ 20000 := by
                have h := congrArg List.length HQM.out
                have h2 := ruK_len M ((F.map Prod.fst).take k)
                rw [List.length_map] at h
                rw [List.length_take, List.length_map] at h2
                omega
              have HM1 : Hid (Q.length + 1 ≤ maxLen) := Lib.hid (by unfold maxLen; omega)
              have HM2 : Hid ((Q.length + 1) * 40 ≤ 140737488355328) := Lib.hid (by omega)
              have HBS : Hid (∀ o : Obj, w3.heap.size ≤ ((wj.alloc o).drew).heap.size) := Lib.hid (fun o => Nat.le_trans (by omega) (sz_1 wj o))
              have n0 := HCS.out wj (Kp.refl _ _)
              have hpl := HPJ.out.lt
              obtain ⟨⟨n01, n02⟩, n03⟩ := n0
              clear hnq hQl hb3
              go_wp2_with fail
              refine wp_region_held_drew (S := (fun W => (W.cell? ⟨wr.heap.size, 0, none⟩ = some (.int .i64 rs) ∧ W.cell? ⟨wr.heap.size, 2, none⟩ = some (.int .i64 (qt : Int))) ∧ W.cell? ⟨nb, qt, none⟩ = some (.int .i64 nq))) (by kernel_rfl) (by (try dsimp only); first | exact HCS.out _ (Kp.refl _ _).drew | exact HCS.out _ (HKX.out _) | exact HCS.out _ HK9.out) (fun hHeld => ?_)
              refine wpAnyH_take (i := 0) (oi := ⟨some 60, _, _, _, _, _⟩) (v := ?v0a) rfl (by kernel_rfl) (by kernel_rfl) (by kernel_rfl) (fun _ _ _ h => h) (Or.inl ⟨by rfl, ?y0a⟩) (by assumption) ?r0a
              case y0a => (intro w hSw; (try dsimp only at hSw); go_simp); (try with_reducible rfl)
              (try simp only [Act.put, List.setIfInBounds_toArray, List.set_cons_zero, List.set_cons_succ])
              refine wpAnyH_take (i := 1) (oi := ⟨some 61, _, _, _, _, _⟩) (v := ?v1a) rfl (by kernel_rfl) (by kernel_rfl) (by kernel_rfl) (fun _ _ _ h => h) (Or.inl ⟨by rfl, ?y1a⟩) (by assumption) ?r1a
              case y1a => (intro w hSw; (try dsimp only at hSw); go_simp); (try with_reducible rfl)
              (try simp only [Act.put, List.setIfInBounds_toArray, List.set_cons_zero, List.set_cons_succ])
              refine wpAnyH_take (i := 2) (oi := ⟨some 62, _, _, _, _, _⟩) (v := ?v2a) rfl (by kernel_rfl) (by kernel_rfl) (by kernel_rfl) (fun _ _ _ h => h) (Or.inl ⟨by rfl, ?y2a⟩) (by assumption) ?r2a
              case y2a => (intro w hSw; (try dsimp only at hSw); go_simp); (try with_reducible rfl)
              (try simp only [Act.put, List.setIfInBounds_toArray, List.set_cons_zero, List.set_cons_succ])
              refine wpAnyH_take (i := 3) (oi := ⟨some 63, _, _, _, _, _⟩) (v := ?v3a) rfl (by kernel_rfl) (by kernel_rfl) (by kernel_rfl) (fun _ _ _ h => h) (Or.inl ⟨by rfl, ?y3a⟩) (by assumption) ?r3a
              case y3a => (intro w hSw; (try dsimp only at hSw); go_simp); (try with_reducible rfl)
              (try simp only [Act.put, List.setIfInBounds_toArray, List.set_cons_zero, List.set_cons_succ])
              refine wpAnyH_take (i := 4) (oi := ⟨some 64, _, _, _, _, _⟩) (v := ?v4a) rfl (by kernel_rfl) (by kernel_rfl) (by kernel_rfl) (fun _ _ _ h => h) (Or.inl ⟨by rfl, ?y4a⟩) (by assumption) ?r4a
              case y4a => (intro w hSw; (try dsimp only at hSw); go_simp); (try with_reducible rfl)
              (try simp only [Act.put, List.setIfInBounds_toArray, List.set_cons_zero, List.set_cons_succ])
              refine wpAnyH_take (i := 5) (oi := ⟨some 65, _, _, _, _, _⟩) (v := ?v5a) rfl (by kernel_rfl) (by kernel_rfl) (by kernel_rfl) (fun _ _ _ h => h) (Or.inl ⟨by rfl, ?y5a⟩) (by assumption) ?r5a
              case y5a => (intro w hSw; (try dsimp only at hSw); go_simp); (try with_reducible rfl)
              (try simp only [Act.put, List.setIfInBounds_toArray, List.set_cons_zero, List.set_cons_succ])
              refine wpAnyH_take (i := 6) (oi := ⟨some 66, _, _, _, _, _⟩) (v := ?v6a) rfl (by kernel_rfl) (by kernel_rfl) (by kernel_rfl) (fun _ _ _ h => h) (Or.inl ⟨by rfl, ?y6a⟩) (by assumption) ?r6a
              case y6a => (intro w hSw; (try dsimp only at hSw); go_simp); (try with_reducible rfl)
              (try simp only [Act.put, List.setIfInBounds_toArray, List.set_cons_zero, List.set_cons_succ])
              refine wpAnyH_take (i := 7) (oi := ⟨some 67, _, _, _, _, _⟩) (v := ?v7a) rfl (by kernel_rfl) (by kernel_rfl) (by kernel_rfl) (fun _ _ _ h => h) (Or.inl ⟨by rfl, ?y7a⟩) (by assumption) ?r7a
              case y7a => (intro w hSw; (try dsimp only at hSw); go_simp); (try with_reducible rfl)
              (try simp only [Act.put, List.setIfInBounds_toArray, List.set_cons_zero, List.set_cons_succ])
              refine wpAnyH_take (i := 8) (oi := ⟨some 68, _, _, _, _, _⟩) (v := ?v8a) rfl (by kernel_rfl) (by kernel_rfl) (by kernel_rfl) (fun _ _ _ h => h) (Or.inl ⟨by rfl, ?y8a⟩) (by assumption) ?r8a
              case y8a => (intro w hSw; (try dsimp only at hSw); go_simp); (try with_reducible rfl)
              (try simp only [Act.put, List.setIfInBounds_toArray, List.set_cons_zero, List.set_cons_succ])
              refine wpAnyH_take (i := 9) (oi := ⟨some 69, _, _, _, _, _⟩) (v := ?v9a) rfl (by kernel_rfl) (by kernel_rfl) (by kernel_rfl) (fun _ _ _ h => h) (Or.inl ⟨by rfl, ?y9a⟩) (by assumption) ?r9a
              case y9a => (intro w hSw; (try dsimp only at hSw); go_simp); (try with_reducible rfl)
              (try simp only [Act.put, List.setIfInBounds_toArray, List.set_cons_zero, List.set_cons_succ])
              refine wpAnyH_ready (rs := [10]) (by kernel_rfl) (by simp) ?_
              refine AllReadyH.cons rfl (fun K hK => ?_) AllReadyH.nil
              go_simp
              refine hK.out _ _ (by (try dsimp only); first | exact HCS.out _ (Kp.refl _ _).drew | exact HCS.out _ (HKX.out _) | exact HCS.out _ HK9.out) (fun hHeld => ?_)
              clear hK K
              (try simp only [Act.put, List.setIfInBounds_toArray, List.set_cons_zero, List.set_cons_succ])
              refine wpAnyH_ready (rs := [11]) (by kernel_rfl) (by simp) ?_
              refine AllReadyH.cons rfl (fun K hK => ?_) AllReadyH.nil
              refine step_append_own _ rfl (.tmp 60) (.tmp 70) 25 rfl w3.heap.size 70 i2 _ 3 40 Tryd.underlying25 HI2.out hx0 hx1 hx2 rfl (by decide) (.slice aq mq cq) Q.length (rcells Q) rfl (HOX.out _) _ 1 1 [.int .i64 rs, .slice (some ⟨w4.heap.size, 0, none⟩) fr.length fr.length, .int .i64 nq] rfl rfl (new_three (bk_11 wj _ _)) HONE.out HM1.out HM2.out (HBS.out _) ?_
              intro v9 w9 ho9 hg9 hat9
              obtain ⟨a9, m9, k9, rfl⟩ := own_slice ho9
              have HO9 := Lib.hid ho9
              have HK9 := Lib.hid (HKG.out _ w9 hg9)
              clear ho9 hg9 hat9
              refine hK.out _ _ (by (try dsimp only); first | exact HCS.out _ (Kp.refl _ _).drew | exact HCS.out _ (HKX.out _) | exact HCS.out _ HK9.out) (fun hHeld => ?_)
              clear hK K
              (try simp only [Act.put, List.setIfInBounds_toArray, List.set_cons_zero, List.set_cons_succ])
              refine wpAnyH_ready (rs := [12]) (by kernel_rfl) (by simp) ?_
              refine AllReadyH.cons rfl (fun K hK => ?_) AllReadyH.nil
              go_simp
              refine hK.out _ _ (by (try dsimp only); first | exact HCS.out _ (Kp.refl _ _).drew | exact HCS.out _ (HKX.out _) | exact HCS.out _ HK9.out) (fun hHeld => ?_)
              clear hK K
              (try simp only [Act.put, List.setIfInBounds_toArray, List.set_cons_zero, List.set_cons_succ])
              refine wpAnyH_done (by kernel_rfl) ?_ _
              have HMK : Hid (M.getD qt false = true ∧ mkd M fr = true) := Lib.hid ⟨HT0.out.symm, HT1.out.symm⟩
              have HGT : Hid (IsIntsT w.heap.size wj (.slice (some ⟨w4.heap.size, 0, none⟩) fr.length fr.length) (fr.map (nuI M))) := Lib.hid (by
                refine ⟨_, _, by rw [List.length_map], by rw [List.length_map]; exact Nat.le_refl _, by unfold maxLen; omega, fun _ => ⟨_, 0, _, rfl, by have := HBr.out.size; have := HKA.out.size; omega, HGF.out, fun i x hx => ?_⟩⟩
                rw [HGF.out.cell, Nat.zero_add]
                unfold intV
                rw [List.getElem?_toArray, List.getElem?_map, hx]
                rfl)
              have hint : ∀ b cur, w.heap.size ≤ b → Blk wr b 3 cur → (Value.slice aq mq cq).ownBlock ≠ some b := fun b cur _ hb e => by
                obtain ⟨_, _, cur2, hc2⟩ := HVB.out b e
                exact hb.ne_ hc2 (by decide) rfl
              have hintj : ∀ b cur, w.heap.size ≤ b → Blk wj b 3 cur → (Value.slice aq mq cq).ownBlock ≠ some b := fun b cur _ hb e => by
                obtain ⟨_, _, cur2, hc2⟩ := HVB.out b e
                exact hb.ne_ (hc2.kp HKWJ.out trivial) (by decide) rfl
              have hk10 : Kp (fun c => (Value.slice aq mq cq).ownBlock ≠ some c) wr w9 := (HKWJ.out.mono (fun _ _ _ => trivial)).trans HK9.out
              have HQ10 : Hid (w9.ownsRow w3.heap.size 70 3 (.slice a9 m9 k9) (Q ++ [((⟨rs, fr.map (nuI M), nq⟩ : Ru), Value.slice (some ⟨w4.heap.size, 0, none⟩) fr.length fr.length)]).length (rcells (Q ++ [((⟨rs, fr.map (nuI M), nq⟩ : Ru), Value.slice (some ⟨w4.heap.size, 0, none⟩) fr.length fr.length)]))) := Lib.hid (by
                rw [rcells_app, List.length_append]
                exact HO9.out)
              have HM10 : Hid ((Q ++ [((⟨rs, fr.map (nuI M), nq⟩ : Ru), Value.slice (some ⟨w4.heap.size, 0, none⟩) fr.length fr.length)]).map Prod.fst = ruK M ((F.map Prod.fst).take (k + 1))) := Lib.hid (by
                have hkp : keepB M ⟨rs, fr, (qt : Int)⟩ = true := by
                  unfold keepB
                  rw [Bool.and_eq_true]
                  exact ⟨by simpa using HMK.out.1, HMK.out.2⟩
                rw [List.take_add_one, HFK.out, Option.toList_some, ruK_app, ruK_one, if_pos hkp, List.map_append, HQM.out, HNQ.out]
                rfl)
              have HI10 : Hid (∀ x ∈ Q ++ [((⟨rs, fr.map (nuI M), nq⟩ : Ru), Value.slice (some ⟨w4.heap.size, 0, none⟩) fr.length fr.length)], IsIntsT w.heap.size w9 x.2 x.1.fr) := Lib.hid (fun x hx => by
                rcases List.mem_append.1 hx with h | h
                · exact (HQI.out x h).kp hk10 hint
                · rw [List.mem_singleton] at h
                  subst h
                  exact HGT.out.kp HK9.out hintj)
              have HK10 : Hid (Kp (fun c => c < w3.heap.size) w3 w9) := Lib.hid (HKr.out.trans (hk10.mono (fun c _ hc e => by have := (HVB.out c e).1; omega)))
              clear hint hintj hk10 n01 n02 n03 hpl
              go_wp2_with fail
              go_roundw
              case rel => exact ⟨k + 1, _, by go_num, by omega, HQ10, HM10, HI10, HK10⟩
              case measure => simp [intOf]; omega
    · have hkd : decide (k < F.length) = false := decide_eq_false hlt
      have hkd2 : decide ((k : Int) < (F.length : Int)) = false := decide_eq_false (by omega)
      have HQF : Hid (Q.map Prod.fst = ruK M (F.map Prod.fst)) := Lib.hid (by
        have h := HQM.out
        rw [List.take_of_length_le (by rw [List.length_map]; omega)] at h
        exact h)
      go_wp2_with fail
      go_ret
      refine ⟨⟨_, Q, rfl, own_low HQ.out (by omega), ?_, ?_, HQI.out⟩, HBr.out⟩
      · rw [HQF.out]
        refine ruK_str HFS.out (fun r hr s hs => ?_)
        have h := HRU.out r ((HFM.out r).1 hr)
        rcases List.mem_append.1 hs with g | g
        · obtain ⟨q, e, _⟩ := st_nat HST.out (h.2 s g)
          omega
        · rw [List.mem_singleton] at g
          subst g
          obtain ⟨q, e, _⟩ := st_nat HST.out h.1
          omega
      · intro r
        rw [HQF.out]
        exact ruK_mem HFM.out r

end Go.Proofs.YtedfldbknjcnlaaDoor
