/- ref03.Keep. -/
import Derived.Test.YtedfldbknjcnlaaDoorFG22
namespace Go.Proofs.YtedfldbknjcnlaaDoor
open Go.RowKit Go.Shelf Go.Maps Go.WideElems

theorem Tryd.infoAutoC : (Tryd.prog.info? 27).map (·.size) = some 3 := by kernel_rfl

set_option maxRecDepth 100000 in
set_option maxHeartbeats 8000000 in
theorem rkeep_ok (A : Au) (n : Nat) (hst : A.st = (n : Int)) (hn : n ≤ 300) (hlen : A.ru.length ≤ 20000) (hfl : A.fin.length ≤ 20000) (hru : ∀ r ∈ A.ru, stIn A.st r.to = true ∧ ∀ x ∈ r.fr, stIn A.st x = true) (h3 : ∀ r ∈ A.ru, r.fr.length ≤ 3) (hfin : ∀ s ∈ A.fin, stIn A.st s = true) (M : List Bool) (hM : M.length = n) (v : Value) (kb : Nat) (w : World) (hA : IsAu w v A) (hK : BB w kb M) :
    Calls Tryd.prog 79 #[v, .slice (some ⟨kb, 0, none⟩) n n] w fun e w' => (∃ u B, e = .returned u ∧ IsAuK w.heap.size w' u B ∧ TrimOf A M B) ∧ Below w.heap.size w w' := by
  have HRU := Lib.hid hru
  have HST := Lib.hid hst
  have HR3 := Lib.hid h3
  have HFN := Lib.hid hfin
  have HML := Lib.hid hM
  have HK := Lib.hid hK
  have hkl : kb < w.heap.size := Blk.lt (show Blk w kb 4 (M.map Value.bool).toArray from hK)
  obtain ⟨fv, uv, rfl, hf, hr⟩ := hA
  have HX0 := Lib.hid ((Blk.new w 27 #[.int .i64 A.st, fv, uv]).alloc (.cells #[.int .i64 0, .slice none 0 0, .slice none 0 0] 27))
  have HR0 : Hid (Blk ((w.alloc (.cells #[.int .i64 A.st, fv, uv] 27)).alloc (.cells #[.int .i64 0, .slice none 0 0, .slice none 0 0] 27)) (w.heap.size + 1) 27 #[.int .i64 0, .slice none 0 0, .slice none 0 0]) := Lib.hid (by
    have := Blk.new (w.alloc (.cells #[.int .i64 A.st, fv, uv] 27)) 27 #[.int .i64 0, .slice none 0 0, .slice none 0 0]
    simpa using this)
  have HB : Hid (Below w.heap.size w ((w.alloc (.cells #[.int .i64 A.st, fv, uv] 27)).alloc (.cells #[.int .i64 0, .slice none 0 0, .slice none 0 0] 27))) := Lib.hid (((Below.refl _ w).alloc (Nat.le_refl _) _).alloc (by simp) _)
  obtain ⟨p1, c1, rfl, hf3, hf4, hfc⟩ := hf
  obtain ⟨p2, c2, rfl, hr3, hr4, hrc⟩ := hr
  obtain ⟨i1, hi1, hy0, hy1, hy2⟩ := info_parts Tryd.infoInt
  obtain ⟨i2, hi2, hx0, hx1, hx2⟩ := info_parts Tryd.infoRule
  have HI1 := Lib.hid hi1
  have HI2 := Lib.hid hi2
  unfold maxLen at hr4 hf4
  have HRC := Lib.hid hrc
  have HFC0 := Lib.hid hfc
  have x0 : ((w.alloc (.cells #[.int .i64 A.st, .slice p1 A.fin.length c1, .slice p2 A.ru.length c2] 27)).alloc (.cells #[.int .i64 0, .slice none 0 0, .slice none 0 0] 27)).cell? ⟨w.heap.size, 0, none⟩ = some (.int .i64 (n : Int)) := by rw [HX0.out.cell, ← HST.out]; rfl
  clear hrc hfc hru hst hi1 hi2 h3 hfin hM hK
  go_enter Tryd.func79, Tryd.ntmps79
  go_wp2_with (at_make; refine wpList_make_full _ rfl _ _ 22 rfl (w.heap.size + 2) 3 i1 _ 1 Tryd.underlying22 HI1.out hy0 hy1 _ _ _ _ n rfl rfl rfl rfl (by rw [hy2]; omega) (by simp only [maxLen]; omega) (by simp) ?_)
  intro w2 hown hgrow
  have hG := own_full hown
  rw [toList_madeCells_one] at hG
  have hGl := hG.lt
  try simp only [World.size_alloc] at hGl
  try simp only [World.size_alloc] at hG
  have HB2 : Hid (Below w.heap.size w w2) := Lib.hid (HB.out.grown hgrow (by simp; omega) (fun j e => by simp at e))
  have HX2 : Hid (Blk w2 w.heap.size 27 #[.int .i64 A.st, .slice p1 A.fin.length c1, .slice p2 A.ru.length c2]) := Lib.hid ((hgrow.block _ HX0.out.lt (by simp)).trans HX0.out)
  have HR2 : Hid (Blk w2 (w.heap.size + 1) 27 #[.int .i64 0, .slice none 0 0, .slice none 0 0]) := Lib.hid ((hgrow.block _ HR0.out.lt (by simp)).trans HR0.out)
  have HG2 := Lib.hid hG
  clear hown hgrow hG x0
  obtain ⟨w4, hw4⟩ : ∃ w4, w4 = w2.alloc (.cells #[.int .i64 0, .slice none 0 0, .slice none 0 0] 27) := ⟨_, rfl⟩
  have HX4 : Hid (Blk w4 w.heap.size 27 #[.int .i64 A.st, .slice p1 A.fin.length c1, .slice p2 A.ru.length c2]) := Lib.hid (hw4 ▸ HX2.out.alloc _)
  have HR4 : Hid (Blk w4 (w.heap.size + 1) 27 #[.int .i64 0, .slice none 0 0, .slice none 0 0]) := Lib.hid (hw4 ▸ HR2.out.alloc _)
  have HO4 : Hid (Blk w4 w2.heap.size 27 #[.int .i64 (numK M 0 : Int), .slice none 0 0, .slice none 0 0]) := Lib.hid (hw4 ▸ Blk.new w2 _ _)
  have HN4 : Hid (Blk w4 (w.heap.size + 1 + 1) 3 (intV (numL M 0)).toArray) := Lib.hid (by
    rw [hw4, numL_zero, HML.out]
    unfold intV
    rw [List.map_replicate]
    exact HG2.out.alloc _)
  have HB4 : Hid (Below w.heap.size w w4) := Lib.hid (hw4 ▸ HB2.out.alloc HB2.out.size _)
  have hs4 : w4.heap.size = w2.heap.size + 1 := by rw [hw4]; simp
  have HW4 := Lib.hid hw4
  clear hw4
  go_wp2_with fail
  have hw4 := HW4.out
  simp only [← hw4] at *
  clear hw4 HW4
  go_loopw [22] (fun iv wk => ∃ k : Nat, iv = .int .i64 (k : Nat) ∧ k ≤ n ∧ Hid (Blk wk (w.heap.size + 1 + 1) 3 (intV (numL M k)).toArray) ∧ Hid (Blk wk w2.heap.size 27 #[.int .i64 (numK M k : Int), .slice none 0 0, .slice none 0 0]) ∧ Hid (Kp (fun c => c ≠ w.heap.size + 1 + 1 ∧ c ≠ w2.heap.size) w4 wk))
    (fun iv _ => n - (intOf iv).toNat)
  case atStart => exact ⟨0, rfl, by omega, HN4, HO4, Lib.hid (Kp.refl _ _)⟩
  case round =>
    rename World => wk
    obtain ⟨k, rfl, hk, HNk, HOk, HKk⟩ := hrel
    have hsk := HKk.out.size
    have hkbk : kb ≠ w.heap.size + 1 + 1 ∧ kb ≠ w2.heap.size := by omega
    have HBBk : Hid (BB wk kb M) := Lib.hid (BB.kp (Blk.below (show Blk w kb 4 (M.map Value.bool).toArray from HK.out) HB4.out hkl) HKk.out hkbk)
    by_cases hlt : k < n
    · have hki : (k : Int) < (n : Int) := by omega
      have b0 : wk.cell? ⟨kb, k, none⟩ = some (.bool (M.getD k false)) := HBBk.out.at (by have := HML.out; omega)
      have bl : kb < wk.heap.size := by omega
      have hkM : k < M.length := by have := HML.out; omega
      have o0 : wk.cell? ⟨w2.heap.size, 0, none⟩ = some (.int .i64 (numK M k : Int)) := by rw [HOk.out.cell]; rfl
      have of := HOk.out.frozen 0
      have ol := HOk.out.lt
      have n0 : wk.cell? ⟨w.heap.size + 1 + 1, k, none⟩ = some (.int .i64 ((numL M k).getD k 0)) := by
        rw [HNk.out.cell, List.getD_eq_getElem?_getD]
        have := numL_len M k
        simp [intV, this, hkM]
      have nf := HNk.out.frozen k
      have nl := HNk.out.lt
      have hnk := numK_le M k
      have HNX := Lib.hid (numL_next (k := k) hkM)
      have HKS : Hid (∀ b, M[k]? = some b → numK M (k + 1) = numK M k + if b then 1 else 0) := Lib.hid (fun b h => numK_succ h)
      have HMK : Hid (M[k]? = some (M.getD k false)) := Lib.hid (by rw [List.getD_eq_getElem?_getD, List.getElem?_eq_getElem hkM]; rfl)
      obtain ⟨g, hg⟩ : ∃ g, g = M.getD k false := ⟨_, rfl⟩
      rw [← hg] at b0 HNX HMK
      obtain ⟨nk, hnk2⟩ : ∃ nk, nk = numK M k := ⟨_, rfl⟩
      rw [← hnk2] at o0 hnk HNX HOk HKS
      clear hg
      cases g with
      | false =>
        have HN5 : Hid (Blk wk (w.heap.size + 1 + 1) 3 (intV (numL M (k + 1))).toArray) := Lib.hid (by rw [HNX.out, if_neg (by simp)]; exact HNk.out)
        have HO5 : Hid (Blk wk w2.heap.size 27 #[.int .i64 (numK M (k + 1) : Int), .slice none 0 0, .slice none 0 0]) := Lib.hid (by rw [HKS.out _ HMK.out]; exact HOk.out)
        clear hnk2
        go_wp2_with fail
        go_roundw
        case rel => exact ⟨k + 1, by go_num, by omega, HN5, HO5, HKk⟩
        case measure => simp [intOf]; omega
      | true =>
        have hneo : ¬ w.heap.size + 1 + 1 = w2.heap.size := by omega
        have HN5 : Hid (Blk ((wk.setCell ⟨w.heap.size + 1 + 1, k, none⟩ (.int .i64 (nk : Int))).setCell ⟨w2.heap.size, 0, none⟩ (.int .i64 ((nk : Int) + 1))) (w.heap.size + 1 + 1) 3 (intV (numL M (k + 1))).toArray) := Lib.hid (by
          rw [HNX.out, if_pos rfl]
          have h := (HNk.out.set_ k (.int .i64 (nk : Int))).far (p := ⟨w2.heap.size, 0, none⟩) hneo (.int .i64 ((nk : Int) + 1))
          rw [List.setIfInBounds_toArray] at h
          unfold intV
          rw [List.map_set]
          exact h)
        have HO5 : Hid (Blk ((wk.setCell ⟨w.heap.size + 1 + 1, k, none⟩ (.int .i64 (nk : Int))).setCell ⟨w2.heap.size, 0, none⟩ (.int .i64 ((nk : Int) + 1))) w2.heap.size 27 #[.int .i64 (numK M (k + 1) : Int), .slice none 0 0, .slice none 0 0]) := Lib.hid (by
          rw [HKS.out _ HMK.out]
          have h := (HOk.out.far (p := ⟨w.heap.size + 1 + 1, k, none⟩) (fun e => hneo e.symm) (.int .i64 (nk : Int))).set_ 0 (.int .i64 ((nk : Int) + 1))
          simpa using h)
        have HK5 : Hid (Kp (fun c => c ≠ w.heap.size + 1 + 1 ∧ c ≠ w2.heap.size) w4 ((wk.setCell ⟨w.heap.size + 1 + 1, k, none⟩ (.int .i64 (nk : Int))).setCell ⟨w2.heap.size, 0, none⟩ (.int .i64 ((nk : Int) + 1)))) := Lib.hid ((HKk.out.setCell (p := ⟨w.heap.size + 1 + 1, k, none⟩) (fun h => absurd rfl h.1) _).setCell (p := ⟨w2.heap.size, 0, none⟩) (fun h => absurd rfl h.2) _)
        have hnk300 : nk ≤ 300 := by omega
        clear hnk2
        go_wp2_with fail
        go_roundw
        case rel => exact ⟨k + 1, by go_num, by omega, HN5, HO5, HK5⟩
        case measure => simp [intOf]; omega
    · have hke : k = n := by omega
      have hkd : decide (k < n) = false := decide_eq_false hlt
      have hkd2 : decide ((k : Int) < (n : Int)) = false := decide_eq_false (by omega)
      have HNN : Hid (Blk wk (w.heap.size + 1 + 1) 3 (intV (numL M n)).toArray) := Lib.hid (by have h := HNk.out; rw [hke] at h; exact h)
      have HON : Hid (Blk wk w2.heap.size 27 #[.int .i64 (numK M n : Int), .slice none 0 0, .slice none 0 0]) := Lib.hid (by have h := HOk.out; rw [hke] at h; exact h)
      have HXk : Hid (Blk wk w.heap.size 27 #[.int .i64 A.st, .slice p1 A.fin.length c1, .slice p2 A.ru.length c2]) := Lib.hid (HX4.out.kp HKk.out ⟨by omega, by omega⟩)
      have HRk : Hid (Blk wk (w.heap.size + 1) 27 #[.int .i64 0, .slice none 0 0, .slice none 0 0]) := Lib.hid (HR4.out.kp HKk.out ⟨by omega, by omega⟩)
      have HBk : Hid (Below w.heap.size w wk) := Lib.hid (HB4.out.trans (HKk.out.below HB4.out.size (fun c hc => ⟨by omega, by omega⟩)))
      have HF0 : Hid (wk.ownsRow w4.heap.size 3 1 (.slice none 0 0) (finK M (A.fin.take 0)).length (intV (finK M (A.fin.take 0)))) := Lib.hid (World.ownsRow_nil wk _ _ _)
      have x1 : wk.cell? ⟨w.heap.size, 1, none⟩ = some (.slice p1 A.fin.length c1) := by rw [HXk.out.cell]; rfl
      have xl := HXk.out.lt
      have HNV : Hid (∀ (W : World) (q : Nat), Blk W (w.heap.size + 1 + 1) 3 (intV (numL M n)).toArray → q < n → W.cell? ⟨w.heap.size + 1 + 1, q, none⟩ = some (.int .i64 (numR M q : Int))) := Lib.hid (fun W q hb hq => by
        have hl := numL_len M n
        have hm := HML.out
        rw [hb.cell]
        have h := numL_at (M := M) (k := n) (i := q) (by omega) hq
        rw [List.getD_eq_getElem?_getD] at h
        simp only [intV, List.getElem?_toArray, List.getElem?_map]
        rw [List.getElem?_eq_getElem (by omega)] at h ⊢
        simpa using h)
      clear hke HNk HOk
      go_wp2_with fail
      go_loopw [41] (fun iv wm => ∃ (j : Nat) (fv : Value), iv = .int .i64 (j : Nat) ∧ j ≤ A.fin.length ∧ Hid (wm.ownsRow w4.heap.size 3 1 fv (finK M (A.fin.take j)).length (intV (finK M (A.fin.take j)))) ∧ Hid (Blk wm w2.heap.size 27 #[.int .i64 (numK M n : Int), fv, .slice none 0 0]) ∧ Hid (Kp (fun c => c < w4.heap.size ∧ c ≠ w2.heap.size) wk wm))
        (fun iv _ => A.fin.length - (intOf iv).toNat)
      case atStart => exact ⟨0, _, rfl, by omega, HF0, HON, Lib.hid (Kp.refl _ _)⟩
      case round =>
        rename World => wm
        obtain ⟨j, fv, rfl, hj, HFm, HOm, HKm⟩ := hrel
        have hsm := HKm.out.size
        have HNm : Hid (Blk wm (w.heap.size + 1 + 1) 3 (intV (numL M n)).toArray) := Lib.hid (HNN.out.kp HKm.out ⟨by omega, by omega⟩)
        have HBm : Hid (Below w.heap.size w wm) := Lib.hid (HBk.out.trans (HKm.out.below HBk.out.size (fun c hc => ⟨by omega, by omega⟩)))
        have HKBm : Hid (BB wm kb M) := Lib.hid (HBBk.out.kp HKm.out ⟨by omega, by omega⟩)
        by_cases hjl : j < A.fin.length
        · obtain ⟨x, hx⟩ : ∃ x, A.fin[j]? = some x := ⟨_, List.getElem?_eq_getElem hjl⟩
          obtain ⟨q, hxq, hq⟩ := st_nat HST.out (HFN.out x (List.mem_of_getElem? hx))
          obtain ⟨b, o, rfl, hfl2⟩ := HFC0.out (fun h => by simp [h] at hjl)
          have u0 : wm.cell? ⟨b, o + j, none⟩ = some (.int .i64 (q : Int)) := by
            have h := cell_later HBm.out (hfl2 j x hx)
            rw [hxq] at h
            exact h
          have m0 : wm.cell? ⟨kb, q, none⟩ = some (.bool (M.getD q false)) := HKBm.out.at (by have := HML.out; omega)
          have ml : kb < wm.heap.size := by omega
          have hji : (j : Int) < (A.fin.length : Int) := by omega
          have hqi : (q : Int) < (n : Int) := by omega
          have HTK : Hid (finK M (A.fin.take (j + 1)) = finK M (A.fin.take j) ++ if M.getD q false = true then [(numR M q : Int)] else []) := Lib.hid (by
            rw [List.take_add_one, hx, Option.toList_some, finK_app, finK_one, hxq]
            simp only [Int.toNat_natCast]
            split
            · rename_i h
              rw [← nuR_eq (by rw [Int.toNat_natCast]; exact h)]
              rfl
            · rfl)
          have hnl : numR M q ≤ q := numR_le M q
          obtain ⟨g, hg⟩ : ∃ g, g = M.getD q false := ⟨_, rfl⟩
          rw [← hg] at m0 HTK
          obtain ⟨nq, hnq⟩ : ∃ nq : Int, nq = (numR M q : Int) := ⟨_, rfl⟩
          have hnq0 : 0 ≤ nq ∧ nq ≤ 300 := by omega
          rw [← hnq] at HTK
          have HNQ := Lib.hid hnq
          clear hg hx hxq hfl2 hnq
          cases g with
          | false =>
            have HFS2 : Hid (wm.ownsRow w4.heap.size 3 1 fv (finK M (A.fin.take (j + 1))).length (intV (finK M (A.fin.take (j + 1))))) := Lib.hid (by
              rw [HTK.out, if_neg (by simp), List.append_nil]
              exact HFm.out)
            go_wp2_with fail
            go_roundw
            case rel => exact ⟨j + 1, fv, by go_num, by omega, HFS2, HOm, HKm⟩
            case measure => simp [intOf]; omega
          | true =>
            obtain ⟨am, mm, cm, rfl⟩ := own_slice HFm.out
            have HVO : Hid ((Value.slice am mm cm).ownBlock ≠ some (w.heap.size + 1 + 1) ∧ (Value.slice am mm cm).ownBlock ≠ some w2.heap.size ∧ ∀ b, (Value.slice am mm cm).ownBlock = some b → w4.heap.size ≤ b) := Lib.hid ⟨fun e => by
              obtain ⟨cur, _, hB⟩ := own_cells HFm.out e
              omega, fun e => by
              obtain ⟨cur, _, hB⟩ := own_cells HFm.out e
              omega, fun b e => by
              obtain ⟨cur, _, hB⟩ := own_cells HFm.out e
              exact hB⟩
            have HCS : Hid (∀ W : World, Kp (fun c => (Value.slice am mm cm).ownBlock ≠ some c) wm W → W.cell? ⟨w.heap.size + 1 + 1, q, none⟩ = some (.int .i64 nq) ∧ W.cell? ⟨w2.heap.size, 1, none⟩ = some (.slice am mm cm) ∧ W.frozen? ⟨w2.heap.size, 1, none⟩ = false ∧ w2.heap.size < W.heap.size) := Lib.hid (fun W hW => by
              have h1 := HNm.out.kp hW HVO.out.1
              have h2 := HOm.out.kp hW HVO.out.2.1
              exact ⟨by rw [HNV.out W q h1 hq, ← HNQ.out], by rw [h2.cell]; rfl, h2.frozen _, h2.lt⟩)
            have HC2 : Hid (∀ W : World, Kp (fun c => (Value.slice am mm cm).ownBlock ≠ some c ∧ c ≠ w2.heap.size) wm W → W.cell? ⟨w.heap.size + 1 + 1, q, none⟩ = some (.int .i64 nq)) := Lib.hid (fun W hW => by
              have h1 := HNm.out.kp hW ⟨HVO.out.1, by omega⟩
              rw [HNV.out W q h1 hq, ← HNQ.out])
            have HKF : Hid (∀ W : World, Kp (fun c => (Value.slice am mm cm).ownBlock ≠ some c) wm W → ∀ u, Kp (fun c => (Value.slice am mm cm).ownBlock ≠ some c ∧ c ≠ w2.heap.size) wm (W.setCell ⟨w2.heap.size, 1, none⟩ u)) := Lib.hid (fun W hW u => (hW.mono (fun _ _ h => h.1)).setCell (p := ⟨w2.heap.size, 1, none⟩) (fun h => absurd rfl h.2) u)
            have HKN : Hid (∀ W : World, Kp (fun c => (Value.slice am mm cm).ownBlock ≠ some c) wm W → Kp (fun c => (Value.slice am mm cm).ownBlock ≠ some c ∧ c ≠ w2.heap.size) wm W) := Lib.hid (fun W hW => hW.mono (fun _ _ h => h.1))
            have HKX : Hid (∀ o : Obj, Kp (fun c => (Value.slice am mm cm).ownBlock ≠ some c) wm (wm.alloc o).drew) := Lib.hid (fun o => ((Kp.refl _ wm).alloc o).drew)
            have HKG : Hid (∀ (o : Obj) (W : World), ((wm.alloc o).drew).grownBy W (Value.slice am mm cm).ownBlock → Kp (fun c => (Value.slice am mm cm).ownBlock ≠ some c) wm W) := Lib.hid (fun o W hg => ((Kp.refl _ wm).alloc o).drew.grown hg (fun k e hS => absurd e hS))
            have HOX : Hid (∀ o : Obj, ((wm.alloc o).drew).ownsRow w4.heap.size 3 1 (.slice am mm cm) (finK M (A.fin.take j)).length (intV (finK M (A.fin.take j)))) := Lib.hid (fun o => ownsRow_kp HFm.out (((Kp.refl (fun _ => True) wm).alloc o).drew) (fun _ _ => trivial))
            have HONE : Hid (∀ u ∈ [Value.int .i64 nq], u.oneCell' = true) := Lib.hid (fun u hu => by
              rw [List.mem_singleton] at hu; subst hu; rfl)
            have hfkl := finK_len M (A.fin.take j)
            rw [List.length_take] at hfkl
            have HM1 : Hid ((finK M (A.fin.take j)).length + 1 ≤ maxLen) := Lib.hid (by unfold maxLen; omega)
            have HM2 : Hid (((finK M (A.fin.take j)).length + 1) * 8 ≤ 140737488355328) := Lib.hid (by omega)
            have HBS : Hid (∀ o : Obj, w4.heap.size ≤ ((wm.alloc o).drew).heap.size) := Lib.hid (fun o => Nat.le_trans (by omega) (sz_1 wm o))
            have n0 := (HCS.out wm (Kp.refl _ _)).1
            have c1 := (HCS.out wm.drew (Kp.refl _ _).drew).2.1
            have c2 := (HCS.out (wm.alloc (.cells #[.int .i64 nq] 3)).drew ((Kp.refl _ wm).alloc _).drew).2.1
            have c0 := (HCS.out wm (Kp.refl _ _)).2.1
            have c2' := (HCS.out (wm.alloc (.cells #[.int .i64 nq] 3)) ((Kp.refl _ wm).alloc _)).2.1
            have hol := HOm.out.lt
            have hnl := HNm.out.lt
            clear hfkl
            go_wp2_with fail
            refine wp_region_held_drew (S := (fun W => W.cell? ⟨w.heap.size + 1 + 1, q, none⟩ = some (.int .i64 nq))) (by kernel_rfl) (by (try dsimp only); first | exact HC2.out _ (HKN.out _ (Kp.refl _ _).drew) | exact HC2.out _ (HKN.out _ (HKX.out _)) | exact HC2.out _ (HKN.out _ HK9.out) | exact HC2.out _ (HKF.out _ HK9.out _)) (fun hHeld => ?_)
            refine wpAnyH_take (i := 0) (oi := ⟨some 49, _, _, _, _, _⟩) (v := ?v0a) rfl (by kernel_rfl) (by kernel_rfl) (by kernel_rfl) (fun _ _ _ h => h) (Or.inl ⟨by rfl, ?y0a⟩) (by assumption) ?r0a
            case y0a => (intro w hSw; (try dsimp only at hSw); go_simp); (try with_reducible rfl)
            (try simp only [Act.put, List.setIfInBounds_toArray, List.set_cons_zero, List.set_cons_succ])
            refine wpAnyH_take (i := 2) (oi := ⟨some 51, _, _, _, _, _⟩) (v := ?v2a) rfl (by kernel_rfl) (by kernel_rfl) (by kernel_rfl) (fun _ _ _ h => h) (Or.inl ⟨by rfl, ?y2a⟩) (by assumption) ?r2a
            case y2a => (intro w hSw; (try dsimp only at hSw); go_simp); (try with_reducible rfl)
            (try simp only [Act.put, List.setIfInBounds_toArray, List.set_cons_zero, List.set_cons_succ])
            refine wpAnyH_take (i := 3) (oi := ⟨some 52, _, _, _, _, _⟩) (v := ?v3a) rfl (by kernel_rfl) (by kernel_rfl) (by kernel_rfl) (fun _ _ _ h => h) (Or.inl ⟨by rfl, ?y3a⟩) (by assumption) ?r3a
            case y3a => (intro w hSw; (try dsimp only at hSw); go_simp); (try with_reducible rfl)
            (try simp only [Act.put, List.setIfInBounds_toArray, List.set_cons_zero, List.set_cons_succ])
            refine wpAnyH_take (i := 4) (oi := ⟨some 53, _, _, _, _, _⟩) (v := ?v4a) rfl (by kernel_rfl) (by kernel_rfl) (by kernel_rfl) (fun _ _ _ h => h) (Or.inl ⟨by rfl, ?y4a⟩) (by assumption) ?r4a
            case y4a => (intro w hSw; (try dsimp only at hSw); go_simp); (try with_reducible rfl)
            (try simp only [Act.put, List.setIfInBounds_toArray, List.set_cons_zero, List.set_cons_succ])
            refine wpAnyH_take (i := 5) (oi := ⟨some 54, _, _, _, _, _⟩) (v := ?v5a) rfl (by kernel_rfl) (by kernel_rfl) (by kernel_rfl) (fun _ _ _ h => h) (Or.inl ⟨by rfl, ?y5a⟩) (by assumption) ?r5a
            case y5a => (intro w hSw; (try dsimp only at hSw); go_simp); (try with_reducible rfl)
            (try simp only [Act.put, List.setIfInBounds_toArray, List.set_cons_zero, List.set_cons_succ])
            refine wpAnyH_ready (rs := [1, 6]) (by kernel_rfl) (by simp) ?_
            refine AllReadyH.cons rfl (fun K hK => ?_) (AllReadyH.cons rfl (fun K hK => ?_) AllReadyH.nil)
            · skip
              go_simp
              refine hK.out _ _ (by (try dsimp only); first | exact HC2.out _ (HKN.out _ (Kp.refl _ _).drew) | exact HC2.out _ (HKN.out _ (HKX.out _)) | exact HC2.out _ (HKN.out _ HK9.out) | exact HC2.out _ (HKF.out _ HK9.out _)) (fun hHeld => ?_)
              clear hK K
              (try simp only [Act.put, List.setIfInBounds_toArray, List.set_cons_zero, List.set_cons_succ])
              refine wpAnyH_ready (rs := [6]) (by kernel_rfl) (by simp) ?_
              refine AllReadyH.cons rfl (fun K hK => ?_) AllReadyH.nil
              go_simp
              refine hK.out _ _ (by (try dsimp only); first | exact HC2.out _ (HKN.out _ (Kp.refl _ _).drew) | exact HC2.out _ (HKN.out _ (HKX.out _)) | exact HC2.out _ (HKN.out _ HK9.out) | exact HC2.out _ (HKF.out _ HK9.out _)) (fun hHeld => ?_)
              clear hK K
              (try simp only [Act.put, List.setIfInBounds_toArray, List.set_cons_zero, List.set_cons_succ])
              refine wpAnyH_ready (rs := [7]) (by kernel_rfl) (by simp) ?_
              refine AllReadyH.cons rfl (fun K hK => ?_) AllReadyH.nil
              refine step_append_own _ rfl (.tmp 50) (.tmp 55) 22 rfl w4.heap.size 3 i1 _ 1 8 Tryd.underlying22 HI1.out hy0 hy1 hy2 rfl (by decide) (.slice am mm cm) (finK M (A.fin.take j)).length (intV (finK M (A.fin.take j))) rfl (HOX.out _) _ 1 1 [.int .i64 nq] rfl rfl (new_one (bk_11 wm _ _)) HONE.out HM1.out HM2.out (HBS.out _) ?_
              intro v9 w9 ho9 hg9 hat9
              obtain ⟨a9, m9, k9, rfl⟩ := own_slice ho9
              have HO9 := Lib.hid ho9
              have HK9 := Lib.hid (HKG.out _ w9 hg9)
              have c3 := (HCS.out w9 HK9.out).2.1
              have f3 := (HCS.out w9 HK9.out).2.2.1
              have l3 := (HCS.out w9 HK9.out).2.2.2
              clear ho9 hg9 hat9
              refine hK.out _ _ (by (try dsimp only); first | exact HC2.out _ (HKN.out _ (Kp.refl _ _).drew) | exact HC2.out _ (HKN.out _ (HKX.out _)) | exact HC2.out _ (HKN.out _ HK9.out) | exact HC2.out _ (HKF.out _ HK9.out _)) (fun hHeld => ?_)
              clear hK K
              (try simp only [Act.put, List.setIfInBounds_toArray, List.set_cons_zero, List.set_cons_succ])
              refine wpAnyH_take (i := 8) (oi := ⟨some 57, _, _, _, _, _⟩) (v := ?v8ap) rfl (by kernel_rfl) (by kernel_rfl) (by kernel_rfl) (fun _ _ _ h => h) (Or.inl ⟨by rfl, ?y8ap⟩) (by assumption) ?r8ap
              case y8ap => (intro w hSw; (try dsimp only at hSw); go_simp); (try with_reducible rfl)
              (try simp only [Act.put, List.setIfInBounds_toArray, List.set_cons_zero, List.set_cons_succ])
              refine wpAnyH_ready (rs := [9]) (by kernel_rfl) (by simp) ?_
              refine AllReadyH.cons rfl (fun K hK => ?_) AllReadyH.nil
              go_simp
              refine hK.out _ _ (by (try dsimp only); first | exact HC2.out _ (HKN.out _ (Kp.refl _ _).drew) | exact HC2.out _ (HKN.out _ (HKX.out _)) | exact HC2.out _ (HKN.out _ HK9.out) | exact HC2.out _ (HKF.out _ HK9.out _)) (fun hHeld => ?_)
              clear hK K
              (try simp only [Act.put, List.setIfInBounds_toArray, List.set_cons_zero, List.set_cons_succ])
              refine wpAnyH_done (by kernel_rfl) ?_ _
              have hk9 := HKF.out w9 HK9.out (.slice a9 m9 k9)
              have HO10 : Hid (Blk (w9.setCell ⟨w2.heap.size, 1, none⟩ (.slice a9 m9 k9)) w2.heap.size 27 #[.int .i64 (numK M n : Int), .slice a9 m9 k9, .slice none 0 0]) := Lib.hid (by
                have h := (HOm.out.kp HK9.out HVO.out.2.1).set_ 1 (.slice a9 m9 k9)
                simpa using h)
              have HF10 : Hid ((w9.setCell ⟨w2.heap.size, 1, none⟩ (.slice a9 m9 k9)).ownsRow w4.heap.size 3 1 (.slice a9 m9 k9) (finK M (A.fin.take (j + 1))).length (intV (finK M (A.fin.take (j + 1))))) := Lib.hid (by
                rw [HTK.out, if_pos trivial, intV_app, List.length_append]
                exact ownsRow_kp HO9.out ((Kp.refl (fun c => c ≠ w2.heap.size) w9).setCell (p := ⟨w2.heap.size, 1, none⟩) (fun h => absurd rfl h) _) (fun b e => by
                  obtain ⟨cur, _, hB⟩ := own_cells HO9.out e
                  omega))
              have HK10 : Hid (Kp (fun c => c < w4.heap.size ∧ c ≠ w2.heap.size) wk (w9.setCell ⟨w2.heap.size, 1, none⟩ (.slice a9 m9 k9))) := Lib.hid (HKm.out.trans (hk9.mono (fun c _ hc => ⟨fun e => by have := HVO.out.2.2 c e; have := hc.1; omega, hc.2⟩)))
              clear hk9 c0 c1 c2 c2' c3 f3 l3 n0 hol hnl
              generalize w9.setCell ⟨w2.heap.size, 1, none⟩ (.slice a9 m9 k9) = w5 at *
              go_wp2_with fail
              go_roundw
              case rel => exact ⟨j + 1, _, by go_num, by omega, HF10, HO10, HK10⟩
              case measure => simp [intOf]; omega
            · skip
              go_simp
              refine hK.out _ _ (by (try dsimp only); first | exact HC2.out _ (HKN.out _ (Kp.refl _ _).drew) | exact HC2.out _ (HKN.out _ (HKX.out _)) | exact HC2.out _ (HKN.out _ HK9.out) | exact HC2.out _ (HKF.out _ HK9.out _)) (fun hHeld => ?_)
              clear hK K
              (try simp only [Act.put, List.setIfInBounds_toArray, List.set_cons_zero, List.set_cons_succ])
              refine wpAnyH_ready (rs := [1]) (by kernel_rfl) (by simp) ?_
              refine AllReadyH.cons rfl (fun K hK => ?_) AllReadyH.nil
              go_simp
              refine hK.out _ _ (by (try dsimp only); first | exact HC2.out _ (HKN.out _ (Kp.refl _ _).drew) | exact HC2.out _ (HKN.out _ (HKX.out _)) | exact HC2.out _ (HKN.out _ HK9.out) | exact HC2.out _ (HKF.out _ HK9.out _)) (fun hHeld => ?_)
              clear hK K
              (try simp only [Act.put, List.setIfInBounds_toArray, List.set_cons_zero, List.set_cons_succ])
              refine wpAnyH_ready (rs := [7]) (by kernel_rfl) (by simp) ?_
              refine AllReadyH.cons rfl (fun K hK => ?_) AllReadyH.nil
              refine step_append_own _ rfl (.tmp 50) (.tmp 55) 22 rfl w4.heap.size 3 i1 _ 1 8 Tryd.underlying22 HI1.out hy0 hy1 hy2 rfl (by decide) (.slice am mm cm) (finK M (A.fin.take j)).length (intV (finK M (A.fin.take j))) rfl (HOX.out _) _ 1 1 [.int .i64 nq] rfl rfl (new_one (bk_11 wm _ _)) HONE.out HM1.out HM2.out (HBS.out _) ?_
              intro v9 w9 ho9 hg9 hat9
              obtain ⟨a9, m9, k9, rfl⟩ := own_slice ho9
              have HO9 := Lib.hid ho9
              have HK9 := Lib.hid (HKG.out _ w9 hg9)
              have c3 := (HCS.out w9 HK9.out).2.1
              have f3 := (HCS.out w9 HK9.out).2.2.1
              have l3 := (HCS.out w9 HK9.out).2.2.2
              clear ho9 hg9 hat9
              refine hK.out _ _ (by (try dsimp only); first | exact HC2.out _ (HKN.out _ (Kp.refl _ _).drew) | exact HC2.out _ (HKN.out _ (HKX.out _)) | exact HC2.out _ (HKN.out _ HK9.out) | exact HC2.out _ (HKF.out _ HK9.out _)) (fun hHeld => ?_)
              clear hK K
              (try simp only [Act.put, List.setIfInBounds_toArray, List.set_cons_zero, List.set_cons_succ])
              refine wpAnyH_take (i := 8) (oi := ⟨some 57, _, _, _, _, _⟩) (v := ?v8aq) rfl (by kernel_rfl) (by kernel_rfl) (by kernel_rfl) (fun _ _ _ h => h) (Or.inl ⟨by rfl, ?y8aq⟩) (by assumption) ?r8aq
              case y8aq => (intro w hSw; (try dsimp only at hSw); go_simp); (try with_reducible rfl)
              (try simp only [Act.put, List.setIfInBounds_toArray, List.set_cons_zero, List.set_cons_succ])
              refine wpAnyH_ready (rs := [9]) (by kernel_rfl) (by simp) ?_
              refine AllReadyH.cons rfl (fun K hK => ?_) AllReadyH.nil
              go_simp
              refine hK.out _ _ (by (try dsimp only); first | exact HC2.out _ (HKN.out _ (Kp.refl _ _).drew) | exact HC2.out _ (HKN.out _ (HKX.out _)) | exact HC2.out _ (HKN.out _ HK9.out) | exact HC2.out _ (HKF.out _ HK9.out _)) (fun hHeld => ?_)
              clear hK K
              (try simp only [Act.put, List.setIfInBounds_toArray, List.set_cons_zero, List.set_cons_succ])
              refine wpAnyH_done (by kernel_rfl) ?_ _
              have hk9 := HKF.out w9 HK9.out (.slice a9 m9 k9)
              have HO10 : Hid (Blk (w9.setCell ⟨w2.heap.size, 1, none⟩ (.slice a9 m9 k9)) w2.heap.size 27 #[.int .i64 (numK M n : Int), .slice a9 m9 k9, .slice none 0 0]) := Lib.hid (by
                have h := (HOm.out.kp HK9.out HVO.out.2.1).set_ 1 (.slice a9 m9 k9)
                simpa using h)
              have HF10 : Hid ((w9.setCell ⟨w2.heap.size, 1, none⟩ (.slice a9 m9 k9)).ownsRow w4.heap.size 3 1 (.slice a9 m9 k9) (finK M (A.fin.take (j + 1))).length (intV (finK M (A.fin.take (j + 1))))) := Lib.hid (by
                rw [HTK.out, if_pos trivial, intV_app, List.length_append]
                exact ownsRow_kp HO9.out ((Kp.refl (fun c => c ≠ w2.heap.size) w9).setCell (p := ⟨w2.heap.size, 1, none⟩) (fun h => absurd rfl h) _) (fun b e => by
                  obtain ⟨cur, _, hB⟩ := own_cells HO9.out e
                  omega))
              have HK10 : Hid (Kp (fun c => c < w4.heap.size ∧ c ≠ w2.heap.size) wk (w9.setCell ⟨w2.heap.size, 1, none⟩ (.slice a9 m9 k9))) := Lib.hid (HKm.out.trans (hk9.mono (fun c _ hc => ⟨fun e => by have := HVO.out.2.2 c e; have := hc.1; omega, hc.2⟩)))
              clear hk9 c0 c1 c2 c2' c3 f3 l3 n0 hol hnl
              generalize w9.setCell ⟨w2.heap.size, 1, none⟩ (.slice a9 m9 k9) = w5 at *
              go_wp2_with fail
              go_roundw
              case rel => exact ⟨j + 1, _, by go_num, by omega, HF10, HO10, HK10⟩
              case measure => simp [intOf]; omega
        · have hjd : decide (j < A.fin.length) = false := decide_eq_false hjl
          have hjd2 : decide ((j : Int) < (A.fin.length : Int)) = false := decide_eq_false (by omega)
          have HFF : Hid (wm.ownsRow w4.heap.size 3 1 fv (finK M A.fin).length (intV (finK M A.fin))) := Lib.hid (by
            have h := HFm.out
            rw [List.take_of_length_le (by omega)] at h
            exact h)
          have HFT := Lib.hid (own_intsT HFF.out (by omega : w.heap.size ≤ w4.heap.size))
          have HXm : Hid (Blk wm w.heap.size 27 #[.int .i64 A.st, .slice p1 A.fin.length c1, .slice p2 A.ru.length c2]) := Lib.hid (HXk.out.kp HKm.out ⟨by omega, by omega⟩)
          have HRm : Hid (Blk wm (w.heap.size + 1) 27 #[.int .i64 0, .slice none 0 0, .slice none 0 0]) := Lib.hid (HRk.out.kp HKm.out ⟨by omega, by omega⟩)
          have HD0 : Hid (wm.ownsRow w4.heap.size 70 3 (.slice none 0 0) ([] : List (Ru × Value)).length (rcells [])) := Lib.hid (World.ownsRow_nil wm _ _ _)
          have x1 : wm.cell? ⟨w.heap.size, 2, none⟩ = some (.slice p2 A.ru.length c2) := by rw [HXm.out.cell]; rfl
          have xl := HXm.out.lt
          clear hjl HFm
          go_wp2_with fail
          go_loopw [62] (fun iv wr => ∃ (k : Nat) (D : List (Ru × Value)) (rv : Value), iv = .int .i64 (k : Nat) ∧ k ≤ A.ru.length ∧ Hid (wr.ownsRow w4.heap.size 70 3 rv D.length (rcells D)) ∧ Hid (D.map Prod.fst = ruK M (A.ru.take k)) ∧ Hid (∀ x ∈ D, IsIntsT w.heap.size wr x.2 x.1.fr) ∧ Hid (IsIntsT w.heap.size wr fv (finK M A.fin)) ∧ Hid (Blk wr w2.heap.size 27 #[.int .i64 (numK M n : Int), fv, rv]) ∧ Hid (Kp (fun c => c < w4.heap.size ∧ c ≠ w2.heap.size) wm wr))
            (fun iv _ => A.ru.length - (intOf iv).toNat)
          case atStart => exact ⟨0, [], _, rfl, by omega, HD0, Lib.hid rfl, Lib.hid (fun x hx => by cases hx), HFT, HOm, Lib.hid (Kp.refl _ _)⟩
          case round =>
            rename World => wr
            obtain ⟨k, D, rv, rfl, hk, HDr, HDM, HDI, HFr, HOr, HKr⟩ := hrel
            have hsr := HKr.out.size
            have HNr : Hid (Blk wr (w.heap.size + 1 + 1) 3 (intV (numL M n)).toArray) := Lib.hid (HNm.out.kp HKr.out ⟨by omega, by omega⟩)
            have HBr : Hid (Below w.heap.size w wr) := Lib.hid (HBm.out.trans (HKr.out.below HBm.out.size (fun c hc => ⟨by omega, by omega⟩)))
            have HKBr : Hid (BB wr kb M) := Lib.hid (HKBm.out.kp HKr.out ⟨by omega, by omega⟩)
            have HRr : Hid (Blk wr (w.heap.size + 1) 27 #[.int .i64 0, .slice none 0 0, .slice none 0 0]) := Lib.hid (HRm.out.kp HKr.out ⟨by omega, by omega⟩)
            by_cases hlt : k < A.ru.length
            · obtain ⟨r, hrk⟩ : ∃ r, A.ru[k]? = some r := ⟨_, List.getElem?_eq_getElem hlt⟩
              obtain ⟨b, o, rfl, hcl⟩ := HRC.out (fun h => by simp [h] at hlt)
              obtain ⟨q0w, ⟨u, q1w, hu⟩, q2w⟩ := hcl k r hrk
              have q0 := cell_later HBr.out q0w
              have q1 := cell_later HBr.out q1w
              have q2 := cell_later HBr.out q2w
              clear q0w q1w q2w
              have HU := Lib.hid hu
              obtain ⟨pu, cu, rfl, hu3, hu4, huc⟩ := hu
              unfold maxLen at hu4
              have HRK := Lib.hid hrk
              obtain ⟨rs, fr, rt⟩ := r
              have hin := HRU.out _ (List.mem_of_getElem? hrk)
              have hf3r := HR3.out _ (List.mem_of_getElem? hrk)
              simp only at q0 q1 q2 hu3 HU hin huc hf3r
              obtain ⟨qt, hqt, hqn⟩ := st_nat HST.out hin.1
              subst hqt
              have HFI := Lib.hid hin.2
              have HUC := Lib.hid huc
              have hbl := World.block_lt_of_cell? _ _ q0
              simp only at hbl
              have hk1 : (k : Int) < (A.ru.length : Int) := by omega
              have hqi : (qt : Int) < (n : Int) := by omega
              obtain ⟨wa, hwa⟩ : ∃ wa, wa = wr.alloc (.cells #[.int .i64 rs, .slice pu fr.length cu, .int .i64 (qt : Int)] 70) := ⟨_, rfl⟩
              have HKA : Hid (Kp (fun _ => True) wr wa) := Lib.hid (hwa ▸ (Kp.refl _ wr).alloc _)
              have HNA : Hid (Blk wa wr.heap.size 70 #[.int .i64 rs, .slice pu fr.length cu, .int .i64 (qt : Int)]) := Lib.hid (hwa ▸ Blk.new wr _ _)
              have HKBA : Hid (BB wa kb M) := Lib.hid (HKBr.out.kp HKA.out trivial)
              have HBA : Hid (Below w.heap.size w wa) := Lib.hid (HBr.out.trans (HKA.out.below HBr.out.size (fun _ _ => trivial)))
              have b0 : wa.cell? ⟨kb, qt, none⟩ = some (.bool (M.getD qt false)) := HKBA.out.at (by have := HML.out; omega)
              have n2 : wa.cell? ⟨wr.heap.size, 2, none⟩ = some (.int .i64 (qt : Int)) := by rw [HNA.out.cell]; rfl
              have n1 : wa.cell? ⟨wr.heap.size, 1, none⟩ = some (.slice pu fr.length cu) := by rw [HNA.out.cell]; rfl
              have nl := HNA.out.lt
              have bl2 : kb < wa.heap.size := by have := HKA.out.size; omega
              have hsa : w4.heap.size ≤ wa.heap.size := by have := HKA.out.size; omega
              obtain ⟨t0, ht0⟩ : ∃ t0, t0 = M.getD qt false := ⟨_, rfl⟩
              rw [← ht0] at b0
              have HT0 := Lib.hid ht0
              rw [hwa] at b0 n1 n2 nl bl2
              have HWA := Lib.hid hwa
              have HFO : Hid (wa.ownsRow wa.heap.size 3 1 (.slice none 0 0) ((fr.take 0).map (nuR M)).length (intV ((fr.take 0).map (nuR M)))) := Lib.hid (World.ownsRow_nil wa _ _ _)
              clear hrk hcl hin huc hwa ht0
              go_wp2_with fail
              have HWA' := HWA.out
              simp only [← HWA'] at *
              clear HWA' HWA
              go_loopw [13, 14, 74] (fun bv va jv wj => ∃ (j : Nat) (β : Bool), jv = .int .i64 (j : Nat) ∧ bv = .bool β ∧ j ≤ fr.length ∧ Hid (β = (t0 && mkd M (fr.take j))) ∧ Hid (wj.ownsRow wa.heap.size 3 1 va ((fr.take j).map (nuR M)).length (intV ((fr.take j).map (nuR M)))) ∧ Hid (Kp (fun _ => True) wa wj)) (fun _ _ jv _ => fr.length - (intOf jv).toNat)
              case atStart => exact ⟨0, t0, rfl, rfl, by omega, Lib.hid (by simp [mkd]), HFO, Lib.hid (Kp.refl _ _)⟩
              case round =>
                rename World => wj
                obtain ⟨j, β, rfl, rfl, hj3, HBE, HFj, HKj⟩ := hrel
                have hsj := HKj.out.size
                by_cases hjl : j < fr.length
                · obtain ⟨x, hx⟩ : ∃ x, fr[j]? = some x := ⟨_, List.getElem?_eq_getElem hjl⟩
                  obtain ⟨qx, rfl, hqx⟩ := st_nat HST.out (HFI.out x (List.mem_of_getElem? hx))
                  obtain ⟨bu, ou, rfl, hcu⟩ := HUC.out (fun h => by simp [h] at hjl)
                  have HBj : Hid (Below w.heap.size w wj) := Lib.hid (HBA.out.trans (HKj.out.below HBA.out.size (fun _ _ => trivial)))
                  have u0 : wj.cell? ⟨bu, ou + j, none⟩ = some (.int .i64 (qx : Int)) := cell_later HBj.out (hcu j _ hx)
                  have HKBj : Hid (BB wj kb M) := Lib.hid (HKBA.out.kp HKj.out trivial)
                  have m2 : wj.cell? ⟨kb, qx, none⟩ = some (.bool (M.getD qx false)) := HKBj.out.at (by have := HML.out; omega)
                  have HNj : Hid (Blk wj (w.heap.size + 1 + 1) 3 (intV (numL M n)).toArray) := Lib.hid ((HNr.out.kp HKA.out trivial).kp HKj.out trivial)
                  have m3 := HNV.out wj qx HNj.out hqx
                  have m4 := HNj.out.lt
                  have m5 : kb < wj.heap.size := by omega
                  have hnl := numR_le M qx
                  have HT := Lib.hid (mkd_take (M := M) hx)
                  rw [Int.toNat_natCast] at HT
                  have hj1 : (j : Int) < (fr.length : Int) := by omega
                  have hq1 : (qx : Int) < (n : Int) := by omega
                  obtain ⟨nq, hnq⟩ : ∃ nq : Int, nq = (numR M qx : Int) := ⟨_, rfl⟩
                  rw [← hnq] at m3
                  have HTF : Hid ((fr.take (j + 1)).map (nuR M) = (fr.take j).map (nuR M) ++ [nq]) := Lib.hid (by
                    rw [List.take_add_one, hx, Option.toList_some, List.map_append, hnq]
                    rfl)
                  obtain ⟨af, mf, cf, rfl⟩ := own_slice HFj.out
                  have hlt2 : ((fr.take j).map (nuR M)).length ≤ 3 := by rw [List.length_map, List.length_take]; omega
                  have HXO : Hid (∀ o : Obj, (wj.alloc o).ownsRow wa.heap.size 3 1 (.slice af mf cf) ((fr.take j).map (nuR M)).length (intV ((fr.take j).map (nuR M)))) := Lib.hid (fun o => ownsRow_kp HFj.out ((Kp.refl (fun _ => True) wj).alloc o) (fun _ _ => trivial))
                  have HM1 : Hid (((fr.take j).map (nuR M)).length + 1 ≤ maxLen) := Lib.hid (by unfold maxLen; omega)
                  have HM2 : Hid ((((fr.take j).map (nuR M)).length + 1) * 8 ≤ 140737488355328) := Lib.hid (by omega)
                  have HSJ : Hid (∀ o : Obj, wa.heap.size ≤ (wj.alloc o).heap.size) := Lib.hid (fun o => by rw [World.size_alloc]; omega)
                  obtain ⟨γ, hγ⟩ : ∃ γ, γ = M.getD qx false := ⟨_, rfl⟩
                  rw [← hγ] at m2 HT
                  have HE2 : Hid ((β && γ) = (t0 && mkd M (fr.take (j + 1)))) := Lib.hid (by rw [HT.out, HBE.out, Bool.and_assoc])
                  clear hcu hx hnq hlt2 hγ hnl
                  have hfin9 : ∀ (v9 : Value) (w9 : World), w9.ownsRow wa.heap.size 3 1 v9 (((fr.take j).map (nuR M)).length + 1) (intV ((fr.take j).map (nuR M)) ++ [.int .i64 nq]) → (wj.alloc (.cells #[.int .i64 nq] 3)).grownBy w9 (Value.slice af mf cf).ownBlock → Hid (w9.ownsRow wa.heap.size 3 1 v9 ((fr.take (j + 1)).map (nuR M)).length (intV ((fr.take (j + 1)).map (nuR M)))) ∧ Hid (Kp (fun _ => True) wa w9) := fun v9 w9 ho9 hg9 => ⟨Lib.hid (by
                    rw [HTF.out, intV_app, List.length_append]
                    exact ho9), Lib.hid ((HKj.out.alloc _).grown hg9 (fun b e _ => by
                    obtain ⟨cur, _, hB⟩ := own_cells HFj.out e
                    exact hB))⟩
                  have HFIN := Lib.hid hfin9
                  clear hfin9
                  generalize hLL : (fr.take j).map (nuR M) = LL at *
                  clear hLL
                  cases β with
                  | false =>
                    go_wp2_with (at_builtin; refine wpList_append_own_at _ rfl (.tmp 85) (.tmp 90) 22 rfl wa.heap.size 3 i1 _ 1 8 Tryd.underlying22 HI1.out hy0 hy1 hy2 rfl (by decide) (.slice af mf cf) LL.length (intV LL) rfl (HXO.out _) _ 1 1 [.int .i64 nq] rfl rfl (new_one (Blk.new wj _ _)) (fun u hu => by rw [List.mem_singleton] at hu; subst hu; rfl) HM1.out HM2.out (HSJ.out _) ?_)
                    intro v9 w9 ho9 hg9 _ hat9
                    obtain ⟨HF9, HK9⟩ := HFIN.out v9 w9 ho9 hg9
                    clear ho9 hg9 hat9
                    go_wp2_with fail
                    go_roundw
                    case rel => exact ⟨j + 1, false, by go_num, rfl, by omega, HE2, HF9, HK9⟩
                    case measure => simp [intOf]; omega
                  | true =>
                    go_wp2_with (at_builtin; refine wpList_append_own_at _ rfl (.tmp 85) (.tmp 90) 22 rfl wa.heap.size 3 i1 _ 1 8 Tryd.underlying22 HI1.out hy0 hy1 hy2 rfl (by decide) (.slice af mf cf) LL.length (intV LL) rfl (HXO.out _) _ 1 1 [.int .i64 nq] rfl rfl (new_one (Blk.new wj _ _)) (fun u hu => by rw [List.mem_singleton] at hu; subst hu; rfl) HM1.out HM2.out (HSJ.out _) ?_)
                    intro v9 w9 ho9 hg9 _ hat9
                    obtain ⟨HF9, HK9⟩ := HFIN.out v9 w9 ho9 hg9
                    clear ho9 hg9 hat9
                    go_wp2_with fail
                    go_roundw
                    case rel => exact ⟨j + 1, γ, by go_num, rfl, by omega, by simpa using HE2, HF9, HK9⟩
                    case measure => simp [intOf]; omega
                · have hjd : decide (j < fr.length) = false := decide_eq_false hjl
                  have hjd2 : decide ((j : Int) < (fr.length : Int)) = false := decide_eq_false (by omega)
                  have HBF : Hid (β = keepB M ⟨rs, fr, (qt : Int)⟩) := Lib.hid (by
                    have h := HBE.out
                    rw [List.take_of_length_le (by omega), HT0.out] at h
                    rw [h]
                    rfl)
                  have HFF2 : Hid (wj.ownsRow wa.heap.size 3 1 u14 (fr.map (nuR M)).length (intV (fr.map (nuR M)))) := Lib.hid (by
                    have h := HFj.out
                    rw [List.take_of_length_le (by omega)] at h
                    exact h)
                  have HKWJ : Hid (Kp (fun _ => True) wr wj) := Lib.hid (HKA.out.trans HKj.out)
                  clear hjl HBE HFj
                  cases β with
                  | false =>
                    have HD5 : Hid (wj.ownsRow w4.heap.size 70 3 rv D.length (rcells D)) := Lib.hid (ownsRow_kp HDr.out HKWJ.out (fun _ _ => trivial))
                    have HM5 : Hid (D.map Prod.fst = ruK M (A.ru.take (k + 1))) := Lib.hid (by
                      rw [List.take_add_one, HRK.out, Option.toList_some, ruK_app, ruK_one, ← HBF.out, HDM.out]
                      simp)
                    have HI5 : Hid (∀ x ∈ D, IsIntsT w.heap.size wj x.2 x.1.fr) := Lib.hid (fun x hx => (HDI.out x hx).kp HKWJ.out (fun _ _ _ _ => trivial))
                    have HF5 : Hid (IsIntsT w.heap.size wj fv (finK M A.fin)) := Lib.hid (HFr.out.kp HKWJ.out (fun _ _ _ _ => trivial))
                    have HO5 : Hid (Blk wj w2.heap.size 27 #[.int .i64 (numK M n : Int), fv, rv]) := Lib.hid (HOr.out.kp HKWJ.out trivial)
                    have HK5 : Hid (Kp (fun c => c < w4.heap.size ∧ c ≠ w2.heap.size) wm wj) := Lib.hid (HKr.out.trans (HKWJ.out.mono (fun _ _ _ => trivial)))
                    go_wp2_with fail
                    go_roundw
                    case rel => exact ⟨k + 1, D, rv, by go_num, by omega, HD5, HM5, HI5, HF5, HO5, HK5⟩
                    case measure => simp [intOf]; omega
                  | true =>
                    obtain ⟨af, mf, cf, rfl⟩ := own_slice HFF2.out
                    obtain ⟨am, mm, cm, rfl⟩ := own_slice HDr.out
                    have HOJ : Hid (Blk wj w2.heap.size 27 #[.int .i64 (numK M n : Int), fv, .slice am mm cm]) := Lib.hid (HOr.out.kp HKWJ.out trivial)
                    have HNJ : Hid (Blk wj (w.heap.size + 1 + 1) 3 (intV (numL M n)).toArray) := Lib.hid (HNr.out.kp HKWJ.out trivial)
                    have HPJ : Hid (Blk wj wr.heap.size 70 #[.int .i64 rs, .slice pu fr.length cu, .int .i64 (qt : Int)]) := Lib.hid (HNA.out.kp HKj.out trivial)
                    have hVB : ∀ b, (Value.slice am mm cm).ownBlock = some b → w4.heap.size ≤ b ∧ b < wr.heap.size ∧ ∃ cur, Blk wr b 70 cur := fun b e => by
                      obtain ⟨cur, hc, hB⟩ := own_cells HDr.out e
                      exact ⟨hB, hc.lt, cur, hc⟩
                    have HVB := Lib.hid hVB
                    have HVO : Hid ((Value.slice am mm cm).ownBlock ≠ some (w.heap.size + 1 + 1) ∧ (Value.slice am mm cm).ownBlock ≠ some w2.heap.size ∧ (Value.slice am mm cm).ownBlock ≠ some wr.heap.size) := Lib.hid ⟨fun e => by have := (hVB _ e).1; omega, fun e => by have := (hVB _ e).1; omega, fun e => by have := (hVB _ e).2.1; omega⟩
                    have hnl3 := numR_le M qt
                    obtain ⟨nq, hnq⟩ : ∃ nq : Int, nq = (numR M qt : Int) := ⟨_, rfl⟩
                    have hnq0 : 0 ≤ nq ∧ nq ≤ 300 := by omega
                    have HNQ := Lib.hid hnq
                    have HCS : Hid (∀ W : World, Kp (fun c => (Value.slice am mm cm).ownBlock ≠ some c) wj W → ((W.cell? ⟨wr.heap.size, 0, none⟩ = some (.int .i64 rs) ∧ W.cell? ⟨wr.heap.size, 2, none⟩ = some (.int .i64 (qt : Int))) ∧ W.cell? ⟨w.heap.size + 1 + 1, qt, none⟩ = some (.int .i64 nq)) ∧ W.cell? ⟨w2.heap.size, 2, none⟩ = some (.slice am mm cm) ∧ W.frozen? ⟨w2.heap.size, 2, none⟩ = false ∧ w2.heap.size < W.heap.size) := Lib.hid (fun W hW => by
                      have h1 := HNJ.out.kp hW HVO.out.1
                      have h2 := HOJ.out.kp hW HVO.out.2.1
                      have h3 := HPJ.out.kp hW HVO.out.2.2
                      exact ⟨⟨⟨by rw [h3.cell]; rfl, by rw [h3.cell]; rfl⟩, by rw [HNV.out W qt h1 hqn, ← HNQ.out]⟩, by rw [h2.cell]; rfl, h2.frozen _, h2.lt⟩)
                    have HC2 : Hid (∀ W : World, Kp (fun c => (Value.slice am mm cm).ownBlock ≠ some c ∧ c ≠ w2.heap.size) wj W → (W.cell? ⟨wr.heap.size, 0, none⟩ = some (.int .i64 rs) ∧ W.cell? ⟨wr.heap.size, 2, none⟩ = some (.int .i64 (qt : Int))) ∧ W.cell? ⟨w.heap.size + 1 + 1, qt, none⟩ = some (.int .i64 nq)) := Lib.hid (fun W hW => by
                      have h1 := HNJ.out.kp hW ⟨HVO.out.1, by omega⟩
                      have h3 := HPJ.out.kp hW ⟨HVO.out.2.2, by omega⟩
                      exact ⟨⟨by rw [h3.cell]; rfl, by rw [h3.cell]; rfl⟩, by rw [HNV.out W qt h1 hqn, ← HNQ.out]⟩)
                    have HKF : Hid (∀ W : World, Kp (fun c => (Value.slice am mm cm).ownBlock ≠ some c) wj W → ∀ u, Kp (fun c => (Value.slice am mm cm).ownBlock ≠ some c ∧ c ≠ w2.heap.size) wj (W.setCell ⟨w2.heap.size, 2, none⟩ u)) := Lib.hid (fun W hW u => (hW.mono (fun _ _ h => h.1)).setCell (p := ⟨w2.heap.size, 2, none⟩) (fun h => absurd rfl h.2) u)
                    have HKN : Hid (∀ W : World, Kp (fun c => (Value.slice am mm cm).ownBlock ≠ some c) wj W → Kp (fun c => (Value.slice am mm cm).ownBlock ≠ some c ∧ c ≠ w2.heap.size) wj W) := Lib.hid (fun W hW => hW.mono (fun _ _ h => h.1))
                    have HKX : Hid (∀ o : Obj, Kp (fun c => (Value.slice am mm cm).ownBlock ≠ some c) wj (wj.alloc o).drew) := Lib.hid (fun o => ((Kp.refl _ wj).alloc o).drew)
                    have HKG : Hid (∀ (o : Obj) (W : World), ((wj.alloc o).drew).grownBy W (Value.slice am mm cm).ownBlock → Kp (fun c => (Value.slice am mm cm).ownBlock ≠ some c) wj W) := Lib.hid (fun o W hg => ((Kp.refl _ wj).alloc o).drew.grown hg (fun k e hS => absurd e hS))
                    have HOX : Hid (∀ o : Obj, ((wj.alloc o).drew).ownsRow w4.heap.size 70 3 (.slice am mm cm) D.length (rcells D)) := Lib.hid (fun o => ownsRow_kp HDr.out (HKWJ.out.alloc o).drew (fun _ _ => trivial))
                    have HONE : Hid (∀ u ∈ [Value.int .i64 rs, .slice af mf cf, .int .i64 nq], u.oneCell' = true) := Lib.hid (one_three rfl)
                    have hDl : D.length ≤ 20000 := by
                      have h := congrArg List.length HDM.out
                      have h2 := ruK_len M (A.ru.take k)
                      rw [List.length_map] at h
                      rw [List.length_take] at h2
                      omega
                    have HM1 : Hid (D.length + 1 ≤ maxLen) := Lib.hid (by unfold maxLen; omega)
                    have HM2 : Hid ((D.length + 1) * 40 ≤ 140737488355328) := Lib.hid (by omega)
                    have HBS : Hid (∀ o : Obj, w4.heap.size ≤ ((wj.alloc o).drew).heap.size) := Lib.hid (fun o => Nat.le_trans (by omega) (sz_1 wj o))
                    have n0 := (HCS.out wj (Kp.refl _ _)).1
                    have c1 := (HCS.out wj.drew (Kp.refl _ _).drew).2.1
                    have c2 := (HCS.out (wj.alloc (.cells #[.int .i64 rs, .slice af mf cf, .int .i64 nq] 70)).drew ((Kp.refl _ wj).alloc _).drew).2.1
                    have c0 := (HCS.out wj (Kp.refl _ _)).2.1
                    have c2' := (HCS.out (wj.alloc (.cells #[.int .i64 rs, .slice af mf cf, .int .i64 nq] 70)) ((Kp.refl _ wj).alloc _)).2.1
                    have hol := HOJ.out.lt
                    have hnl := HNJ.out.lt
                    have hpl := HPJ.out.lt
                    obtain ⟨n00, n01⟩ := n0
                    obtain ⟨n02, n03⟩ := n00
                    clear hnq hnl3 hVB
                    go_wp2_with fail
                    refine wp_region_held_drew (S := (fun W => (W.cell? ⟨wr.heap.size, 0, none⟩ = some (.int .i64 rs) ∧ W.cell? ⟨wr.heap.size, 2, none⟩ = some (.int .i64 (qt : Int))) ∧ W.cell? ⟨w.heap.size + 1 + 1, qt, none⟩ = some (.int .i64 nq))) (by kernel_rfl) (by (try dsimp only); first | exact HC2.out _ (HKN.out _ (Kp.refl _ _).drew) | exact HC2.out _ (HKN.out _ (HKX.out _)) | exact HC2.out _ (HKN.out _ HK9.out) | exact HC2.out _ (HKF.out _ HK9.out _)) (fun hHeld => ?_)
                    refine wpAnyH_take (i := 0) (oi := ⟨some 94, _, _, _, _, _⟩) (v := ?v0b) rfl (by kernel_rfl) (by kernel_rfl) (by kernel_rfl) (fun _ _ _ h => h) (Or.inl ⟨by rfl, ?y0b⟩) (by assumption) ?r0b
                    case y0b => (intro w hSw; (try dsimp only at hSw); go_simp); (try with_reducible rfl)
                    (try simp only [Act.put, List.setIfInBounds_toArray, List.set_cons_zero, List.set_cons_succ])
                    refine wpAnyH_take (i := 2) (oi := ⟨some 96, _, _, _, _, _⟩) (v := ?v2b) rfl (by kernel_rfl) (by kernel_rfl) (by kernel_rfl) (fun _ _ _ h => h) (Or.inl ⟨by rfl, ?y2b⟩) (by assumption) ?r2b
                    case y2b => (intro w hSw; (try dsimp only at hSw); go_simp); (try with_reducible rfl)
                    (try simp only [Act.put, List.setIfInBounds_toArray, List.set_cons_zero, List.set_cons_succ])
                    refine wpAnyH_take (i := 3) (oi := ⟨some 97, _, _, _, _, _⟩) (v := ?v3b) rfl (by kernel_rfl) (by kernel_rfl) (by kernel_rfl) (fun _ _ _ h => h) (Or.inl ⟨by rfl, ?y3b⟩) (by assumption) ?r3b
                    case y3b => (intro w hSw; (try dsimp only at hSw); go_simp); (try with_reducible rfl)
                    (try simp only [Act.put, List.setIfInBounds_toArray, List.set_cons_zero, List.set_cons_succ])
                    refine wpAnyH_take (i := 4) (oi := ⟨some 98, _, _, _, _, _⟩) (v := ?v4b) rfl (by kernel_rfl) (by kernel_rfl) (by kernel_rfl) (fun _ _ _ h => h) (Or.inl ⟨by rfl, ?y4b⟩) (by assumption) ?r4b
                    case y4b => (intro w hSw; (try dsimp only at hSw); go_simp); (try with_reducible rfl)
                    (try simp only [Act.put, List.setIfInBounds_toArray, List.set_cons_zero, List.set_cons_succ])
                    refine wpAnyH_take (i := 5) (oi := ⟨some 99, _, _, _, _, _⟩) (v := ?v5b) rfl (by kernel_rfl) (by kernel_rfl) (by kernel_rfl) (fun _ _ _ h => h) (Or.inl ⟨by rfl, ?y5b⟩) (by assumption) ?r5b
                    case y5b => (intro w hSw; (try dsimp only at hSw); go_simp); (try with_reducible rfl)
                    (try simp only [Act.put, List.setIfInBounds_toArray, List.set_cons_zero, List.set_cons_succ])
                    refine wpAnyH_take (i := 6) (oi := ⟨some 100, _, _, _, _, _⟩) (v := ?v6b) rfl (by kernel_rfl) (by kernel_rfl) (by kernel_rfl) (fun _ _ _ h => h) (Or.inl ⟨by rfl, ?y6b⟩) (by assumption) ?r6b
                    case y6b => (intro w hSw; (try dsimp only at hSw); go_simp); (try with_reducible rfl)
                    (try simp only [Act.put, List.setIfInBounds_toArray, List.set_cons_zero, List.set_cons_succ])
                    refine wpAnyH_take (i := 7) (oi := ⟨some 101, _, _, _, _, _⟩) (v := ?v7b) rfl (by kernel_rfl) (by kernel_rfl) (by kernel_rfl) (fun _ _ _ h => h) (Or.inl ⟨by rfl, ?y7b⟩) (by assumption) ?r7b
                    case y7b => (intro w hSw; (try dsimp only at hSw); go_simp); (try with_reducible rfl)
                    (try simp only [Act.put, List.setIfInBounds_toArray, List.set_cons_zero, List.set_cons_succ])
                    refine wpAnyH_take (i := 8) (oi := ⟨some 102, _, _, _, _, _⟩) (v := ?v8b) rfl (by kernel_rfl) (by kernel_rfl) (by kernel_rfl) (fun _ _ _ h => h) (Or.inl ⟨by rfl, ?y8b⟩) (by assumption) ?r8b
                    case y8b => (intro w hSw; (try dsimp only at hSw); go_simp); (try with_reducible rfl)
                    (try simp only [Act.put, List.setIfInBounds_toArray, List.set_cons_zero, List.set_cons_succ])
                    refine wpAnyH_take (i := 9) (oi := ⟨some 103, _, _, _, _, _⟩) (v := ?v9b) rfl (by kernel_rfl) (by kernel_rfl) (by kernel_rfl) (fun _ _ _ h => h) (Or.inl ⟨by rfl, ?y9b⟩) (by assumption) ?r9b
                    case y9b => (intro w hSw; (try dsimp only at hSw); go_simp); (try with_reducible rfl)
                    (try simp only [Act.put, List.setIfInBounds_toArray, List.set_cons_zero, List.set_cons_succ])
                    refine wpAnyH_take (i := 10) (oi := ⟨some 104, _, _, _, _, _⟩) (v := ?v10b) rfl (by kernel_rfl) (by kernel_rfl) (by kernel_rfl) (fun _ _ _ h => h) (Or.inl ⟨by rfl, ?y10b⟩) (by assumption) ?r10b
                    case y10b => (intro w hSw; (try dsimp only at hSw); go_simp); (try with_reducible rfl)
                    (try simp only [Act.put, List.setIfInBounds_toArray, List.set_cons_zero, List.set_cons_succ])
                    refine wpAnyH_ready (rs := [1, 11]) (by kernel_rfl) (by simp) ?_
                    refine AllReadyH.cons rfl (fun K hK => ?_) (AllReadyH.cons rfl (fun K hK => ?_) AllReadyH.nil)
                    · skip
                      go_simp
                      refine hK.out _ _ (by (try dsimp only); first | exact HC2.out _ (HKN.out _ (Kp.refl _ _).drew) | exact HC2.out _ (HKN.out _ (HKX.out _)) | exact HC2.out _ (HKN.out _ HK9.out) | exact HC2.out _ (HKF.out _ HK9.out _)) (fun hHeld => ?_)
                      clear hK K
                      (try simp only [Act.put, List.setIfInBounds_toArray, List.set_cons_zero, List.set_cons_succ])
                      refine wpAnyH_ready (rs := [11]) (by kernel_rfl) (by simp) ?_
                      refine AllReadyH.cons rfl (fun K hK => ?_) AllReadyH.nil
                      go_simp
                      refine hK.out _ _ (by (try dsimp only); first | exact HC2.out _ (HKN.out _ (Kp.refl _ _).drew) | exact HC2.out _ (HKN.out _ (HKX.out _)) | exact HC2.out _ (HKN.out _ HK9.out) | exact HC2.out _ (HKF.out _ HK9.out _)) (fun hHeld => ?_)
                      clear hK K
                      (try simp only [Act.put, List.setIfInBounds_toArray, List.set_cons_zero, List.set_cons_succ])
                      refine wpAnyH_ready (rs := [12]) (by kernel_rfl) (by simp) ?_
                      refine AllReadyH.cons rfl (fun K hK => ?_) AllReadyH.nil
                      refine step_append_own _ rfl (.tmp 95) (.tmp 105) 25 rfl w4.heap.size 70 i2 _ 3 40 Tryd.underlying25 HI2.out hx0 hx1 hx2 rfl (by decide) (.slice am mm cm) D.length (rcells D) rfl (HOX.out _) _ 1 1 [.int .i64 rs, .slice af mf cf, .int .i64 nq] rfl rfl (new_three (bk_11 wj _ _)) HONE.out HM1.out HM2.out (HBS.out _) ?_
                      intro v9 w9 ho9 hg9 hat9
                      obtain ⟨a9, m9, k9, rfl⟩ := own_slice ho9
                      have HO9 := Lib.hid ho9
                      have HK9 := Lib.hid (HKG.out _ w9 hg9)
                      have c3 := (HCS.out w9 HK9.out).2.1
                      have f3 := (HCS.out w9 HK9.out).2.2.1
                      have l3 := (HCS.out w9 HK9.out).2.2.2
                      clear ho9 hg9 hat9
                      refine hK.out _ _ (by (try dsimp only); first | exact HC2.out _ (HKN.out _ (Kp.refl _ _).drew) | exact HC2.out _ (HKN.out _ (HKX.out _)) | exact HC2.out _ (HKN.out _ HK9.out) | exact HC2.out _ (HKF.out _ HK9.out _)) (fun hHeld => ?_)
                      clear hK K
                      (try simp only [Act.put, List.setIfInBounds_toArray, List.set_cons_zero, List.set_cons_succ])
                      refine wpAnyH_take (i := 13) (oi := ⟨some 107, _, _, _, _, _⟩) (v := ?v13bp) rfl (by kernel_rfl) (by kernel_rfl) (by kernel_rfl) (fun _ _ _ h => h) (Or.inl ⟨by rfl, ?y13bp⟩) (by assumption) ?r13bp
                      case y13bp => (intro w hSw; (try dsimp only at hSw); go_simp); (try with_reducible rfl)
                      (try simp only [Act.put, List.setIfInBounds_toArray, List.set_cons_zero, List.set_cons_succ])
                      refine wpAnyH_ready (rs := [14]) (by kernel_rfl) (by simp) ?_
                      refine AllReadyH.cons rfl (fun K hK => ?_) AllReadyH.nil
                      go_simp
                      refine hK.out _ _ (by (try dsimp only); first | exact HC2.out _ (HKN.out _ (Kp.refl _ _).drew) | exact HC2.out _ (HKN.out _ (HKX.out _)) | exact HC2.out _ (HKN.out _ HK9.out) | exact HC2.out _ (HKF.out _ HK9.out _)) (fun hHeld => ?_)
                      clear hK K
                      (try simp only [Act.put, List.setIfInBounds_toArray, List.set_cons_zero, List.set_cons_succ])
                      refine wpAnyH_done (by kernel_rfl) ?_ _
                      have hk9 := HKF.out w9 HK9.out (.slice a9 m9 k9)
                      have hk10 : Kp (fun c => (Value.slice am mm cm).ownBlock ≠ some c ∧ c ≠ w2.heap.size) wr (w9.setCell ⟨w2.heap.size, 2, none⟩ (.slice a9 m9 k9)) := (HKWJ.out.mono (fun _ _ _ => trivial)).trans hk9
                      have hint : ∀ b cur, w.heap.size ≤ b → Blk wr b 3 cur → (Value.slice am mm cm).ownBlock ≠ some b ∧ b ≠ w2.heap.size := fun b cur _ hb => ⟨fun e => by
                        obtain ⟨_, _, cur2, hc2⟩ := HVB.out b e
                        exact hb.ne_ hc2 (by decide) rfl, hb.ne_ HOr.out (by decide)⟩
                      have hintj : ∀ b cur, w.heap.size ≤ b → Blk wj b 3 cur → (Value.slice am mm cm).ownBlock ≠ some b ∧ b ≠ w2.heap.size := fun b cur _ hb => ⟨fun e => by
                        obtain ⟨_, _, cur2, hc2⟩ := HVB.out b e
                        exact hb.ne_ (hc2.kp HKWJ.out trivial) (by decide) rfl, hb.ne_ HOJ.out (by decide)⟩
                      have hkeep : M.getD qt false = true ∧ mkd M fr = true := by
                        have h := HBF.out
                        unfold keepB at h
                        rw [eq_comm, Bool.and_eq_true] at h
                        simpa using h
                      have hren : renum M ⟨rs, fr, (qt : Int)⟩ = ⟨rs, fr.map (nuR M), nq⟩ := by
                        unfold renum
                        rw [map_nuR hkeep.2, HNQ.out]
                        congr 1
                        rw [← nuR_eq (by rw [Int.toNat_natCast]; exact hkeep.1)]
                        rfl
                      have HD10 : Hid ((w9.setCell ⟨w2.heap.size, 2, none⟩ (.slice a9 m9 k9)).ownsRow w4.heap.size 70 3 (.slice a9 m9 k9) (D ++ [((⟨rs, fr.map (nuR M), nq⟩ : Ru), Value.slice af mf cf)]).length (rcells (D ++ [((⟨rs, fr.map (nuR M), nq⟩ : Ru), Value.slice af mf cf)]))) := Lib.hid (by
                        rw [rcells_app, List.length_append]
                        exact ownsRow_kp HO9.out ((Kp.refl (fun c => c ≠ w2.heap.size) w9).setCell (p := ⟨w2.heap.size, 2, none⟩) (fun h => absurd rfl h) _) (fun b e => by
                          obtain ⟨cur, _, hB⟩ := own_cells HO9.out e
                          omega))
                      have HM10 : Hid ((D ++ [((⟨rs, fr.map (nuR M), nq⟩ : Ru), Value.slice af mf cf)]).map Prod.fst = ruK M (A.ru.take (k + 1))) := Lib.hid (by
                        rw [List.take_add_one, HRK.out, Option.toList_some, ruK_app, ruK_one, ← HBF.out, if_pos rfl, List.map_append, HDM.out, hren]
                        rfl)
                      have HI10 : Hid (∀ x ∈ D ++ [((⟨rs, fr.map (nuR M), nq⟩ : Ru), Value.slice af mf cf)], IsIntsT w.heap.size (w9.setCell ⟨w2.heap.size, 2, none⟩ (.slice a9 m9 k9)) x.2 x.1.fr) := Lib.hid (fun x hx => by
                        rcases List.mem_append.1 hx with h | h
                        · exact (HDI.out x h).kp hk10 hint
                        · rw [List.mem_singleton] at h
                          subst h
                          exact (own_intsT HFF2.out (by omega : w.heap.size ≤ wa.heap.size)).kp hk9 hintj)
                      have HF10 : Hid (IsIntsT w.heap.size (w9.setCell ⟨w2.heap.size, 2, none⟩ (.slice a9 m9 k9)) fv (finK M A.fin)) := Lib.hid (HFr.out.kp hk10 hint)
                      have HO10 : Hid (Blk (w9.setCell ⟨w2.heap.size, 2, none⟩ (.slice a9 m9 k9)) w2.heap.size 27 #[.int .i64 (numK M n : Int), fv, .slice a9 m9 k9]) := Lib.hid (by
                        have h := (HOJ.out.kp HK9.out HVO.out.2.1).set_ 2 (.slice a9 m9 k9)
                        simpa using h)
                      have HK10 : Hid (Kp (fun c => c < w4.heap.size ∧ c ≠ w2.heap.size) wm (w9.setCell ⟨w2.heap.size, 2, none⟩ (.slice a9 m9 k9))) := Lib.hid (HKr.out.trans (hk10.mono (fun c _ hc => ⟨fun e => by have := (HVB.out c e).1; have := hc.1; omega, hc.2⟩)))
                      clear hk9 hk10 hint hintj hkeep hren c0 c1 c2 c2' c3 f3 l3 n01 n02 n03 hol hnl hpl
                      generalize w9.setCell ⟨w2.heap.size, 2, none⟩ (.slice a9 m9 k9) = w5 at *
                      go_wp2_with fail
                      go_roundw
                      case rel => exact ⟨k + 1, _, _, by go_num, by omega, HD10, HM10, HI10, HF10, HO10, HK10⟩
                      case measure => simp [intOf]; omega
                    · skip
                      go_simp
                      refine hK.out _ _ (by (try dsimp only); first | exact HC2.out _ (HKN.out _ (Kp.refl _ _).drew) | exact HC2.out _ (HKN.out _ (HKX.out _)) | exact HC2.out _ (HKN.out _ HK9.out) | exact HC2.out _ (HKF.out _ HK9.out _)) (fun hHeld => ?_)
                      clear hK K
                      (try simp only [Act.put, List.setIfInBounds_toArray, List.set_cons_zero, List.set_cons_succ])
                      refine wpAnyH_ready (rs := [1]) (by kernel_rfl) (by simp) ?_
                      refine AllReadyH.cons rfl (fun K hK => ?_) AllReadyH.nil
                      go_simp
                      refine hK.out _ _ (by (try dsimp only); first | exact HC2.out _ (HKN.out _ (Kp.refl _ _).drew) | exact HC2.out _ (HKN.out _ (HKX.out _)) | exact HC2.out _ (HKN.out _ HK9.out) | exact HC2.out _ (HKF.out _ HK9.out _)) (fun hHeld => ?_)
                      clear hK K
                      (try simp only [Act.put, List.setIfInBounds_toArray, List.set_cons_zero, List.set_cons_succ])
                      refine wpAnyH_ready (rs := [12]) (by kernel_rfl) (by simp) ?_
                      refine AllReadyH.cons rfl (fun K hK => ?_) AllReadyH.nil
                      refine step_append_own _ rfl (.tmp 95) (.tmp 105) 25 rfl w4.heap.size 70 i2 _ 3 40 Tryd.underlying25 HI2.out hx0 hx1 hx2 rfl (by decide) (.slice am mm cm) D.length (rcells D) rfl (HOX.out _) _ 1 1 [.int .i64 rs, .slice af mf cf, .int .i64 nq] rfl rfl (new_three (bk_11 wj _ _)) HONE.out HM1.out HM2.out (HBS.out _) ?_
                      intro v9 w9 ho9 hg9 hat9
                      obtain ⟨a9, m9, k9, rfl⟩ := own_slice ho9
                      have HO9 := Lib.hid ho9
                      have HK9 := Lib.hid (HKG.out _ w9 hg9)
                      have c3 := (HCS.out w9 HK9.out).2.1
                      have f3 := (HCS.out w9 HK9.out).2.2.1
                      have l3 := (HCS.out w9 HK9.out).2.2.2
                      clear ho9 hg9 hat9
                      refine hK.out _ _ (by (try dsimp only); first | exact HC2.out _ (HKN.out _ (Kp.refl _ _).drew) | exact HC2.out _ (HKN.out _ (HKX.out _)) | exact HC2.out _ (HKN.out _ HK9.out) | exact HC2.out _ (HKF.out _ HK9.out _)) (fun hHeld => ?_)
                      clear hK K
                      (try simp only [Act.put, List.setIfInBounds_toArray, List.set_cons_zero, List.set_cons_succ])
                      refine wpAnyH_take (i := 13) (oi := ⟨some 107, _, _, _, _, _⟩) (v := ?v13bq) rfl (by kernel_rfl) (by kernel_rfl) (by kernel_rfl) (fun _ _ _ h => h) (Or.inl ⟨by rfl, ?y13bq⟩) (by assumption) ?r13bq
                      case y13bq => (intro w hSw; (try dsimp only at hSw); go_simp); (try with_reducible rfl)
                      (try simp only [Act.put, List.setIfInBounds_toArray, List.set_cons_zero, List.set_cons_succ])
                      refine wpAnyH_ready (rs := [14]) (by kernel_rfl) (by simp) ?_
                      refine AllReadyH.cons rfl (fun K hK => ?_) AllReadyH.nil
                      go_simp
                      refine hK.out _ _ (by (try dsimp only); first | exact HC2.out _ (HKN.out _ (Kp.refl _ _).drew) | exact HC2.out _ (HKN.out _ (HKX.out _)) | exact HC2.out _ (HKN.out _ HK9.out) | exact HC2.out _ (HKF.out _ HK9.out _)) (fun hHeld => ?_)
                      clear hK K
                      (try simp only [Act.put, List.setIfInBounds_toArray, List.set_cons_zero, List.set_cons_succ])
                      refine wpAnyH_done (by kernel_rfl) ?_ _
                      have hk9 := HKF.out w9 HK9.out (.slice a9 m9 k9)
                      have hk10 : Kp (fun c => (Value.slice am mm cm).ownBlock ≠ some c ∧ c ≠ w2.heap.size) wr (w9.setCell ⟨w2.heap.size, 2, none⟩ (.slice a9 m9 k9)) := (HKWJ.out.mono (fun _ _ _ => trivial)).trans hk9
                      have hint : ∀ b cur, w.heap.size ≤ b → Blk wr b 3 cur → (Value.slice am mm cm).ownBlock ≠ some b ∧ b ≠ w2.heap.size := fun b cur _ hb => ⟨fun e => by
                        obtain ⟨_, _, cur2, hc2⟩ := HVB.out b e
                        exact hb.ne_ hc2 (by decide) rfl, hb.ne_ HOr.out (by decide)⟩
                      have hintj : ∀ b cur, w.heap.size ≤ b → Blk wj b 3 cur → (Value.slice am mm cm).ownBlock ≠ some b ∧ b ≠ w2.heap.size := fun b cur _ hb => ⟨fun e => by
                        obtain ⟨_, _, cur2, hc2⟩ := HVB.out b e
                        exact hb.ne_ (hc2.kp HKWJ.out trivial) (by decide) rfl, hb.ne_ HOJ.out (by decide)⟩
                      have hkeep : M.getD qt false = true ∧ mkd M fr = true := by
                        have h := HBF.out
                        unfold keepB at h
                        rw [eq_comm, Bool.and_eq_true] at h
                        simpa using h
                      have hren : renum M ⟨rs, fr, (qt : Int)⟩ = ⟨rs, fr.map (nuR M), nq⟩ := by
                        unfold renum
                        rw [map_nuR hkeep.2, HNQ.out]
                        congr 1
                        rw [← nuR_eq (by rw [Int.toNat_natCast]; exact hkeep.1)]
                        rfl
                      have HD10 : Hid ((w9.setCell ⟨w2.heap.size, 2, none⟩ (.slice a9 m9 k9)).ownsRow w4.heap.size 70 3 (.slice a9 m9 k9) (D ++ [((⟨rs, fr.map (nuR M), nq⟩ : Ru), Value.slice af mf cf)]).length (rcells (D ++ [((⟨rs, fr.map (nuR M), nq⟩ : Ru), Value.slice af mf cf)]))) := Lib.hid (by
                        rw [rcells_app, List.length_append]
                        exact ownsRow_kp HO9.out ((Kp.refl (fun c => c ≠ w2.heap.size) w9).setCell (p := ⟨w2.heap.size, 2, none⟩) (fun h => absurd rfl h) _) (fun b e => by
                          obtain ⟨cur, _, hB⟩ := own_cells HO9.out e
                          omega))
                      have HM10 : Hid ((D ++ [((⟨rs, fr.map (nuR M), nq⟩ : Ru), Value.slice af mf cf)]).map Prod.fst = ruK M (A.ru.take (k + 1))) := Lib.hid (by
                        rw [List.take_add_one, HRK.out, Option.toList_some, ruK_app, ruK_one, ← HBF.out, if_pos rfl, List.map_append, HDM.out, hren]
                        rfl)
                      have HI10 : Hid (∀ x ∈ D ++ [((⟨rs, fr.map (nuR M), nq⟩ : Ru), Value.slice af mf cf)], IsIntsT w.heap.size (w9.setCell ⟨w2.heap.size, 2, none⟩ (.slice a9 m9 k9)) x.2 x.1.fr) := Lib.hid (fun x hx => by
                        rcases List.mem_append.1 hx with h | h
                        · exact (HDI.out x h).kp hk10 hint
                        · rw [List.mem_singleton] at h
                          subst h
                          exact (own_intsT HFF2.out (by omega : w.heap.size ≤ wa.heap.size)).kp hk9 hintj)
                      have HF10 : Hid (IsIntsT w.heap.size (w9.setCell ⟨w2.heap.size, 2, none⟩ (.slice a9 m9 k9)) fv (finK M A.fin)) := Lib.hid (HFr.out.kp hk10 hint)
                      have HO10 : Hid (Blk (w9.setCell ⟨w2.heap.size, 2, none⟩ (.slice a9 m9 k9)) w2.heap.size 27 #[.int .i64 (numK M n : Int), fv, .slice a9 m9 k9]) := Lib.hid (by
                        have h := (HOJ.out.kp HK9.out HVO.out.2.1).set_ 2 (.slice a9 m9 k9)
                        simpa using h)
                      have HK10 : Hid (Kp (fun c => c < w4.heap.size ∧ c ≠ w2.heap.size) wm (w9.setCell ⟨w2.heap.size, 2, none⟩ (.slice a9 m9 k9))) := Lib.hid (HKr.out.trans (hk10.mono (fun c _ hc => ⟨fun e => by have := (HVB.out c e).1; have := hc.1; omega, hc.2⟩)))
                      clear hk9 hk10 hint hintj hkeep hren c0 c1 c2 c2' c3 f3 l3 n01 n02 n03 hol hnl hpl
                      generalize w9.setCell ⟨w2.heap.size, 2, none⟩ (.slice a9 m9 k9) = w5 at *
                      go_wp2_with fail
                      go_roundw
                      case rel => exact ⟨k + 1, _, _, by go_num, by omega, HD10, HM10, HI10, HF10, HO10, HK10⟩
                      case measure => simp [intOf]; omega
            · have hge : A.ru.length ≤ k := by omega
              have hkd : decide (k < A.ru.length) = false := decide_eq_false hlt
              have hkd2 : decide ((k : Int) < (A.ru.length : Int)) = false := decide_eq_false (by omega)
              have HMF : Hid (D.map Prod.fst = ruK M A.ru) := Lib.hid (by
                have h := HDM.out
                rw [List.take_of_length_le hge] at h
                exact h)
              have HRU2 : Hid (IsRus wr rv (ruK M A.ru)) := Lib.hid (by
                have h := isRus_of (w0 := wr) HDr.out (fun x hx => (HDI.out x hx).isInts) (Below.refl _ _)
                rw [HMF.out] at h
                exact h)
              have HTY : Hid (∀ b o n c, rv = .slice (some ⟨b, o, none⟩) n c → ∀ (i : Nat) r u, (ruK M A.ru)[i]? = some r → wr.cell? ⟨b, o + i * 3 + 1, none⟩ = some u → IsIntsT w.heap.size wr u r.fr) := Lib.hid (fun b o n2 c e i r u hr hc => by
                rw [← HMF.out, List.getElem?_map] at hr
                cases hx : D[i]? with
                | none => rw [hx] at hr; cases hr
                | some x =>
                  rw [hx] at hr
                  simp only [Option.map_some, Option.some.injEq] at hr
                  subst hr
                  have hil := (List.getElem?_eq_some_iff.1 hx).1
                  obtain ⟨g, cap, e2, _⟩ := row3_shape HDr.out (by omega)
                  rw [e] at e2
                  simp only [Value.slice.injEq, Option.some.injEq, Addr.mk.injEq] at e2
                  obtain ⟨⟨rfl, rfl, _⟩, rfl, rfl⟩ := e2
                  subst e
                  have h2 := row3_cell HDr.out _ _ (rcells_at hx).2.1
                  rw [Nat.zero_add, h2] at hc
                  cases hc
                  exact HDI.out x (List.mem_of_getElem? hx))
              have HSO := Lib.hid (rsort_ok (ruK M A.ru) rv wr (IsIntsT w.heap.size wr) HRU2.out HTY.out (Nat.le_trans (ruK_len M A.ru) hlen) (fun r hr => by
                obtain ⟨r', hr', e⟩ := List.mem_map.1 hr
                subst e
                show (r'.fr.map (nuI M)).length ≤ 1000
                rw [List.length_map]
                have := HR3.out r' (List.mem_filter.1 hr').1
                omega))
              have o2 : wr.cell? ⟨w2.heap.size, 2, none⟩ = some rv := by rw [HOr.out.cell]; rfl
              have ol := HOr.out.lt
              obtain ⟨am, mm, cm, rfl⟩ := own_slice HDr.out
              have hbr := HBr.out.size
              clear hge hlt
              go_wp2_with fail
              refine HSO.out.mono ?_
              rintro e w5 ⟨⟨u, D2, rfl, ho5, hs5, hm5, hi5⟩, hb5⟩
              have HI5 := Lib.hid hi5
              have HOW5 := Lib.hid ho5
              have HBB5 := Lib.hid hb5
              obtain ⟨a5, m5, k5, rfl⟩ := own_slice ho5
              have HS5 := Lib.hid hs5
              have HM5 := Lib.hid hm5
              have HB5 : Hid (Below w.heap.size w w5) := Lib.hid (HBr.out.trans (hb5.mono HBr.out.size))
              have HO5 : Hid (Blk w5 w2.heap.size 27 #[.int .i64 (numK M n : Int), fv, .slice am mm cm]) := Lib.hid (HOr.out.below hb5 HOr.out.lt)
              have HR5 : Hid (Blk w5 (w.heap.size + 1) 27 #[.int .i64 0, .slice none 0 0, .slice none 0 0]) := Lib.hid (HRr.out.below hb5 HRr.out.lt)
              have HF5 : Hid (IsInts w5 fv (finK M A.fin)) := Lib.hid (HFr.out.isInts.below hb5)
              have HBI : Hid (∀ b, (Value.slice a5 m5 k5).ownBlock = some b → wr.heap.size ≤ b) := Lib.hid (fun b e => by
                obtain ⟨cur, _, hB⟩ := own_cells ho5 e
                exact hB)
              have hfT := HFr.out
              obtain ⟨pf, cf, rfl, _, _, hfb⟩ := hfT
              have HFB : Hid (finK M A.fin ≠ [] → ∃ b o, pf = some ⟨b, o, none⟩ ∧ b ≠ w2.heap.size ∧ b ≠ w.heap.size + 1) := Lib.hid (fun hne => by
                obtain ⟨b, o, cur, e, _, hb, _⟩ := hfb hne
                exact ⟨b, o, e, hb.ne_ HOr.out (by decide), hb.ne_ HRr.out (by decide)⟩)
              clear ho5 hs5 hm5 hi5 hb5 hfb HSO o2 ol
              have z2 : w5.cell? ⟨w2.heap.size, 2, none⟩ = some (.slice am mm cm) := by rw [HO5.out.cell]; rfl
              have z1 : w5.cell? ⟨w2.heap.size, 1, none⟩ = some (.slice pf (finK M A.fin).length cf) := by rw [HO5.out.cell]; rfl
              have z0 : w5.cell? ⟨w2.heap.size, 0, none⟩ = some (.int .i64 (numK M n : Int)) := by rw [HO5.out.cell]; rfl
              have zf := HO5.out.frozen 2
              have zl := HO5.out.lt
              have y0 : w5.cell? ⟨w.heap.size + 1, 0, none⟩ = some (.int .i64 0) := by rw [HR5.out.cell]; rfl
              have y1 : w5.cell? ⟨w.heap.size + 1, 1, none⟩ = some (.slice none 0 0) := by rw [HR5.out.cell]; rfl
              have y2 : w5.cell? ⟨w.heap.size + 1, 2, none⟩ = some (.slice none 0 0) := by rw [HR5.out.cell]; rfl
              have yf0 := HR5.out.frozen 0
              have yf1 := HR5.out.frozen 1
              have yf2 := HR5.out.frozen 2
              have yl := HR5.out.lt
              have hne1 : ¬ w.heap.size + 1 = w2.heap.size := by omega
              have hne2 : ¬ w2.heap.size = w.heap.size + 1 := by omega
              go_wp2_with fail
              have hkf : Kp (fun c => c ≠ w2.heap.size ∧ c ≠ w.heap.size + 1) w5 ((((w5.setCell ⟨w2.heap.size, 2, none⟩ (.slice a5 m5 k5)).setCell ⟨w.heap.size + 1, 0, none⟩ (.int .i64 (numK M n : Int))).setCell ⟨w.heap.size + 1, 1, none⟩ (.slice pf (finK M A.fin).length cf)).setCell ⟨w.heap.size + 1, 2, none⟩ (.slice a5 m5 k5)) :=
                ((((Kp.refl _ w5).setCell (p := ⟨w2.heap.size, 2, none⟩) (fun h => absurd rfl h.1) _).setCell (p := ⟨w.heap.size + 1, 0, none⟩) (fun h => absurd rfl h.2) _).setCell (p := ⟨w.heap.size + 1, 1, none⟩) (fun h => absurd rfl h.2) _).setCell (p := ⟨w.heap.size + 1, 2, none⟩) (fun h => absurd rfl h.2) _
              have hbf : Blk ((((w5.setCell ⟨w2.heap.size, 2, none⟩ (.slice a5 m5 k5)).setCell ⟨w.heap.size + 1, 0, none⟩ (.int .i64 (numK M n : Int))).setCell ⟨w.heap.size + 1, 1, none⟩ (.slice pf (finK M A.fin).length cf)).setCell ⟨w.heap.size + 1, 2, none⟩ (.slice a5 m5 k5)) (w.heap.size + 1) 27 #[.int .i64 (numK M n : Int), .slice pf (finK M A.fin).length cf, .slice a5 m5 k5] := by
                have h := (((HR5.out.far (p := ⟨w2.heap.size, 2, none⟩) hne1 (.slice a5 m5 k5)).set_ 0 (.int .i64 (numK M n : Int))).set_ 1 (.slice pf (finK M A.fin).length cf)).set_ 2 (.slice a5 m5 k5)
                simpa using h
              have hBf : Below w.heap.size w ((((w5.setCell ⟨w2.heap.size, 2, none⟩ (.slice a5 m5 k5)).setCell ⟨w.heap.size + 1, 0, none⟩ (.int .i64 (numK M n : Int))).setCell ⟨w.heap.size + 1, 1, none⟩ (.slice pf (finK M A.fin).length cf)).setCell ⟨w.heap.size + 1, 2, none⟩ (.slice a5 m5 k5)) :=
                HB5.out.trans (hkf.below HB5.out.size (fun c hc => ⟨by omega, by omega⟩))
              generalize (((w5.setCell ⟨w2.heap.size, 2, none⟩ (.slice a5 m5 k5)).setCell ⟨w.heap.size + 1, 0, none⟩ (.int .i64 (numK M n : Int))).setCell ⟨w.heap.size + 1, 1, none⟩ (.slice pf (finK M A.fin).length cf)).setCell ⟨w.heap.size + 1, 2, none⟩ (.slice a5 m5 k5) = wf at *
              refine bodyPost_ret (results_cell_row rfl _ _ (w.heap.size + 1) 27 _ (0, 0) _ rfl hbf Tryd.underlying27 rfl Tryd.infoAutoC) rfl ⟨⟨_, ⟨(numK M n : Int), finK M A.fin, D2.map Prod.fst⟩, rfl, fun W hW => ?_, ⟨by rw [HML.out], rfl, HS5.out, HM5.out⟩⟩, hBf⟩
              have hkf2 : Kp (fun c => (c ≠ w2.heap.size ∧ c ≠ w.heap.size + 1) ∧ w.heap.size ≤ c) w5 W := (hkf.mono (fun _ _ h => h.1)).trans (hW.mono (fun _ _ h => h.2))
              have hkw : Kp (fun c => (c ≠ w2.heap.size ∧ c ≠ w.heap.size + 1) ∧ w.heap.size ≤ c) wr W := (Kp.of_below HBB5.out (fun k hk _ => hk)).trans hkf2
              have hint : ∀ b cur, w.heap.size ≤ b → Blk wr b 3 cur → (b ≠ w2.heap.size ∧ b ≠ w.heap.size + 1) ∧ w.heap.size ≤ b := fun b cur hB hb => ⟨⟨hb.ne_ HOr.out (by decide), hb.ne_ HRr.out (by decide)⟩, hB⟩
              refine ⟨_, _, rfl, ?_, ?_⟩
              · exact (HFr.out.kp hkw hint).isInts
              · exact isRus_of (w0 := W) (ownsRow_kp HOW5.out hkf2 (fun b e => by have := HBI.out b e; omega)) (fun x hx => ((HI5.out x hx).2.kp hkw hint).isInts) (Below.refl _ _)

end Go.Proofs.YtedfldbknjcnlaaDoor
