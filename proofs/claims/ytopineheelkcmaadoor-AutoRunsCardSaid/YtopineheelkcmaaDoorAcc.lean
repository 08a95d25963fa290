/- rule.Groups, auto.acceptedIn. -/
import Derived.Test.YtopineheelkcmaaDoorAdm
namespace Go.Proofs.YtopineheelkcmaaDoor
open Go.RowKit Go.Shelf

set_option maxRecDepth 100000 in
set_option maxHeartbeats 1000000 in
theorem groups_ok {B : Nat} {ks : List Lit} {T G M n : Nat} {w : World} {GL : List GB} {rows : List Value} {f : Lit → Option Value} (h : Tab B ks T G M n w GL rows f) (s : Nat) (v : Value) (hv : rows[s]? = some v) (hn : n ≤ 1000) :
    Calls Tryd.prog 92 #[.pointer (some ⟨T, 0, none⟩), .int .i64 (s : Int)] w fun e w' => e = .returned v ∧ w' = w := by
  have hs : s < n := by rw [← h.len]; exact (List.getElem?_eq_some_iff.1 hv).1
  have x0 : w.cell? ⟨T, 0, none⟩ = some (.slice (some ⟨G, 0, none⟩) n n) := by rw [h.t.cell]; rfl
  have x1 : w.cell? ⟨G, s, none⟩ = some v := by rw [h.g.cell]; simpa using hv
  obtain ⟨a, m, c, rfl⟩ := own_slice (h.row s v hv)
  have ht := h.t.lt
  have hg := h.g.lt
  have hsi : (s : Int) < (n : Int) := by omega
  clear h hv
  go_enter Tryd.func92, Tryd.ntmps92
  go_wp2_with fail
  go_ret
  exact ⟨rfl, rfl⟩

/-- The first final state in the set. -/
def accI (W : Nat → Nat) : List Nat → Int
  | [] => -1
  | q :: l => if mem W q then q else accI W l
theorem accI_ge {W : Nat → Nat} : ∀ {l : List Nat}, decide (0 ≤ accI W l) = l.any (mem W)
  | [] => rfl
  | q :: l => by
    unfold accI
    rw [List.any_cons]
    by_cases h : mem W q = true
    · rw [if_pos h, h, Bool.true_or]; simp
    · rw [if_neg h, accI_ge (l := l)]
      simp [h]

/-- A node's value. -/
def nodeV (s : Int) (W : Nat → Nat) (vk : Value) : Value := .agg #[.int .i64 s, .int .u64 (W 0 : Nat), .int .u64 (W 1 : Nat), .int .u64 (W 2 : Nat), .int .u64 (W 3 : Nat), .int .u64 (W 4 : Nat), vk]

set_option maxRecDepth 100000 in
set_option maxHeartbeats 1000000 in
theorem accepted_ok (A : Au) (v : Value) (s : Int) (W : Nat → Nat) (pk : Option Addr) (nk ck : Nat) (fin : List Nat) (w : World) (hA : IsAu w v A) (hfin : A.fin = fin.map (fun q : Nat => (q : Int))) (hlt : ∀ q ∈ fin, q < 320) (hW : W64 W) :
    Calls Tryd.prog 67 #[v, nodeV s W (.slice pk nk ck)] w fun e w' => e = .returned (.int .i64 (accI W fin)) ∧ Below w.heap.size w w' := by
  obtain ⟨fv, rv, rfl, hf, hr⟩ := hA
  obtain ⟨st, fin', ru⟩ := A
  simp only at *
  subst hfin
  have hbw : Below w.heap.size w ((w.alloc (.cells #[.int .i64 st, fv, rv] 27)).alloc (.cells #[.int .i64 s, .int .u64 (W 0 : Nat), .int .u64 (W 1 : Nat), .int .u64 (W 2 : Nat), .int .u64 (W 3 : Nat), .int .u64 (W 4 : Nat), .slice pk nk ck] 82)) := ((Below.refl _ w).alloc (Nat.le_refl _) _).alloc (by simp) _
  have HN : Hid (Blk ((w.alloc (.cells #[.int .i64 st, fv, rv] 27)).alloc (.cells #[.int .i64 s, .int .u64 (W 0 : Nat), .int .u64 (W 1 : Nat), .int .u64 (W 2 : Nat), .int .u64 (W 3 : Nat), .int .u64 (W 4 : Nat), .slice pk nk ck] 82)) (w.heap.size + 1) 82 (scs [.int .i64 s] W [.slice pk nk ck])) := Lib.hid (by
    have h := Blk.new (w.alloc (.cells #[.int .i64 st, fv, rv] 27)) 82 #[.int .i64 s, .int .u64 (W 0 : Nat), .int .u64 (W 1 : Nat), .int .u64 (W 2 : Nat), .int .u64 (W 3 : Nat), .int .u64 (W 4 : Nat), .slice pk nk ck]
    rw [World.size_alloc] at h
    exact h)
  have HB := Lib.hid hbw
  have hf2 := hf.below hbw
  obtain ⟨p1, c1, rfl, hf1, hf3, hfc⟩ := hf2
  obtain ⟨p2, c2, rfl, _⟩ := hr
  unfold maxLen at hf3
  have HFC := Lib.hid hfc
  have HLT := Lib.hid hlt
  have HW := Lib.hid hW
  rw [List.length_map] at hf1
  simp only [List.length_map] at HN HB HFC
  clear hbw hfc hf hlt hW
  unfold nodeV
  simp only [List.length_map]
  go_enter Tryd.func67, Tryd.ntmps67
  go_wp2_with fail
  go_loopw [10] (fun iv wr => ∃ k : Nat, iv = .int .i64 (k : Nat) ∧ k ≤ fin.length ∧ Hid (accI W fin = accI W (fin.drop k)) ∧ Hid (Below (w.heap.size + 1 + 1) ((w.alloc (.cells #[.int .i64 st, .slice p1 fin.length c1, .slice p2 ru.length c2] 27)).alloc (.cells #[.int .i64 s, .int .u64 (W 0 : Nat), .int .u64 (W 1 : Nat), .int .u64 (W 2 : Nat), .int .u64 (W 3 : Nat), .int .u64 (W 4 : Nat), .slice pk nk ck] 82)) wr)) (fun iv _ => fin.length - (intOf iv).toNat)
  case atStart => exact ⟨0, rfl, by omega, Lib.hid rfl, Lib.hid (Below.refl _ _)⟩
  case round =>
    rename World => wr
    obtain ⟨k, rfl, hk, HE, HX⟩ := hrel
    have hsz := HX.out.size
    rw [World.size_alloc, World.size_alloc] at hsz
    have HBw := Lib.hid (HB.out.trans (HX.out.mono (by omega)))
    by_cases hlt : k < fin.length
    · obtain ⟨q, hq⟩ : ∃ q, fin[k]? = some q := ⟨_, List.getElem?_eq_getElem hlt⟩
      obtain ⟨b, o, rfl, hcl⟩ := HFC.out (fun h => by simp at h; simp [h] at hlt)
      have y0 := cell_later (by simpa using HX.out) (hcl k (q : Int) (by rw [List.getElem?_map, hq]; rfl))
      have hyl := World.block_lt_of_cell? _ _ y0
      simp only at hyl
      have hd : Hid (fin.drop k = q :: fin.drop (k + 1)) := Lib.hid (by
        rw [List.drop_eq_getElem_cons hlt]
        congr 1
        exact (List.getElem?_eq_some_iff.1 hq).2)
      have hlt1 : (k : Int) < (fin.length : Int) := by omega
      have HH := Lib.hid (has_ok wr (w.heap.size + 1) 1 W q (q : Int) rfl (HLT.out q (List.mem_of_getElem? hq)) (scs_setAt (HN.out.below HX.out (by omega))) HW.out)
      clear hq hcl hlt
      cases hm : mem W q with
      | true =>
        have HM := Lib.hid hm
        rw [hm] at HH
        clear hm
        go_wp2_with fail
        refine HH.out.mono ?_
        rintro e w9 ⟨rfl, nn, rfl⟩
        go_wp2_with fail
        go_ret
        exact ⟨by rw [HE.out, hd.out, accI, if_pos HM.out]; rfl, below_drewN HBw.out _⟩
      | false =>
        have HM := Lib.hid hm
        rw [hm] at HH
        clear hm
        go_wp2_with fail
        refine HH.out.mono ?_
        rintro e w9 ⟨rfl, nn, rfl⟩
        go_wp2_with fail
        go_roundw
        case rel => exact ⟨k + 1, by go_num, by omega, Lib.hid (by rw [HE.out, hd.out, accI, if_neg (by rw [HM.out]; decide)]), Lib.hid (below_drewN HX.out _)⟩
        case measure => simp [intOf]; omega
    · have hge : fin.length ≤ k := by omega
      have hd : Hid (fin.drop k = []) := Lib.hid (List.drop_eq_nil_iff.2 hge)
      clear hlt
      go_wp2_with fail
      go_ret
      exact ⟨by rw [HE.out, hd.out]; rfl, HBw.out⟩

end Go.Proofs.YtopineheelkcmaaDoor
