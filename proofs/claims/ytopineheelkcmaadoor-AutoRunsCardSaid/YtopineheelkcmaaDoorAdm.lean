/- node.admits. -/
import Derived.Test.YtopineheelkcmaaDoorNewT
namespace Go.Proofs.YtopineheelkcmaaDoor
open Go.RowKit Go.Shelf

/-- Nodes' sets in a row. -/
def IsKs (w : World) (v : Value) (KS : List (Nat → Nat)) : Prop :=
  ∃ p c, v = .slice p KS.length c ∧ KS.length ≤ c ∧ c ≤ maxLen ∧ (KS ≠ [] → ∃ b o, p = some ⟨b, o, none⟩ ∧ ∀ (i : Nat) (W : Nat → Nat), KS[i]? = some W → SetAt w b (o + i * 7 + 1) W ∧ W64 W)
theorem SetAt.below {w w' : World} {b o : Nat} {W : Nat → Nat} (h : SetAt w b o W) (hb : Below w.heap.size w w') : SetAt w' b o W := fun i hi => cell_later hb (h i hi)
theorem IsKs.below {w w' : World} {v : Value} {KS : List (Nat → Nat)} (h : IsKs w v KS) (hb : Below w.heap.size w w') : IsKs w' v KS := by
  obtain ⟨p, c, e, h1, h2, h3⟩ := h
  refine ⟨p, c, e, h1, h2, fun hne => ?_⟩
  obtain ⟨b, o, e2, hc⟩ := h3 hne
  exact ⟨b, o, e2, fun i W hi => ⟨(hc i W hi).1.below hb, (hc i W hi).2⟩⟩

/-- Each set has the state that the group asks for. -/
def admB : List (Nat → Nat) → List Nat → Bool
  | [], _ => true
  | _ :: _, [] => true
  | W :: KS, q :: l => mem W q && admB KS l
theorem admB_drop {KS : List (Nat → Nat)} {l : List Nat} {k q : Nat} {W : Nat → Nat} (hW : KS[k]? = some W) (hq : l[k]? = some q) : admB (KS.drop k) (l.drop k) = (mem W q && admB (KS.drop (k + 1)) (l.drop (k + 1))) := by
  obtain ⟨h1, h2⟩ := List.getElem?_eq_some_iff.1 hW
  obtain ⟨h3, h4⟩ := List.getElem?_eq_some_iff.1 hq
  rw [List.drop_eq_getElem_cons h1, List.drop_eq_getElem_cons h3, h2, h4]
  rfl

set_option maxRecDepth 100000 in
set_option maxHeartbeats 1000000 in
theorem admits_ok (w : World) (bx : Nat) (vk : Value) (KS : List (Nat → Nat)) (g : Nat) (s : Int) (l : List Nat) (W : Nat → Nat) (hl3 : l.length = 3) (hk3 : KS.length ≤ 3) (hlt : ∀ q ∈ l, q < 320)
    (hx : w.cell? ⟨bx, 6, none⟩ = some vk) (hks : IsKs w vk KS) (hg : ∀ (i : Nat) (q : Nat), l[i]? = some q → w.cell? ⟨g, 1 + i, none⟩ = some (.int .i64 (q : Int))) :
    Calls Tryd.prog 93 #[.pointer (some ⟨bx, 0, none⟩), .pointer (some ⟨g, 0, none⟩)] w fun e w' => e = .returned (.bool (admB KS l)) ∧ Below w.heap.size w w' := by
  have HKS := Lib.hid hks
  have HG := Lib.hid hg
  have HLT := Lib.hid hlt
  obtain ⟨p, c, rfl, hc1, hc2, hcl⟩ := hks
  unfold maxLen at hc2
  have HCL := Lib.hid hcl
  have hbx := World.block_lt_of_cell? _ _ hx
  simp only at hbx
  clear hcl hg hlt
  go_enter Tryd.func93, Tryd.ntmps93
  go_wp2_with fail
  go_loopw [11] (fun iv wr => ∃ k : Nat, iv = .int .i64 (k : Nat) ∧ k ≤ KS.length ∧ Hid (admB KS l = admB (KS.drop k) (l.drop k)) ∧ Hid (Below w.heap.size w wr)) (fun iv _ => KS.length - (intOf iv).toNat)
  case atStart => exact ⟨0, rfl, by omega, Lib.hid rfl, Lib.hid (Below.refl _ _)⟩
  case round =>
    rename World => wr
    obtain ⟨k, rfl, hk, HE, HBr⟩ := hrel
    by_cases hlt : k < KS.length
    · obtain ⟨V, hV⟩ : ∃ V, KS[k]? = some V := ⟨_, List.getElem?_eq_getElem hlt⟩
      obtain ⟨q, hq⟩ : ∃ q, l[k]? = some q := ⟨_, List.getElem?_eq_getElem (by omega)⟩
      obtain ⟨b, o, rfl, hcl⟩ := HCL.out (fun h => by simp [h] at hlt)
      have hq320 := HLT.out q (List.mem_of_getElem? hq)
      have hD := Lib.hid (admB_drop hV hq)
      have x0 := cell_later HBr.out hx
      have y0 := cell_later HBr.out (HG.out k q hq)
      have hxl := World.block_lt_of_cell? _ _ x0
      have hyl := World.block_lt_of_cell? _ _ y0
      simp only at hxl hyl
      have hk3' : k < 3 := by omega
      have hlt1 : (k : Int) < (KS.length : Int) := by omega
      have hk3i : (k : Int) < 3 := by omega
      have HH := Lib.hid (has_ok wr.drew b (o + k * 7 + 1) V q (q : Int) rfl hq320 (((hcl k V hV).1.below HBr.out).below (Below.refl _ _).drew) (hcl k V hV).2)
      clear hV hq hcl hlt
      have HST : Hid (∀ W : World, W.heap = wr.heap → W.cell? ⟨bx, 6, none⟩ = some (.slice (some ⟨b, o, none⟩) KS.length c) ∧ W.cell? ⟨g, 1 + k, none⟩ = some (.int .i64 (q : Int))) := Lib.hid (fun W hW => by
        unfold World.cell? at x0 y0 ⊢
        rw [hW]
        exact ⟨x0, y0⟩)
      cases hm : mem V q with
      | true =>
        have HM := Lib.hid hm
        rw [hm] at HH
        clear hm
        go_wp2_with fail
        go_region_held3 (fun W => W.cell? ⟨bx, 6, none⟩ = some (.slice (some ⟨b, o, none⟩) KS.length c) ∧ W.cell? ⟨g, 1 + k, none⟩ = some (.int .i64 (q : Int)))
          (first | exact HST.out _ rfl)
          (first
            | (go_at_call 97; refine HH.out.mono ?_; rintro e w9 ⟨rfl, nn, rfl⟩))
        go_wp2_with fail
        go_roundw
        case rel => exact ⟨k + 1, by go_num, by omega, Lib.hid (by rw [HE.out, hD.out, HM.out]; rfl), Lib.hid (below_drewN HBr.out _)⟩
        case measure => simp [intOf]; omega
      | false =>
        have HM := Lib.hid hm
        rw [hm] at HH
        clear hm
        go_wp2_with fail
        go_region_held3 (fun W => W.cell? ⟨bx, 6, none⟩ = some (.slice (some ⟨b, o, none⟩) KS.length c) ∧ W.cell? ⟨g, 1 + k, none⟩ = some (.int .i64 (q : Int)))
          (first | exact HST.out _ rfl)
          (first
            | (go_at_call 97; refine HH.out.mono ?_; rintro e w9 ⟨rfl, nn, rfl⟩))
        go_wp2_with fail
        go_ret
        exact ⟨ret_bool (by rw [HE.out, hD.out, HM.out]; rfl), below_drewN HBr.out _⟩
    · have hge : KS.length ≤ k := by omega
      have HD : Hid (KS.drop k = []) := Lib.hid (List.drop_eq_nil_iff.2 hge)
      clear hlt
      go_wp2_with fail
      go_ret
      exact ⟨ret_bool (by rw [HE.out, HD.out]; rfl), HBr.out⟩

end Go.Proofs.YtopineheelkcmaaDoor
