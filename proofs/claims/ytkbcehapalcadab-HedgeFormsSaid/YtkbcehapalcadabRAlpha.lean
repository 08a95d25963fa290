/- ref02.Alphabet. -/
import Derived.Test.YtkbcehapalcadabCodeMath
namespace Go.Proofs.Ytkbcehapalcadab
open Go.RowKit Go.Shelf

theorem one_c1' (W : World) (x : Value) (t : TypeId) (B : Nat) (hB : B = W.heap.size) : ∀ j u, [x][j]? = some u → (W.alloc (.cells #[x] t)).cell? ((⟨B, 0, none⟩ : Addr).add j) = some u := by
  subst hB
  intro j u hu
  have hr := World.alloc_heap_new W (.cells #[x] t)
  have : ((⟨W.heap.size, 0, none⟩ : Addr).add j) = ⟨W.heap.size, j, none⟩ := by
    unfold Addr.add; split <;> simp_all
  rw [this, cell_of_row _ _ _ _ _ _ hr]
  simpa using hu

set_option maxRecDepth 100000 in
set_option maxHeartbeats 1000000 in
theorem ralphabet_new (m : Nat) (hm : m ≤ 8) (w : World) :
    Calls Try.prog 38 #[.int .i64 (m : Int)] w fun e w' => ∃ g c, e = .returned (.agg #[.slice (some ⟨g, 0, none⟩) (m + 1) c]) ∧ w.heap.size ≤ g ∧ IsInts w' (.slice (some ⟨g, 0, none⟩) (m + 1) c) (bin m) ∧ Below w.heap.size w w' := by
  obtain ⟨i0, hi, hz0, hz1, hz2⟩ := info_parts Try.infoInt
  have hbx : Blk ((w.alloc (.cells #[.slice none 0 0] 29)).alloc (.cells #[.slice none 0 0] 29)) w.heap.size 29 #[.slice none 0 0] := (Blk.new w _ _).alloc _
  have hby : Blk ((w.alloc (.cells #[.slice none 0 0] 29)).alloc (.cells #[.slice none 0 0] 29)) (w.heap.size + 1) 29 #[.slice none 0 0] := by
    have := Blk.new (w.alloc (.cells #[.slice none 0 0] 29)) 29 #[.slice none 0 0]; rwa [World.size_alloc] at this
  have hb0 : Below w.heap.size w ((w.alloc (.cells #[.slice none 0 0] 29)).alloc (.cells #[.slice none 0 0] 29)) := ((Below.refl _ w).alloc (Nat.le_refl _) _).alloc (by simp) _
  have HBX := Lib.hid hbx
  have HBY := Lib.hid hby
  have HB0 := Lib.hid hb0
  clear hbx hby hb0
  go_enter Try.func38, Try.ntmps38
  go_wp2_with fail
  go_loopw [5] (fun i wr => ∃ (k : Nat) (A : Option Addr) (cap : Nat), i = .int .i64 k ∧ k ≤ m ∧ Hid (wr.ownsRow (w.heap.size + 1 + 1) 3 1 (.slice A k cap) k (List.replicate k (.int .i64 2))) ∧ Hid (Blk wr w.heap.size 29 #[.slice none 0 0]) ∧ Hid (Blk wr (w.heap.size + 1) 29 #[.slice A k cap]) ∧ Hid (Below w.heap.size w wr))
    (fun i _ => m - (intOf i).toNat)
  case atStart => exact ⟨0, none, 0, rfl, by omega, Lib.hid (World.ownsRow_nil _ _ _ _), HBX, HBY, HB0⟩
  case round =>
    obtain ⟨k, A, cap, rfl, hk, HO1, HX1, HY1, HB1⟩ := hrel
    have z0 : wr.cell? ⟨w.heap.size + 1, 0, none⟩ = some (.slice A k cap) := by rw [HY1.out.cell]; rfl
    have z1 := HY1.out.frozen 0
    have z7 : w.heap.size + 1 < wr.heap.size := HY1.out.lt
    have hlt1 := HO1.out.lt
    have HLT := Lib.hid hlt1
    clear hlt1
    by_cases hlt : k < m
    · go_wp2_with (at_builtin; refine wpList_append_own_at _ rfl _ _ 27 rfl (w.heap.size + 1 + 1) 3 i0 _ 1 8 Try.underlying27 hi hz0 hz1 hz2 rfl (by decide) _ _ _ rfl (HO1.out.alloc _) ⟨wr.heap.size, 0, none⟩ 1 1 [.int .i64 2] rfl rfl ?c1 ?c2 ?c3 ?c4 ?c5 ?_)
      case c1 => exact one_c1' _ _ _ _ rfl
      case c2 => simp [Value.oneCell']
      case c3 => simp only [maxLen]; omega
      case c4 => omega
      case c5 => simp; omega
      intro v' w2 hown2 hgrow _ hat
      obtain ⟨g', cap', rfl⟩ := ownsRow_succ hown2
      have hx2 : Blk w2 w.heap.size 29 #[.slice none 0 0] := (hgrow.block w.heap.size (by simp; omega) (fun e => by have := HLT.out _ e.symm; omega)).trans (HX1.out.alloc _)
      have hy2 : Blk w2 (w.heap.size + 1) 29 #[.slice A k cap] := (hgrow.block (w.heap.size + 1) (by simp; omega) (fun e => by have := HLT.out _ e.symm; omega)).trans (HY1.out.alloc _)
      have hb2 : Below w.heap.size w w2 := (HB1.out.alloc (by omega) _).grown hgrow (by simp; omega) (fun j e => by have := (HLT.out _ e).1; omega)
      have hO2 : w2.ownsRow (w.heap.size + 1 + 1) 3 1 (.slice (some ⟨g', 0, none⟩) (k + 1) cap') (k + 1) (List.replicate (k + 1) (.int .i64 2)) := by rw [List.replicate_succ']; exact hown2
      have u0 : w2.cell? ⟨w.heap.size + 1, 0, none⟩ = some (.slice A k cap) := by rw [hy2.cell]; rfl
      have u1 := hy2.frozen 0
      have u7 : w.heap.size + 1 < w2.heap.size := hy2.lt
      have hg' := (hO2.lt g' rfl).1
      have HX2 := Lib.hid hx2
      have HY2 := Lib.hid hy2
      have HB2 := Lib.hid hb2
      have HO2 := Lib.hid hO2
      clear hx2 hy2 hb2 hO2 hown2 hgrow hat HBX HBY HB0 HX1 HY1 HO1
      go_wp2_with fail
      go_roundw
      case rel =>
        refine ⟨k + 1, some ⟨g', 0, none⟩, cap', by go_num, by omega, Lib.hid ?_, Lib.hid ?_, Lib.hid ?_, Lib.hid ?_⟩
        · exact ownsRow_far HO2.out (by simp [Value.ownBlock]; omega) _
        · exact HX2.out.far (by simp) _
        · exact HY2.out.set_ 0 _
        · exact HB2.out.setCell (p := ⟨w.heap.size + 1, 0, none⟩) (by simp) _
      case measure => simp [intOf]; omega
    · have hk2 : k = m := by omega
      subst hk2
      go_wp2_with (at_builtin; refine wpList_append_own_at _ rfl _ _ 27 rfl (w.heap.size + 1 + 1) 3 i0 _ 1 8 Try.underlying27 hi hz0 hz1 hz2 rfl (by decide) _ _ _ rfl (HO1.out.alloc _) ⟨wr.heap.size, 0, none⟩ 1 1 [.int .i64 0] rfl rfl ?c1 ?c2 ?c3 ?c4 ?c5 ?_)
      case c1 => exact one_c1' _ _ _ _ rfl
      case c2 => simp [Value.oneCell']
      case c3 => simp only [maxLen]; omega
      case c4 => omega
      case c5 => simp; omega
      intro v' w2 hown2 hgrow _ hat
      obtain ⟨g', cap', rfl⟩ := ownsRow_succ hown2
      have hx2 : Blk w2 w.heap.size 29 #[.slice none 0 0] := (hgrow.block w.heap.size (by simp; omega) (fun e => by have := HLT.out _ e.symm; omega)).trans (HX1.out.alloc _)
      have hy2 : Blk w2 (w.heap.size + 1) 29 #[.slice A k cap] := (hgrow.block (w.heap.size + 1) (by simp; omega) (fun e => by have := HLT.out _ e.symm; omega)).trans (HY1.out.alloc _)
      have hb2 : Below w.heap.size w w2 := (HB1.out.alloc (by omega) _).grown hgrow (by simp; omega) (fun j e => by have := (HLT.out _ e).1; omega)
      have hO2 : w2.ownsRow (w.heap.size + 1 + 1) 3 1 (.slice (some ⟨g', 0, none⟩) (k + 1) cap') (k + 1) ((bin k).map (Value.int .i64)) := by
        rw [← binv_bin]; exact hown2
      have u0 : w2.cell? ⟨w.heap.size + 1, 0, none⟩ = some (.slice A k cap) := by rw [hy2.cell]; rfl
      have u1 := hy2.frozen 0
      have u2 : w2.cell? ⟨w.heap.size, 0, none⟩ = some (.slice none 0 0) := by rw [hx2.cell]; rfl
      have u3 := hx2.frozen 0
      have u7 : w.heap.size + 1 < w2.heap.size := hy2.lt
      have u8 : w.heap.size < w2.heap.size := hx2.lt
      have hg' := (hO2.lt g' rfl).1
      have HX2 := Lib.hid hx2
      have HY2 := Lib.hid hy2
      have HB2 := Lib.hid hb2
      have HO2 := Lib.hid hO2
      clear hx2 hy2 hb2 hO2 hown2 hgrow hat HBX HBY HB0 HX1 HY1 HO1 hlt
      go_wp2_with fail
      refine bodyPost_ret (results_cell_row rfl _ _ w.heap.size 29 #[.slice (some ⟨g', 0, none⟩) (k + 1) cap'] (0, 0) _ rfl ((HX2.out.far (p := ⟨w.heap.size + 1, 0, none⟩) (by simp) _).set_ 0 _) Try.underlying29 rfl Try.infoAlphabet) rfl ?_
      refine ⟨_, _, rfl, by omega, ?_, (HB2.out.setCell (p := ⟨w.heap.size + 1, 0, none⟩) (by simp) _).setCell (p := ⟨w.heap.size, 0, none⟩) (Nat.le_refl _) _⟩
      refine isInts_own (base := w.heap.size + 1 + 1) (t := 3) (ownsRow_far (ownsRow_far HO2.out ?_ _) ?_ _) (bin_length _)
      · simp [Value.ownBlock]; omega
      · simp [Value.ownBlock]; omega

theorem ralphabet_ok (m : Nat) (hm : m ≤ 8) (w : World) :
    Calls Try.prog 38 #[.int .i64 (m : Int)] w fun e w' => ∃ p c, e = .returned (.agg #[.slice p (m + 1) c]) ∧ IsInts w' (.slice p (m + 1) c) (bin m) ∧ Below w.heap.size w w' :=
  (ralphabet_new m hm w).mono fun _ _ ⟨_, c, he, _, hi, hb⟩ => ⟨_, c, he, hi, hb⟩

end Go.Proofs.Ytkbcehapalcadab
