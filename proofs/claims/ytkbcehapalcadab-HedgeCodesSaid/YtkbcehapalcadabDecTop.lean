/- hedge.Decode. -/
import Derived.Test.YtkbcehapalcadabCodeMath
import Derived.Test.YtkbcehapalcadabTValid
namespace Go.Proofs.Ytkbcehapalcadab
open Go.RowKit Go.Shelf

/-- What Decode answers. -/
def DecAns (n s : Int) (K : Hg) (B : Nat) (e : Ending) (w' : World) : Prop :=
  (vlab n = true ∧ ∃ (H : Hg) (r : Value), H.enc n = (s, K) ∧ H.flat.all (lok n) = true ∧ 2 * H.size + 1 ≤ 300 ∧ e = .returned (.tuple #[r, .int .i64 0]) ∧ IsHS (fun c => B ≤ c) w' r H) ∨
  (vlab n = false ∧ e = .returned (.tuple #[.slice none 0 0, .int .i64 6])) ∨
  (vlab n = true ∧ tvalid (bin n.toNat) s K = false ∧ e = .returned (.tuple #[.slice none 0 0, .int .i64 1]))

set_option maxRecDepth 100000 in
set_option maxHeartbeats 1000000 in
theorem decodeTop_ok (n s : Int) (vk : Value) (K : Hg) (w : World) (hwf : (Lit.int .i64 s).wf = true) (hv : IsH w vk K) (hs : K.size ≤ 1000000) :
    Calls Try.prog 24 #[.int .i64 n, .agg #[.int .i64 s, vk]] w fun e w' => Below w.heap.size w w' ∧ DecAns n s K w.heap.size e w' := by
  have HB := Lib.hid (fun w => binary_ok n w)
  have hb0 : Below w.heap.size w (w.alloc (.cells #[.int .i64 s, vk] 41)) := (Below.refl _ w).alloc (Nat.le_refl _) _
  have hbx := Blk.new w 41 #[.int .i64 s, vk]
  have HV := Lib.hid hv
  have HBX := Lib.hid hbx
  have HB0 := Lib.hid hb0
  have HWF := Lib.hid hwf
  obtain ⟨p, c, rfl, hc1, hc2, hrow⟩ := hv
  clear hrow hb0 hbx hwf
  go_enter Try.func24, Try.ntmps24
  go_wp2_with fail
  refine (HB.out _).mono ?_
  rintro e w1 ⟨hb1, ⟨hvl, av, rfl, hav⟩ | ⟨hvl, rfl⟩⟩
  · have HVL := Lib.hid hvl
    have HAV := Lib.hid hav
    obtain ⟨pa, ca, rfl, ha1, ha2, _⟩ := hav
    have hbx1 : Blk w1 w.heap.size 41 #[.int .i64 s, .slice p K.len c] := HBX.out.below hb1 (by simp)
    have hbw1 : Below w.heap.size w w1 := HB0.out.trans (hb1.mono (by simp))
    have z0 : w1.cell? ⟨w.heap.size, 0, none⟩ = some (.int .i64 s) := by rw [hbx1.cell]; rfl
    have z1 : w1.cell? ⟨w.heap.size, 1, none⟩ = some (.slice p K.len c) := by rw [hbx1.cell]; rfl
    have z7 : w.heap.size < w1.heap.size := hbx1.lt
    have hbA := hbw1.alloc (by omega) (.cells #[.slice pa (bin n.toNat).length ca] 29)
    have HT := Lib.hid (tvalid_ok (bin n.toNat) _ s _ K (w1.alloc (.cells #[.slice pa (bin n.toNat).length ca] 29)) (HAV.out.below ((Below.refl _ w1).alloc (Nat.le_refl _) _)) HWF.out (HV.out.below hbA) hs)
    have HBX1 := Lib.hid hbx1
    have HBA := Lib.hid hbA
    clear hvl hbx1 hbw1 hb1 hbA HAV
    rcases Bool.eq_false_or_eq_true (tvalid (bin n.toNat) s K) with hT | hT
    · rw [hT] at HT
      have HTT := Lib.hid hT
      clear hT
      go_wp2_with fail
      refine HT.out.mono ?_
      rintro e w2 ⟨rfl, hb2⟩
      have hbx2 : Blk w2 w.heap.size 41 #[.int .i64 s, .slice p K.len c] := (HBX1.out.alloc _).below hb2 (by simp; omega)
      have hbw2 : Below w.heap.size w w2 := HBA.out.trans (hb2.mono (by simp; omega))
      have y0 : w2.cell? ⟨w.heap.size, 0, none⟩ = some (.int .i64 s) := by rw [hbx2.cell]; rfl
      have y1 : w2.cell? ⟨w.heap.size, 1, none⟩ = some (.slice p K.len c) := by rw [hbx2.cell]; rfl
      have y7 : w.heap.size < w2.heap.size := hbx2.lt
      have hn : 0 ≤ n := by
        have := HVL.out
        simp [vlab] at this
        omega
      obtain ⟨m, rfl⟩ := Int.eq_ofNat_of_zero_le hn
      obtain ⟨H, he, hl, hsz⟩ := tvalid_dec m s K (by simpa using HTT.out)
      have hD := decode_any (m : Int) (H.size + 1) H (.slice p K.len c) w2 (by omega) (by omega) (by rw [he]; exact HWF.out) (no_of_lok hl) (by rw [he]; exact HV.out.below hbw2)
      rw [he] at hD
      have HD := Lib.hid hD
      have HE := Lib.hid he
      have HL := Lib.hid hl
      have HSZ := Lib.hid hsz
      have HBW2 := Lib.hid hbw2
      clear hD he hl hsz hbx2 hbw2 hb2
      go_wp2_with fail
      refine HD.out.mono ?_
      rintro e w3 ⟨r, rfl, hr, hb3⟩
      have HRr := Lib.hid hr
      obtain ⟨pr, cr, rfl, _⟩ := hr
      have HB3 := Lib.hid hb3
      clear hb3
      go_wp2_with fail
      go_ret2
      exact ⟨HBW2.out.trans (HB3.out.mono (by omega)), .inl ⟨HVL.out, H, _, HE.out, HL.out, HSZ.out, rfl, HRr.out.mono (fun c _ h => by omega)⟩⟩
    · rw [hT] at HT
      have HTT := Lib.hid hT
      clear hT
      go_wp2_with fail
      refine HT.out.mono ?_
      rintro e w2 ⟨rfl, hb2⟩
      have HB2 := Lib.hid hb2
      clear hb2
      go_wp2_with fail
      go_ret2
      exact ⟨HBA.out.trans (HB2.out.mono (by simp; omega)), .inr (.inr ⟨HVL.out, HTT.out, rfl⟩)⟩
  · have HVL := Lib.hid hvl
    have hsz := hb1.size
    have HB1 := Lib.hid hb1
    clear hvl hb1
    go_wp2_with fail
    go_ret2
    exact ⟨(HB0.out.trans (HB1.out.mono (by simp))).alloc (by simp at hsz; omega) _, .inr (.inl ⟨HVL.out, rfl⟩)⟩

end Go.Proofs.Ytkbcehapalcadab
