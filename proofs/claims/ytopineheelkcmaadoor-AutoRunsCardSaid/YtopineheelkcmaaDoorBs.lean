/- bitset.Set in memory: Has, Add, Unite. -/
import Derived.Test.YtopineheelkcmaaDoorRows
import Derived.Test.YtopineheelkcmaaDoorHgS
import Derived.Deep.QuietTactic
import Derived.BigQuiet
import Derived.StillTailTactics
import Derived.Laws.BitsAllLaws
import Derived.Shelf.Abstract
namespace Go.Proofs.YtopineheelkcmaaDoor
open Go.RowKit Go.Shelf

/-- Whether the words of a set have the bit of q. -/
def mem (W : Nat → Nat) (q : Nat) : Bool := (W (q / 64)).testBit (q % 64)
def SetAt (w : World) (b o : Nat) (W : Nat → Nat) : Prop := ∀ i, i < 5 → w.cell? ⟨b, o + i, none⟩ = some (.int .u64 (W i : Nat))
def W64 (W : Nat → Nat) : Prop := ∀ i, W i < 18446744073709551616

theorem bits_has {a k : Nat} (hk : k < 64) : ((a &&& 2 ^ k : Nat) != 0) = a.testBit k := by
  cases h : a.testBit k
  · have : a &&& 2 ^ k = 0 := Nat.eq_of_testBit_eq (fun i => by
      rw [Nat.testBit_and, Nat.testBit_two_pow, Nat.zero_testBit]
      by_cases e : k = i
      · subst e; rw [h]; rfl
      · simp [e])
    rw [this]; rfl
  · have : a &&& 2 ^ k ≠ 0 := fun e => by
      have h2 : (a &&& 2 ^ k).testBit k = true := by rw [Nat.testBit_and, h, Nat.testBit_two_pow_self]; rfl
      rw [e, Nat.zero_testBit] at h2
      cases h2
    simpa using this
theorem natne (x : Nat) : (((x : Nat) : Int) != 0) = (x != 0) := by
  cases x with
  | zero => rfl
  | succ n =>
    have h1 : ((n + 1 : Nat) : Int) ≠ 0 := by omega
    rw [bne_iff_ne.2 h1, bne_iff_ne.2 (by omega : n + 1 ≠ 0)]
theorem pow_lt64 {k : Nat} (hk : k < 64) : 2 ^ k < 18446744073709551616 := by
  have := Nat.pow_lt_pow_right (a := 2) (by decide) hk
  exact this
theorem wrap_pow2 {k : Nat} (hk : k < 64) : IntKind.u64.wrap ((2 : Int) ^ k) = ((2 ^ k : Nat) : Int) := by
  have h := pow_lt64 hk
  have e : ((2 : Int) ^ k) = ((2 ^ k : Nat) : Int) := by simp
  rw [e]
  generalize 2 ^ k = x at *
  simp [IntKind.wrap, IntKind.bits, IntKind.signed]
  omega
theorem wrap_pow {k : Nat} (hk : k < 64) : IntKind.u64.wrap ((1 : Int) * 2 ^ min k 64) = ((2 ^ k : Nat) : Int) := by
  rw [Nat.min_eq_left (by omega), Int.one_mul]
  have h := pow_lt64 hk
  have e : ((2 : Int) ^ k) = ((2 ^ k : Nat) : Int) := by simp
  rw [e]
  generalize 2 ^ k = x at *
  simp [IntKind.wrap, IntKind.bits, IntKind.signed]
  omega

/-- The set with q. -/
def addW (W : Nat → Nat) (q : Nat) : Nat → Nat := fun i => if i = q / 64 then W i ||| 2 ^ (q % 64) else W i
theorem addW_mem (W : Nat → Nat) (q x : Nat) : mem (addW W q) x = (mem W x || decide (x = q)) := by
  unfold mem addW
  by_cases h : x / 64 = q / 64
  · rw [if_pos h, Nat.testBit_or, Nat.testBit_two_pow]
    congr 1
    by_cases e : x = q
    · subst e; simp
    · have : ¬ q % 64 = x % 64 := by omega
      simp [e, this]
  · rw [if_neg h]
    have : ¬ x = q := fun e => h (by rw [e])
    simp [this]
theorem addW_lt {W : Nat → Nat} (h : W64 W) (q : Nat) : W64 (addW W q) := fun i => by
  unfold addW
  split
  · exact Nat.or_lt_two_pow (n := 64) (h i) (pow_lt64 (by omega))
  · exact h i
def uniW (W V : Nat → Nat) : Nat → Nat := fun i => W i ||| V i
theorem uniW_mem (W V : Nat → Nat) (x : Nat) : mem (uniW W V) x = (mem W x || mem V x) := by unfold mem uniW; rw [Nat.testBit_or]
theorem uniW_lt {W V : Nat → Nat} (h : W64 W) (h' : W64 V) : W64 (uniW W V) := fun i => Nat.or_lt_two_pow (n := 64) (h i) (h' i)

set_option maxRecDepth 100000 in
set_option maxHeartbeats 1000000 in
theorem has_ok (w : World) (b o : Nat) (W : Nat → Nat) (q : Nat) (x : Int) (hx : x = (q : Int)) (hq : q < 320) (h : SetAt w b o W) (hW : W64 W) :
    Calls Tryd.prog 97 #[.pointer (some ⟨b, o, none⟩), .int .i64 x] w fun e w' => e = .returned (.bool (mem W q)) ∧ ∃ n, w' = w.drewN n := by
  subst hx
  have c1 := h (q / 64) (by omega)
  have b1 := World.block_lt_of_cell? _ _ c1
  simp only at b1
  have hl := hW (q / 64)
  have HM : Hid (mem W q = ((W (q / 64) &&& 2 ^ (q % 64) : Nat) != 0)) := Lib.hid (bits_has (by omega)).symm
  have s1 : ((q : Int) / 64).toNat = q / 64 := by omega
  have s2 : (0 : Int) ≤ (q : Int) / 64 := by omega
  have s3 : (q : Int) / 64 < 5 := by omega
  have s4 : ((q : Int) % 64).toNat = q % 64 := by omega
  have s5 : (0 : Int) ≤ (q : Int) % 64 := by omega
  have hq0 : (0 : Int) ≤ (q : Int) := by omega
  have HWP := Lib.hid (wrap_pow2 (k := q % 64) (by omega))
  have HPL := Lib.hid (pow_lt64 (k := q % 64) (by omega))
  clear h hW
  generalize hy : W (q / 64) = y at *
  clear hy
  go_enter Tryd.func97, Tryd.ntmps97
  go_wp2_with fail
  go_quiet (fail)
  go_wp2_with fail
  go_ret
  exact ⟨ret_bool (by rw [HWP.out, u64_and_nat _ _ hl HPL.out, HM.out]; exact natne _), _, rfl⟩

/-- A block whose cells are those before a set, the set's words, and those behind it. -/
def scs (pre : List Value) (W : Nat → Nat) (post : List Value) : Array Value := (pre ++ (List.range 5).map (fun i => Value.int .u64 (W i : Nat)) ++ post).toArray
theorem scs_at {pre post : List Value} {W : Nat → Nat} {i : Nat} (hi : i < 5) : (scs pre W post)[pre.length + i]? = some (.int .u64 (W i : Nat)) := by
  simp only [scs, List.getElem?_toArray]
  rw [List.append_assoc, List.getElem?_append_right (by omega), List.getElem?_append_left (by simp; omega)]
  simp [List.getElem?_range hi, hi]
theorem scs_set {pre post : List Value} {W V : Nat → Nat} {i x : Nat} (hi : i < 5) (hV : ∀ j, j < 5 → V j = if j = i then x else W j) : (scs pre W post).setIfInBounds (pre.length + i) (.int .u64 (x : Nat)) = scs pre V post := by
  have h5 : ∀ (U : Nat → Nat), (List.range 5).map (fun i => Value.int .u64 (U i : Nat)) = [.int .u64 (U 0 : Nat), .int .u64 (U 1 : Nat), .int .u64 (U 2 : Nat), .int .u64 (U 3 : Nat), .int .u64 (U 4 : Nat)] := fun U => rfl
  apply Array.ext'
  simp only [scs, Array.toList_setIfInBounds, h5, List.append_assoc]
  rw [List.set_append_right _ _ (by omega), show pre.length + i - pre.length = i by omega, hV 0 (by omega), hV 1 (by omega), hV 2 (by omega), hV 3 (by omega), hV 4 (by omega)]
  congr 1
  match i, hi with
  | 0, _ => simp
  | 1, _ => simp
  | 2, _ => simp
  | 3, _ => simp
  | 4, _ => simp
theorem scs_setAt {w : World} {b : Nat} {t : TypeId} {pre post : List Value} {W : Nat → Nat} (h : Blk w b t (scs pre W post)) : SetAt w b pre.length W := fun i hi => by rw [h.cell, scs_at hi]

set_option maxRecDepth 100000 in
set_option maxHeartbeats 1000000 in
theorem add_ok (w : World) (b : Nat) (t : TypeId) (pre post : List Value) (W : Nat → Nat) (q : Nat) (x : Int) (n : Nat) (hn : n = pre.length) (hx : x = (q : Int)) (hq : q < 320) (h : Blk w b t (scs pre W post)) (hW : W64 W) :
    Calls Tryd.prog 80 #[.pointer (some ⟨b, n, none⟩), .int .i64 x] w fun e w' => e = .returned (.tuple #[]) ∧ Blk w' b t (scs pre (addW W q) post) ∧ Kp (fun c => c ≠ b) w w' := by
  subst hx
  subst hn
  have c1 := scs_setAt h (q / 64) (by omega)
  have b1 := World.block_lt_of_cell? _ _ c1
  have f1 := h.frozen (pre.length + q / 64)
  simp only at b1
  have hl := hW (q / 64)
  have HSET : Hid (∀ u : Nat, u = W (q / 64) ||| 2 ^ (q % 64) → Blk (w.setCell ⟨b, pre.length + q / 64, none⟩ (.int .u64 (u : Nat))) b t (scs pre (addW W q) post)) := Lib.hid (fun u hu => by
    rw [← scs_set (W := W) (i := q / 64) (x := u) (by omega) (fun j hj => by unfold addW; by_cases e : j = q / 64 <;> simp [e, hu])]
    exact h.set_ _ _)
  have s1 : ((q : Int) / 64).toNat = q / 64 := by omega
  have s2 : (0 : Int) ≤ (q : Int) / 64 := by omega
  have s3 : (q : Int) / 64 < 5 := by omega
  have s4 : ((q : Int) % 64).toNat = q % 64 := by omega
  have s5 : (0 : Int) ≤ (q : Int) % 64 := by omega
  have hq0 : (0 : Int) ≤ (q : Int) := by omega
  have HWP := Lib.hid (wrap_pow2 (k := q % 64) (by omega))
  have HPL := Lib.hid (pow_lt64 (k := q % 64) (by omega))
  clear h hW
  generalize hy : W (q / 64) = y at *
  clear hy
  go_enter Tryd.func80, Tryd.ntmps80
  go_wp2_with fail
  have t1 : (q : Int).tdiv 64 = (q : Int) / 64 := Int.tdiv_eq_ediv_of_nonneg (by omega)
  have t2 : (q : Int).tmod 64 = (q : Int) % 64 := Int.tmod_eq_emod_of_nonneg (by omega)
  have t3 : IntKind.i64.wrap ((q : Int) / 64) = (q : Int) / 64 := by rw [IntKind.wrap_i64]; omega
  have t4 : IntKind.i64.wrap ((q : Int) % 64) = (q : Int) % 64 := by rw [IntKind.wrap_i64]; omega
  go_still_tail 12, (by kernel_rfl)
  change wpList _ _ _ _ _ w.drew
  have f1' : w.drew.frozen? ⟨b, pre.length + q / 64, none⟩ = false := f1
  have c1' : w.drew.cell? ⟨b, pre.length + q / 64, none⟩ = some (.int .u64 (y : Nat)) := c1
  have b1' : b < w.drew.heap.size := b1
  clear f1
  go_wp2_with fail
  go_end0
  have e : bits .or .u64 (y : Int) (IntKind.u64.wrap ((2 : Int) ^ (q % 64))) = ((y ||| 2 ^ (q % 64) : Nat) : Int) := by rw [HWP.out, u64_or_nat _ _ hl HPL.out]
  rw [e]
  exact ⟨rfl, HSET.out _ rfl, ((Kp.refl _ w).setCell (p := ⟨b, pre.length + q / 64, none⟩) (fun h => absurd rfl h) _).drew⟩

set_option maxRecDepth 100000 in
set_option maxHeartbeats 1000000 in
theorem unite_ok (w : World) (b : Nat) (t : TypeId) (pre post : List Value) (W V : Nat → Nat) (b' o' : Nat) (n : Nat) (hn : n = pre.length) (h : Blk w b t (scs pre W post)) (hne : b' ≠ b) (h' : SetAt w b' o' V) (hW : W64 W) (hV : W64 V) :
    Calls Tryd.prog 94 #[.pointer (some ⟨b, n, none⟩), .pointer (some ⟨b', o', none⟩)] w fun e w' => e = .returned (.tuple #[]) ∧ Blk w' b t (scs pre (uniW W V) post) ∧ Kp (fun c => c ≠ b) w w' := by
  subst hn
  have HW := Lib.hid hW
  have HV := Lib.hid hV
  have HS := Lib.hid h'
  have H0 : Hid (Blk w b t (scs pre (fun i => if i < 0 then W i ||| V i else W i) post)) := Lib.hid (by simpa using h)
  have HNE := Lib.hid hne
  clear hW hV h' h hne
  go_enter Tryd.func94, Tryd.ntmps94
  go_wp2_with fail
  go_loopw [7] (fun iv wr => ∃ k : Nat, iv = .int .i64 (k : Nat) ∧ k ≤ 5 ∧ Hid (Blk wr b t (scs pre (fun i => if i < k then W i ||| V i else W i) post)) ∧ Hid (Kp (fun c => c ≠ b) w wr)) (fun iv _ => 5 - (intOf iv).toNat)
  case atStart => exact ⟨0, rfl, by omega, H0, Lib.hid (Kp.refl _ _)⟩
  case round =>
    rename World => wr
    obtain ⟨k, rfl, hk, HB, HK⟩ := hrel
    clear H0
    by_cases hlt : k < 5
    · have hlt1 : (k : Int) < 5 := by omega
      have hk0 : (0 : Int) ≤ (k : Int) := by omega
      have c1 := scs_setAt HB.out k hlt
      rw [if_neg (by omega)] at c1
      have b1 := HB.out.lt
      have f1 := HB.out.frozen (pre.length + k)
      have c2 := HK.out.cell (HS.out k hlt) HNE.out
      have b2 := World.block_lt_of_cell? _ _ c2
      simp only at b2
      have l1 := HW.out k
      have l2 := HV.out k
      have HSET : Hid (∀ u : Nat, u = W k ||| V k → Blk (wr.setCell ⟨b, pre.length + k, none⟩ (.int .u64 (u : Nat))) b t (scs pre (fun i => if i < k + 1 then W i ||| V i else W i) post)) := Lib.hid (fun u hu => by
        rw [← scs_set (W := fun i => if i < k then W i ||| V i else W i) (i := k) (x := u) hlt (fun j hj => by
          by_cases e : j = k
          · subst e; simp [hu]
          · by_cases e2 : j < k
            · simp [e, e2, show j < k + 1 by omega]
            · simp [e, e2, show ¬ j < k + 1 by omega])]
        exact HB.out.set_ _ _)
      generalize hy : W k = y at *
      generalize hz : V k = z at *
      clear hy hz
      go_wp2_with fail
      go_quiet (fail)
      rename_i nq
      have c1' : (wr.drewN nq).cell? ⟨b, pre.length + k, none⟩ = some (.int .u64 (y : Nat)) := c1
      have f1' : (wr.drewN nq).frozen? ⟨b, pre.length + k, none⟩ = false := f1
      have b1' : b < (wr.drewN nq).heap.size := b1
      have HSET2 : Hid (∀ u : Nat, u = y ||| z → Blk ((wr.drewN nq).drew.setCell ⟨b, pre.length + k, none⟩ (.int .u64 (u : Nat))) b t (scs pre (fun i => if i < k + 1 then W i ||| V i else W i) post)) := HSET
      have HK2 : Hid (Kp (fun c => c ≠ b) w (wr.drewN nq)) := Lib.hid (HK.out.drewN nq)
      clear c1 f1 b1 c2 b2 HB
      generalize wr.drewN nq = wz at *
      go_wp2_with fail
      go_still_tail 9, (by kernel_rfl)
      change wpList _ _ _ _ _ wz.drew
      have c1'' : wz.drew.cell? ⟨b, pre.length + k, none⟩ = some (.int .u64 (y : Nat)) := c1'
      have f1'' : wz.drew.frozen? ⟨b, pre.length + k, none⟩ = false := f1'
      have b1'' : b < wz.drew.heap.size := b1'
      clear f1'
      go_wp2_with fail
      have e : bits .or .u64 (y : Int) (z : Int) = ((y ||| z : Nat) : Int) := u64_or_nat _ _ l1 l2
      go_roundw
      case rel => exact ⟨k + 1, by go_num, by omega, by rw [e]; exact HSET2.out _ rfl, Lib.hid (by rw [e]; exact (HK2.out.setCell (p := ⟨b, pre.length + k, none⟩) (fun h => absurd rfl h) _).drew)⟩
      case measure => simp [intOf]; omega
    · have hk5 : k = 5 := by omega
      subst hk5
      have HF : Hid (Blk wr b t (scs pre (uniW W V) post)) := Lib.hid (by
        have h := HB.out
        rwa [← show scs pre (fun i => if i < 5 then W i ||| V i else W i) post = scs pre (uniW W V) post from by
          unfold scs uniW
          congr 3])
      go_wp2_with fail
      go_end0
      exact ⟨rfl, HF.out, HK.out⟩

end Go.Proofs.YtopineheelkcmaaDoor
