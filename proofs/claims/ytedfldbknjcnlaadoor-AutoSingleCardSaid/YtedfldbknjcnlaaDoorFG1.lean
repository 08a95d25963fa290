/- Alphabets: tree.ValidAlphabet, fits; ref01.ValidAlphabet. Automata as data and as they lie in memory; auto.hasState, validFinal. rule.HeadOf. The key rule.Head. -/
import Derived.Test.YtedfldbknjcnlaaDoorRows
import Derived.Test.YtedfldbknjcnlaaDoorHgS
import Derived.Deep.QuietTactic
import Derived.BigQuiet
import Derived.Laws.CopyOwn
import Derived.Shelf.Abstract
import Derived.DeepKeys4
import Derived.Maps.Own
import Derived.Maps.Keyed
namespace Go.Proofs.YtedfldbknjcnlaaDoor
section
open Go.RowKit

/-- A slice that reads as a list of numbers. -/
def IsInts (w : World) (v : Value) (l : List Int) : Prop :=
  ∃ p c, v = .slice p l.length c ∧ l.length ≤ c ∧ c ≤ maxLen ∧ (l ≠ [] → ∃ b o, p = some ⟨b, o, none⟩ ∧ ∀ (i : Nat) (x : Int), l[i]? = some x → w.cell? ⟨b, o + i, none⟩ = some (.int .i64 x))
theorem IsInts.below {w w' : World} {v : Value} {l : List Int} (h : IsInts w v l) (hb : Below w.heap.size w w') : IsInts w' v l := by
  obtain ⟨p, c, e, h1, h2, h3⟩ := h
  refine ⟨p, c, e, h1, h2, fun hne => ?_⟩
  obtain ⟨b, o, e, hc⟩ := h3 hne
  exact ⟨b, o, e, fun i x hx => cell_later hb (hc i x hx)⟩

def rok (r : Int) : Bool := decide (0 ≤ r) && decide (r ≤ 3)
def validAl (l : List Int) : Bool := decide (l.length ≤ 12) && l.all rok
/-- Whether a node with the symbol s and n subtrees fits the alphabet. -/
def fit (l : List Int) (s : Int) (n : Nat) : Bool := decide (0 ≤ s) && (decide (s < l.length) && ((n : Int) == l.getD s.toNat 0))

set_option maxRecDepth 100000 in
set_option maxHeartbeats 1000000 in
theorem validAlphabet_ok (l : List Int) (v : Value) (w : World) (hv : IsInts w v l) :
    Calls Tryd.prog 49 #[.agg #[v]] w fun e w' => e = .returned (.bool (validAl l)) ∧ Below w.heap.size w w' := by
  obtain ⟨p, c, rfl, hc1, hc2, hcell⟩ := hv
  unfold maxLen at hc2
  have HC := Lib.hid hcell
  clear hcell
  by_cases h12 : l.length ≤ 12
  · go_enter Tryd.func49, Tryd.ntmps49
    go_wp2
    go_loop [12] (fun i => ∃ k : Nat, i = .int .i64 k ∧ k ≤ l.length ∧ Hid ((l.take k).all rok = true)) (fun i => l.length - (intOf i).toNat)
    case atStart => exact ⟨0, rfl, by omega, Lib.hid (by simp)⟩
    case round =>
      obtain ⟨k, rfl, hk, ha⟩ := hrel
      by_cases hlt : k < l.length
      · obtain ⟨r, hr⟩ : ∃ r, l[k]? = some r := ⟨_, List.getElem?_eq_getElem hlt⟩
        obtain ⟨b, o, rfl, hcl⟩ := HC.out (fun h => by simp [h] at hlt)
        have c1 := hcl k r hr
        have hbl := World.block_lt_of_cell? _ _ c1
        simp only at hbl
        have hst : Hid ((l.take (k + 1)).all rok = rok r) := Lib.hid (by rw [List.take_add_one, hr]; simp [ha.out])
        have hmem : Hid (r ∈ l) := Lib.hid (List.mem_of_getElem? hr)
        clear hr hcl
        by_cases h1 : 0 ≤ r
        · by_cases h2 : r ≤ 3
          · go_wp2_with fail
            go_round
            case rel => exact ⟨k + 1, by go_num, by omega, Lib.hid (by rw [hst.out]; simp [rok, h1, h2])⟩
            case measure => simp [intOf]; omega
          · have h2' : 3 < r := by omega
            clear h2
            go_wp2_with fail
            go_ret
            exact ⟨ret_bool (by
              have := hmem.out
              simp only [validAl, Bool.false_eq, Bool.and_eq_false_iff]
              right
              rw [List.all_eq_false]
              exact ⟨r, this, by simp [rok]; omega⟩), (Below.refl _ _).alloc (Nat.le_refl _) _⟩
        · have h1' : r < 0 := by omega
          clear h1
          go_wp2_with fail
          go_ret
          exact ⟨ret_bool (by
            have := hmem.out
            simp only [validAl, Bool.false_eq, Bool.and_eq_false_iff]
            right
            rw [List.all_eq_false]
            exact ⟨r, this, by simp [rok]; omega⟩), (Below.refl _ _).alloc (Nat.le_refl _) _⟩
      · have hge : l.length ≤ k := by omega
        have ha2 : Hid (l.all rok = true) := Lib.hid (by have := ha.out; rwa [List.take_of_length_le hge] at this)
        clear hlt
        go_wp2_with fail
        go_ret
        exact ⟨ret_bool (by simp [validAl, h12, ha2.out]), (Below.refl _ _).alloc (Nat.le_refl _) _⟩
  · have h12' : 12 < l.length := by omega
    clear h12
    go_enter Tryd.func49, Tryd.ntmps49
    go_wp2
    go_ret
    exact ⟨ret_bool (by simp [validAl]; omega), (Below.refl _ _).alloc (Nat.le_refl _) _⟩

set_option maxRecDepth 100000 in
set_option maxHeartbeats 1000000 in
theorem fits_ok (l : List Int) (v : Value) (s : Int) (n : Nat) (pk : Option Addr) (ck : Nat) (w : World) (hv : IsInts w v l) (hn : n ≤ maxLen) :
    Calls Tryd.prog 91 #[.agg #[v], .agg #[.int .i64 s, .slice pk n ck]] w fun e w' => e = .returned (.bool (fit l s n)) ∧ Below w.heap.size w w' := by
  obtain ⟨p, c, rfl, hc1, hc2, hcell⟩ := hv
  unfold maxLen at hc2 hn
  have hba : ∀ o1 o2 q, Below w.heap.size w (((w.alloc o1).alloc o2).drewN q) := fun o1 o2 q => below_drewN (((Below.refl _ w).alloc (Nat.le_refl _) o1).alloc (by simp) o2) q
  have HC := Lib.hid hcell
  have HBA := Lib.hid hba
  clear hcell hba
  by_cases h1 : 0 ≤ s
  · by_cases h2 : s < l.length
    · obtain ⟨k, rfl⟩ := Int.eq_ofNat_of_zero_le h1
      have hk : k < l.length := by omega
      obtain ⟨r, hr⟩ : ∃ r, l[k]? = some r := ⟨_, List.getElem?_eq_getElem hk⟩
      obtain ⟨b, o, rfl, hcl⟩ := HC.out (fun h => by simp [h] at hk)
      have c1 := hcl k r hr
      have hbl := World.block_lt_of_cell? _ _ c1
      simp only at hbl
      have hbl2 : b < w.heap.size + 1 := by omega
      have hfit : Hid (fit l k n = ((n : Int) == r)) := Lib.hid (by simp [fit, h2, hr])
      clear hr hcl
      go_enter Tryd.func91, Tryd.ntmps91
      go_wp2_with fail
      go_quiet (fail)
      go_wp2_with fail
      go_ret
      exact ⟨ret_bool (by rw [hfit.out]), HBA.out _ _ _⟩
    · have h2' : (l.length : Int) ≤ s := by omega
      have hd : decide (s < (l.length : Int)) = false := by simpa using h2'
      have hfit : Hid (fit l s n = false) := Lib.hid (by simp [fit]; omega)
      clear h2
      go_enter Tryd.func91, Tryd.ntmps91
      go_wp2_with fail
      go_quiet (fail)
      go_wp2_with fail
      go_ret
      exact ⟨ret_bool (by rw [hfit.out]), HBA.out _ _ _⟩
  · have h1' : s < 0 := by omega
    have hd : decide (0 ≤ s) = false := by simpa using h1
    have hfit : Hid (fit l s n = false) := Lib.hid (by simp [fit]; omega)
    clear h1
    go_enter Tryd.func91, Tryd.ntmps91
    go_wp2_with fail
    go_quiet (fail)
    go_wp2_with fail
    go_ret
    exact ⟨ret_bool (by rw [hfit.out]), HBA.out _ _ _⟩
end

section
open Go.RowKit

structure Ru where
  sym : Int
  fr : List Int
  to : Int
structure Au where
  st : Int
  fin : List Int
  ru : List Ru

def IsRu (w : World) (b o : Nat) (r : Ru) : Prop :=
  w.cell? ⟨b, o, none⟩ = some (.int .i64 r.sym) ∧ (∃ u, w.cell? ⟨b, o + 1, none⟩ = some u ∧ IsInts w u r.fr) ∧ w.cell? ⟨b, o + 2, none⟩ = some (.int .i64 r.to)
theorem IsRu.below {w w' : World} {b o : Nat} {r : Ru} (h : IsRu w b o r) (hb : Below w.heap.size w w') : IsRu w' b o r := by
  obtain ⟨h1, ⟨u, h2, h3⟩, h4⟩ := h
  exact ⟨cell_later hb h1, ⟨u, cell_later hb h2, h3.below hb⟩, cell_later hb h4⟩
def IsRus (w : World) (v : Value) (R : List Ru) : Prop :=
  ∃ p c, v = .slice p R.length c ∧ R.length ≤ c ∧ c ≤ maxLen ∧ (R ≠ [] → ∃ b o, p = some ⟨b, o, none⟩ ∧ ∀ (i : Nat) (r : Ru), R[i]? = some r → IsRu w b (o + i * 3) r)
theorem IsRus.below {w w' : World} {v : Value} {R : List Ru} (h : IsRus w v R) (hb : Below w.heap.size w w') : IsRus w' v R := by
  obtain ⟨p, c, e, h1, h2, h3⟩ := h
  refine ⟨p, c, e, h1, h2, fun hne => ?_⟩
  obtain ⟨b, o, e, hc⟩ := h3 hne
  exact ⟨b, o, e, fun i r hr => (hc i r hr).below hb⟩
def IsAu (w : World) (v : Value) (A : Au) : Prop := ∃ fv rv, v = .agg #[.int .i64 A.st, fv, rv] ∧ IsInts w fv A.fin ∧ IsRus w rv A.ru
theorem IsAu.below {w w' : World} {v : Value} {A : Au} (h : IsAu w v A) (hb : Below w.heap.size w w') : IsAu w' v A := by
  obtain ⟨fv, rv, e, h1, h2⟩ := h
  exact ⟨fv, rv, e, h1.below hb, h2.below hb⟩

def stIn (st s : Int) : Bool := decide (0 ≤ s) && decide (s < st)
def finB (st : Int) : Int → List Int → Bool
  | _, [] => true
  | last, s :: l => decide (last < s) && (decide (s < st) && finB st s l)
def ruB (al : List Int) (st : Int) (r : Ru) : Bool :=
  decide (0 ≤ r.sym) && (decide (r.sym < al.length) && (((r.fr.length : Int) == al.getD r.sym.toNat 0) && (stIn st r.to && r.fr.all (stIn st))))
def validA (al : List Int) (A : Au) : Bool :=
  validAl al && (decide (0 ≤ A.st) && (decide (A.st ≤ 300) && (decide ((A.ru.length : Int) ≤ 20000) && (finB A.st (-1) A.fin && A.ru.all (ruB al A.st)))))

set_option maxRecDepth 100000 in
set_option maxHeartbeats 1000000 in
theorem hasState_ok (A : Au) (v : Value) (s : Int) (w : World) (h : IsAu w v A) :
    Calls Tryd.prog 70 #[v, .int .i64 s] w fun e w' => e = .returned (.bool (stIn A.st s)) ∧ Below w.heap.size w w' := by
  obtain ⟨fv, rv, rfl, hf, hr⟩ := h
  obtain ⟨p1, c1, rfl, _⟩ := hf
  obtain ⟨p2, c2, rfl, _⟩ := hr
  by_cases h1 : 0 ≤ s
  · by_cases h2 : s < A.st
    · have d2 : decide (s < A.st) = true := decide_eq_true h2
      go_enter Tryd.func70, Tryd.ntmps70
      go_wp2_with fail
      go_ret
      exact ⟨ret_bool (by simp [stIn, h1, h2]), (Below.refl _ w).alloc (Nat.le_refl _) _⟩
    · have d2 : decide (s < A.st) = false := decide_eq_false h2
      go_enter Tryd.func70, Tryd.ntmps70
      go_wp2_with fail
      go_ret
      exact ⟨ret_bool (by simp [stIn, h2]), (Below.refl _ w).alloc (Nat.le_refl _) _⟩
  · have d1 : decide (0 ≤ s) = false := decide_eq_false h1
    go_enter Tryd.func70, Tryd.ntmps70
    go_wp2_with fail
    go_ret
    exact ⟨ret_bool (by simp [stIn, h1]; try omega), (Below.refl _ w).alloc (Nat.le_refl _) _⟩

set_option maxRecDepth 100000 in
set_option maxHeartbeats 1000000 in
theorem validFinal_ok (A : Au) (v : Value) (w : World) (h : IsAu w v A) :
    Calls Tryd.prog 50 #[v] w fun e w' => e = .returned (.bool (finB A.st (-1) A.fin)) ∧ Below w.heap.size w w' := by
  obtain ⟨fv, rv, rfl, hf, hr⟩ := h
  obtain ⟨p2, c2, rfl, _⟩ := hr
  have hbw : Below w.heap.size w (w.alloc (.cells #[.int .i64 A.st, fv, .slice p2 A.ru.length c2] 27)) := (Below.refl _ w).alloc (Nat.le_refl _) _
  have hf2 := hf.below hbw
  have HX := Lib.hid (Blk.new w 27 #[.int .i64 A.st, fv, .slice p2 A.ru.length c2])
  obtain ⟨p, c, rfl, hc1, hc2, hcell⟩ := hf2
  unfold maxLen at hc2
  have HC := Lib.hid hcell
  have HB := Lib.hid hbw
  obtain ⟨st, fin, ru⟩ := A
  simp only at *
  clear hcell hbw hf
  go_enter Tryd.func50, Tryd.ntmps50
  go_wp2_with fail
  go_loop [3, 9] (fun lv iv => ∃ (k : Nat) (last : Int), lv = .int .i64 last ∧ iv = .int .i64 (k : Nat) ∧ k ≤ fin.length ∧ Hid (finB st (-1) fin = finB st last (fin.drop k))) (fun _ iv => fin.length - (intOf iv).toNat)
  case atStart => exact ⟨0, -1, rfl, rfl, by omega, Lib.hid rfl⟩
  case round =>
    obtain ⟨k, last, rfl, rfl, hk, HE⟩ := hrel
    by_cases hlt : k < fin.length
    · obtain ⟨s, hs⟩ : ∃ s, fin[k]? = some s := ⟨_, List.getElem?_eq_getElem hlt⟩
      obtain ⟨b, o, rfl, hcl⟩ := HC.out (fun h => by simp [h] at hlt)
      have c1 := hcl k s hs
      have hbl := World.block_lt_of_cell? _ _ c1
      simp only at hbl
      have x0 : (w.alloc (.cells #[.int .i64 st, .slice (some ⟨b, o, none⟩) fin.length c, .slice p2 ru.length c2] 27)).cell? ⟨w.heap.size, 0, none⟩ = some (.int .i64 st) := by rw [HX.out.cell]; rfl
      have hd : Hid (fin.drop k = s :: fin.drop (k + 1)) := Lib.hid (by
        rw [List.drop_eq_getElem_cons hlt]
        congr 1
        exact (List.getElem?_eq_some_iff.1 hs).2)
      have hlt1 : (k : Int) < (fin.length : Int) := by omega
      clear hs hcl
      by_cases h1 : last < s
      · have d1 : decide (s ≤ last) = false := decide_eq_false (by omega)
        have n1 : ¬ s ≤ last := by omega
        by_cases h2 : s < st
        · have d2 : decide (st ≤ s) = false := decide_eq_false (by omega)
          have n2 : ¬ st ≤ s := by omega
          go_wp2_with fail
          go_round
          case rel => exact ⟨k + 1, s, rfl, by go_num, by omega, Lib.hid (by rw [HE.out, hd.out, finB]; simp [h1, h2])⟩
          case measure => simp [intOf]; omega
        · have d2 : decide (st ≤ s) = true := decide_eq_true (by omega)
          have n2 : st ≤ s := by omega
          go_wp2_with fail
          go_ret
          exact ⟨ret_bool (by rw [HE.out, hd.out, finB]; simp [h2]; try (intros; omega)), HB.out⟩
      · have d1 : decide (s ≤ last) = true := decide_eq_true (by omega)
        have n1 : s ≤ last := by omega
        go_wp2_with fail
        go_ret
        exact ⟨ret_bool (by rw [HE.out, hd.out, finB]; simp [h1]; try (intros; omega)), HB.out⟩
    · have hd : Hid (fin.drop k = []) := Lib.hid (List.drop_eq_nil_iff.2 (by omega))
      have hge : fin.length ≤ k := by omega
      go_wp2_with fail
      go_ret
      exact ⟨ret_bool (by rw [HE.out, hd.out, finB]), HB.out⟩
end

section
open Go.RowKit Go.Shelf

theorem splice_head (s : Int) (fr : List Int) (hl : fr.length ≤ 3) : splice [.int .i64 s, .int .i64 0, .int .i64 0, .int .i64 0] 1 (fr.map (Value.int .i64)) = [.int .i64 s, .int .i64 (fr.getD 0 0), .int .i64 (fr.getD 1 0), .int .i64 (fr.getD 2 0)] := by
  rcases fr with _ | ⟨a, _ | ⟨b, _ | ⟨c, _ | ⟨d, r⟩⟩⟩⟩ <;> first | rfl | (exfalso; simp at hl)
def keyV (s a b c : Int) : Value := .agg #[.int .i64 s, .int .i64 a, .int .i64 b, .int .i64 c]
def hdV (s : Int) (fr : List Int) : Value := keyV s (fr.getD 0 0) (fr.getD 1 0) (fr.getD 2 0)

set_option maxRecDepth 100000 in
set_option maxHeartbeats 1000000 in
theorem headOf_ok (s : Int) (fr : List Int) (v : Value) (w : World) (hv : IsInts w v fr) (hl : fr.length ≤ 3) :
    Calls Tryd.prog 77 #[.int .i64 s, v] w fun e w' => e = .returned (hdV s fr) ∧ Below w.heap.size w w' := by
  obtain ⟨p, c, rfl, hc1, hc2, hcell⟩ := hv
  unfold maxLen at hc2
  have HC := Lib.hid hcell
  have HS4 : Hid ((Tryd.prog.info? 97).map (·.size) = some 4) := Lib.hid (by kernel_rfl)
  have HSZ : Hid ((Tryd.prog.info? 3).map (·.size) = some 1) := Lib.hid (by kernel_rfl)
  have HB0 : Hid (Below w.heap.size w ((w.alloc (.cells #[.int .i64 0, .int .i64 0, .int .i64 0, .int .i64 0] 97)).alloc (.cells #[.int .i64 s, .int .i64 0, .int .i64 0, .int .i64 0] 97))) := Lib.hid (((Below.refl _ w).alloc (Nat.le_refl _) _).alloc (by simp) _)
  have HX : Hid (Blk ((w.alloc (.cells #[.int .i64 0, .int .i64 0, .int .i64 0, .int .i64 0] 97)).alloc (.cells #[.int .i64 s, .int .i64 0, .int .i64 0, .int .i64 0] 97)) (w.heap.size + 1) 97 #[.int .i64 s, .int .i64 0, .int .i64 0, .int .i64 0]) := Lib.hid (by simpa using Blk.new (w.alloc (.cells #[.int .i64 0, .int .i64 0, .int .i64 0, .int .i64 0] 97)) 97 #[.int .i64 s, .int .i64 0, .int .i64 0, .int .i64 0])
  have HXR : Hid (((w.alloc (.cells #[.int .i64 0, .int .i64 0, .int .i64 0, .int .i64 0] 97)).alloc (.cells #[.int .i64 s, .int .i64 0, .int .i64 0, .int .i64 0] 97)).heap[w.heap.size + 1]? = some (.cells ([.int .i64 s, .int .i64 0, .int .i64 0, .int .i64 0] : List Value).toArray 97 (0, 0))) := Lib.hid HX.out
  clear hcell
  go_enter Tryd.func77, Tryd.ntmps77
  go_wp2_with (with_reducible refine wpList_copy_splice rfl (.tmp 9) (.tmp 10) 22 22 rfl 3 Tryd.underlying22 HSZ.out (some ⟨w.heap.size + 1, 1, none⟩) p 3 3 fr.length c rfl rfl (w.heap.size + 1) 1 [.int .i64 s, .int .i64 0, .int .i64 0, .int .i64 0] 97 HXR.out (fr.map (Value.int .i64)) ?c1 ?c2 ?c3 ?c4 (w.heap.size + 1) ((w.alloc (.cells #[.int .i64 0, .int .i64 0, .int .i64 0, .int .i64 0] 97)).alloc (.cells #[.int .i64 s, .int .i64 0, .int .i64 0, .int .i64 0] 97)) (Below.refl _ _) (Nat.le_refl _) ?_)
  case c1 => simp [Nat.min_eq_left hl]
  case c2 =>
    intro h0
    obtain ⟨b, o, rfl, hcl⟩ := HC.out (by rintro rfl; simp at h0)
    refine ⟨_, rfl, fun j x hx => ?_⟩
    have h := cell_later HB0.out (hcl j x hx)
    rw [show ((⟨b, o, none⟩ : Addr).add j) = ⟨b, o + j, none⟩ by unfold Addr.add; split <;> simp_all]
    exact h
  case c3 => simp; omega
  case c4 =>
    intro x hx
    obtain ⟨y, _, rfl⟩ := List.mem_map.1 hx
    rfl
  intro w2 hg2 hb2
  have hx := hg2.out
  rw [splice_head s fr hl] at hx
  have hX : Blk w2 (w.heap.size + 1) 97 #[.int .i64 s, .int .i64 (fr.getD 0 0), .int .i64 (fr.getD 1 0), .int .i64 (fr.getD 2 0)] := hx
  have x0 : w2.cell? ⟨w.heap.size + 1, 0, none⟩ = some (.int .i64 s) := by rw [hX.cell]; rfl
  have x1 : w2.cell? ⟨w.heap.size + 1, 1, none⟩ = some (.int .i64 (fr.getD 0 0)) := by rw [hX.cell]; rfl
  have x2 : w2.cell? ⟨w.heap.size + 1, 2, none⟩ = some (.int .i64 (fr.getD 1 0)) := by rw [hX.cell]; rfl
  have x3 : w2.cell? ⟨w.heap.size + 1, 3, none⟩ = some (.int .i64 (fr.getD 2 0)) := by rw [hX.cell]; rfl
  have HX2 := Lib.hid hX
  have HA : Hid (Blk w2 w.heap.size 97 #[.int .i64 0, .int .i64 0, .int .i64 0, .int .i64 0]) := Lib.hid (((Blk.new w 97 #[.int .i64 0, .int .i64 0, .int .i64 0, .int .i64 0]).alloc (.cells #[.int .i64 s, .int .i64 0, .int .i64 0, .int .i64 0] 97)).below hb2 (by omega))
  have HB2 : Hid (Below w.heap.size w w2) := Lib.hid (HB0.out.trans (hb2.mono (Nat.le_succ _)))
  have a0 : w2.cell? ⟨w.heap.size, 0, none⟩ = some (.int .i64 0) := by rw [HA.out.cell]; rfl
  have f0 : w2.frozen? ⟨w.heap.size, 0, none⟩ = false := HA.out.frozen _
  have a1 : w2.cell? ⟨w.heap.size, 1, none⟩ = some (.int .i64 0) := by rw [HA.out.cell]; rfl
  have f1 : w2.frozen? ⟨w.heap.size, 1, none⟩ = false := HA.out.frozen _
  have a2 : w2.cell? ⟨w.heap.size, 2, none⟩ = some (.int .i64 0) := by rw [HA.out.cell]; rfl
  have f2 : w2.frozen? ⟨w.heap.size, 2, none⟩ = false := HA.out.frozen _
  have a3 : w2.cell? ⟨w.heap.size, 3, none⟩ = some (.int .i64 0) := by rw [HA.out.cell]; rfl
  have f3 : w2.frozen? ⟨w.heap.size, 3, none⟩ = false := HA.out.frozen _
  have hla := HA.out.lt
  have hlx := hX.lt
  generalize hg0 : fr.getD 0 0 = g0 at *
  generalize hg1 : fr.getD 1 0 = g1 at *
  generalize hg2 : fr.getD 2 0 = g2 at *
  have HK : Hid (hdV s fr = keyV s g0 g1 g2) := Lib.hid (by unfold hdV; rw [hg0, hg1, hg2])
  clear hx hX hb2 hg0 hg1 hg2
  go_wp2_with fail
  refine bodyPost_ret (results_cell_row rfl _ _ w.heap.size 97 #[.int .i64 s, .int .i64 g0, .int .i64 g1, .int .i64 g2] (0, 0) _ rfl (by have h := (((HA.out.set_ 0 (.int .i64 s)).set_ 1 (.int .i64 g0)).set_ 2 (.int .i64 g1)).set_ 3 (.int .i64 g2); exact h) Tryd.underlying97 rfl HS4.out) rfl ⟨?_, ?_⟩
  · rw [HK.out]; rfl
  · exact (((HB2.out.setCell (p := ⟨w.heap.size, 0, none⟩) (Nat.le_refl _) _).setCell (p := ⟨w.heap.size, 1, none⟩) (Nat.le_refl _) _).setCell (p := ⟨w.heap.size, 2, none⟩) (Nat.le_refl _) _).setCell (p := ⟨w.heap.size, 3, none⟩) (Nat.le_refl _) _
end

section
open Go.RowKit Go.Shelf Go.Maps Go.WideMaps

theorem hd_laidOut : laidOutB Tryd.prog = true := by kernel_rfl
theorem hd_row : (97 : TypeId) < Tryd.prog.types.size := of_decide_eq_true (by kernel_rfl)
theorem hd_wide : (match Tryd.prog.underlying 97 with | some (.array _ _) | some (.struct _) => true | _ => false) = true := by rw [Tryd.underlying97]
set_option maxRecDepth 100000 in
theorem hd_law : KeyLaw Tryd.prog 97 := deep_law_laid hd_laidOut (m := 3) (by omega) hd_row (by kernel_rfl) hd_wide
theorem hd_keyed : Keyed Tryd.prog 97 := Keyed.of_law hd_law
theorem hd_cells : Tryd.prog.cellsOf 97 = 4 := by kernel_rfl
theorem hd_cells3 : Tryd.prog.cellsOf 95 = 3 := by kernel_rfl
theorem hd_cells1 : Tryd.prog.cellsOf 3 = 1 := by kernel_rfl
theorem hd_kt : Tryd.prog.keyType 97 = true := by kernel_rfl
theorem hd_size : ∃ m, Tryd.prog.types.size = m + 3 := ⟨Tryd.prog.types.size - 3, by have : 3 ≤ Tryd.prog.types.size := of_decide_eq_true (by kernel_rfl); omega⟩

def klOf (s a b c : Int) : Lit := .string (keyBytes [.int .i64 s, .int .i64 a, .int .i64 b, .int .i64 c])

set_option maxRecDepth 100000 in
theorem hd_keyOf {s a b c : Int} (hs : (Lit.int .i64 s).wf = true) (ha : (Lit.int .i64 a).wf = true) (hb : (Lit.int .i64 b).wf = true) (hc : (Lit.int .i64 c).wf = true) :
    keyOf Tryd.prog 97 (keyV s a b c) = some (klOf s a b c) := by
  obtain ⟨m, hm⟩ := hd_size
  unfold keyOf keyV
  simp only [Tryd.underlying97]
  rw [if_pos (by simp [hd_kt, Value.formed, Tryd.underlying97, hd_cells]), hm]
  have h3 : ∀ d, Tryd.prog.keyLits (d + 2) 95 [.int .i64 a, .int .i64 b, .int .i64 c] = some [.int .i64 a, .int .i64 b, .int .i64 c] := fun d => by
    unfold Program.keyLits
    simp only [Tryd.underlying95]
    rw [if_pos (by rw [hd_cells3]; rfl), show List.range 3 = [0, 1, 2] from rfl, List.mapM_cons, List.mapM_cons, List.mapM_cons, List.mapM_nil]
    simp [hd_cells1, Program.keyLits, Tryd.underlying3, ha, hb, hc]
  have h1 : ∀ d, Tryd.prog.keyLits (d + 1) 3 [.int .i64 s] = some [.int .i64 s] := fun d => by
    simp [Program.keyLits, Tryd.underlying3, hs]
  unfold Program.keyLits
  simp only [Tryd.underlying97, Value.cells]
  rw [if_pos (by rw [hd_cells]; exact ⟨rfl, by kernel_rfl⟩)]
  simp [hd_cells1, hd_cells3, h3, h1, klOf]

set_option maxRecDepth 100000 in
theorem kl_inj {s a b c s' a' b' c' : Int} (hs : (Lit.int .i64 s).wf = true) (ha : (Lit.int .i64 a).wf = true) (hb : (Lit.int .i64 b).wf = true) (hc : (Lit.int .i64 c).wf = true) (hs' : (Lit.int .i64 s').wf = true) (ha' : (Lit.int .i64 a').wf = true) (hb' : (Lit.int .i64 b').wf = true) (hc' : (Lit.int .i64 c').wf = true)
    (h : klOf s a b c = klOf s' a' b' c') : s = s' ∧ a = a' ∧ b = b' ∧ c = c' := by
  have := hd_keyed.inj (hd_keyOf hs ha hb hc) (h ▸ hd_keyOf hs' ha' hb' hc')
  simpa [keyV] using this
end

end Go.Proofs.YtedfldbknjcnlaaDoor
