/- bitset.Set in memory: Has, Add, Unite. A map of values whose keys all lie in a list, as a function of the key. -/
import Derived.Test.YtedfldbknjcnlaaDoorRows
import Derived.Test.YtedfldbknjcnlaaDoorHgS
import Derived.Deep.QuietTactic
import Derived.BigQuiet
import Derived.StillTailTactics
import Derived.Laws.BitsAllLaws
import Derived.Shelf.Abstract
import Derived.Maps.OwnSet
namespace Go.Proofs.YtedfldbknjcnlaaDoor
section
open Go.RowKit Go.Shelf

/-- Whether the words of a set have the bit of q. -/
def mem (W : Nat → Nat) (q : Nat) : Bool := (W (q / 64)).testBit (q % 64)
def SetAt (w : World) (b o : Nat) (W : Nat → Nat) : Prop := ∀ i, i < 5 → w.cell? ⟨b, o + i, none⟩ = some (.int .u64 (W i : Nat))
def W64 (W : Nat → Nat) : Prop := ∀ i, W i < 18446744073709551616

theorem bits_has {a k : Nat} (hk : k < 64) : ((a &&& 2 ^ k : Nat) != 0) = a.testBit k := by
  cases h : a.testBit k
  · have : a &&& 2 ^ k = 0 := Nat.eq_of_testBit_eq (fun i => by
      rw [Nat.testBit_and, Nat.testBit_two_pow, Nat.zero_testBit]
      by_cases e : k = i
      · subst e; rw [h]; rfl
      · simp [e])
    rw [this]; rfl
  · have : a &&& 2 ^ k ≠ 0 := fun e => by
      have h2 : (a &&& 2 ^ k).testBit k = true := by rw [Nat.testBit_and, h, Nat.testBit_two_pow_self]; rfl
      rw [e, Nat.zero_testBit] at h2
      cases h2
    simpa using this
theorem natne (x : Nat) : (((x : Nat) : Int) != 0) = (x != 0) := by
  cases x with
  | zero => rfl
  | succ n =>
    have h1 : ((n + 1 : Nat) : Int) ≠ 0 := by omega
    rw [bne_iff_ne.2 h1, bne_iff_ne.2 (by omega : n + 1 ≠ 0)]
theorem pow_lt64 {k : Nat} (hk : k < 64) : 2 ^ k < 18446744073709551616 := by
  have := Nat.pow_lt_pow_right (a := 2) (by decide) hk
  exact this
theorem wrap_pow2 {k : Nat} (hk : k < 64) : IntKind.u64.wrap ((2 : Int) ^ k) = ((2 ^ k : Nat) : Int) := by
  have h := pow_lt64 hk
  have e : ((2 : Int) ^ k) = ((2 ^ k : Nat) : Int) := by simp
  rw [e]
  generalize 2 ^ k = x at *
  simp [IntKind.wrap, IntKind.bits, IntKind.signed]
  omega
theorem wrap_pow {k : Nat} (hk : k < 64) : IntKind.u64.wrap ((1 : Int) * 2 ^ min k 64) = ((2 ^ k : Nat) : Int) := by
  rw [Nat.min_eq_left (by omega), Int.one_mul]
  have h := pow_lt64 hk
  have e : ((2 : Int) ^ k) = ((2 ^ k : Nat) : Int) := by simp
  rw [e]
  generalize 2 ^ k = x at *
  simp [IntKind.wrap, IntKind.bits, IntKind.signed]
  omega

/-- The set with q. -/
def addW (W : Nat → Nat) (q : Nat) : Nat → Nat := fun i => if i = q / 64 then W i ||| 2 ^ (q % 64) else W i
theorem addW_mem (W : Nat → Nat) (q x : Nat) : mem (addW W q) x = (mem W x || decide (x = q)) := by
  unfold mem addW
  by_cases h : x / 64 = q / 64
  · rw [if_pos h, Nat.testBit_or, Nat.testBit_two_pow]
    congr 1
    by_cases e : x = q
    · subst e; simp
    · have : ¬ q % 64 = x % 64 := by omega
      simp [e, this]
  · rw [if_neg h]
    have : ¬ x = q := fun e => h (by rw [e])
    simp [this]
theorem addW_lt {W : Nat → Nat} (h : W64 W) (q : Nat) : W64 (addW W q) := fun i => by
  unfold addW
  split
  · exact Nat.or_lt_two_pow (n := 64) (h i) (pow_lt64 (by omega))
  · exact h i
def uniW (W V : Nat → Nat) : Nat → Nat := fun i => W i ||| V i
theorem uniW_mem (W V : Nat → Nat) (x : Nat) : mem (uniW W V) x = (mem W x || mem V x) := by unfold mem uniW; rw [Nat.testBit_or]
theorem uniW_lt {W V : Nat → Nat} (h : W64 W) (h' : W64 V) : W64 (uniW W V) := fun i => Nat.or_lt_two_pow (n := 64) (h i) (h' i)

set_option maxRecDepth 100000 in
set_option maxHeartbeats 1000000 in
theorem has_ok (w : World) (b o : Nat) (W : Nat → Nat) (q : Nat) (x : Int) (hx : x = (q : Int)) (hq : q < 320) (h : SetAt w b o W) (hW : W64 W) :
    Calls Tryd.prog 97 #[.pointer (some ⟨b, o, none⟩), .int .i64 x] w fun e w' => e = .returned (.bool (mem W q)) ∧ ∃ n, w' = w.drewN n := by
  subst hx
  have c1 := h (q / 64) (by omega)
  have b1 := World.block_lt_of_cell? _ _ c1
  simp only at b1
  have hl := hW (q / 64)
  have HM : Hid (mem W q = ((W (q / 64) &&& 2 ^ (q % 64) : Nat) != 0)) := Lib.hid (bits_has (by omega)).symm
  have s1 : ((q : Int) / 64).toNat = q / 64 := by omega
  have s2 : (0 : Int) ≤ (q : Int) / 64 := by omega
  have s3 : (q : Int) / 64 < 5 := by omega
  have s4 : ((q : Int) % 64).toNat = q % 64 := by omega
  have s5 : (0 : Int) ≤ (q : Int) % 64 := by omega
  have hq0 : (0 : Int) ≤ (q : Int) := by omega
  have HWP := Lib.hid (wrap_pow2 (k := q % 64) (by omega))
  have HPL := Lib.hid (pow_lt64 (k := q % 64) (by omega))
  clear h hW
  generalize hy : W (q / 64) = y at *
  clear hy
  go_enter Tryd.func97, Tryd.ntmps97
  go_wp2_with fail
  go_quiet (fail)
  go_wp2_with fail
  go_ret
  exact ⟨ret_bool (by rw [HWP.out, u64_and_nat _ _ hl HPL.out, HM.out]; exact natne _), _, rfl⟩

/-- A block whose cells are those before a set, the set's words, and those behind it. -/
def scs (pre : List Value) (W : Nat → Nat) (post : List Value) : Array Value := (pre ++ (List.range 5).map (fun i => Value.int .u64 (W i : Nat)) ++ post).toArray
theorem scs_at {pre post : List Value} {W : Nat → Nat} {i : Nat} (hi : i < 5) : (scs pre W post)[pre.length + i]? = some (.int .u64 (W i : Nat)) := by
  simp only [scs, List.getElem?_toArray]
  rw [List.append_assoc, List.getElem?_append_right (by omega), List.getElem?_append_left (by simp; omega)]
  simp [List.getElem?_range hi, hi]
theorem scs_set {pre post : List Value} {W V : Nat → Nat} {i x : Nat} (hi : i < 5) (hV : ∀ j, j < 5 → V j = if j = i then x else W j) : (scs pre W post).setIfInBounds (pre.length + i) (.int .u64 (x : Nat)) = scs pre V post := by
  have h5 : ∀ (U : Nat → Nat), (List.range 5).map (fun i => Value.int .u64 (U i : Nat)) = [.int .u64 (U 0 : Nat), .int .u64 (U 1 : Nat), .int .u64 (U 2 : Nat), .int .u64 (U 3 : Nat), .int .u64 (U 4 : Nat)] := fun U => rfl
  apply Array.ext'
  simp only [scs, Array.toList_setIfInBounds, h5, List.append_assoc]
  rw [List.set_append_right _ _ (by omega), show pre.length + i - pre.length = i by omega, hV 0 (by omega), hV 1 (by omega), hV 2 (by omega), hV 3 (by omega), hV 4 (by omega)]
  congr 1
  match i, hi with
  | 0, _ => simp
  | 1, _ => simp
  | 2, _ => simp
  | 3, _ => simp
  | 4, _ => simp
theorem scs_setAt {w : World} {b : Nat} {t : TypeId} {pre post : List Value} {W : Nat → Nat} (h : Blk w b t (scs pre W post)) : SetAt w b pre.length W := fun i hi => by rw [h.cell, scs_at hi]

set_option maxRecDepth 100000 in
set_option maxHeartbeats 1000000 in
theorem add_ok (w : World) (b : Nat) (t : TypeId) (pre post : List Value) (W : Nat → Nat) (q : Nat) (x : Int) (n : Nat) (hn : n = pre.length) (hx : x = (q : Int)) (hq : q < 320) (h : Blk w b t (scs pre W post)) (hW : W64 W) :
    Calls Tryd.prog 80 #[.pointer (some ⟨b, n, none⟩), .int .i64 x] w fun e w' => e = .returned (.tuple #[]) ∧ Blk w' b t (scs pre (addW W q) post) ∧ Kp (fun c => c ≠ b) w w' := by
  subst hx
  subst hn
  have c1 := scs_setAt h (q / 64) (by omega)
  have b1 := World.block_lt_of_cell? _ _ c1
  have f1 := h.frozen (pre.length + q / 64)
  simp only at b1
  have hl := hW (q / 64)
  have HSET : Hid (∀ u : Nat, u = W (q / 64) ||| 2 ^ (q % 64) → Blk (w.setCell ⟨b, pre.length + q / 64, none⟩ (.int .u64 (u : Nat))) b t (scs pre (addW W q) post)) := Lib.hid (fun u hu => by
    rw [← scs_set (W := W) (i := q / 64) (x := u) (by omega) (fun j hj => by unfold addW; by_cases e : j = q / 64 <;> simp [e, hu])]
    exact h.set_ _ _)
  have s1 : ((q : Int) / 64).toNat = q / 64 := by omega
  have s2 : (0 : Int) ≤ (q : Int) / 64 := by omega
  have s3 : (q : Int) / 64 < 5 := by omega
  have s4 : ((q : Int) % 64).toNat = q % 64 := by omega
  have s5 : (0 : Int) ≤ (q : Int) % 64 := by omega
  have hq0 : (0 : Int) ≤ (q : Int) := by omega
  have HWP := Lib.hid (wrap_pow2 (k := q % 64) (by omega))
  have HPL := Lib.hid (pow_lt64 (k := q % 64) (by omega))
  clear h hW
  generalize hy : W (q / 64) = y at *
  clear hy
  go_enter Tryd.func80, Tryd.ntmps80
  go_wp2_with fail
  have t1 : (q : Int).tdiv 64 = (q : Int) / 64 := Int.tdiv_eq_ediv_of_nonneg (by omega)
  have t2 : (q : Int).tmod 64 = (q : Int) % 64 := Int.tmod_eq_emod_of_nonneg (by omega)
  have t3 : IntKind.i64.wrap ((q : Int) / 64) = (q : Int) / 64 := by rw [IntKind.wrap_i64]; omega
  have t4 : IntKind.i64.wrap ((q : Int) % 64) = (q : Int) % 64 := by rw [IntKind.wrap_i64]; omega
  go_still_tail 12, (by kernel_rfl)
  change wpList _ _ _ _ _ w.drew
  have f1' : w.drew.frozen? ⟨b, pre.length + q / 64, none⟩ = false := f1
  have c1' : w.drew.cell? ⟨b, pre.length + q / 64, none⟩ = some (.int .u64 (y : Nat)) := c1
  have b1' : b < w.drew.heap.size := b1
  clear f1
  go_wp2_with fail
  go_end0
  have e : bits .or .u64 (y : Int) (IntKind.u64.wrap ((2 : Int) ^ (q % 64))) = ((y ||| 2 ^ (q % 64) : Nat) : Int) := by rw [HWP.out, u64_or_nat _ _ hl HPL.out]
  rw [e]
  exact ⟨rfl, HSET.out _ rfl, ((Kp.refl _ w).setCell (p := ⟨b, pre.length + q / 64, none⟩) (fun h => absurd rfl h) _).drew⟩

set_option maxRecDepth 100000 in
set_option maxHeartbeats 1000000 in
theorem unite_ok (w : World) (b : Nat) (t : TypeId) (pre post : List Value) (W V : Nat → Nat) (b' o' : Nat) (n : Nat) (hn : n = pre.length) (h : Blk w b t (scs pre W post)) (hne : b' ≠ b) (h' : SetAt w b' o' V) (hW : W64 W) (hV : W64 V) :
    Calls Tryd.prog 94 #[.pointer (some ⟨b, n, none⟩), .pointer (some ⟨b', o', none⟩)] w fun e w' => e = .returned (.tuple #[]) ∧ Blk w' b t (scs pre (uniW W V) post) ∧ Kp (fun c => c ≠ b) w w' := by
  subst hn
  have HW := Lib.hid hW
  have HV := Lib.hid hV
  have HS := Lib.hid h'
  have H0 : Hid (Blk w b t (scs pre (fun i => if i < 0 then W i ||| V i else W i) post)) := Lib.hid (by simpa using h)
  have HNE := Lib.hid hne
  clear hW hV h' h hne
  go_enter Tryd.func94, Tryd.ntmps94
  go_wp2_with fail
  go_loopw [7] (fun iv wr => ∃ k : Nat, iv = .int .i64 (k : Nat) ∧ k ≤ 5 ∧ Hid (Blk wr b t (scs pre (fun i => if i < k then W i ||| V i else W i) post)) ∧ Hid (Kp (fun c => c ≠ b) w wr)) (fun iv _ => 5 - (intOf iv).toNat)
  case atStart => exact ⟨0, rfl, by omega, H0, Lib.hid (Kp.refl _ _)⟩
  case round =>
    rename World => wr
    obtain ⟨k, rfl, hk, HB, HK⟩ := hrel
    clear H0
    by_cases hlt : k < 5
    · have hlt1 : (k : Int) < 5 := by omega
      have hk0 : (0 : Int) ≤ (k : Int) := by omega
      have c1 := scs_setAt HB.out k hlt
      rw [if_neg (by omega)] at c1
      have b1 := HB.out.lt
      have f1 := HB.out.frozen (pre.length + k)
      have c2 := HK.out.cell (HS.out k hlt) HNE.out
      have b2 := World.block_lt_of_cell? _ _ c2
      simp only at b2
      have l1 := HW.out k
      have l2 := HV.out k
      have HSET : Hid (∀ u : Nat, u = W k ||| V k → Blk (wr.setCell ⟨b, pre.length + k, none⟩ (.int .u64 (u : Nat))) b t (scs pre (fun i => if i < k + 1 then W i ||| V i else W i) post)) := Lib.hid (fun u hu => by
        rw [← scs_set (W := fun i => if i < k then W i ||| V i else W i) (i := k) (x := u) hlt (fun j hj => by
          by_cases e : j = k
          · subst e; simp [hu]
          · by_cases e2 : j < k
            · simp [e, e2, show j < k + 1 by omega]
            · simp [e, e2, show ¬ j < k + 1 by omega])]
        exact HB.out.set_ _ _)
      generalize hy : W k = y at *
      generalize hz : V k = z at *
      clear hy hz
      go_wp2_with fail
      go_quiet (fail)
      rename_i nq
      have c1' : (wr.drewN nq).cell? ⟨b, pre.length + k, none⟩ = some (.int .u64 (y : Nat)) := c1
      have f1' : (wr.drewN nq).frozen? ⟨b, pre.length + k, none⟩ = false := f1
      have b1' : b < (wr.drewN nq).heap.size := b1
      have HSET2 : Hid (∀ u : Nat, u = y ||| z → Blk ((wr.drewN nq).drew.setCell ⟨b, pre.length + k, none⟩ (.int .u64 (u : Nat))) b t (scs pre (fun i => if i < k + 1 then W i ||| V i else W i) post)) := HSET
      have HK2 : Hid (Kp (fun c => c ≠ b) w (wr.drewN nq)) := Lib.hid (HK.out.drewN nq)
      clear c1 f1 b1 c2 b2 HB
      generalize wr.drewN nq = wz at *
      go_wp2_with fail
      go_still_tail 9, (by kernel_rfl)
      change wpList _ _ _ _ _ wz.drew
      have c1'' : wz.drew.cell? ⟨b, pre.length + k, none⟩ = some (.int .u64 (y : Nat)) := c1'
      have f1'' : wz.drew.frozen? ⟨b, pre.length + k, none⟩ = false := f1'
      have b1'' : b < wz.drew.heap.size := b1'
      clear f1'
      go_wp2_with fail
      have e : bits .or .u64 (y : Int) (z : Int) = ((y ||| z : Nat) : Int) := u64_or_nat _ _ l1 l2
      go_roundw
      case rel => exact ⟨k + 1, by go_num, by omega, by rw [e]; exact HSET2.out _ rfl, Lib.hid (by rw [e]; exact (HK2.out.setCell (p := ⟨b, pre.length + k, none⟩) (fun h => absurd rfl h) _).drew)⟩
      case measure => simp [intOf]; omega
    · have hk5 : k = 5 := by omega
      subst hk5
      have HF : Hid (Blk wr b t (scs pre (uniW W V) post)) := Lib.hid (by
        have h := HB.out
        rwa [← show scs pre (fun i => if i < 5 then W i ||| V i else W i) post = scs pre (uniW W V) post from by
          unfold scs uniW
          congr 3])
      go_wp2_with fail
      go_end0
      exact ⟨rfl, HF.out, HK.out⟩
end

section
open Go.RowKit Go.Maps Go.WideElems

def heldV (v : Value) : Option (DataW Value × List MemPlace) := some (.held v, [])

theorem nodup_le {α : Type} : ∀ (l m : List α), l.Pairwise (fun a b => a ≠ b) → (∀ x ∈ l, x ∈ m) → l.length ≤ m.length
  | [], _, _, _ => Nat.zero_le _
  | a :: l, m, hp, hs => by
    obtain ⟨m1, m2, rfl⟩ := List.append_of_mem (hs a (List.mem_cons_self ..))
    rw [List.pairwise_cons] at hp
    have := nodup_le l (m1 ++ m2) hp.2 (fun x hx => by
      have h1 := hs x (List.mem_cons_of_mem _ hx)
      have h2 := hp.1 x hx
      simp only [List.mem_append, List.mem_cons] at h1 ⊢
      rcases h1 with h | h | h
      · exact .inl h
      · exact absurd h.symm h2
      · exact .inr h)
    simp only [List.length_append, List.length_cons] at this ⊢
    omega

/-- Block b is a map that holds f, and its keys lie in ks. -/
def IsMp (P : Program) (k : TypeId) (ks : List Lit) (w : World) (b : Nat) (f : Lit → Option Value) : Prop :=
  ∃ D, w.ownsMap P k heldV b ks.length D ∧ (∀ kl, f kl = none → Maps.has D kl = false) ∧ (∀ kl v, f kl = some v → Maps.has D kl = true ∧ kl ∈ ks ∧ ∀ z, D.atKey kl z = .held v)

section
variable {P : Program} {k : TypeId} {ks : List Lit} {w : World} {b : Nat} {f : Lit → Option Value}

theorem IsMp.lt (h : IsMp P k ks w b f) : b < w.heap.size := by
  obtain ⟨D, h, _⟩ := h
  exact h.lt
theorem IsMp.made (w : World) (P : Program) (k : TypeId) (ks : List Lit) : IsMp P k ks (w.alloc (.map #[] 0)) w.heap.size (fun _ => none) :=
  ⟨.map [], (World.ownsMap_made w P k heldV).mono (Nat.zero_le _), fun _ _ => rfl, fun _ _ h => by cases h⟩
theorem IsMp.heap {w' : World} (h : IsMp P k ks w b f) (e : w'.heap[b]? = w.heap[b]?) : IsMp P k ks w' b f := by
  obtain ⟨D, ⟨es, clock, hb, h1⟩, h2⟩ := h
  exact ⟨D, ⟨es, clock, e.trans hb, h1⟩, h2⟩
theorem IsMp.kp {w' : World} {S : Nat → Prop} (h : IsMp P k ks w b f) (hk : Kp S w w') (hb : S b) : IsMp P k ks w' b f := h.heap (hk.block b h.lt hb)

theorem ownsMap_shrink {R : Value → Option (DataW Value × List MemPlace)} {n : Nat} {D : DataW Value} (h : w.ownsMap P k R b n D) (K : Keyed P k) (hks : ∀ kl, Maps.has D kl = true → kl ∈ ks) : w.ownsMap P k R b ks.length D := by
  obtain ⟨es, clock, hb, F, hs, rfl⟩ := h
  refine ⟨es, clock, hb, F, ?_, rfl⟩
  have h1 := fit_apart K F
  have h2 := nodup_le ((es.toList.map (rg P k R)).map (·.1)) ks (by rw [List.pairwise_map]; exact h1) (fun x hx => by
    obtain ⟨p, hp, rfl⟩ := List.mem_map.1 hx
    refine hks _ ?_
    rw [has_eq]
    obtain ⟨v, hv⟩ := fit_keys F p hp
    have : ∀ l : List (Lit × DataW Value), (l.foldr DataW.insert []).any (fun q => q.1.sameKey p.1) = l.any (fun q => q.1.sameKey p.1) := by
      intro l
      induction l with
      | nil => rfl
      | cons a l ih => simp only [List.foldr_cons, any_insert, List.any_cons, ih]
    rw [this, List.any_eq_true]
    exact ⟨p, hp, WideAt.sameKey_self (K.key hv)⟩)
  simpa using h2

theorem IsMp.look (h : IsMp P k ks w b f) (K : Keyed P k) {t e : TypeId} (ht : P.underlying t = some (.map k e)) {z : Value} (hz : (zeroValue e).run P w = .ok z w) {key : Value} {kl : Lit} (hkey : keyOf P k key = some kl) :
    (Instr.lookup t (.map (some b)) key false).run P w = .ok ((f kl).getD z) w := by
  obtain ⟨D, h1, h2, h3⟩ := h
  obtain ⟨v, ps, hrun, hv⟩ := h1.lookup K ht hz (R := heldV) (zd := .held z) (zp := []) rfl hkey
  rw [hrun]
  cases hf : f kl with
  | none =>
    rw [atKey_of_not_has (h2 kl hf)] at hv
    simp only [heldV, Option.some.injEq, Prod.mk.injEq, DataW.held.injEq] at hv
    rw [hv.1]; rfl
  | some u =>
    rw [(h3 kl u hf).2.2] at hv
    simp only [heldV, Option.some.injEq, Prod.mk.injEq, DataW.held.injEq] at hv
    rw [hv.1]; rfl

theorem IsMp.look_ok (h : IsMp P k ks w b f) (K : Keyed P k) {t e : TypeId} (ht : P.underlying t = some (.map k e)) {z : Value} (hz : (zeroValue e).run P w = .ok z w) {key : Value} {kl : Lit} (hkey : keyOf P k key = some kl) :
    (Instr.lookup t (.map (some b)) key true).run P w = .ok (.tuple #[(f kl).getD z, .bool (f kl).isSome]) w := by
  obtain ⟨D, h1, h2, h3⟩ := h
  obtain ⟨v, ps, hrun, hv⟩ := h1.look_ok K ht hz (R := heldV) (zd := .held z) (zp := []) rfl hkey
  rw [hrun]
  cases hf : f kl with
  | none =>
    rw [atKey_of_not_has (h2 kl hf)] at hv
    simp only [heldV, Option.some.injEq, Prod.mk.injEq, DataW.held.injEq] at hv
    rw [hv.1, h2 kl hf]; rfl
  | some u =>
    rw [(h3 kl u hf).2.2] at hv
    simp only [heldV, Option.some.injEq, Prod.mk.injEq, DataW.held.injEq] at hv
    rw [hv.1, (h3 kl u hf).1]; rfl

noncomputable def putF (f : Lit → Option Value) (kl : Lit) (v : Value) : Lit → Option Value := fun x => @ite _ (x = kl) (Classical.propDecidable _) (some v) (f x)
theorem putF_same (f : Lit → Option Value) (kl : Lit) (v : Value) : putF f kl v kl = some v := if_pos rfl
theorem putF_other (f : Lit → Option Value) {kl x : Lit} (v : Value) (h : x ≠ kl) : putF f kl v x = f x := if_neg h

theorem IsMp.put (h : IsMp P k ks w b f) (K : Keyed P k) {t e : TypeId} (ht : P.underlying t = some (.map k e)) {key val : Value} {kl : Lit} (hkey : keyOf P k key = some kl) (hks : kl ∈ ks) (hlen : ks.length < maxLen) :
    ∃ w', (Instr.mapUpdate t (.map (some b)) key val).run P w = .ok () w' ∧ IsMp P k ks w' b (putF f kl val) ∧ w.grownBy w' (some b) := by
  obtain ⟨D, h1, h2, h3⟩ := h
  obtain ⟨w', hrun, r1, r2⟩ := h1.update K ht hlen hkey (d := .held val) (ps := []) rfl
  have hne : ∀ x, x ≠ kl → Maps.has (D.put kl (.held val)) x = Maps.has D x := fun x hx => has_put_other hx _
  have hM := h1.isMap
  refine ⟨w', hrun, ⟨_, ownsMap_shrink r1 K ?_, ?_, ?_⟩, r2⟩
  · intro x hx
    by_cases e : x = kl
    · exact e ▸ hks
    · rw [hne x e] at hx
      cases hf : f x with
      | none => rw [h2 x hf] at hx; cases hx
      | some v => exact (h3 x v hf).2.1
  · intro x hx
    by_cases e : x = kl
    · subst e; rw [putF_same] at hx; cases hx
    · rw [putF_other f val e] at hx; rw [hne x e]; exact h2 x hx
  · intro x v hx
    by_cases e : x = kl
    · subst e
      rw [putF_same] at hx; cases hx
      exact ⟨has_put_same hM (K.key hkey) _, hks, fun z => atKey_put_same hM (K.key hkey) _ _⟩
    · rw [putF_other f val e] at hx
      obtain ⟨a1, a2, a3⟩ := h3 x v hx
      exact ⟨(hne x e).trans a1, a2, fun z => (atKey_put_other e _ _).trans (a3 z)⟩

end
end

end Go.Proofs.YtedfldbknjcnlaaDoor
