/- The grammar of printed hedges, as data. -/
import Derived.Test.YthdaeblfehclcabExpect
import Derived.Test.YthdaeblfehclcabWrite
import Derived.Test.YthdaeblfehclcabDec
namespace Go.Proofs.Ythdaeblfehclcab
open Go.RowKit Go.Shelf

theorem skB_le {s : ByteArray} {i : Nat} (h : i ≤ s.size) : i ≤ skB s i ∧ skB s i ≤ s.size := by
  generalize hn : s.size - i = n
  induction n generalizing i with
  | zero =>
    have : ¬ i < s.size := by omega
    rw [skB, if_neg this]; omega
  | succ n ih =>
    have hi : i < s.size := by omega
    rw [skB, if_pos hi]
    split
    · have := ih (i := i + 1) (by omega) (by omega); omega
    · omega
theorem skB_not {s : ByteArray} {i : Nat} (h : i ≤ s.size) : ¬ (skB s i < s.size ∧ byt s (skB s i) = 32) := by
  generalize hn : s.size - i = n
  induction n generalizing i with
  | zero =>
    have : ¬ i < s.size := by omega
    rw [skB_end this]; omega
  | succ n ih =>
    have hi : i < s.size := by omega
    by_cases hb : byt s i = 32
    · rw [skB_step hi hb]; exact ih (by omega) (by omega)
    · rw [skB_stop hb]; exact fun h => hb h.2
theorem skB_idem {s : ByteArray} {i : Nat} (h : i ≤ s.size) : skB s (skB s i) = skB s i := by
  by_cases hb : byt s (skB s i) = 32
  · exact skB_end (fun hl => skB_not h ⟨hl, hb⟩)
  · exact skB_stop hb
theorem nx_gt {s : ByteArray} {j : Nat} (h : j < s.size) : j + 1 ≤ nx s j := by
  unfold nx
  rw [if_neg (by omega)]; omega

/-- What is read from place i on, and the place where it stops: up to a closing parenthesis or the end. -/
def rd (s : ByteArray) (names : List ByteArray) : Nat → Nat → Option (Hg × Nat)
  | 0, _ => none
  | f + 1, i =>
    if skB s i = s.size ∨ byt s (skB s i) = 41 then some (.nil, skB s i)
    else if idxS names (tok s (skB s i)) < 0 then none
    else if byt s (skB s (nx s (skB s i))) = 40 then
      (rd s names f (skB s (nx s (skB s i)) + 1)).bind fun x =>
        if byt s x.2 = 41 then (rd s names f (x.2 + 1)).map fun y => (.cons (idxS names (tok s (skB s i))) x.1 y.1, y.2) else none
    else (rd s names f (nx s (skB s i))).map fun y => (.cons (idxS names (tok s (skB s i))) .nil y.1, y.2)

section
variable {s : ByteArray} {names : List ByteArray} {f i : Nat}
theorem rd_stop (h : skB s i = s.size ∨ byt s (skB s i) = 41) : rd s names (f + 1) i = some (.nil, skB s i) := by rw [rd, if_pos h]
theorem rd_bad (h : ¬ (skB s i = s.size ∨ byt s (skB s i) = 41)) (hm : idxS names (tok s (skB s i)) < 0) : rd s names (f + 1) i = none := by rw [rd, if_neg h, if_pos hm]
theorem rd_kid (h : ¬ (skB s i = s.size ∨ byt s (skB s i) = 41)) (hm : 0 ≤ idxS names (tok s (skB s i))) (ho : byt s (skB s (nx s (skB s i))) = 40) :
    rd s names (f + 1) i = (rd s names f (skB s (nx s (skB s i)) + 1)).bind fun x =>
        if byt s x.2 = 41 then (rd s names f (x.2 + 1)).map fun y => (.cons (idxS names (tok s (skB s i))) x.1 y.1, y.2) else none := by
  rw [rd, if_neg h, if_neg (by omega), if_pos ho]
theorem rd_leaf (h : ¬ (skB s i = s.size ∨ byt s (skB s i) = 41)) (hm : 0 ≤ idxS names (tok s (skB s i))) (ho : ¬ byt s (skB s (nx s (skB s i))) = 40) :
    rd s names (f + 1) i = (rd s names f (nx s (skB s i))).map fun y => (.cons (idxS names (tok s (skB s i))) .nil y.1, y.2) := by
  rw [rd, if_neg h, if_neg (by omega), if_neg ho]
theorem rd_skB (hi : i ≤ s.size) : rd s names f (skB s i) = rd s names f i := by
  cases f with
  | zero => rfl
  | succ f => rw [rd, rd, skB_idem hi]
end

theorem byt_ge {s : ByteArray} {i : Nat} (h : s.size ≤ i) : byt s i = 0 := by rw [byt, dif_neg (by omega)]
theorem byt_lt {s : ByteArray} {i : Nat} {c : Int} (h : byt s i = c) (hc : ¬ c = 0) : i < s.size := by
  by_cases hl : i < s.size
  · exact hl
  · rw [byt_ge (by omega)] at h; omega

theorem idxS_lt (l : List ByteArray) (s : ByteArray) : idxS l s < l.length ∨ l = [] := by
  unfold idxS
  cases h : l.findIdx? (seq s) with
  | none =>
    cases l with
    | nil => exact .inr rfl
    | cons a l => exact .inl (by simp; omega)
  | some k =>
    left
    have := (List.findIdx?_eq_some_iff_getElem.1 h).1
    simp only; omega

theorem rd_end {s : ByteArray} {names : List ByteArray} : ∀ (f i : Nat) (H : Hg) (e : Nat), i ≤ s.size → rd s names f i = some (H, e) →
    H.size + i ≤ e ∧ e ≤ s.size ∧ skB s e = e ∧ (e = s.size ∨ byt s e = 41) ∧ H.flat.all (lok names.length) = true := by
  intro f
  induction f with
  | zero => intro i H e _ h; simp [rd] at h
  | succ f ih =>
    intro i H e hi h
    have hs := skB_le hi
    by_cases hst : skB s i = s.size ∨ byt s (skB s i) = 41
    · rw [rd_stop hst] at h
      simp only [Option.some.injEq, Prod.mk.injEq] at h
      obtain ⟨rfl, rfl⟩ := h
      exact ⟨by simpa [Hg.size] using hs.1, hs.2, skB_idem hi, hst, rfl⟩
    · have hlt : skB s i < s.size := by
        rcases Nat.lt_or_ge (skB s i) s.size with h | h
        · exact h
        · exact absurd (.inl (by omega)) hst
      have hn := nx_gt hlt
      have hn2 := (nx_le (s := s) (j := skB s i) hs.2).2
      by_cases hm : idxS names (tok s (skB s i)) < 0
      · rw [rd_bad hst hm] at h; simp at h
      · have hm0 : 0 ≤ idxS names (tok s (skB s i)) := by omega
        have hml : idxS names (tok s (skB s i)) < names.length := by
          rcases idxS_lt names (tok s (skB s i)) with h | h
          · exact h
          · rw [h] at hm0; simp [idxS] at hm0
        have hlok : ∀ K, lok names.length (idxS names (tok s (skB s i)), K) = true := fun K => by simp [lok, hm0, hml]
        have hs2 := skB_le (s := s) hn2
        by_cases ho : byt s (skB s (nx s (skB s i))) = 40
        · rw [rd_kid hst hm0 ho] at h
          have hlt2 := byt_lt ho (by decide)
          cases hk : rd s names f (skB s (nx s (skB s i)) + 1) with
          | none => rw [hk] at h; simp at h
          | some x =>
            obtain ⟨K, e1⟩ := x
            rw [hk] at h
            simp only [Option.bind_some] at h
            have h1 := ih _ K e1 (by omega) hk
            by_cases hp : byt s e1 = 41
            · rw [if_pos hp] at h
              have hlt3 := byt_lt hp (by decide)
              cases hr : rd s names f (e1 + 1) with
              | none => rw [hr] at h; simp at h
              | some y =>
                obtain ⟨R, e2⟩ := y
                rw [hr] at h
                simp only [Option.map_some, Option.some.injEq, Prod.mk.injEq] at h
                obtain ⟨rfl, rfl⟩ := h
                have h2 := ih _ R e2 (by omega) hr
                refine ⟨by simp only [Hg.size]; omega, h2.2.1, h2.2.2.1, h2.2.2.2.1, ?_⟩
                rw [flat_all_cons, hlok, h1.2.2.2.2, h2.2.2.2.2]; rfl
            · rw [if_neg hp] at h; simp at h
        · rw [rd_leaf hst hm0 ho] at h
          cases hr : rd s names f (nx s (skB s i)) with
          | none => rw [hr] at h; simp at h
          | some y =>
            obtain ⟨R, e2⟩ := y
            rw [hr] at h
            simp only [Option.map_some, Option.some.injEq, Prod.mk.injEq] at h
            obtain ⟨rfl, rfl⟩ := h
            have h2 := ih _ R e2 hn2 hr
            refine ⟨by simp only [Hg.size]; omega, h2.2.1, h2.2.2.1, h2.2.2.2.1, ?_⟩
            rw [flat_all_cons, hlok, h2.2.2.2.2]; rfl

/-- Tokens of one byte. -/
theorem bytes_seq (a b : ByteArray) : seq a b = (a.data.toList == b.data.toList) := by
  unfold seq; rw [ByteArray.toList_eq, ByteArray.toList_eq]
theorem tok_empty {s : ByteArray} {j : Nat} (hj : j ≤ s.size) : seq (tok s j) ⟨#[]⟩ = decide (j = s.size) := by
  have h := tok_size hj
  by_cases he : j = s.size
  · rw [tok, if_pos he, he]; simp [bytes_seq]
  · have hn := nx_gt (s := s) (j := j) (by omega)
    have : 0 < (tok s j).size := by omega
    rw [decide_eq_false he, bytes_seq]
    cases hh : (tok s j).data.toList with
    | nil =>
      have : (tok s j).data.toList.length = (tok s j).size := by simp
      rw [hh] at this; simp at this; omega
    | cons a l => rfl
theorem tok_one {s : ByteArray} {j : Nat} (hj : j ≤ s.size) (c : UInt8) (hc : alnum (c.toNat : Int) = false) (h0 : ¬ (c.toNat : Int) = 0) : seq (tok s j) ⟨#[c]⟩ = decide (byt s j = c.toNat) := by
  rw [bytes_seq]
  by_cases he : j = s.size
  · rw [tok, if_pos he, byt_ge (by omega), decide_eq_false (by omega)]; rfl
  · have hlt : j < s.size := by omega
    have hb : byt s j = ((s[j]'hlt).toNat : Int) := by rw [byt, dif_pos hlt]
    have hd : s.data.toList[j]? = some (s[j]'hlt) := by
      rw [List.getElem?_eq_getElem (by simpa using hlt)]; simp [ByteArray.getElem_eq_getElem_data]
    have hdr : s.data.toList.drop j = s[j]'hlt :: s.data.toList.drop (j + 1) := by
      rw [List.drop_eq_getElem_cons (by simpa using hlt)]; simp [ByteArray.getElem_eq_getElem_data]
    rw [tok, if_neg he, ByteArray.data_extract, Array.toList_extract, List.extract_eq_take_drop, hdr]
    by_cases ha : alnum (byt s j) = true
    · have hw := wEnd_step hlt ha
      have hw2 := wEnd_le (s := s) (i := j + 1) (by omega)
      have hm : max (wEnd s j) (j + 1) - j = (wEnd s (j + 1) - (j + 1)) + 1 := by omega
      have hne : ¬ byt s j = (c.toNat : Int) := fun h => by rw [h, hc] at ha; simp at ha
      have hne2 : ¬ (s[j]'hlt) = c := fun h => hne (by rw [hb, h])
      rw [hm, List.take_succ_cons, decide_eq_false hne]
      simp [hne2]
    · have hw := wEnd_stop (s := s) (k := j) (by simpa using ha)
      have hm : max (wEnd s j) (j + 1) - j = 0 + 1 := by omega
      rw [hm, List.take_succ_cons, hb]
      by_cases hcc : (s[j]'hlt) = c
      · simp [hcc]
      · have hcn : ¬ ((s[j]'hlt).toNat : Int) = (c.toNat : Int) := fun e => hcc (UInt8.toNat_inj.1 (by exact_mod_cast e))
        rw [decide_eq_false hcn]
        simp [hcc]

end Go.Proofs.Ythdaeblfehclcab
