/- Suffixes of a text, as the reference reads it. -/
import Derived.Test.YthdaeblfehclcabRT
namespace Go.Proofs.Ythdaeblfehclcab
open Go.RowKit Go.Shelf

def suf (s : ByteArray) (i : Nat) : ByteArray := s.extract i s.size
theorem suf_size {s : ByteArray} {i : Nat} (h : i ≤ s.size) : (suf s i).size = s.size - i := by
  simp [suf, ByteArray.size_extract]
theorem suf_list (s : ByteArray) (i : Nat) : (suf s i).data.toList = s.data.toList.drop i := by
  rw [suf, ByteArray.data_extract, Array.toList_extract, List.extract_eq_take_drop]
  apply List.take_of_length_le
  rw [List.length_drop, size_list]
  exact Nat.le_refl _
theorem bytes_ext {a b : ByteArray} (h : a.data.toList = b.data.toList) : a = b := by
  cases a; cases b; simp only [ByteArray.mk.injEq]; exact Array.toList_inj.1 h
theorem byt_get (s : ByteArray) (i : Nat) : byt s i = match s.data.toList[i]? with
    | some c => (c.toNat : Int)
    | none => 0 := by
  by_cases h : i < s.size
  · rw [byt, dif_pos h]
    have : s.data.toList[i]? = some (s[i]'h) := by
      rw [List.getElem?_eq_getElem (by simpa using h)]; simp [ByteArray.getElem_eq_getElem_data]
    rw [this]
  · rw [byt_ge (by omega)]
    have : s.data.toList[i]? = none := List.getElem?_eq_none (by simpa using h)
    rw [this]
theorem byt_suf (s : ByteArray) (i k : Nat) : byt (suf s i) k = byt s (i + k) := by
  rw [byt_get, byt_get, suf_list, List.getElem?_drop]
theorem wEnd_suf {s : ByteArray} {i k : Nat} (h : i + k ≤ s.size) : wEnd (suf s i) k + i = wEnd s (i + k) := by
  generalize hn : s.size - (i + k) = n
  have hz := suf_size (s := s) (i := i) (by omega)
  induction n generalizing k with
  | zero =>
    rw [wEnd_end (by omega), wEnd_end (by omega)]; omega
  | succ n ih =>
    cases ha : alnum (byt s (i + k)) with
    | true =>
      rw [wEnd_step (s := suf s i) (by omega) (by rw [byt_suf]; exact ha), wEnd_step (s := s) (by omega) ha]
      exact ih (k := k + 1) (by omega) (by omega)
    | false =>
      rw [wEnd_stop (s := suf s i) (by rw [byt_suf]; exact ha), wEnd_stop (s := s) ha]; omega
theorem suf_drop {s : ByteArray} {i k : Nat} (h : i + k ≤ s.size) : (suf s i).extract k (suf s i).size = suf s (i + k) := by
  apply bytes_ext
  rw [suf_list]
  have := suf_list (suf s i) k
  rw [show (suf s i).extract k (suf s i).size = suf (suf s i) k from rfl, this, suf_list, List.drop_drop]
theorem suf_zero (s : ByteArray) : suf s 0 = s := bytes_ext (by rw [suf_list]; rfl)
theorem suf_take {s : ByteArray} {i n : Nat} (h : i + n ≤ s.size) : ((suf s i).extract 0 n).data.toList = (s.data.toList.drop i).take n := by
  rw [ByteArray.data_extract, Array.toList_extract, List.extract_eq_take_drop, suf_list]; simp
theorem wordR_suf {s : ByteArray} {i : Nat} (h : i ≤ s.size) : wordR (suf s i) = if letB (byt s i) = true ∧ i < s.size then wEnd s i - i else 0 := by
  have hz := suf_size h
  unfold wordR
  rw [byt_suf, hz, Nat.add_zero]
  by_cases hc : letB (byt s i) = true ∧ i < s.size
  · rw [if_pos ⟨hc.1, by omega⟩, if_pos hc]
    have h1 := wEnd_suf (s := s) (i := i) (k := 1) (by omega)
    have h2 := wEnd_step (s := s) (k := i) hc.2 (by simp [alnum, hc.1])
    omega
  · rw [if_neg (fun h => hc ⟨h.1, by omega⟩), if_neg hc]
theorem tok_head {s : ByteArray} {j : Nat} (h : j < s.size) : ∃ l, (tok s j).data.toList = (s[j]'h) :: l := by
  have hdr : s.data.toList.drop j = s[j]'h :: s.data.toList.drop (j + 1) := by
    rw [List.drop_eq_getElem_cons (by simpa using h)]; simp [ByteArray.getElem_eq_getElem_data]
  have hm : max (wEnd s j) (j + 1) - j = (max (wEnd s j) (j + 1) - j - 1) + 1 := by omega
  rw [tok, if_neg (by omega), ByteArray.data_extract, Array.toList_extract, List.extract_eq_take_drop, hdr, hm, List.take_succ_cons]
  exact ⟨_, rfl⟩
/-- The number of the word that begins at i is the number of the token at i. -/
theorem place_tok {s : ByteArray} {names : List ByteArray} (hn : ∀ x ∈ names, nameB x = true) {i : Nat} (h : i < s.size) :
    idxS names ((suf s i).extract 0 (wordR (suf s i))) = idxS names (tok s i) := by
  have hw := wEnd_le (s := s) (i := i) (by omega)
  rw [wordR_suf (by omega)]
  by_cases hl : letB (byt s i) = true
  · rw [if_pos ⟨hl, h⟩]
    have h2 := wEnd_step (s := s) (k := i) h (by simp [alnum, hl])
    have h3 := wEnd_le (s := s) (i := i + 1) (by omega)
    congr 1
    apply bytes_ext
    rw [suf_take (by omega), tok, if_neg (by omega), ByteArray.data_extract, Array.toList_extract, List.extract_eq_take_drop, show max (wEnd s i) (i + 1) = wEnd s i by omega]
  · rw [if_neg (fun e => hl e.1)]
    have h1 : idxS names ((suf s i).extract 0 0) = -1 := idxS_none (fun j hj => by
      obtain ⟨c, l, hx, _, _⟩ := nameB_bytes (hn _ (List.getElem_mem hj))
      rw [bytes_seq, hx, suf_take (by omega)]; rfl)
    have h2 : idxS names (tok s i) = -1 := idxS_none (fun j hj => by
      obtain ⟨c, l, hx, hc, _⟩ := nameB_bytes (hn _ (List.getElem_mem hj))
      obtain ⟨l', ht⟩ := tok_head h
      rw [bytes_seq, hx, ht]
      have : ¬ (s[i]'h) = c := fun e => hl (by rw [byt, dif_pos h, e]; exact hc)
      simp [this])
    rw [h1, h2]

end Go.Proofs.Ythdaeblfehclcab
