/- What Encode and Decode answer, as functions. -/
import Derived.Test.YtkbcehapalcadabREncode
import Derived.Test.YtkbcehapalcadabRDecode
import Derived.Test.YtkbcehapalcadabSame
namespace Go.Proofs.Ytkbcehapalcadab
open Go.RowKit Go.Shelf

def encErr (n : Int) (H : Hg) : Int := if vh n H = true then (if 2 * H.size + 1 ≤ 300 then 0 else 3) else 1
def encT (n : Int) (H : Hg) : Int × Hg := if encErr n H = 0 then H.enc n else (0, .nil)

def Dec (n s : Int) (K H : Hg) : Prop := H.enc n = (s, K) ∧ H.flat.all (lok n) = true ∧ 2 * H.size + 1 ≤ 300
theorem Dec.uniq {n s : Int} {K H H' : Hg} (h : Dec n s K H) (h' : Dec n s K H') : H = H' := enc_inj n H H' (no_of_lok h.2.1) (no_of_lok h'.2.1) (h.1.trans h'.1.symm)
open Classical in
noncomputable def decH (n s : Int) (K : Hg) : Hg := if h : vlab n = true ∧ ∃ H, Dec n s K H then h.2.choose else .nil
open Classical in
noncomputable def decErr (n s : Int) (K : Hg) : Int := if vlab n = true then (if ∃ H, Dec n s K H then 0 else 1) else 6

theorem decH_of {n s : Int} {K H : Hg} (hn : vlab n = true) (h : Dec n s K H) : decH n s K = H := by
  have hh : vlab n = true ∧ ∃ H, Dec n s K H := ⟨hn, H, h⟩
  rw [decH, dif_pos hh]
  exact hh.2.choose_spec.uniq h
theorem decErr_of {n s : Int} {K H : Hg} (hn : vlab n = true) (h : Dec n s K H) : decErr n s K = 0 := by
  rw [decErr, if_pos hn, if_pos ⟨H, h⟩]
theorem dec_of_err {n s : Int} {K : Hg} (h : decErr n s K = 0) : vlab n = true ∧ Dec n s K (decH n s K) := by
  unfold decErr at h
  split at h
  · next hn =>
    split at h
    · next hh =>
      obtain ⟨H, hH⟩ := hh
      exact ⟨hn, by rw [decH_of hn hH]; exact hH⟩
    · simp at h
  · simp at h
theorem vlab_nat {n : Int} (h : vlab n = true) : ∃ m : Nat, n = m ∧ m ≤ 8 := by
  simp [vlab] at h
  exact ⟨n.toNat, by omega, by omega⟩

theorem decAns {n s : Int} {K : Hg} {B : Nat} {e : Ending} {w' : World} (h : DecAns n s K B e w') : ∃ r, e = .returned (.tuple #[r, .int .i64 (decErr n s K)]) ∧ IsH w' r (decH n s K) := by
  have hnil : IsH w' (.slice none 0 0) .nil := ⟨none, 0, rfl, by simp [Hg.len], by simp [maxLen], fun h => absurd rfl h⟩
  rcases h with ⟨hn, H, r, h1, h2, h3, rfl, h4⟩ | ⟨hn, rfl⟩ | ⟨hn, ht, rfl⟩
  · have hd : Dec n s K H := ⟨h1, h2, h3⟩
    exact ⟨r, by rw [decErr_of hn hd], by rw [decH_of hn hd]; exact h4.isH⟩
  · have e1 : decErr n s K = 6 := by rw [decErr, if_neg (by simp [hn])]
    have e2 : decH n s K = .nil := by rw [decH, dif_neg (by simp [hn])]
    exact ⟨_, by rw [e1], by rw [e2]; exact hnil⟩
  · have hno : ¬ ∃ H, Dec n s K H := by
      rintro ⟨H, h1, h2, h3⟩
      obtain ⟨m, rfl, hm⟩ := vlab_nat hn
      have := tvalid_enc m H hm h2 h3
      rw [h1] at this
      simp only [Int.toNat_natCast] at ht
      rw [ht] at this
      cases this
    have e1 : decErr n s K = 1 := by rw [decErr, if_pos hn, if_neg hno]
    have e2 : decH n s K = .nil := by rw [decH, dif_neg (fun h => hno h.2)]
    exact ⟨_, by rw [e1], by rw [e2]; exact hnil⟩

theorem decode_ans (n s : Int) (vk : Value) (K : Hg) (w : World) (hwf : (Lit.int .i64 s).wf = true) (hv : IsH w vk K) (hs : K.size ≤ 1000000) :
    Calls Try.prog 24 #[.int .i64 n, .agg #[.int .i64 s, vk]] w fun e w' => ∃ r, e = .returned (.tuple #[r, .int .i64 (decErr n s K)]) ∧ IsH w' r (decH n s K) ∧ Below w.heap.size w w' :=
  (decodeTop_ok n s vk K w hwf hv hs).mono fun e w' ⟨hb, h⟩ => by
    obtain ⟨r, h1, h2⟩ := decAns h
    exact ⟨r, h1, h2, hb⟩
theorem rdecode_ans (n s : Int) (vk : Value) (K : Hg) (w : World) (hwf : (Lit.int .i64 s).wf = true) (hv : IsH w vk K) (hs : K.size ≤ 1000000) :
    Calls Try.prog 25 #[.int .i64 n, .agg #[.int .i64 s, vk]] w fun e w' => ∃ r, e = .returned (.tuple #[r, .int .i64 (decErr n s K)]) ∧ IsH w' r (decH n s K) ∧ Below w.heap.size w w' :=
  (rdecode_ok n s vk K w hwf hv hs).mono fun e w' ⟨hb, h⟩ => by
    obtain ⟨r, h1, h2⟩ := decAns h
    exact ⟨r, h1, h2, hb⟩

theorem encAns {n : Int} {H : Hg} {B : Nat} {e : Ending} {w' : World} (h : (vh n H = true ∧ 2 * H.size + 1 ≤ 300 ∧ ∃ r, e = .returned (.tuple #[r, .int .i64 0]) ∧ IsTS (fun c => B ≤ c) w' r (H.enc n)) ∨
       (vh n H = false ∧ e = .returned (.tuple #[.agg #[.int .i64 0, .slice none 0 0], .int .i64 1])) ∨
       (vh n H = true ∧ 300 < 2 * H.size + 1 ∧ e = .returned (.tuple #[.agg #[.int .i64 0, .slice none 0 0], .int .i64 3]))) : ∃ r, e = .returned (.tuple #[r, .int .i64 (encErr n H)]) ∧ IsT w' r (encT n H) := by
  have hnil : IsT w' (.agg #[.int .i64 0, .slice none 0 0]) (0, .nil) := ⟨_, rfl, by decide, none, 0, rfl, by simp [Hg.len], by simp [maxLen], fun h => absurd rfl h⟩
  rcases h with ⟨h1, h2, r, rfl, h3⟩ | ⟨h1, rfl⟩ | ⟨h1, h2, rfl⟩
  · have e1 : encErr n H = 0 := by rw [encErr, if_pos h1, if_pos h2]
    exact ⟨r, by rw [e1], by rw [encT, if_pos e1]; exact h3.isT⟩
  · have e1 : encErr n H = 1 := by rw [encErr, if_neg (by simp [h1])]
    exact ⟨_, by rw [e1], by rw [encT, if_neg (by rw [e1]; decide)]; exact hnil⟩
  · have e1 : encErr n H = 3 := by rw [encErr, if_pos h1, if_neg (by omega)]
    exact ⟨_, by rw [e1], by rw [encT, if_neg (by rw [e1]; decide)]; exact hnil⟩

theorem encode_ans (n : Int) (hn : (Lit.int .i64 n).wf = true) (H : Hg) (v : Value) (w : World) (hv : IsH w v H) (hs : H.size ≤ 1000000) :
    Calls Try.prog 22 #[.int .i64 n, v] w fun e w' => ∃ r, e = .returned (.tuple #[r, .int .i64 (encErr n H)]) ∧ IsT w' r (encT n H) ∧ Below w.heap.size w w' :=
  (encodeTop_ok n hn H v w hv hs).mono fun e w' ⟨hb, h⟩ => by
    obtain ⟨r, h1, h2⟩ := encAns h
    exact ⟨r, h1, h2, hb⟩
theorem rencode_ans (n : Int) (hn : (Lit.int .i64 n).wf = true) (H : Hg) (v : Value) (w : World) (hv : IsH w v H) (hs : H.size ≤ 1000000) :
    Calls Try.prog 23 #[.int .i64 n, v] w fun e w' => ∃ r, e = .returned (.tuple #[r, .int .i64 (encErr n H)]) ∧ IsT w' r (encT n H) ∧ Below w.heap.size w w' :=
  (rencode_ok n hn H v w hv hs).mono fun e w' ⟨hb, h⟩ => by
    obtain ⟨r, h1, h2⟩ := encAns h
    exact ⟨r, h1, h2, hb⟩

theorem encT_size (n : Int) (H : Hg) : (encT n H).2.size ≤ 2 * H.size := by
  unfold encT
  split
  · rw [enc_size]; exact Nat.le_refl _
  · simp [Hg.size]

/-- Encoding, then decoding. -/
theorem enc_dec {n : Int} {H : Hg} (h : encErr n H = 0) : decErr n (encT n H).1 (encT n H).2 = 0 ∧ decH n (encT n H).1 (encT n H).2 = H := by
  rw [encT, if_pos h]
  unfold encErr at h
  split at h
  · next hv =>
    split at h
    · next hs =>
      simp only [vh, Bool.and_eq_true] at hv
      have hd : Dec n (H.enc n).1 (H.enc n).2 H := ⟨rfl, hv.2, hs⟩
      exact ⟨decErr_of hv.1.1 hd, decH_of hv.1.1 hd⟩
    · simp at h
  · simp at h
/-- Decoding, then encoding. -/
theorem dec_enc {n s : Int} {K : Hg} (h : decErr n s K = 0) : encErr n (decH n s K) = 0 ∧ encT n (decH n s K) = (s, K) ∧ (decH n s K).size ≤ 150 := by
  obtain ⟨hn, h1, h2, h3⟩ := dec_of_err h
  have e1 : encErr n (decH n s K) = 0 := by
    rw [encErr, if_pos ?_, if_pos h3]
    simp only [vh, hn, h2, Bool.true_and, Bool.and_true, decide_eq_true_eq]
    omega
  exact ⟨e1, by rw [encT, if_pos e1, h1], by omega⟩

end Go.Proofs.Ytkbcehapalcadab
