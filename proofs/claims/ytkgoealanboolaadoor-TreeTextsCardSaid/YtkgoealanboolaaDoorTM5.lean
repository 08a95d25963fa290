/- The grammar of printed trees, as data. Reading what is printed gives the tree back. Suffixes of a text, as the reference reads it. ref01's reader: blanks, must. -/
import Derived.Test.YtkgoealanboolaaDoorTM2
import Derived.Test.YtkgoealanboolaaDoorTM3
namespace Go.Proofs.YtkgoealanboolaaDoor
open Go.RowKit Go.Shelf

theorem skB_le {s : ByteArray} {i : Nat} (h : i ≤ s.size) : i ≤ skB s i ∧ skB s i ≤ s.size := by
  generalize hn : s.size - i = n
  induction n generalizing i with
  | zero =>
    have : ¬ i < s.size := by omega
    rw [skB, if_neg this]; omega
  | succ n ih =>
    have hi : i < s.size := by omega
    rw [skB, if_pos hi]
    split
    · have := ih (i := i + 1) (by omega) (by omega); omega
    · omega
theorem skB_not {s : ByteArray} {i : Nat} (h : i ≤ s.size) : ¬ (skB s i < s.size ∧ byt s (skB s i) = 32) := by
  generalize hn : s.size - i = n
  induction n generalizing i with
  | zero =>
    have : ¬ i < s.size := by omega
    rw [skB_end this]; omega
  | succ n ih =>
    have hi : i < s.size := by omega
    by_cases hb : byt s i = 32
    · rw [skB_step hi hb]; exact ih (by omega) (by omega)
    · rw [skB_stop hb]; exact fun h => hb h.2
theorem skB_idem {s : ByteArray} {i : Nat} (h : i ≤ s.size) : skB s (skB s i) = skB s i := by
  by_cases hb : byt s (skB s i) = 32
  · exact skB_end (fun hl => skB_not h ⟨hl, hb⟩)
  · exact skB_stop hb
theorem nx_gt {s : ByteArray} {j : Nat} (h : j < s.size) : j + 1 ≤ nx s j := by
  unfold nx
  rw [if_neg (by omega)]; omega

theorem byt_ge {s : ByteArray} {i : Nat} (h : s.size ≤ i) : byt s i = 0 := by rw [byt, dif_neg (by omega)]
theorem byt_lt {s : ByteArray} {i : Nat} {c : Int} (h : byt s i = c) (hc : ¬ c = 0) : i < s.size := by
  by_cases hl : i < s.size
  · exact hl
  · rw [byt_ge (by omega)] at h; omega

theorem idxS_lt (l : List ByteArray) (s : ByteArray) : idxS l s < l.length ∨ l = [] := by
  unfold idxS
  cases h : l.findIdx? (seq s) with
  | none =>
    cases l with
    | nil => exact .inr rfl
    | cons a l => exact .inl (by simp; omega)
  | some k =>
    left
    have := (List.findIdx?_eq_some_iff_getElem.1 h).1
    simp only; omega

/-- Tokens of one byte. -/
theorem bytes_seq (a b : ByteArray) : seq a b = (a.data.toList == b.data.toList) := by
  unfold seq; rw [ByteArray.toList_eq, ByteArray.toList_eq]
theorem tok_empty {s : ByteArray} {j : Nat} (hj : j ≤ s.size) : seq (tok s j) ⟨#[]⟩ = decide (j = s.size) := by
  have h := tok_size hj
  by_cases he : j = s.size
  · rw [tok, if_pos he, he]; simp [bytes_seq]
  · have hn := nx_gt (s := s) (j := j) (by omega)
    have : 0 < (tok s j).size := by omega
    rw [decide_eq_false he, bytes_seq]
    cases hh : (tok s j).data.toList with
    | nil =>
      have : (tok s j).data.toList.length = (tok s j).size := by simp
      rw [hh] at this; simp at this; omega
    | cons a l => rfl
theorem tok_one {s : ByteArray} {j : Nat} (hj : j ≤ s.size) (c : UInt8) (hc : alnum (c.toNat : Int) = false) (h0 : ¬ (c.toNat : Int) = 0) : seq (tok s j) ⟨#[c]⟩ = decide (byt s j = c.toNat) := by
  rw [bytes_seq]
  by_cases he : j = s.size
  · rw [tok, if_pos he, byt_ge (by omega), decide_eq_false (by omega)]; rfl
  · have hlt : j < s.size := by omega
    have hb : byt s j = ((s[j]'hlt).toNat : Int) := by rw [byt, dif_pos hlt]
    have hd : s.data.toList[j]? = some (s[j]'hlt) := by
      rw [List.getElem?_eq_getElem (by simpa using hlt)]; simp [ByteArray.getElem_eq_getElem_data]
    have hdr : s.data.toList.drop j = s[j]'hlt :: s.data.toList.drop (j + 1) := by
      rw [List.drop_eq_getElem_cons (by simpa using hlt)]; simp [ByteArray.getElem_eq_getElem_data]
    rw [tok, if_neg he, ByteArray.data_extract, Array.toList_extract, List.extract_eq_take_drop, hdr]
    by_cases ha : alnum (byt s j) = true
    · have hw := wEnd_step hlt ha
      have hw2 := wEnd_le (s := s) (i := j + 1) (by omega)
      have hm : max (wEnd s j) (j + 1) - j = (wEnd s (j + 1) - (j + 1)) + 1 := by omega
      have hne : ¬ byt s j = (c.toNat : Int) := fun h => by rw [h, hc] at ha; simp at ha
      have hne2 : ¬ (s[j]'hlt) = c := fun h => hne (by rw [hb, h])
      rw [hm, List.take_succ_cons, decide_eq_false hne]
      simp [hne2]
    · have hw := wEnd_stop (s := s) (k := j) (by simpa using ha)
      have hm : max (wEnd s j) (j + 1) - j = 0 + 1 := by omega
      rw [hm, List.take_succ_cons, hb]
      by_cases hcc : (s[j]'hlt) = c
      · simp [hcc]
      · have hcn : ¬ ((s[j]'hlt).toNat : Int) = (c.toNat : Int) := fun e => hcc (UInt8.toNat_inj.1 (by exact_mod_cast e))
        rw [decide_eq_false hcn]
        simp [hcc]


/-- n subtrees with their marks, read from place i on by rt, and the closing parenthesis; b: the first is still to come. -/
def rk (s : ByteArray) (rt : Nat → Option ((Int × Hg) × Nat)) : Nat → Bool → Nat → Option (Hg × Nat)
  | 0, _, i => if byt s (skB s i) = 41 then some (.nil, skB s i + 1) else none
  | n + 1, b, i => if byt s (skB s i) = (if b = true then 40 else 44) then (rt (skB s i + 1)).bind fun x => (rk s rt n false x.2).map fun y => (.cons x.1.1 x.1.2 y.1, y.2) else none
/-- The tree that is read from place i on, and the place behind it. -/
def rt (s : ByteArray) (names : List ByteArray) (al : List Int) : Nat → Nat → Option ((Int × Hg) × Nat)
  | 0, _ => none
  | f + 1, i =>
    if idxS names (tok s (skB s i)) < 0 then none
    else if al.getD (idxS names (tok s (skB s i))).toNat 0 = 0 then some ((idxS names (tok s (skB s i)), .nil), nx s (skB s i))
    else (rk s (rt s names al f) (al.getD (idxS names (tok s (skB s i))).toNat 0).toNat true (nx s (skB s i))).map fun y => ((idxS names (tok s (skB s i)), y.1), y.2)

section
variable {s : ByteArray} {names : List ByteArray} {al : List Int}
theorem rk_zero {g : Nat → Option ((Int × Hg) × Nat)} {b : Bool} {i : Nat} : rk s g 0 b i = if byt s (skB s i) = 41 then some (.nil, skB s i + 1) else none := rfl
theorem rk_bad {g : Nat → Option ((Int × Hg) × Nat)} {n : Nat} {b : Bool} {i : Nat} (h : ¬ byt s (skB s i) = (if b = true then 40 else 44)) : rk s g (n + 1) b i = none := by rw [rk, if_neg h]
theorem rk_good {g : Nat → Option ((Int × Hg) × Nat)} {n : Nat} {b : Bool} {i : Nat} (h : byt s (skB s i) = (if b = true then 40 else 44)) : rk s g (n + 1) b i = (g (skB s i + 1)).bind fun x => (rk s g n false x.2).map fun y => (.cons x.1.1 x.1.2 y.1, y.2) := by rw [rk, if_pos h]
theorem rt_bad {f i : Nat} (h : idxS names (tok s (skB s i)) < 0) : rt s names al (f + 1) i = none := by rw [rt, if_pos h]
theorem rt_leaf {f i : Nat} (h : 0 ≤ idxS names (tok s (skB s i))) (h0 : al.getD (idxS names (tok s (skB s i))).toNat 0 = 0) : rt s names al (f + 1) i = some ((idxS names (tok s (skB s i)), .nil), nx s (skB s i)) := by rw [rt, if_neg (by omega), if_pos h0]
theorem rt_node {f i : Nat} (h : 0 ≤ idxS names (tok s (skB s i))) (h0 : ¬ al.getD (idxS names (tok s (skB s i))).toNat 0 = 0) : rt s names al (f + 1) i = (rk s (rt s names al f) (al.getD (idxS names (tok s (skB s i))).toNat 0).toNat true (nx s (skB s i))).map fun y => ((idxS names (tok s (skB s i)), y.1), y.2) := by rw [rt, if_neg (by omega), if_neg h0]
theorem mark_lt {b : Bool} {i : Nat} (h : byt s (skB s i) = (if b = true then 40 else 44)) : skB s i < s.size := byt_lt h (by cases b <;> decide)

theorem rk_end {g : Nat → Option ((Int × Hg) × Nat)} (hg : ∀ i t e, i ≤ s.size → g i = some (t, e) → t.2.size + 1 + i ≤ e ∧ e ≤ s.size ∧ fit al t.1 t.2.len = true ∧ t.2.fitAll al = true) :
    ∀ (n : Nat) (b : Bool) (i : Nat) (H : Hg) (e : Nat), i ≤ s.size → rk s g n b i = some (H, e) → H.size + 1 + i ≤ e ∧ e ≤ s.size ∧ H.len = n ∧ H.fitAll al = true
  | 0, b, i, H, e, hi, h => by
    have hs := skB_le hi
    rw [rk_zero] at h
    by_cases hp : byt s (skB s i) = 41
    · rw [if_pos hp] at h
      have := byt_lt hp (by decide)
      simp only [Option.some.injEq, Prod.mk.injEq] at h
      obtain ⟨rfl, rfl⟩ := h
      exact ⟨by simp only [Hg.size]; omega, by omega, rfl, rfl⟩
    · rw [if_neg hp] at h; cases h
  | n + 1, b, i, H, e, hi, h => by
    have hs := skB_le hi
    by_cases hp : byt s (skB s i) = (if b = true then 40 else 44)
    · have hlt := mark_lt hp
      rw [rk_good hp] at h
      cases hx : g (skB s i + 1) with
      | none => rw [hx] at h; simp at h
      | some x =>
        obtain ⟨t, e1⟩ := x
        rw [hx] at h
        simp only [Option.bind_some] at h
        have h1 := hg _ t e1 (by omega) hx
        cases hy : rk s g n false e1 with
        | none => rw [hy] at h; simp at h
        | some y =>
          obtain ⟨R, e2⟩ := y
          rw [hy] at h
          simp only [Option.map_some, Option.some.injEq, Prod.mk.injEq] at h
          obtain ⟨rfl, rfl⟩ := h
          have h2 := rk_end hg n false e1 R e2 h1.2.1 hy
          refine ⟨by simp only [Hg.size]; omega, h2.2.1, by simp only [Hg.len]; omega, ?_⟩
          simp only [Hg.fitAll, h1.2.2.1, h1.2.2.2, h2.2.2.2, Bool.and_self]
    · rw [rk_bad hp] at h; cases h

theorem seq_size {a b : ByteArray} (h : seq a b = true) : a.size = b.size := by
  rw [bytes_seq, beq_iff_eq] at h
  have := congrArg List.length h
  simpa using this
theorem idx_mem {l : List ByteArray} {t : ByteArray} (h : 0 ≤ idxS l t) : ∃ x ∈ l, seq t x = true := by
  unfold idxS at h
  cases hf : l.findIdx? (seq t) with
  | none => rw [hf] at h; simp at h
  | some k =>
    obtain ⟨hk, h2, _⟩ := List.findIdx?_eq_some_iff_getElem.1 hf
    exact ⟨l[k], List.getElem_mem hk, h2⟩
theorem rank_range (hv : validAl al = true) {m : Nat} (hm : m < al.length) : 0 ≤ al.getD m 0 ∧ al.getD m 0 ≤ 3 := by
  simp only [validAl, Bool.and_eq_true, decide_eq_true_eq, List.all_eq_true] at hv
  have := hv.2 (al.getD m 0) (by rw [List.getD_eq_getElem?_getD, List.getElem?_eq_getElem hm]; exact List.getElem_mem hm)
  simpa only [rok, Bool.and_eq_true, decide_eq_true_eq] using this
theorem sym_range (hnl : names.length = al.length) {t : ByteArray} (h : 0 ≤ idxS names t) : (idxS names t).toNat < al.length ∧ ((idxS names t).toNat : Int) = idxS names t := by
  rcases idxS_lt names t with h1 | h1
  · omega
  · rw [h1] at h; simp [idxS] at h
theorem fit_of (hv : validAl al = true) {m : Int} (h0 : 0 ≤ m) (hm : m.toNat < al.length) : fit al m (al.getD m.toNat 0).toNat = true := by
  have := rank_range hv hm
  simp only [fit, Bool.and_eq_true, decide_eq_true_eq, beq_iff_eq]
  omega

theorem rt_end (hnl : names.length = al.length) (hne : ∀ x ∈ names, 0 < x.size) (hv : validAl al = true) : ∀ (f i : Nat) (t : Int × Hg) (e : Nat), i ≤ s.size → rt s names al f i = some (t, e) → t.2.size + 1 + i ≤ e ∧ e ≤ s.size ∧ fit al t.1 t.2.len = true ∧ t.2.fitAll al = true
  | 0, i, t, e, _, h => by simp [rt] at h
  | f + 1, i, t, e, hi, h => by
    have hs := skB_le hi
    by_cases hm : idxS names (tok s (skB s i)) < 0
    · rw [rt_bad hm] at h; cases h
    · have hm0 : 0 ≤ idxS names (tok s (skB s i)) := by omega
      have hr := sym_range hnl hm0
      have hf := fit_of hv hm0 hr.1
      have hn2 := (nx_le (s := s) (j := skB s i) hs.2).2
      have hlt : i < nx s (skB s i) := by
        rcases Nat.lt_or_ge (skB s i) s.size with h | h
        · have := nx_gt h; omega
        · obtain ⟨x, hx, hq⟩ := idx_mem hm0
          have h1 := seq_size hq
          have h2 := hne x hx
          have h3 := tok_size hs.2
          omega
      by_cases h0 : al.getD (idxS names (tok s (skB s i))).toNat 0 = 0
      · rw [rt_leaf hm0 h0] at h
        simp only [Option.some.injEq, Prod.mk.injEq] at h
        obtain ⟨rfl, rfl⟩ := h
        rw [h0] at hf
        exact ⟨by simp only [Hg.size]; omega, hn2, hf, rfl⟩
      · rw [rt_node hm0 h0] at h
        cases hk : rk s (rt s names al f) (al.getD (idxS names (tok s (skB s i))).toNat 0).toNat true (nx s (skB s i)) with
        | none => rw [hk] at h; simp at h
        | some y =>
          obtain ⟨R, e2⟩ := y
          rw [hk] at h
          simp only [Option.map_some, Option.some.injEq, Prod.mk.injEq] at h
          obtain ⟨rfl, rfl⟩ := h
          have h2 := rk_end (rt_end hnl hne hv f) _ true (nx s (skB s i)) R e2 hn2 hk
          refine ⟨by show R.size + 1 + i ≤ e2; omega, h2.2.1, ?_, h2.2.2.2⟩
          show fit al _ R.len = true
          rw [h2.2.2.1]; exact hf
end

end Go.Proofs.YtkgoealanboolaaDoor

namespace Go.Proofs.YtkgoealanboolaaDoor
open Go.RowKit Go.Shelf

theorem size_list (s : ByteArray) : s.data.toList.length = s.size := by simp
theorem byt_list {s : ByteArray} {pre q : List UInt8} {c : UInt8} (h : s.data.toList = pre ++ c :: q) : byt s pre.length = (c.toNat : Int) ∧ pre.length < s.size := by
  have hl : pre.length < s.size := by rw [← size_list, h]; simp
  refine ⟨?_, hl⟩
  rw [byt, dif_pos hl]
  have : s.data.toList[pre.length]? = some c := by rw [h]; simp
  rw [List.getElem?_eq_getElem (by simpa using hl)] at this
  simp only [Array.getElem_toList, Option.some.injEq] at this
  rw [← this, ByteArray.getElem_eq_getElem_data]
theorem byt_list_end {s : ByteArray} {pre : List UInt8} (h : s.data.toList = pre) : byt s pre.length = 0 ∧ pre.length = s.size := by
  have hl : pre.length = s.size := by rw [← size_list, h]
  exact ⟨byt_ge (by omega), hl⟩

/-- No letter or digit comes next. -/
def Stops (q : List UInt8) : Prop := ∀ c q', q = c :: q' → alnum (c.toNat : Int) = false
theorem wEnd_run {s : ByteArray} : ∀ (x pre q : List UInt8), s.data.toList = pre ++ (x ++ q) → (∀ c ∈ x, alnum (c.toNat : Int) = true) → Stops q → wEnd s pre.length = pre.length + x.length := by
  intro x
  induction x with
  | nil =>
    intro pre q h _ hq
    cases q with
    | nil =>
      have := byt_list_end (s := s) (pre := pre) (by simpa using h)
      rw [wEnd_end (by omega)]; rfl
    | cons c q =>
      have := byt_list (s := s) (pre := pre) (q := q) (c := c) (by simpa using h)
      rw [wEnd_stop (by rw [this.1]; exact hq c q rfl)]; rfl
  | cons c x ih =>
    intro pre q h hx hq
    have hb := byt_list (s := s) (pre := pre) (q := x ++ q) (c := c) (by simpa using h)
    rw [wEnd_step hb.2 (by rw [hb.1]; exact hx c (List.mem_cons_self ..))]
    have := ih (pre ++ [c]) q (by simpa using h) (fun d hd => hx d (List.mem_cons_of_mem _ hd)) hq
    rw [List.length_append] at this
    simpa [Nat.add_assoc, Nat.add_comm 1] using this

/-- A name's bytes. -/
theorem nameB_bytes {x : ByteArray} (h : nameB x = true) : ∃ c l, x.data.toList = c :: l ∧ letB (c.toNat : Int) = true ∧ ∀ d ∈ c :: l, alnum (d.toNat : Int) = true := by
  simp only [nameB, Bool.and_eq_true, decide_eq_true_eq] at h
  obtain ⟨⟨⟨h0, _⟩, hl⟩, he⟩ := h
  cases hx : x.data.toList with
  | nil => have := size_list x; rw [hx] at this; simp at this; omega
  | cons c l =>
    have hb := byt_list (s := x) (pre := []) (q := l) (c := c) (by simpa using hx)
    have hb1 : byt x 0 = (c.toNat : Int) := hb.1
    refine ⟨c, l, rfl, by rw [← hb1]; exact hl, ?_⟩
    have key : ∀ (y pre : List UInt8), x.data.toList = pre ++ y → wEnd x pre.length = x.size → ∀ d ∈ y, alnum (d.toNat : Int) = true := by
      intro y
      induction y with
      | nil => intro _ _ _ d hd; cases hd
      | cons e y ih =>
        intro pre hp hw d hd
        have hb := byt_list (s := x) (pre := pre) (q := y) (c := e) hp
        have ha : alnum (byt x pre.length) = true := by
          cases ha : alnum (byt x pre.length) with
          | true => rfl
          | false => rw [wEnd_stop ha] at hw; omega
        rcases List.mem_cons.1 hd with rfl | hd
        · rw [← hb.1]; exact ha
        · rw [wEnd_step hb.2 ha] at hw
          exact ih (pre ++ [e]) (by simpa using hp) (by simpa using hw) d hd
    intro d hd
    exact key (c :: l) [] (by simpa using hx) (by simpa using he) d hd

theorem idxS_name {names : List ByteArray} (hn : nmAll names names.length = true) {m : Nat} {x t : ByteArray} (hx : names[m]? = some x) (ht : t.data.toList = x.data.toList) : idxS names t = m := by
  have hm := (List.getElem?_eq_some_iff.1 hx).1
  have hxe := (List.getElem?_eq_some_iff.1 hx).2
  have h1 := nmAll_mem _ hn m hm
  rw [nm, hx] at h1
  refine idxS_hit hm (fun j hj hlt => ?_) ?_
  · cases hq : seq t names[j] with
    | false => rfl
    | true =>
      exfalso
      have hq2 : seq x names[j] = true := by rw [bytes_seq] at hq ⊢; rw [← ht]; exact hq
      have hi : ¬ 0 ≤ idxS (names.take m) x := by
        intro h; simp only [Bool.and_eq_true, decide_eq_true_eq] at h1; have := h1.2; omega
      apply hi
      unfold idxS
      cases hf : (names.take m).findIdx? (seq x) with
      | some k => simp only; omega
      | none =>
        rw [List.findIdx?_eq_none_iff] at hf
        have := hf names[j] (by rw [List.mem_take_iff_getElem]; exact ⟨j, by omega, rfl⟩)
        rw [hq2] at this; simp at this
  · rw [hxe, bytes_seq, ht]; simp

theorem tok_run {s : ByteArray} {x pre q : List UInt8} (h : s.data.toList = pre ++ (x ++ q)) (hx : ∀ c ∈ x, alnum (c.toNat : Int) = true) (hx0 : 0 < x.length) (hq : Stops q) :
    (tok s pre.length).data.toList = x ∧ nx s pre.length = pre.length + x.length := by
  have hw := wEnd_run x pre q h hx hq
  have hsz : s.size = pre.length + (x.length + q.length) := by rw [← size_list, h]; simp
  have hm : max (wEnd s pre.length) (pre.length + 1) = pre.length + x.length := by omega
  have hne : ¬ pre.length = s.size := by omega
  constructor
  · rw [tok, if_neg hne, hm, ByteArray.data_extract, Array.toList_extract, List.extract_eq_take_drop, h]
    simp
  · rw [nx, if_neg hne, hm]


theorem rt_blank {s : ByteArray} {names : List ByteArray} {al : List Int} {f i : Nat} (hi : i < s.size) (h : byt s i = 32) : rt s names al f i = rt s names al f (i + 1) := by
  cases f with
  | zero => rfl
  | succ f => rw [rt, rt, skB_step hi h]
theorem stops_cons {c : UInt8} {q : List UInt8} (h : alnum (c.toNat : Int) = false) : Stops (c :: q) := by
  intro d q' e
  simp only [List.cons.injEq] at e
  rw [← e.1]; exact h
theorem stops_tk {f : Int → List UInt8} {H : Hg} {b : Bool} {q : List UInt8} : Stops (H.tk f b ++ 41 :: q) := by
  cases H with
  | nil => exact stops_cons (by decide)
  | cons l k r => cases b <;> (rw [Hg.tk_cons]; exact stops_cons (by decide))

section
variable {s : ByteArray} {names : List ByteArray} {al : List Int}
/-- One tree, once its kids are known to be read. -/
theorem rt_tx (hn : nmAll names names.length = true) (hnl : names.length = al.length) {l : Int} {k : Hg}
    (hk : ∀ (b : Bool) (pre q : List UInt8) (f : Nat), s.data.toList = pre ++ (k.tk (nmOf names) b ++ 41 :: q) → k.fitAll al = true → s.size + 1 ≤ f + pre.length → rk s (rt s names al f) k.len b pre.length = some (k, pre.length + (k.tk (nmOf names) b).length + 1))
    (pre q : List UInt8) (f : Nat) (h : s.data.toList = pre ++ (txT (nmOf names) l k ++ q)) (hq : Stops q) (hfit : fit al l k.len = true) (hall : k.fitAll al = true) (hf : s.size + 1 ≤ f + pre.length) :
    rt s names al f pre.length = some ((l, k), pre.length + (txT (nmOf names) l k).length) := by
  have hle : pre.length ≤ s.size := by rw [← size_list, h]; simp
  obtain ⟨f, rfl⟩ : ∃ g, f = g + 1 := ⟨f - 1, by omega⟩
  simp only [fit, Bool.and_eq_true, decide_eq_true_eq, beq_iff_eq] at hfit
  obtain ⟨hl0, hl1, hrank⟩ := hfit
  obtain ⟨m, rfl⟩ := Int.eq_ofNat_of_zero_le hl0
  have hm : m < names.length := by omega
  obtain ⟨x, hx⟩ : ∃ x, names[m]? = some x := ⟨_, List.getElem?_eq_getElem hm⟩
  have hxn : nameB x = true := by
    have h1 := nmAll_mem _ hn m hm
    rw [nm, hx] at h1
    simp at h1
    exact h1.1
  obtain ⟨c, cl, hxd, hc, hal⟩ := nameB_bytes hxn
  have hnm : nmOf names (m : Int) = x.data.toList := by simp [nmOf, hx]
  have hlen0 : 0 < x.data.toList.length := by rw [hxd]; simp
  have hc32 : ¬ (c.toNat : Int) = 32 := by
    simp only [letB, Bool.or_eq_true, Bool.and_eq_true, decide_eq_true_eq] at hc
    omega
  have hP : s.data.toList = pre ++ (x.data.toList ++ ((if k.len = 0 then [] else k.tk (nmOf names) true ++ [41]) ++ q)) := by
    rw [h, txT, hnm]; simp
  have hPb := byt_list (s := s) (pre := pre) (q := cl ++ ((if k.len = 0 then [] else k.tk (nmOf names) true ++ [41]) ++ q)) (c := c) (by rw [hP, hxd]; simp)
  have hsk : skB s pre.length = pre.length := skB_stop (by rw [hPb.1]; exact hc32)
  have hstops : Stops ((if k.len = 0 then [] else k.tk (nmOf names) true ++ [41]) ++ q) := by
    by_cases hk0 : k.len = 0
    · rw [if_pos hk0]; exact hq
    · rw [if_neg hk0, List.append_assoc]; exact stops_tk
  have htok := tok_run (s := s) (x := x.data.toList) (pre := pre) hP (by rw [hxd]; exact hal) hlen0 hstops
  have hidx : idxS names (tok s (skB s pre.length)) = m := by rw [hsk]; exact idxS_name hn hx htok.1
  have hnx : nx s (skB s pre.length) = pre.length + x.data.toList.length := by rw [hsk]; exact htok.2
  have hm0 : 0 ≤ idxS names (tok s (skB s pre.length)) := by rw [hidx]; omega
  have hrk : al.getD (idxS names (tok s (skB s pre.length))).toNat 0 = (k.len : Int) := by rw [hidx]; exact hrank.symm
  by_cases hk0 : k.len = 0
  · have hkn : k = .nil := by cases k with
      | nil => rfl
      | cons => simp [Hg.len] at hk0
    rw [rt_leaf hm0 (by rw [hrk]; omega), hidx, hnx, hkn]
    simp [txT, Hg.len, hnm]
  · rw [if_neg hk0] at hP
    have hP2 : s.data.toList = (pre ++ x.data.toList) ++ (k.tk (nmOf names) true ++ 41 :: q) := by rw [hP]; simp
    have hPl2 : (pre ++ x.data.toList).length = pre.length + x.data.toList.length := by simp
    have := hk true _ q f hP2 hall (by rw [hPl2]; omega)
    rw [rt_node hm0 (by rw [hrk]; omega), hrk, hidx, hnx, Int.toNat_natCast, ← hPl2, this]
    simp only [Option.map_some, Option.some.injEq, Prod.mk.injEq, true_and]
    rw [hPl2, txT, if_neg hk0, hnm]
    simp only [List.length_append, List.length_cons, List.length_nil]
    omega

theorem rk_tx (hn : nmAll names names.length = true) (hnl : names.length = al.length) : ∀ (H : Hg) (b : Bool) (pre q : List UInt8) (f : Nat), s.data.toList = pre ++ (H.tk (nmOf names) b ++ 41 :: q) → H.fitAll al = true → s.size + 1 ≤ f + pre.length →
    rk s (rt s names al f) H.len b pre.length = some (H, pre.length + (H.tk (nmOf names) b).length + 1) := by
  intro H
  induction H with
  | nil =>
    intro b pre q f h _ _
    have hb := byt_list (s := s) (pre := pre) (q := q) (c := 41) (by simpa [Hg.tk] using h)
    have hsk : skB s pre.length = pre.length := skB_stop (by rw [hb.1]; decide)
    rw [show Hg.nil.len = 0 from rfl, rk_zero, hsk, if_pos (by rw [hb.1]; decide)]
    simp [Hg.tk]
  | cons l k r hk hr =>
    intro b pre q f h hall hf
    simp only [Hg.fitAll, Bool.and_eq_true] at hall
    obtain ⟨hfit, hka, hra⟩ := hall
    rw [Hg.tk_cons] at h
    rw [show (Hg.cons l k r).len = r.len + 1 by simp [Hg.len, Nat.add_comm]]
    cases b with
    | true =>
      simp only [if_true] at h
      have hb := byt_list (s := s) (pre := pre) (q := txT (nmOf names) l k ++ (r.tk (nmOf names) false ++ 41 :: q)) (c := 40) (by rw [h]; simp)
      have hsk : skB s pre.length = pre.length := skB_stop (by rw [hb.1]; decide)
      have h2 : s.data.toList = (pre ++ [40]) ++ (txT (nmOf names) l k ++ (r.tk (nmOf names) false ++ 41 :: q)) := by rw [h]; simp
      have hl2 : (pre ++ [(40 : UInt8)]).length = pre.length + 1 := by simp
      have h3 : s.data.toList = (pre ++ [40] ++ txT (nmOf names) l k) ++ (r.tk (nmOf names) false ++ 41 :: q) := by rw [h2]; simp
      have hl3 : (pre ++ [(40 : UInt8)] ++ txT (nmOf names) l k).length = pre.length + 1 + (txT (nmOf names) l k).length := by simp; omega
      have e1 := rt_tx hn hnl hk _ _ f h2 stops_tk hfit hka (by rw [hl2]; omega)
      have e2 := hr false _ q f h3 hra (by rw [hl3]; omega)
      rw [hl2] at e1
      rw [hl3] at e2
      rw [rk_good (by rw [hsk, hb.1]; rfl), hsk, e1]
      simp only [Option.bind_some]
      rw [e2]
      simp only [Option.map_some, Option.some.injEq, Prod.mk.injEq, true_and]
      rw [Hg.tk_cons]
      simp only [if_true, List.length_append, List.length_cons, List.length_nil]
      omega
    | false =>
      simp only [Bool.false_eq_true, if_false] at h
      have hb := byt_list (s := s) (pre := pre) (q := 32 :: (txT (nmOf names) l k ++ (r.tk (nmOf names) false ++ 41 :: q))) (c := 44) (by rw [h]; simp)
      have hsk : skB s pre.length = pre.length := skB_stop (by rw [hb.1]; decide)
      have hb2 := byt_list (s := s) (pre := pre ++ [44]) (q := txT (nmOf names) l k ++ (r.tk (nmOf names) false ++ 41 :: q)) (c := 32) (by rw [h]; simp)
      have hl1 : (pre ++ [(44 : UInt8)]).length = pre.length + 1 := by simp
      rw [hl1] at hb2
      have h2 : s.data.toList = (pre ++ [44, 32]) ++ (txT (nmOf names) l k ++ (r.tk (nmOf names) false ++ 41 :: q)) := by rw [h]; simp
      have hl2 : (pre ++ [(44 : UInt8), 32]).length = pre.length + 1 + 1 := by simp
      have h3 : s.data.toList = (pre ++ [44, 32] ++ txT (nmOf names) l k) ++ (r.tk (nmOf names) false ++ 41 :: q) := by rw [h2]; simp
      have hl3 : (pre ++ [(44 : UInt8), 32] ++ txT (nmOf names) l k).length = pre.length + 1 + 1 + (txT (nmOf names) l k).length := by simp; omega
      have e1 := rt_tx hn hnl hk _ _ f h2 stops_tk hfit hka (by rw [hl2]; omega)
      have e2 := hr false _ q f h3 hra (by rw [hl3]; omega)
      rw [hl2] at e1
      rw [hl3] at e2
      rw [rk_good (by rw [hsk, hb.1]; rfl), hsk, rt_blank hb2.2 (by rw [hb2.1]; decide), e1]
      simp only [Option.bind_some]
      rw [e2]
      simp only [Option.map_some, Option.some.injEq, Prod.mk.injEq, true_and]
      rw [Hg.tk_cons]
      simp only [Bool.false_eq_true, if_false, List.length_append, List.length_cons, List.length_nil]
      omega
end

/-- What Parse answers. -/
def tps (names : List ByteArray) (al : List Int) (s : ByteArray) : Option (Int × Hg) := (rt s names al (s.size + 1) 0).bind fun x => if skB s x.2 = s.size then some x.1 else none
def tpE : Option (Int × Hg) → Int
  | none => 4
  | some t => if t.2.size + 1 ≤ 300 then 0 else 3
def paE (al : List Int) (names : List ByteArray) (s : ByteArray) : Int :=
  if validAl al = true then (if namesB names (al.length : Int) = true then (if s.size ≤ 16384 then tpE (tps names al s) else 3) else 4) else 1
def paT (al : List Int) (names : List ByteArray) (s : ByteArray) : Int × Hg := if paE al names s = 0 then (tps names al s).getD (0, .nil) else (0, .nil)
theorem tps_some {names : List ByteArray} {al : List Int} {s : ByteArray} {t : Int × Hg} {e : Nat} (h : rt s names al (s.size + 1) 0 = some (t, e)) : tps names al s = if skB s e = s.size then some t else none := by
  rw [tps, h]; rfl
theorem tps_none {names : List ByteArray} {al : List Int} {s : ByteArray} (h : rt s names al (s.size + 1) 0 = none) : tps names al s = none := by rw [tps, h]; rfl
theorem pa_back {al : List Int} {names : List ByteArray} {l : Int} {K : Hg} {s : ByteArray} (h0 : ptE al names l K = 0) (hs : s.data.toList = ptT al names l K) (h16 : s.size ≤ 16384) : paE al names s = 0 ∧ paT al names s = (l, K) := by
  rw [ptT, if_pos h0] at hs
  unfold ptE at h0
  by_cases hv : tvalid al l K = true
  · rw [if_pos hv] at h0
    by_cases hb : namesB names (al.length : Int) = true
    · have hsm := namesB_small hb
      obtain ⟨hva, h300, hfit, hall⟩ := tvalid_parts hv
      have hnl : names.length = al.length := by omega
      have hnm : nmAll names names.length = true := by
        simp only [namesB, Bool.and_eq_true] at hb
        exact hb.2
      have e := rt_tx (s := s) hnm hnl (rk_tx hnm hnl K) [] [] (s.size + 1) (by simpa using hs) (fun c q' h => by cases h) hfit hall (by simp)
      have hsz : (txT (nmOf names) l K).length = s.size := by rw [← hs]; simp
      rw [List.length_nil, Nat.zero_add, hsz] at e
      have hp : tps names al s = some (l, K) := by
        rw [tps_some e, skB_end (by omega), if_pos rfl]
      have he : paE al names s = 0 := by
        rw [paE, if_pos hva, if_pos hb, if_pos h16, hp, tpE, if_pos h300]
      exact ⟨he, by rw [paT, if_pos he, hp]; rfl⟩
    · rw [if_neg hb] at h0; exact absurd h0 (by decide)
  · rw [if_neg hv] at h0; exact absurd h0 (by decide)

end Go.Proofs.YtkgoealanboolaaDoor

namespace Go.Proofs.YtkgoealanboolaaDoor
open Go.RowKit Go.Shelf

def suf (s : ByteArray) (i : Nat) : ByteArray := s.extract i s.size
theorem suf_size {s : ByteArray} {i : Nat} (_h : i ≤ s.size) : (suf s i).size = s.size - i := by
  simp [suf, ByteArray.size_extract]
theorem suf_list (s : ByteArray) (i : Nat) : (suf s i).data.toList = s.data.toList.drop i := by
  rw [suf, ByteArray.data_extract, Array.toList_extract, List.extract_eq_take_drop]
  apply List.take_of_length_le
  rw [List.length_drop, size_list]
  exact Nat.le_refl _
theorem bytes_ext {a b : ByteArray} (h : a.data.toList = b.data.toList) : a = b := by
  cases a; cases b; simp only [ByteArray.mk.injEq]; exact Array.toList_inj.1 h
theorem byt_get (s : ByteArray) (i : Nat) : byt s i = match s.data.toList[i]? with
    | some c => (c.toNat : Int)
    | none => 0 := by
  by_cases h : i < s.size
  · rw [byt, dif_pos h]
    have : s.data.toList[i]? = some (s[i]'h) := by
      rw [List.getElem?_eq_getElem (by simpa using h)]; simp [ByteArray.getElem_eq_getElem_data]
    rw [this]
  · rw [byt_ge (by omega)]
    have : s.data.toList[i]? = none := List.getElem?_eq_none (by simpa using h)
    rw [this]
theorem byt_suf (s : ByteArray) (i k : Nat) : byt (suf s i) k = byt s (i + k) := by
  rw [byt_get, byt_get, suf_list, List.getElem?_drop]
theorem wEnd_suf {s : ByteArray} {i k : Nat} (h : i + k ≤ s.size) : wEnd (suf s i) k + i = wEnd s (i + k) := by
  generalize hn : s.size - (i + k) = n
  have hz := suf_size (s := s) (i := i) (by omega)
  induction n generalizing k with
  | zero =>
    rw [wEnd_end (by omega), wEnd_end (by omega)]; omega
  | succ n ih =>
    cases ha : alnum (byt s (i + k)) with
    | true =>
      rw [wEnd_step (s := suf s i) (by omega) (by rw [byt_suf]; exact ha), wEnd_step (s := s) (by omega) ha]
      exact ih (k := k + 1) (by omega) (by omega)
    | false =>
      rw [wEnd_stop (s := suf s i) (by rw [byt_suf]; exact ha), wEnd_stop (s := s) ha]; omega
theorem suf_drop {s : ByteArray} {i k : Nat} (_h : i + k ≤ s.size) : (suf s i).extract k (suf s i).size = suf s (i + k) := by
  apply bytes_ext
  rw [suf_list]
  have := suf_list (suf s i) k
  rw [show (suf s i).extract k (suf s i).size = suf (suf s i) k from rfl, this, suf_list, List.drop_drop]
theorem suf_zero (s : ByteArray) : suf s 0 = s := bytes_ext (by rw [suf_list]; rfl)
theorem suf_take {s : ByteArray} {i n : Nat} (_h : i + n ≤ s.size) : ((suf s i).extract 0 n).data.toList = (s.data.toList.drop i).take n := by
  rw [ByteArray.data_extract, Array.toList_extract, List.extract_eq_take_drop, suf_list]; simp
theorem wordR_suf {s : ByteArray} {i : Nat} (h : i ≤ s.size) : wordR (suf s i) = if letB (byt s i) = true ∧ i < s.size then wEnd s i - i else 0 := by
  have hz := suf_size h
  unfold wordR
  rw [byt_suf, hz, Nat.add_zero]
  by_cases hc : letB (byt s i) = true ∧ i < s.size
  · rw [if_pos ⟨hc.1, by omega⟩, if_pos hc]
    have h1 := wEnd_suf (s := s) (i := i) (k := 1) (by omega)
    have h2 := wEnd_step (s := s) (k := i) hc.2 (by simp [alnum, hc.1])
    omega
  · rw [if_neg (fun h => hc ⟨h.1, by omega⟩), if_neg hc]
theorem tok_head {s : ByteArray} {j : Nat} (h : j < s.size) : ∃ l, (tok s j).data.toList = (s[j]'h) :: l := by
  have hdr : s.data.toList.drop j = s[j]'h :: s.data.toList.drop (j + 1) := by
    rw [List.drop_eq_getElem_cons (by simpa using h)]; simp [ByteArray.getElem_eq_getElem_data]
  have hm : max (wEnd s j) (j + 1) - j = (max (wEnd s j) (j + 1) - j - 1) + 1 := by omega
  rw [tok, if_neg (by omega), ByteArray.data_extract, Array.toList_extract, List.extract_eq_take_drop, hdr, hm, List.take_succ_cons]
  exact ⟨_, rfl⟩
/-- The number of the word that begins at i is the number of the token at i. -/
theorem place_tok {s : ByteArray} {names : List ByteArray} (hn : ∀ x ∈ names, nameB x = true) {i : Nat} (h : i < s.size) :
    idxS names ((suf s i).extract 0 (wordR (suf s i))) = idxS names (tok s i) := by
  have hw := wEnd_le (s := s) (i := i) (by omega)
  rw [wordR_suf (by omega)]
  by_cases hl : letB (byt s i) = true
  · rw [if_pos ⟨hl, h⟩]
    have h2 := wEnd_step (s := s) (k := i) h (by simp [alnum, hl])
    have h3 := wEnd_le (s := s) (i := i + 1) (by omega)
    congr 1
    apply bytes_ext
    rw [suf_take (by omega), tok, if_neg (by omega), ByteArray.data_extract, Array.toList_extract, List.extract_eq_take_drop, show max (wEnd s i) (i + 1) = wEnd s i by omega]
  · rw [if_neg (fun e => hl e.1)]
    have h1 : idxS names ((suf s i).extract 0 0) = -1 := idxS_none (fun j hj => by
      obtain ⟨c, l, hx, _, _⟩ := nameB_bytes (hn _ (List.getElem_mem hj))
      rw [bytes_seq, hx, suf_take (by omega)]; rfl)
    have h2 : idxS names (tok s i) = -1 := idxS_none (fun j hj => by
      obtain ⟨c, l, hx, hc, _⟩ := nameB_bytes (hn _ (List.getElem_mem hj))
      obtain ⟨l', ht⟩ := tok_head h
      rw [bytes_seq, hx, ht]
      have : ¬ (s[i]'h) = c := fun e => hl (by rw [byt, dif_pos h, e]; exact hc)
      simp [this])
    rw [h1, h2]

end Go.Proofs.YtkgoealanboolaaDoor

namespace Go.Proofs.YtkgoealanboolaaDoor
open Go.RowKit Go.Shelf

def cellStr (w : World) (b : Nat) : Nat := match w.cell? ⟨b, 2, none⟩ with
  | some (.string t) => t.size
  | _ => 0
theorem cellStr_blk {w : World} {b : Nat} {t : TypeId} {v u x : Value} {s : ByteArray} (h : Blk w b t #[v, x, .string s, u]) : cellStr w b = s.size := by
  have : w.cell? ⟨b, 2, none⟩ = some (.string s) := by rw [h.cell]; rfl
  simp [cellStr, this]
/-- The text is at its end, or not: every spelling. -/
theorem suf_at_end {s : ByteArray} {k : Nat} (h : k = s.size) : (suf s k).toList = [] ∧ (suf s k).toList.isEmpty = true ∧ ((suf s k).toList == []) = true := by
  have h0 : (suf s k).toList = [] := by
    rw [ByteArray.toList_eq, suf_list, List.drop_eq_nil_iff]; simp [h]
  exact ⟨h0, by rw [h0]; rfl, by rw [h0]; rfl⟩
theorem suf_more {s : ByteArray} {k : Nat} (h : k < s.size) : ¬ (suf s k).toList = [] ∧ (suf s k).toList.isEmpty = false ∧ ((suf s k).toList == []) = false ∧ 0 < (suf s k).size := by
  have hz := suf_size (s := s) (i := k) (by omega)
  have h0 : ¬ (suf s k).toList = [] := fun e => by
    have h1 : (suf s k).data.toList.length = (suf s k).size := by simp
    rw [← ByteArray.toList_eq, e] at h1
    simp only [List.length_nil] at h1
    omega
  exact ⟨h0, by rw [List.isEmpty_eq_false_iff]; exact h0, by simpa using h0, by omega⟩
theorem suf_byte {s : ByteArray} {k : Nat} (h : 0 < (suf s k).size) : (((suf s k)[0]'h).toNat : Int) = byt s k := by
  have := byt_suf s k 0
  rw [byt, dif_pos h] at this
  exact this
theorem suf_one {s : ByteArray} {k : Nat} (h : k < s.size) : (suf s k).extract 1 (suf s k).size = suf s (k + 1) := suf_drop (by omega)

theorem place_nx {s : ByteArray} {names : List ByteArray} (hn : ∀ x ∈ names, nameB x = true) {i : Nat} (h : i < s.size) (hm : 0 ≤ idxS names ((suf s i).extract 0 (wordR (suf s i)))) : i + wordR (suf s i) = nx s i := by
  have hw := wEnd_le (s := s) (i := i) (by omega)
  rw [wordR_suf (by omega)] at hm ⊢
  by_cases hl : letB (byt s i) = true
  · rw [if_pos ⟨hl, h⟩]
    have h2 := wEnd_step (s := s) (k := i) h (by simp [alnum, hl])
    have h3 := wEnd_le (s := s) (i := i + 1) (by omega)
    rw [nx, if_neg (by omega)]; omega
  · rw [if_neg (fun e => hl e.1)] at hm
    have h1 : idxS names ((suf s i).extract 0 0) = -1 := idxS_none (fun j hj => by
      obtain ⟨c, l, hx, _, _⟩ := nameB_bytes (hn _ (List.getElem_mem hj))
      rw [bytes_seq, hx, suf_take (by omega)]; rfl)
    rw [h1] at hm
    exact absurd hm (by decide)


set_option maxRecDepth 100000 in
set_option maxHeartbeats 2000000 in
theorem rblanks_ok (s : ByteArray) (i b : Nat) (av vn : Value) (β : Bool) (w : World) (hb : Blk w b 112 #[av, vn, .string (suf s i), .bool β]) (hi : i ≤ s.size) :
    Calls Tryd.prog 74 #[.pointer (some ⟨b, 0, none⟩)] w fun e w' => e = .returned (.tuple #[]) ∧ Blk w' b 112 #[av, vn, .string (suf s (skB s i)), .bool β] ∧ Kp (fun c => c ≠ b) w w' := by
  have HB := Lib.hid hb
  clear hb
  go_enter Tryd.func74, Tryd.ntmps74
  go_wp2_with fail
  go_loopw [] (fun wq => ∃ k : Nat, k ≤ s.size ∧ i ≤ k ∧ Hid (Blk wq b 112 #[av, vn, .string (suf s k), .bool β]) ∧ Hid (skB s i = skB s k) ∧ Hid (Kp (fun c => c ≠ b) w wq))
    (fun wq => cellStr wq b)
  case atStart => exact ⟨i, hi, Nat.le_refl _, HB, Lib.hid rfl, Lib.hid (Kp.refl _ _)⟩
  case round =>
    rename World => wq
    obtain ⟨k, hk, hik, HX, HE, HKQ⟩ := hrel
    have z1 : wq.cell? ⟨b, 2, none⟩ = some (.string (suf s k)) := by rw [HX.out.cell]; rfl
    have z3 := HX.out.frozen 2
    have z4 := HX.out.lt
    have hzz := suf_size hk
    by_cases hlt : k < s.size
    · obtain ⟨m1, m2, m3, m4⟩ := suf_more hlt
      have hby := suf_byte m4
      by_cases h32 : byt s k = 32
      · have hd : (((suf s k)[0]'m4).toNat : Int) = 32 := by rw [hby, h32]
        have HE2 : Hid (skB s i = skB s (k + 1)) := Lib.hid (by rw [HE.out, skB_step hlt h32])
        have hs1 : (1 : Int) ≤ ((suf s k).size : Int) := by omega
        have HS1 := Lib.hid (suf_one hlt)
        have HZ := Lib.hid hzz
        clear hby h32 HE hzz
        go_wp2_with fail
        go_roundw
        case rel =>
          refine ⟨k + 1, by omega, by omega, Lib.hid ?_, HE2, Lib.hid (HKQ.out.setCell (p := ⟨b, 2, none⟩) (fun h => absurd rfl h) _)⟩
          have := HX.out.set_ 2 (.string (suf s (k + 1)))
          rw [HS1.out]; exact this
        case measure =>
          have e1 := cellStr_blk HX.out
          have e2 : cellStr (wq.setCell ⟨b, 2, none⟩ (.string ((suf s k).extract 1 (suf s k).size))) b = s.size - (k + 1) := by
            rw [HS1.out, cellStr_blk (HX.out.set_ 2 (.string (suf s (k + 1)))), suf_size (by omega)]
          rw [e1, e2, HZ.out]
          omega
      · have hd : ¬ (((suf s k)[0]'m4).toNat : Int) = 32 := by rw [hby]; exact h32
        have hdb : ((((suf s k)[0]'m4).toNat : Int) == 32) = false := by simpa using hd
        have HJ : Hid (skB s i = k) := Lib.hid (by rw [HE.out, skB_stop h32])
        clear h32 HE hby
        go_wp2_with fail
        go_end0
        exact ⟨rfl, by rw [HJ.out]; exact HX.out, HKQ.out⟩
    · have hke : k = s.size := by omega
      obtain ⟨m1, m2, m3⟩ := suf_at_end hke
      have HJ : Hid (skB s i = k) := Lib.hid (by rw [HE.out, skB_end (by omega)])
      clear HE hke hlt hzz
      go_wp2_with fail
      go_end0
      exact ⟨rfl, by rw [HJ.out]; exact HX.out, HKQ.out⟩

set_option maxRecDepth 100000 in
set_option maxHeartbeats 2000000 in
theorem rmust_ok (s : ByteArray) (i b : Nat) (av vn : Value) (β : Bool) (c : Int) (hc0 : ¬ c = 0) (w : World) (hb : Blk w b 112 #[av, vn, .string (suf s i), .bool β]) (hi : i ≤ s.size) :
    Calls Tryd.prog 94 #[.pointer (some ⟨b, 0, none⟩), .int .u8 c] w fun e w' => e = .returned (.tuple #[]) ∧ Kp (fun c => c ≠ b) w w' ∧
      ((byt s (skB s i) = c ∧ Blk w' b 112 #[av, vn, .string (suf s (skB s i + 1)), .bool β]) ∨ (¬ byt s (skB s i) = c ∧ Blk w' b 112 #[av, vn, .string (suf s (skB s i)), .bool true])) := by
  have HBL := Lib.hid (rblanks_ok s i b av vn β w hb hi)
  have hsk := skB_le hi
  have hzz := suf_size hsk.2
  clear hb
  obtain ⟨k, hk⟩ : ∃ k, k = skB s i := ⟨_, rfl⟩
  rw [← hk] at HBL hsk hzz ⊢
  have hks := hsk.2
  clear hk hsk
  by_cases hlt : k < s.size
  · obtain ⟨m1, m2, m3, m4⟩ := suf_more hlt
    have hby := suf_byte m4
    by_cases h : byt s k = c
    · have hd : (((suf s k)[0]'m4).toNat : Int) = c := by rw [hby, h]
      have hdb : ((((suf s k)[0]'m4).toNat : Int) == c) = true := by simpa using hd
      have hdn : ((((suf s k)[0]'m4).toNat : Int) != c) = false := by simpa using hd
      have hs1 : (1 : Int) ≤ ((suf s k).size : Int) := by omega
      have HS1 := Lib.hid (suf_one hlt)
      have HH := Lib.hid h
      clear hby h hzz
      go_enter Tryd.func94, Tryd.ntmps94
      go_wp2_with fail
      refine HBL.out.mono ?_
      rintro e w1 ⟨rfl, hb1, hk1⟩
      have z1 : w1.cell? ⟨b, 2, none⟩ = some (.string (suf s k)) := by rw [hb1.cell]; rfl
      have z3 := hb1.frozen 2
      have z4 := hb1.lt
      have HB1 := Lib.hid hb1
      have HK1 := Lib.hid hk1
      clear hb1 hk1
      go_wp2_with fail
      go_end0
      refine ⟨rfl, HK1.out.setCell (p := ⟨b, 2, none⟩) (fun h => absurd rfl h) _, .inl ⟨HH.out, ?_⟩⟩
      have := HB1.out.set_ 2 (.string (suf s (k + 1)))
      rw [HS1.out]; exact this
    · have hd : ¬ (((suf s k)[0]'m4).toNat : Int) = c := by rw [hby]; exact h
      have hdb : ((((suf s k)[0]'m4).toNat : Int) == c) = false := by simpa using hd
      have hdn : ((((suf s k)[0]'m4).toNat : Int) != c) = true := by simpa using hd
      have HH := Lib.hid h
      clear hby h hzz
      go_enter Tryd.func94, Tryd.ntmps94
      go_wp2_with fail
      refine HBL.out.mono ?_
      rintro e w1 ⟨rfl, hb1, hk1⟩
      have z1 : w1.cell? ⟨b, 2, none⟩ = some (.string (suf s k)) := by rw [hb1.cell]; rfl
      have z2 : w1.cell? ⟨b, 3, none⟩ = some (.bool β) := by rw [hb1.cell]; rfl
      have z3 := hb1.frozen 3
      have z4 := hb1.lt
      have HB1 := Lib.hid hb1
      have HK1 := Lib.hid hk1
      clear hb1 hk1
      go_wp2_with fail
      refine bodyPost_ret (results_none rfl _ _ _) rfl ?_
      exact ⟨rfl, HK1.out.setCell (p := ⟨b, 3, none⟩) (fun h => absurd rfl h) _, .inr ⟨HH.out, HB1.out.set_ 3 (.bool true)⟩⟩
  · have hke : k = s.size := by omega
    obtain ⟨m1, m2, m3⟩ := suf_at_end hke
    have HH : Hid (¬ byt s k = c) := Lib.hid (by rw [byt_ge (by omega)]; exact fun h => hc0 h.symm)
    clear hke hlt hzz
    go_enter Tryd.func94, Tryd.ntmps94
    go_wp2_with fail
    refine HBL.out.mono ?_
    rintro e w1 ⟨rfl, hb1, hk1⟩
    have z1 : w1.cell? ⟨b, 2, none⟩ = some (.string (suf s k)) := by rw [hb1.cell]; rfl
    have z2 : w1.cell? ⟨b, 3, none⟩ = some (.bool β) := by rw [hb1.cell]; rfl
    have z3 := hb1.frozen 3
    have z4 := hb1.lt
    have HB1 := Lib.hid hb1
    have HK1 := Lib.hid hk1
    clear hb1 hk1
    go_wp2_with fail
    refine bodyPost_ret (results_none rfl _ _ _) rfl ?_
    exact ⟨rfl, HK1.out.setCell (p := ⟨b, 3, none⟩) (fun h => absurd rfl h) _, .inr ⟨HH.out, HB1.out.set_ 3 (.bool true)⟩⟩

end Go.Proofs.YtkgoealanboolaaDoor

