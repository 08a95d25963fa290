/- Reading what is printed gives the hedge back. -/
import Derived.Test.YthdaeblfehclcabRd
import Derived.Test.YthdaeblfehclcabRPrint
namespace Go.Proofs.Ythdaeblfehclcab
open Go.RowKit Go.Shelf

theorem size_list (s : ByteArray) : s.data.toList.length = s.size := by simp
theorem byt_list {s : ByteArray} {pre q : List UInt8} {c : UInt8} (h : s.data.toList = pre ++ c :: q) : byt s pre.length = (c.toNat : Int) ∧ pre.length < s.size := by
  have hl : pre.length < s.size := by rw [← size_list, h]; simp
  refine ⟨?_, hl⟩
  rw [byt, dif_pos hl]
  have : s.data.toList[pre.length]? = some c := by rw [h]; simp
  rw [List.getElem?_eq_getElem (by simpa using hl)] at this
  simp only [Array.getElem_toList, Option.some.injEq] at this
  rw [← this, ByteArray.getElem_eq_getElem_data]
theorem byt_list_end {s : ByteArray} {pre : List UInt8} (h : s.data.toList = pre) : byt s pre.length = 0 ∧ pre.length = s.size := by
  have hl : pre.length = s.size := by rw [← size_list, h]
  exact ⟨byt_ge (by omega), hl⟩

/-- No letter or digit comes next. -/
def Stops (q : List UInt8) : Prop := ∀ c q', q = c :: q' → alnum (c.toNat : Int) = false
theorem wEnd_run {s : ByteArray} : ∀ (x pre q : List UInt8), s.data.toList = pre ++ (x ++ q) → (∀ c ∈ x, alnum (c.toNat : Int) = true) → Stops q → wEnd s pre.length = pre.length + x.length := by
  intro x
  induction x with
  | nil =>
    intro pre q h _ hq
    cases q with
    | nil =>
      have := byt_list_end (s := s) (pre := pre) (by simpa using h)
      rw [wEnd_end (by omega)]; rfl
    | cons c q =>
      have := byt_list (s := s) (pre := pre) (q := q) (c := c) (by simpa using h)
      rw [wEnd_stop (by rw [this.1]; exact hq c q rfl)]; rfl
  | cons c x ih =>
    intro pre q h hx hq
    have hb := byt_list (s := s) (pre := pre) (q := x ++ q) (c := c) (by simpa using h)
    rw [wEnd_step hb.2 (by rw [hb.1]; exact hx c (List.mem_cons_self ..))]
    have := ih (pre ++ [c]) q (by simpa using h) (fun d hd => hx d (List.mem_cons_of_mem _ hd)) hq
    rw [List.length_append] at this
    simpa [Nat.add_assoc, Nat.add_comm 1] using this

/-- A name's bytes. -/
theorem nameB_bytes {x : ByteArray} (h : nameB x = true) : ∃ c l, x.data.toList = c :: l ∧ letB (c.toNat : Int) = true ∧ ∀ d ∈ c :: l, alnum (d.toNat : Int) = true := by
  simp only [nameB, Bool.and_eq_true, decide_eq_true_eq] at h
  obtain ⟨⟨⟨h0, _⟩, hl⟩, he⟩ := h
  cases hx : x.data.toList with
  | nil => have := size_list x; rw [hx] at this; simp at this; omega
  | cons c l =>
    have hb := byt_list (s := x) (pre := []) (q := l) (c := c) (by simpa using hx)
    have hb1 : byt x 0 = (c.toNat : Int) := hb.1
    refine ⟨c, l, rfl, by rw [← hb1]; exact hl, ?_⟩
    have key : ∀ (y pre : List UInt8), x.data.toList = pre ++ y → wEnd x pre.length = x.size → ∀ d ∈ y, alnum (d.toNat : Int) = true := by
      intro y
      induction y with
      | nil => intro _ _ _ d hd; cases hd
      | cons e y ih =>
        intro pre hp hw d hd
        have hb := byt_list (s := x) (pre := pre) (q := y) (c := e) hp
        have ha : alnum (byt x pre.length) = true := by
          cases ha : alnum (byt x pre.length) with
          | true => rfl
          | false => rw [wEnd_stop ha] at hw; omega
        rcases List.mem_cons.1 hd with rfl | hd
        · rw [← hb.1]; exact ha
        · rw [wEnd_step hb.2 ha] at hw
          exact ih (pre ++ [e]) (by simpa using hp) (by simpa using hw) d hd
    intro d hd
    exact key (c :: l) [] (by simpa using hx) (by simpa using he) d hd

theorem idxS_name {names : List ByteArray} (hn : nmAll names names.length = true) {m : Nat} {x t : ByteArray} (hx : names[m]? = some x) (ht : t.data.toList = x.data.toList) : idxS names t = m := by
  have hm := (List.getElem?_eq_some_iff.1 hx).1
  have hxe := (List.getElem?_eq_some_iff.1 hx).2
  have h1 := nmAll_mem _ hn m hm
  rw [nm, hx] at h1
  refine idxS_hit hm (fun j hj hlt => ?_) ?_
  · cases hq : seq t names[j] with
    | false => rfl
    | true =>
      exfalso
      have hq2 : seq x names[j] = true := by rw [bytes_seq] at hq ⊢; rw [← ht]; exact hq
      have hi : ¬ 0 ≤ idxS (names.take m) x := by
        intro h; simp only [Bool.and_eq_true, decide_eq_true_eq] at h1; have := h1.2; omega
      apply hi
      unfold idxS
      cases hf : (names.take m).findIdx? (seq x) with
      | some k => simp only; omega
      | none =>
        rw [List.findIdx?_eq_none_iff] at hf
        have := hf names[j] (by rw [List.mem_take_iff_getElem]; exact ⟨j, by omega, rfl⟩)
        rw [hq2] at this; simp at this
  · rw [hxe, bytes_seq, ht]; simp

theorem tok_run {s : ByteArray} {x pre q : List UInt8} (h : s.data.toList = pre ++ (x ++ q)) (hx : ∀ c ∈ x, alnum (c.toNat : Int) = true) (hx0 : 0 < x.length) (hq : Stops q) :
    (tok s pre.length).data.toList = x ∧ nx s pre.length = pre.length + x.length := by
  have hw := wEnd_run x pre q h hx hq
  have hsz : s.size = pre.length + (x.length + q.length) := by rw [← size_list, h]; simp
  have hm : max (wEnd s pre.length) (pre.length + 1) = pre.length + x.length := by omega
  have hne : ¬ pre.length = s.size := by omega
  constructor
  · rw [tok, if_neg hne, hm, ByteArray.data_extract, Array.toList_extract, List.extract_eq_take_drop, h]
    simp
  · rw [nx, if_neg hne, hm]

theorem stops_tx {f : Int → List UInt8} {H : Hg} {post : List UInt8} (hp : post = [] ∨ ∃ q, post = 41 :: q) : Stops (H.tx f true ++ post) := by
  intro c q' h
  cases H with
  | nil =>
    rcases hp with rfl | ⟨q, rfl⟩
    · simp [Hg.tx] at h
    · simp only [Hg.tx, List.nil_append, List.cons.injEq] at h
      rw [← h.1]; decide
  | cons l k r =>
    simp only [Hg.tx, if_true, List.cons_append, List.nil_append, List.append_assoc, List.cons.injEq] at h
    rw [← h.1]; decide

theorem rd_tx {s : ByteArray} {names : List ByteArray} (hn : nmAll names names.length = true) : ∀ (H : Hg) (sp : Bool) (pre post : List UInt8) (f : Nat), s.data.toList = pre ++ (H.tx (nmOf names) sp ++ post) →
    (post = [] ∨ ∃ q, post = 41 :: q) → H.flat.all (lok names.length) = true → s.size + 1 ≤ f + pre.length → rd s names f pre.length = some (H, pre.length + (H.tx (nmOf names) sp).length) := by
  intro H
  induction H with
  | nil =>
    intro sp pre post f h hp _ hf
    have hle : pre.length ≤ s.size := by rw [← size_list, h]; simp
    obtain ⟨f, rfl⟩ : ∃ g, f = g + 1 := ⟨f - 1, by omega⟩
    have hb : skB s pre.length = pre.length ∧ (pre.length = s.size ∨ byt s pre.length = 41) := by
      rcases hp with rfl | ⟨q, rfl⟩
      · have := byt_list_end (s := s) (pre := pre) (by simpa [Hg.tx] using h)
        exact ⟨skB_stop (by rw [this.1]; decide), .inl this.2⟩
      · have := byt_list (s := s) (pre := pre) (q := q) (c := 41) (by simpa [Hg.tx] using h)
        exact ⟨skB_stop (by rw [this.1]; decide), .inr this.1⟩
    have h2 := hb.2
    rw [rd_stop (by rw [hb.1]; exact h2), hb.1]
    simp [Hg.tx]
  | cons l k r hk hr =>
    intro sp pre post f h hp hl hf
    rw [flat_all_cons, Bool.and_eq_true, Bool.and_eq_true] at hl
    have hl01 : 0 ≤ l ∧ l < names.length := by simpa [lok] using hl.1
    obtain ⟨m, rfl⟩ := Int.eq_ofNat_of_zero_le hl01.1
    have hm : m < names.length := by omega
    obtain ⟨x, hx⟩ : ∃ x, names[m]? = some x := ⟨_, List.getElem?_eq_getElem hm⟩
    have hxn : nameB x = true := by
      have h1 := nmAll_mem _ hn m hm
      rw [nm, hx] at h1
      simp at h1
      exact h1.1
    obtain ⟨c, cl, hxd, hc, hal⟩ := nameB_bytes hxn
    have hnm : nmOf names (m : Int) = x.data.toList := by simp [nmOf, hx]
    have hlen0 : 0 < x.data.toList.length := by rw [hxd]; simp
    have hcb : ∀ d : Int, letB d = true → ¬ d = 32 ∧ ¬ d = 41 ∧ ¬ d = 40 := by
      intro d hd
      simp only [letB, Bool.or_eq_true, Bool.and_eq_true, decide_eq_true_eq] at hd
      omega
    have hc3 := hcb _ hc
    -- the blank
    obtain ⟨P, hP, hPl, hsk⟩ : ∃ P, s.data.toList = P ++ (x.data.toList ++ ((if k.len = 0 then [] else 40 :: (k.tx (nmOf names) false ++ [41])) ++ (r.tx (nmOf names) true ++ post))) ∧ P.length = pre.length + (if sp = true then [(32 : UInt8)] else []).length ∧ skB s pre.length = P.length := by
      cases sp with
      | false =>
        simp only [Hg.tx, hnm, Bool.false_eq_true, if_false, List.nil_append, List.append_assoc] at h
        refine ⟨pre, h, by simp, ?_⟩
        have := byt_list (s := s) (pre := pre) (q := cl ++ ((if k.len = 0 then [] else 40 :: (k.tx (nmOf names) false ++ [41])) ++ (r.tx (nmOf names) true ++ post))) (c := c) (by rw [h, hxd]; simp)
        exact skB_stop (by rw [this.1]; exact hc3.1)
      | true =>
        simp only [Hg.tx, hnm, if_true, List.append_assoc] at h
        have hb0 := byt_list (s := s) (pre := pre) (q := x.data.toList ++ ((if k.len = 0 then [] else 40 :: (k.tx (nmOf names) false ++ [41])) ++ (r.tx (nmOf names) true ++ post))) (c := 32) (by rw [h]; simp)
        refine ⟨pre ++ [32], by rw [h]; simp, by simp, ?_⟩
        have := byt_list (s := s) (pre := pre ++ [32]) (q := cl ++ ((if k.len = 0 then [] else 40 :: (k.tx (nmOf names) false ++ [41])) ++ (r.tx (nmOf names) true ++ post))) (c := c) (by rw [h, hxd]; simp)
        rw [skB_step hb0.2 (by rw [hb0.1]; decide)]
        have h2 := this.1
        rw [List.length_append] at h2 ⊢
        exact skB_stop (by rw [show pre.length + 1 = pre.length + [(32 : UInt8)].length from rfl, h2]; exact hc3.1)
    have hPb := byt_list (s := s) (pre := P) (q := cl ++ ((if k.len = 0 then [] else 40 :: (k.tx (nmOf names) false ++ [41])) ++ (r.tx (nmOf names) true ++ post))) (c := c) (by rw [hP, hxd]; simp)
    have hst : ¬ (skB s pre.length = s.size ∨ byt s (skB s pre.length) = 41) := by
      rw [hsk, hPb.1]
      rintro (h | h)
      · omega
      · exact hc3.2.1 h
    have hstops : Stops ((if k.len = 0 then [] else 40 :: (k.tx (nmOf names) false ++ [41])) ++ (r.tx (nmOf names) true ++ post)) := by
      by_cases hk0 : k.len = 0
      · rw [if_pos hk0]; exact stops_tx hp
      · rw [if_neg hk0]
        intro c q' h
        simp only [List.cons_append, List.cons.injEq] at h
        rw [← h.1]; decide
    have hal2 : ∀ d ∈ x.data.toList, alnum (d.toNat : Int) = true := by rw [hxd]; exact hal
    have htok := tok_run (s := s) (x := x.data.toList) (pre := P) hP hal2 hlen0 hstops
    have hidx : idxS names (tok s (skB s pre.length)) = m := by rw [hsk]; exact idxS_name hn hx htok.1
    have hnx : nx s (skB s pre.length) = P.length + x.data.toList.length := by rw [hsk]; exact htok.2
    have hxl : (nmOf names (m : Int)).length = x.data.toList.length := by rw [hnm]
    obtain ⟨f, rfl⟩ : ∃ g, f = g + 1 := ⟨f - 1, by omega⟩
    have hm0 : 0 ≤ idxS names (tok s (skB s pre.length)) := by rw [hidx]; omega
    by_cases hk0 : k.len = 0
    · have hkn : k = .nil := by cases k with
        | nil => rfl
        | cons => simp [Hg.len] at hk0
      subst hkn
      rw [if_pos hk0, List.nil_append] at hP
      have hP2 : s.data.toList = (P ++ x.data.toList) ++ (r.tx (nmOf names) true ++ post) := by rw [hP]; simp
      have hPl2 : (P ++ x.data.toList).length = P.length + x.data.toList.length := by simp
      have hno : ¬ byt s (skB s (nx s (skB s pre.length))) = 40 := by
        rw [hnx, ← hPl2]
        cases r with
        | nil =>
          rcases hp with rfl | ⟨q, rfl⟩
          · have := byt_list_end (s := s) (pre := P ++ x.data.toList) (by simpa [Hg.tx] using hP2)
            rw [skB_stop (by rw [this.1]; decide), this.1]; decide
          · have := byt_list (s := s) (pre := P ++ x.data.toList) (q := q) (c := 41) (by simpa [Hg.tx] using hP2)
            rw [skB_stop (by rw [this.1]; decide), this.1]; decide
        | cons l' k' r' =>
          have hl2 := hl.2.2
          rw [flat_all_cons, Bool.and_eq_true] at hl2
          have hl01' : 0 ≤ l' ∧ l' < names.length := by simpa [lok] using hl2.1
          obtain ⟨m', rfl⟩ := Int.eq_ofNat_of_zero_le hl01'.1
          have hm' : m' < names.length := by omega
          obtain ⟨x', hx'⟩ : ∃ x, names[m']? = some x := ⟨_, List.getElem?_eq_getElem hm'⟩
          have hxn' : nameB x' = true := by
            have h1 := nmAll_mem _ hn m' hm'
            rw [nm, hx'] at h1
            simp at h1
            exact h1.1
          obtain ⟨c', cl', hxd', hc', _⟩ := nameB_bytes hxn'
          have hnm' : nmOf names (m' : Int) = c' :: cl' := by simp [nmOf, hx', hxd']
          simp only [Hg.tx, hnm', if_true, List.append_assoc] at hP2
          have hb0 := byt_list (s := s) (pre := P ++ x.data.toList) (c := 32) (q := c' :: cl' ++ ((if k'.len = 0 then [] else 40 :: (k'.tx (nmOf names) false ++ [41])) ++ (r'.tx (nmOf names) true ++ post))) (by rw [hP2]; simp)
          have hb1 := byt_list (s := s) (pre := P ++ x.data.toList ++ [32]) (c := c') (q := cl' ++ ((if k'.len = 0 then [] else 40 :: (k'.tx (nmOf names) false ++ [41])) ++ (r'.tx (nmOf names) true ++ post))) (by rw [hP2]; simp)
          have h2 := hb1.1
          rw [List.length_append (bs := [32])] at h2
          rw [skB_step hb0.2 (by rw [hb0.1]; decide), show (P ++ x.data.toList).length + 1 = (P ++ x.data.toList).length + [(32 : UInt8)].length from rfl, skB_stop (by rw [h2]; exact (hcb _ hc').1), h2]
          exact (hcb _ hc').2.2
      have hR := hr true (P ++ x.data.toList) post f hP2 hp hl.2.2 (by
        have hPge : pre.length ≤ P.length := by omega
        rw [hPl2]
        omega)
      rw [rd_leaf hst hm0 hno, hidx, hnx, ← hPl2, hR]
      simp only [Option.map_some, Option.some.injEq, Prod.mk.injEq, true_and]
      rw [hPl2, hPl]
      simp only [Hg.tx, List.length_append, hxl]
      simp [Hg.len]
      omega
    · rw [if_neg hk0] at hP
      have hP2 : s.data.toList = (P ++ x.data.toList) ++ (40 :: (k.tx (nmOf names) false ++ (41 :: (r.tx (nmOf names) true ++ post)))) := by rw [hP]; simp
      have hPl2 : (P ++ x.data.toList).length = P.length + x.data.toList.length := by simp
      have hb0 := byt_list hP2
      have hsk2 : skB s (nx s (skB s pre.length)) = P.length + x.data.toList.length := by
        rw [hnx, ← hPl2]; exact skB_stop (by rw [hb0.1]; decide)
      have ho : byt s (skB s (nx s (skB s pre.length))) = 40 := by rw [hsk2, ← hPl2]; exact hb0.1
      have hP3 : s.data.toList = (P ++ x.data.toList ++ [40]) ++ (k.tx (nmOf names) false ++ (41 :: (r.tx (nmOf names) true ++ post))) := by rw [hP2]; simp
      have hPl3 : (P ++ x.data.toList ++ [40]).length = P.length + x.data.toList.length + 1 := by simp; omega
      have hP4 : s.data.toList = (P ++ x.data.toList ++ [40] ++ k.tx (nmOf names) false) ++ (41 :: (r.tx (nmOf names) true ++ post)) := by rw [hP3]; simp
      have hPl4 : (P ++ x.data.toList ++ [40] ++ k.tx (nmOf names) false).length = P.length + x.data.toList.length + 1 + (k.tx (nmOf names) false).length := by simp; omega
      have hb4 := byt_list hP4
      have hP5 : s.data.toList = (P ++ x.data.toList ++ [40] ++ k.tx (nmOf names) false ++ [41]) ++ (r.tx (nmOf names) true ++ post) := by rw [hP4]; simp
      have hPl5 : (P ++ x.data.toList ++ [40] ++ k.tx (nmOf names) false ++ [41]).length = P.length + x.data.toList.length + 1 + (k.tx (nmOf names) false).length + 1 := by simp; omega
      have hPge : pre.length ≤ P.length := by rw [hPl]; omega
      have hK := hk false _ (41 :: (r.tx (nmOf names) true ++ post)) f hP3 (.inr ⟨_, rfl⟩) hl.2.1 (by rw [hPl3]; omega)
      have hR := hr true _ post f hP5 hp hl.2.2 (by rw [hPl5]; omega)
      rw [hPl3] at hK
      rw [hPl5] at hR
      have hb4' := hb4.1
      rw [hPl4] at hb4'
      rw [rd_kid hst hm0 ho, hidx, hsk2, hK]
      simp only [Option.bind_some]
      rw [if_pos (by rw [hb4']; decide), hR]
      simp only [Option.map_some, Option.some.injEq, Prod.mk.injEq, true_and]
      rw [hPl]
      simp only [Hg.tx, List.length_append, hxl, if_neg hk0, List.length_cons, List.length_nil]
      omega

/-- What Parse answers. -/
def prs (names : List ByteArray) (s : ByteArray) : Option Hg := (rd s names (s.size + 1) 0).bind fun x => if x.2 = s.size then some x.1 else none
def prE : Option Hg → Int
  | none => 4
  | some H => if H.size ≤ 300 then 0 else 3
def paErr (n : Int) (names : List ByteArray) (s : ByteArray) : Int :=
  if vlab n = true then (if namesB names n = true then (if s.size ≤ 16384 then prE (prs names s) else 3) else 4) else 6
def paHg (n : Int) (names : List ByteArray) (s : ByteArray) : Hg := if paErr n names s = 0 then (prs names s).getD .nil else .nil
theorem prs_some {names : List ByteArray} {s : ByteArray} {H : Hg} {e : Nat} (h : rd s names (s.size + 1) 0 = some (H, e)) : prs names s = if e = s.size then some H else none := by
  rw [prs, h]; rfl
theorem prs_none {names : List ByteArray} {s : ByteArray} (h : rd s names (s.size + 1) 0 = none) : prs names s = none := by rw [prs, h]; rfl
theorem prs_back {names : List ByteArray} (hn : nmAll names names.length = true) {H : Hg} {s : ByteArray} (hs : s.data.toList = H.tx (nmOf names) false) (hl : H.flat.all (lok names.length) = true) : prs names s = some H := by
  have := rd_tx (s := s) hn H false [] [] (s.size + 1) (by simpa using hs) (.inl rfl) hl (by simp)
  rw [prs_some this, ← hs]
  simp
theorem pa_back {n : Int} {names : List ByteArray} {H : Hg} {s : ByteArray} (h0 : prErr n names H = 0) (hs : s.data.toList = prTx n names H) (h16 : s.size ≤ 16384) : paErr n names s = 0 ∧ paHg n names s = H := by
  rw [prTx, if_pos h0] at hs
  unfold prErr at h0
  by_cases hv : vh n H = true
  · rw [if_pos hv] at h0
    by_cases hb : namesB names n = true
    · have hsm := namesB_small hb
      simp only [vh, Bool.and_eq_true, decide_eq_true_eq] at hv
      have hnm : nmAll names names.length = true := by
        simp only [namesB, Bool.and_eq_true] at hb
        exact hb.2
      have hp := prs_back hnm hs (by rw [hsm.1]; exact hv.2)
      have he : paErr n names s = 0 := by
        rw [paErr, if_pos hv.1.1, if_pos hb, if_pos h16, hp, prE, if_pos hv.1.2]
      exact ⟨he, by rw [paHg, if_pos he, hp]; rfl⟩
    · rw [if_neg hb] at h0; exact absurd h0 (by decide)
  · rw [if_neg hv] at h0; exact absurd h0 (by decide)

end Go.Proofs.Ythdaeblfehclcab
