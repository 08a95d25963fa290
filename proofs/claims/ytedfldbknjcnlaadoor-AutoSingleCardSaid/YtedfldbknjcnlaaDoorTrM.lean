/- The trimmed automaton, as data: it is valid, all its states are useful, it is its own trim, and it has the same language. -/
import Derived.Test.YtedfldbknjcnlaaDoorFG22
import Derived.Test.YtedfldbknjcnlaaDoorFG12
import Derived.Test.YtedfldbknjcnlaaDoorFG9
namespace Go.Proofs.YtedfldbknjcnlaaDoor
open Go.RowKit Go.Shelf Go.Maps Go.WideElems

theorem finB_iff {st : Int} : ∀ (F : List Int) (last : Int), finB st last F = true ↔ F.Pairwise (· < ·) ∧ ∀ s ∈ F, last < s ∧ s < st
  | [], last => by simp [finB]
  | x :: F, last => by
    rw [finB]
    simp only [Bool.and_eq_true, decide_eq_true_eq]
    rw [finB_iff F x, List.pairwise_cons]
    constructor
    · rintro ⟨h1, h2, h3, h4⟩
      refine ⟨⟨fun y hy => (h4 y hy).1, h3⟩, fun s hs => ?_⟩
      rcases List.mem_cons.1 hs with rfl | hs
      · exact ⟨h1, h2⟩
      · have := h4 s hs
        exact ⟨by omega, this.2⟩
    · rintro ⟨⟨h1, h2⟩, h3⟩
      have h0 := h3 x List.mem_cons_self
      exact ⟨h0.1, h0.2, h2, fun s hs => ⟨h1 s hs, (h3 s (List.mem_cons_of_mem _ hs)).2⟩⟩
theorem strS_len2 : ∀ (L R : List Ru), StrS L → (∀ x ∈ L, x ∈ R) → L.length ≤ R.length
  | [], R, _, _ => Nat.zero_le _
  | x :: L, R, h, hm => by
    obtain ⟨h1, h2⟩ := List.pairwise_cons.1 h
    have hx : x ∈ R := hm x List.mem_cons_self
    have ih := strS_len2 L (R.erase x) h2 (fun y hy => (List.mem_erase_of_ne (fun e => by
      have := h1 y hy
      rw [e] at this
      exact ltR_irrefl x this)).2 (hm y (List.mem_cons_of_mem _ hy)))
    rw [List.length_erase_of_mem hx] at ih
    have := List.length_pos_of_mem hx
    rw [List.length_cons]
    omega
theorem toNat_nuI (M : List Bool) (s : Int) : (nuI M s).toNat = numK M s.toNat := by unfold nuI; omega
theorem nuI_nn (M : List Bool) (s : Int) : 0 ≤ nuI M s := by unfold nuI; omega
theorem getD_len {M : List Bool} {s : Nat} (h : M.getD s false = true) : s < M.length := by
  rcases Nat.lt_or_ge s M.length with g | g
  · exact g
  · rw [List.getD_eq_getElem?_getD, List.getElem?_eq_none g] at h
    cases h
theorem numK_step (M : List Bool) (n : Nat) : numK M (n + 1) = numK M n + if M.getD n false = true then 1 else 0 := by
  cases h : M[n]? with
  | some b =>
    rw [numK_succ h, List.getD_eq_getElem?_getD, h]
    rfl
  | none =>
    have hn : M.length ≤ n := List.getElem?_eq_none_iff.1 h
    rw [List.getD_eq_getElem?_getD, h]
    unfold numK
    rw [List.take_of_length_le hn, List.take_of_length_le (by omega)]
    simp
theorem numK_surj {M : List Bool} {k : Nat} : ∀ {n : Nat}, k < numK M n → ∃ q, q < n ∧ M.getD q false = true ∧ numK M q = k
  | 0, h => by simp [numK] at h
  | n + 1, h => by
    rw [numK_step] at h
    by_cases g : k < numK M n
    · obtain ⟨q, h1, h2⟩ := numK_surj g
      exact ⟨q, by omega, h2⟩
    · by_cases hm : M.getD n false = true
      · rw [if_pos hm] at h
        exact ⟨n, by omega, hm, by omega⟩
      · rw [if_neg hm] at h
        omega
theorem numK_all (k s : Nat) : numK (List.replicate k true) s = min s k := by
  unfold numK
  rw [List.take_replicate, List.count_replicate]
  simp
theorem getD_all (k s : Nat) : (List.replicate k true).getD s false = decide (s < k) := by
  rw [List.getD_eq_getElem?_getD, List.getElem?_replicate]
  by_cases h : s < k <;> simp [h]
theorem stIn_iff {st s : Int} : stIn st s = true ↔ 0 ≤ s ∧ s < st := by
  unfold stIn
  simp only [Bool.and_eq_true, decide_eq_true_eq]
theorem stIn_nu {M : List Bool} {s : Int} (h : M.getD s.toNat false = true) : stIn (numK M M.length : Int) (nuI M s) = true := by
  rw [stIn_iff]
  have := (numK_lt (t := M.length) h).2 (getD_len h)
  unfold nuI
  omega
theorem nuI_inj {M : List Bool} {s t : Int} (hs : M.getD s.toNat false = true) (ht : M.getD t.toNat false = true) (h0 : 0 ≤ s) (h1 : 0 ≤ t) (e : nuI M s = nuI M t) : s = t := by
  have a := nuI_lt hs h0 h1
  have b := nuI_lt ht h1 h0
  omega

theorem Usd.rch {R : List Ru} {F : List Int} {q : Nat} (h : Usd R F q) : Rch R q := by
  cases h with
  | fin s h hr => exact hr
  | src r hr h ht x hx => exact h x hx
theorem usd_keep {R : List Ru} {F : List Int} {n : Nat} {M : List Bool} (h : IsUsd R F n M) {r : Ru} (hr : r ∈ R) (hs : ∀ s ∈ r.fr, Rch R s.toNat) (ht : Usd R F r.to.toNat) : keepB M r = true := by
  unfold keepB
  rw [Bool.and_eq_true]
  exact ⟨(h.iff _).2 ht, List.all_eq_true.2 fun s hs' => (h.iff _).2 (Usd.src r hr hs ht s hs')⟩
theorem renum_mem {A B : Au} {M : List Bool} (hT : TrimOf A M B) {r : Ru} (hr : r ∈ A.ru) (hk : keepB M r = true) : renum M r ∈ B.ru :=
  (hT.mem _).2 (by unfold ruK; exact List.mem_map.2 ⟨r, List.mem_filter.2 ⟨hr, hk⟩, rfl⟩)
theorem mem_renum {A B : Au} {M : List Bool} (hT : TrimOf A M B) {r' : Ru} (h : r' ∈ B.ru) : ∃ r ∈ A.ru, keepB M r = true ∧ renum M r = r' := by
  have := (hT.mem _).1 h
  unfold ruK at this
  obtain ⟨r, h1, h2⟩ := List.mem_map.1 this
  exact ⟨r, (List.mem_filter.1 h1).1, (List.mem_filter.1 h1).2, h2⟩
theorem rch_trim {A B : Au} {M : List Bool} {n : Nat} (hM : IsUsd A.ru A.fin n M) (hT : TrimOf A M B) : ∀ {q : Nat}, Rch A.ru q → Usd A.ru A.fin q → Rch B.ru (numK M q) := by
  intro q h
  induction h with
  | mk r hr hs ih =>
    intro hu
    have := Rch.mk (renum M r) (renum_mem hT hr (usd_keep hM hr hs hu)) (fun s hs2 => by
      obtain ⟨x, hx, rfl⟩ := List.mem_map.1 hs2
      rw [toNat_nuI]
      exact ih x hx (Usd.src r hr hs hu x hx))
    rw [show (renum M r).to = nuI M r.to from rfl, toNat_nuI] at this
    exact this
theorem usd_trim {A B : Au} {M : List Bool} {n : Nat} (hM : IsUsd A.ru A.fin n M) (hT : TrimOf A M B) : ∀ {q : Nat}, Usd A.ru A.fin q → Usd B.ru B.fin (numK M q) := by
  intro q h
  induction h with
  | fin s h hr =>
    have hu := Usd.fin s h hr
    have hmem : nuI M s ∈ B.fin := by
      rw [hT.fin]
      unfold finK
      exact List.mem_map.2 ⟨s, List.mem_filter.2 ⟨h, (hM.iff _).2 hu⟩, rfl⟩
    have := Usd.fin (R := B.ru) (nuI M s) hmem (by rw [toNat_nuI]; exact rch_trim hM hT hr hu)
    rwa [toNat_nuI] at this
  | src r hr h ht x hx ih =>
    have := Usd.src (F := B.fin) (renum M r) (renum_mem hT hr (usd_keep hM hr h ht)) (fun s hs2 => by
      obtain ⟨y, hy, rfl⟩ := List.mem_map.1 hs2
      rw [toNat_nuI]
      exact rch_trim hM hT (h y hy) (Usd.src r hr h ht y hy)) (by
      show Usd _ _ (nuI M r.to).toNat
      rw [toNat_nuI]
      exact ih) (nuI M x) (List.mem_map.2 ⟨x, hx, rfl⟩)
    rwa [toNat_nuI] at this

/-- The trimmed automaton is valid. -/
theorem trim_valid {al : List Int} {A B : Au} {M : List Bool} (hA : validA al A = true) (hM : IsUsd A.ru A.fin A.st.toNat M) (hT : TrimOf A M B) : validA al B = true := by
  unfold validA at hA
  simp only [Bool.and_eq_true, decide_eq_true_eq] at hA
  obtain ⟨h1, h2, h3, h4, h5, h6⟩ := hA
  have hle : numK M M.length ≤ A.st.toNat := by
    have := numK_le M M.length
    have := hM.len
    omega
  have hl1 := strS_len2 B.ru (ruK M A.ru) hT.str (fun x hx => (hT.mem x).1 hx)
  have hl2 := ruK_len M A.ru
  unfold validA
  simp only [Bool.and_eq_true, decide_eq_true_eq]
  refine ⟨h1, by rw [hT.st]; omega, by rw [hT.st]; omega, by omega, ?_, ?_⟩
  · obtain ⟨p1, p2⟩ := (finB_iff _ _).1 h5
    rw [finB_iff, hT.fin]
    unfold finK
    refine ⟨?_, fun s hs => ?_⟩
    · rw [List.pairwise_map]
      refine (p1.filter _).imp_of_mem ?_
      intro a b ha hb hab
      obtain ⟨ha1, ha2⟩ := List.mem_filter.1 ha
      obtain ⟨hb1, hb2⟩ := List.mem_filter.1 hb
      have := p2 a ha1
      have := p2 b hb1
      exact (nuI_lt ha2 (by omega) (by omega)).2 hab
    · obtain ⟨x, hx, rfl⟩ := List.mem_map.1 hs
      have := stIn_iff.1 (stIn_nu (List.mem_filter.1 hx).2)
      rw [hT.st]
      omega
  · rw [List.all_eq_true]
    intro r' hr'
    obtain ⟨r, hr, hk, rfl⟩ := mem_renum hT hr'
    have h7 := List.all_eq_true.1 h6 r hr
    unfold ruB at h7 ⊢
    simp only [Bool.and_eq_true, decide_eq_true_eq, beq_iff_eq] at h7 ⊢
    unfold keepB at hk
    rw [Bool.and_eq_true] at hk
    refine ⟨h7.1, h7.2.1, ?_, ?_, ?_⟩
    · show (((r.fr.map (nuI M)).length : Nat) : Int) = al.getD r.sym.toNat 0
      rw [List.length_map]
      exact h7.2.2.1
    · rw [hT.st]
      exact stIn_nu hk.1
    · rw [List.all_eq_true]
      intro s hs
      obtain ⟨x, hx, rfl⟩ := List.mem_map.1 hs
      rw [hT.st]
      exact stIn_nu (List.all_eq_true.1 hk.2 x hx)
/-- All its states are useful. -/
theorem trim_all {al : List Int} {A B : Au} {M : List Bool} (hA : validA al A = true) (hM : IsUsd A.ru A.fin A.st.toNat M) (hT : TrimOf A M B) : IsUsd B.ru B.fin B.st.toNat (List.replicate B.st.toNat true) := by
  have hV := trim_valid hA hM hT
  refine ⟨by simp, fun i => ?_⟩
  rw [getD_all, decide_eq_true_eq]
  constructor
  · intro hi
    rw [hT.st] at hi
    obtain ⟨q, _, h2, h3⟩ := numK_surj (M := M) (k := i) (n := M.length) (by omega)
    rw [← h3]
    exact usd_trim hM hT ((hM.iff q).1 h2)
  · intro hu
    cases hu.rch with
    | mk r hr hs =>
      unfold validA at hV
      simp only [Bool.and_eq_true, decide_eq_true_eq] at hV
      have := List.all_eq_true.1 hV.2.2.2.2.2 r hr
      unfold ruB at this
      simp only [Bool.and_eq_true, decide_eq_true_eq] at this
      have := stIn_iff.1 this.2.2.2.1
      omega
theorem nuI_all {k : Nat} {s : Int} (h : stIn (k : Int) s = true) : nuI (List.replicate k true) s = s := by
  have := stIn_iff.1 h
  unfold nuI
  rw [numK_all]
  omega
theorem mark_all {k : Nat} {s : Int} (h : stIn (k : Int) s = true) : (List.replicate k true).getD s.toNat false = true := by
  have := stIn_iff.1 h
  rw [getD_all, decide_eq_true_eq]
  omega
/-- A valid automaton whose rules are sorted is what is kept when all its states are. -/
theorem trim_self {al : List Int} {B : Au} (hV : validA al B = true) (hs : StrS B.ru) : TrimOf B (List.replicate B.st.toNat true) B := by
  unfold validA at hV
  simp only [Bool.and_eq_true, decide_eq_true_eq] at hV
  obtain ⟨h1, h2, h3, h4, h5, h6⟩ := hV
  have hst : ((B.st.toNat : Nat) : Int) = B.st := by omega
  have hf : ∀ s ∈ B.fin, stIn ((B.st.toNat : Nat) : Int) s = true := fun s hs => by
    rw [hst]
    exact fin_in B.fin (-1) (by omega) h5 s hs
  have hr : ∀ r ∈ B.ru, stIn ((B.st.toNat : Nat) : Int) r.to = true ∧ ∀ x ∈ r.fr, stIn ((B.st.toNat : Nat) : Int) x = true := fun r hr => by
    have := List.all_eq_true.1 h6 r hr
    unfold ruB at this
    simp only [Bool.and_eq_true, decide_eq_true_eq] at this
    rw [hst]
    exact ⟨this.2.2.2.1, fun x hx => List.all_eq_true.1 this.2.2.2.2 x hx⟩
  refine ⟨?_, ?_, hs, fun r => ?_⟩
  · rw [List.length_replicate, numK_all]
    omega
  · unfold finK
    rw [List.filter_eq_self.2 (fun s hs => mark_all (hf s hs))]
    conv => lhs; rw [← List.map_id B.fin]
    exact List.map_congr_left fun s hs => (nuI_all (hf s hs)).symm
  · have e : ruK (List.replicate B.st.toNat true) B.ru = B.ru := by
      unfold ruK
      rw [List.filter_eq_self.2 (fun r hr2 => by
        unfold keepB
        rw [Bool.and_eq_true]
        exact ⟨mark_all (hr r hr2).1, List.all_eq_true.2 fun x hx => mark_all ((hr r hr2).2 x hx)⟩)]
      conv => rhs; rw [← List.map_id B.ru]
      refine List.map_congr_left fun r hr2 => ?_
      obtain ⟨sy, fr, to⟩ := r
      unfold renum
      have e1 := nuI_all (hr _ hr2).1
      have e2 : fr.map (nuI (List.replicate B.st.toNat true)) = fr := by
        conv => rhs; rw [← List.map_id fr]
        exact List.map_congr_left fun x hx => nuI_all ((hr _ hr2).2 x hx)
      simp only at e1
      rw [e1, e2]
      rfl
    rw [e]

/-- The states of a node in the given automaton, and in the trimmed one. -/
def Img (A : Au) (M : List Bool) (s t : List Int) : Prop :=
  (∀ q ∈ s, 0 ≤ q ∧ Rch A.ru q.toNat) ∧ (∀ q ∈ s, M.getD q.toNat false = true → nuI M q ∈ t) ∧ ∀ p ∈ t, ∃ q ∈ s, M.getD q.toNat false = true ∧ p = nuI M q
def RelT (A : Au) (M : List Bool) : List (List Int) → List (List Int) → Prop
  | [], [] => True
  | s :: S, t :: T => Img A M s t ∧ RelT A M S T
  | _, _ => False
theorem RelT.len {A : Au} {M : List Bool} : ∀ {S T : List (List Int)}, RelT A M S T → S.length = T.length
  | [], [], _ => rfl
  | _ :: _, _ :: _, h => by rw [List.length_cons, List.length_cons, RelT.len h.2]
  | [], _ :: _, h => h.elim
  | _ :: _, [], h => h.elim
theorem fits_rch {A : Au} {M : List Bool} : ∀ {S T : List (List Int)} {F : List Int}, RelT A M S T → S.length = F.length → fitsL S F = true → ∀ f ∈ F, Rch A.ru f.toNat
  | [], [], [], _, _, _, f, hf => by cases hf
  | s :: S, t :: T, x :: F, h, hl, hF, f, hf => by
    unfold fitsL at hF
    rw [Bool.and_eq_true] at hF
    rcases List.mem_cons.1 hf with rfl | hf
    · exact (h.1.1 f (inB_iff.1 hF.1)).2
    · exact fits_rch h.2 (by simpa using hl) hF.2 f hf
  | [], [], _ :: _, _, hl, _, _, _ => by simp at hl
  | _ :: _, _ :: _, [], _, hl, _, _, _ => by simp at hl
  | [], _ :: _, _, h, _, _, _, _ => h.elim
  | _ :: _, [], _, h, _, _, _, _ => h.elim
theorem fits_to {A : Au} {M : List Bool} : ∀ {S T : List (List Int)} {F : List Int}, RelT A M S T → (∀ f ∈ F, M.getD f.toNat false = true) → fitsL S F = true → fitsL T (F.map (nuI M)) = true
  | [], [], _, _, _, _ => rfl
  | s :: S, t :: T, x :: F, h, hm, hF => by
    unfold fitsL at hF
    rw [Bool.and_eq_true] at hF
    rw [List.map_cons, fitsL, Bool.and_eq_true]
    exact ⟨inB_iff.2 (h.1.2.1 x (inB_iff.1 hF.1) (hm x List.mem_cons_self)), fits_to h.2 (fun f hf => hm f (List.mem_cons_of_mem _ hf)) hF.2⟩
  | _ :: _, _ :: _, [], _, _, hF => by simp [fitsL] at hF
  | [], _ :: _, _, h, _, _ => h.elim
  | _ :: _, [], _, h, _, _ => h.elim
theorem fits_from {A : Au} {M : List Bool} : ∀ {S T : List (List Int)} {F : List Int}, RelT A M S T → (∀ f ∈ F, 0 ≤ f ∧ M.getD f.toNat false = true) → fitsL T (F.map (nuI M)) = true → fitsL S F = true
  | [], [], _, _, _, _ => rfl
  | s :: S, t :: T, x :: F, h, hm, hF => by
    rw [List.map_cons, fitsL, Bool.and_eq_true] at hF
    rw [fitsL, Bool.and_eq_true]
    obtain ⟨q, hq, hq2, e⟩ := h.1.2.2 _ (inB_iff.1 hF.1)
    have hx := hm x List.mem_cons_self
    have e2 := nuI_inj hx.2 hq2 hx.1 (h.1.1 q hq).1 e
    exact ⟨inB_iff.2 (e2 ▸ hq), fits_from h.2 (fun f hf => hm f (List.mem_cons_of_mem _ hf)) hF.2⟩
  | _ :: _, _ :: _, [], _, _, hF => by simp [fitsL] at hF
  | [], _ :: _, _, h, _, _ => h.elim
  | _ :: _, [], _, h, _, _ => h.elim
theorem step_img {al : List Int} {A B : Au} {M : List Bool} (hA : validA al A = true) (hM : IsUsd A.ru A.fin A.st.toNat M) (hT : TrimOf A M B) {l : Int} {S T : List (List Int)} (h : RelT A M S T) (hl : ∀ r ∈ A.ru, r.sym = l → r.fr.length = S.length) :
    Img A M (stepL A.ru l S []) (stepL B.ru l T []) := by
  unfold validA at hA
  simp only [Bool.and_eq_true, decide_eq_true_eq] at hA
  have hru : ∀ r ∈ A.ru, 0 ≤ r.to ∧ ∀ x ∈ r.fr, 0 ≤ x := fun r hr => by
    have := List.all_eq_true.1 hA.2.2.2.2.2 r hr
    unfold ruB at this
    simp only [Bool.and_eq_true, decide_eq_true_eq] at this
    exact ⟨(stIn_iff.1 this.2.2.2.1).1, fun x hx => (stIn_iff.1 (List.all_eq_true.1 this.2.2.2.2 x hx)).1⟩
  have hof : ∀ q ∈ stepL A.ru l S [], ∃ r ∈ A.ru, r.sym = l ∧ fitsL S r.fr = true ∧ r.to = q := fun q hq => by
    rcases (stepL_mem l S q A.ru []).1 hq with hq | ⟨r, hr, hs, e⟩
    · cases hq
    · unfold stepF at hs
      rw [Bool.and_eq_true, beq_iff_eq] at hs
      exact ⟨r, hr, hs.1, hs.2, e⟩
  refine ⟨fun q hq => ?_, fun q hq hm => ?_, fun p hp => ?_⟩
  · obtain ⟨r, hr, hs, hf, rfl⟩ := hof q hq
    exact ⟨(hru r hr).1, Rch.mk r hr (fits_rch h (hl r hr hs).symm hf)⟩
  · obtain ⟨r, hr, hs, hf, rfl⟩ := hof q hq
    have hrc := fits_rch h (hl r hr hs).symm hf
    have hk := usd_keep hM hr hrc ((hM.iff _).1 hm)
    have hmk : ∀ f ∈ r.fr, M.getD f.toNat false = true := by
      unfold keepB at hk
      rw [Bool.and_eq_true] at hk
      exact fun f hf => List.all_eq_true.1 hk.2 f hf
    refine (stepL_mem l T _ B.ru []).2 (.inr ⟨renum M r, renum_mem hT hr hk, ?_, rfl⟩)
    unfold stepF
    rw [Bool.and_eq_true, beq_iff_eq]
    exact ⟨hs, fits_to h hmk hf⟩
  · rcases (stepL_mem l T p B.ru []).1 hp with hp | ⟨r', hr', hs, e⟩
    · cases hp
    · obtain ⟨r, hr, hk, rfl⟩ := mem_renum hT hr'
      unfold stepF at hs
      rw [Bool.and_eq_true, beq_iff_eq] at hs
      unfold keepB at hk
      rw [Bool.and_eq_true] at hk
      refine ⟨r.to, (stepL_mem l S _ A.ru []).2 (.inr ⟨r, hr, ?_, rfl⟩), hk.1, e.symm⟩
      unfold stepF
      rw [Bool.and_eq_true, beq_iff_eq]
      exact ⟨hs.1, fits_from h (fun f hf => ⟨(hru r hr).2 f hf, List.all_eq_true.1 hk.2 f hf⟩) hs.2⟩
theorem of_rel {al : List Int} {A B : Au} {M : List Bool} (hA : validA al A = true) (hM : IsUsd A.ru A.fin A.st.toNat M) (hT : TrimOf A M B) (hl : ∀ r ∈ A.ru, (r.fr.length : Int) = al.getD r.sym.toNat 0) : ∀ (K : Hg), K.fitAll al = true → RelT A M (ofL A.ru K) (ofL B.ru K)
  | .nil, _ => trivial
  | .cons l k r, h => by
    simp only [Hg.fitAll, Bool.and_eq_true] at h
    refine ⟨step_img hA hM hT (of_rel hA hM hT hl k h.2.1) (fun x hx e => ?_), of_rel hA hM hT hl r h.2.2⟩
    have := hl x hx
    have hf := h.1
    unfold fit at hf
    simp only [Bool.and_eq_true, decide_eq_true_eq, beq_iff_eq] at hf
    rw [ofL_len]
    rw [e] at this
    omega
/-- Both accept the same trees. -/
theorem trim_has {al : List Int} {A B : Au} {M : List Bool} (hA : validA al A = true) (hM : IsUsd A.ru A.fin A.st.toNat M) (hT : TrimOf A M B) {l : Int} {K : Hg} (ht : tvalid al l K = true) : hasB B l K = hasB A l K := by
  have hA2 := hA
  unfold validA at hA2
  simp only [Bool.and_eq_true, decide_eq_true_eq] at hA2
  have hl : ∀ x ∈ A.ru, (x.fr.length : Int) = al.getD x.sym.toNat 0 := fun x hx => (ruB_fit (List.all_eq_true.1 hA2.2.2.2.2.2 x hx)).2.2
  unfold tvalid at ht
  simp only [Bool.and_eq_true] at ht
  have h := of_rel hA hM hT hl (.cons l K .nil) (by simp only [Hg.fitAll, Bool.and_eq_true]; exact ⟨ht.2.2.1, ht.2.2.2, trivial⟩)
  have him : Img A M (stsL A l K) (stsL B l K) := h.1
  have hfin : ∀ s ∈ A.fin, 0 ≤ s := fun s hs => (stIn_iff.1 (fin_in A.fin (-1) (by omega) hA2.2.2.2.2.1 s hs)).1
  apply Bool.eq_iff_iff.2
  unfold hasB
  rw [meetB_iff, meetB_iff]
  constructor
  · rintro ⟨p, hp, hpf⟩
    obtain ⟨q, hq, hm, e⟩ := him.2.2 p hp
    rw [hT.fin] at hpf
    unfold finK at hpf
    obtain ⟨s, hs, e2⟩ := List.mem_map.1 hpf
    obtain ⟨hs1, hs2⟩ := List.mem_filter.1 hs
    have := nuI_inj hs2 hm (hfin s hs1) (him.1 q hq).1 (by rw [e2, e])
    exact ⟨q, hq, this ▸ hs1⟩
  · rintro ⟨q, hq, hqf⟩
    have hm : M.getD q.toNat false = true := (hM.iff _).2 (Usd.fin q hqf (him.1 q hq).2)
    refine ⟨nuI M q, him.2.1 q hq hm, ?_⟩
    rw [hT.fin]
    unfold finK
    exact List.mem_map.2 ⟨q, List.mem_filter.2 ⟨hqf, hm⟩, rfl⟩

end Go.Proofs.YtedfldbknjcnlaaDoor
