/- auto.annotate: what the groups mean. -/
import Derived.Test.YtopineheelkcmaaDoorAcc
import Derived.Test.YtopineheelkcmaaDoorBLm
namespace Go.Proofs.YtopineheelkcmaaDoor
open Go.RowKit Go.Shelf

/-- The sets are the lists. -/
def SetsOf : List (Nat → Nat) → List (List Int) → Prop
  | [], [] => True
  | W :: KS, s :: S => (∀ q : Nat, mem W q = true ↔ (q : Int) ∈ s) ∧ SetsOf KS S
  | _, _ => False
theorem SetsOf.len : ∀ {KS : List (Nat → Nat)} {S : List (List Int)}, SetsOf KS S → KS.length = S.length
  | [], [], _ => rfl
  | _ :: KS, _ :: S, h => by simp [SetsOf.len (KS := KS) (S := S) h.2]
theorem SetsOf.snoc : ∀ {KS : List (Nat → Nat)} {S : List (List Int)} {W : Nat → Nat} {s : List Int}, SetsOf KS S → (∀ q : Nat, mem W q = true ↔ (q : Int) ∈ s) → SetsOf (KS ++ [W]) (S ++ [s])
  | [], [], _, _, _, h => ⟨h, trivial⟩
  | _ :: KS, _ :: S, _, _, h, h2 => ⟨h.1, SetsOf.snoc (KS := KS) (S := S) h.2 h2⟩

theorem adm_fits : ∀ {KS : List (Nat → Nat)} {S : List (List Int)} {F : List Int} (rest : List Nat), SetsOf KS S → S.length ≤ F.length → (∀ f ∈ F, 0 ≤ f) → admB KS (F.map Int.toNat ++ rest) = fitsL S F
  | [], [], _, _, _, _, _ => by simp [admB, fitsL]
  | W :: KS, s :: S, [], _, _, h, _ => by simp at h
  | W :: KS, s :: S, f :: F, rest, h, hl, h0 => by
    have hf := h0 f (List.mem_cons_self ..)
    rw [List.map_cons, List.cons_append, admB, fitsL, adm_fits (KS := KS) (S := S) (F := F) rest h.2 (by simpa using hl) (fun x hx => h0 x (List.mem_cons_of_mem _ hx))]
    congr 1
    have h1 := h.1 f.toNat
    rw [Int.toNat_of_nonneg hf] at h1
    rw [Bool.eq_iff_iff, h1, inB_iff]
theorem pad3 {F : List Int} (h : F.length ≤ 3) : [(F.getD 0 0).toNat, (F.getD 1 0).toNat, (F.getD 2 0).toNat] = F.map Int.toNat ++ List.replicate (3 - F.length) 0 := by
  rcases F with _ | ⟨a, _ | ⟨b, _ | ⟨c, _ | ⟨d, r⟩⟩⟩⟩ <;> first | rfl | (exfalso; simp at h)

theorem rows_mem {R : List Ru} {GL : List GB} {n : Nat} (hM : Means R GL) (hr : ∀ r ∈ R, RuV n r) (s : Nat) {KS : List (Nat → Nat)} {S : List (List Int)} (hS : SetsOf KS S) (hfit : ∀ r ∈ R, r.sym = (s : Int) → S.length ≤ r.fr.length) (q : Nat) :
    (∃ y ∈ rowsOf s GL, admB KS [y.a.toNat, y.b.toNat, y.c.toNat] = true ∧ mem y.W q = true) ↔ (q : Int) ∈ stepL R s S [] := by
  have hadm : ∀ {y : GB} {r : Ru}, r ∈ R → r.sym = (s : Int) → r.key = y.key → admB KS [y.a.toNat, y.b.toNat, y.c.toNat] = fitsL S r.fr := fun {y r} hrm hs hk => by
    unfold Ru.key GB.key at hk
    simp only [Prod.mk.injEq] at hk
    obtain ⟨_, h1, h2, h3⟩ := hk
    rw [← h1, ← h2, ← h3, pad3 (hr r hrm).len]
    exact adm_fits _ hS (hfit r hrm hs) (fun f hf => ((hr r hrm).fr f hf).1)
  rw [stepL_mem]
  constructor
  · rintro ⟨y, hy, ha, hm⟩
    unfold rowsOf at hy
    rw [List.mem_filter, beq_iff_eq] at hy
    obtain ⟨r, h1, h2, h3⟩ := hM.sound y hy.1 q hm
    have hs : r.sym = (s : Int) := by
      have := congrArg Prod.fst h2
      simp only [Ru.key, GB.key] at this
      rw [this, hy.2]
    refine .inr ⟨r, h1, ?_, h3⟩
    unfold stepF
    rw [← hadm h1 hs h2, ha, hs]
    simp
  · rintro (h | ⟨r, h1, h2, h3⟩)
    · cases h
    · unfold stepF at h2
      rw [Bool.and_eq_true, beq_iff_eq] at h2
      obtain ⟨y, hy, hk, p, hp, hm⟩ := hM.full r h1
      have hys : y.s = (s : Int) := by
        have := congrArg Prod.fst hk
        simp only [Ru.key, GB.key] at this
        rw [this, h2.1]
      have : p = q := by omega
      subst this
      refine ⟨y, ?_, by rw [hadm h1 h2.1 hk.symm]; exact h2.2, hm⟩
      unfold rowsOf
      rw [List.mem_filter, beq_iff_eq]
      exact ⟨hy, hys⟩

/-- The union of the groups that are admitted. -/
def uniG (KS : List (Nat → Nat)) : List GB → (Nat → Nat) → (Nat → Nat)
  | [], W => W
  | y :: l, W => uniG KS l (if admB KS [y.a.toNat, y.b.toNat, y.c.toNat] = true then uniW W y.W else W)
theorem uniG_mem (KS : List (Nat → Nat)) (q : Nat) : ∀ (l : List GB) (W : Nat → Nat), mem (uniG KS l W) q = true ↔ mem W q = true ∨ ∃ y ∈ l, admB KS [y.a.toNat, y.b.toNat, y.c.toNat] = true ∧ mem y.W q = true
  | [], W => by simp [uniG]
  | y :: l, W => by
    rw [uniG, uniG_mem KS q l]
    by_cases h : admB KS [y.a.toNat, y.b.toNat, y.c.toNat] = true
    · rw [if_pos h, uniW_mem, Bool.or_eq_true]
      simp only [List.mem_cons, exists_eq_or_imp, h, true_and, or_assoc]
    · rw [if_neg h]
      simp only [List.mem_cons, exists_eq_or_imp, h, false_and, false_or, Bool.false_eq_true]
theorem uniG_lt {KS : List (Nat → Nat)} : ∀ {l : List GB} {W : Nat → Nat}, W64 W → (∀ y ∈ l, W64 y.W) → W64 (uniG KS l W)
  | [], _, h, _ => h
  | y :: l, W, h, hl => by
    rw [uniG]
    refine uniG_lt ?_ (fun x hx => hl x (List.mem_cons_of_mem _ hx))
    split
    · exact uniW_lt h (hl y (List.mem_cons_self ..))
    · exact h

/-- What annotate makes of a tree, and that it is the reference's. -/
theorem ann_mem {R : List Ru} {GL : List GB} {n : Nat} (hM : Means R GL) (hr : ∀ r ∈ R, RuV n r) (s : Nat) {KS : List (Nat → Nat)} {S : List (List Int)} (hS : SetsOf KS S) (hfit : ∀ r ∈ R, r.sym = (s : Int) → S.length ≤ r.fr.length) (q : Nat) :
    mem (uniG KS (rowsOf s GL) (fun _ => 0)) q = true ↔ (q : Int) ∈ stepL R s S [] := by
  rw [uniG_mem, ← rows_mem hM hr s hS hfit q]
  simp [mem]

end Go.Proofs.YtopineheelkcmaaDoor
