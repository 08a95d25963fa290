/- The table of ref01.ways in memory. -/
import Derived.Test.YthhliogcafmnfaaDoorWm
import Derived.Laws.OwnMore
namespace Go.Proofs.YthhliogcafmnfaaDoor
open Go.RowKit Go.Shelf

def sl (b n : Nat) : Value := .slice (some ⟨b, 0, none⟩) n n
def rowA (f : Nat → Nat) (n : Nat) : Array Value := ((List.range (n + 1)).map fun x => Value.int .i64 (f x : Nat)).toArray
theorem rowA_at {f : Nat → Nat} {n i : Nat} (h : i ≤ n) : (rowA f n)[i]? = some (.int .i64 (f i : Nat)) := by
  simp [rowA, List.getElem?_range (show i < n + 1 by omega)]
theorem rowA_size (f : Nat → Nat) (n : Nat) : (rowA f n).size = n + 1 := by simp [rowA]
theorem rowA_set {f g : Nat → Nat} {n i x : Nat} (h : ∀ j, j ≤ n → g j = if j = i then x else f j) : (rowA f n).setIfInBounds i (.int .i64 (x : Nat)) = rowA g n := by
  refine Array.ext_getElem? (fun j => ?_)
  by_cases hj : j ≤ n
  · rw [rowA_at hj, h j hj]
    by_cases e : j = i
    · subst e
      rw [Array.getElem?_setIfInBounds_self_of_lt (by rw [rowA_size]; omega), if_pos rfl]
    · rw [Array.getElem?_setIfInBounds_ne (Ne.symm e), rowA_at hj, if_neg e]
  · have h1 : (rowA f n).size ≤ j := by rw [rowA_size]; omega
    have h2 : (rowA g n).size ≤ j := by rw [rowA_size]; omega
    rw [Array.getElem?_eq_none (by simpa using h1), Array.getElem?_eq_none h2]
theorem rowA_congr {f g : Nat → Nat} {n : Nat} (h : ∀ j, j ≤ n → f j = g j) : rowA f n = rowA g n := by
  unfold rowA
  congr 1
  refine List.map_congr_left (fun x hx => ?_)
  rw [h x (by have := List.mem_range.1 hx; omega)]
def topA (bs : Nat → Nat) (k n : Nat) : Array Value := ((List.range 4).map fun i => if i < k then sl (bs i) n else .slice none 0 0).toArray
theorem topA_at {bs : Nat → Nat} {k n i : Nat} (h : i < 4) : (topA bs k n)[i]? = some (if i < k then sl (bs i) n else .slice none 0 0) := by
  simp [topA, List.getElem?_range h]
theorem topA_set {bs : Nat → Nat} {k n b : Nat} (h : k < 4) : (topA bs k n).setIfInBounds k (sl b n) = topA (fun i => if i = k then b else bs i) (k + 1) n := by
  refine Array.ext_getElem? (fun j => ?_)
  have hs : ∀ (f : Nat → Nat) q, (topA f q n).size = 4 := fun f q => by simp [topA]
  by_cases hj : j < 4
  · rw [topA_at hj]
    by_cases e : j = k
    · subst e
      rw [Array.getElem?_setIfInBounds_self_of_lt (by rw [hs]; omega), if_pos rfl, if_pos (by omega)]
    · rw [Array.getElem?_setIfInBounds_ne (Ne.symm e), topA_at hj]
      by_cases h2 : j < k
      · rw [if_pos h2, if_pos (by omega), if_neg e]
      · rw [if_neg h2, if_neg (by omega)]
  · rw [Array.getElem?_eq_none (by simp [hs]; omega), Array.getElem?_eq_none (by rw [hs]; omega)]

structure Wt (w : World) (B H n k : Nat) (bs : Nat → Nat) (F : Nat → Nat → Nat) : Prop where
  base : B ≤ H
  top : Blk w H 204 (topA bs k (n + 1))
  row : ∀ i, i < k → Blk w (bs i) 3 (rowA (F i) n)
  inj : ∀ i j, i < k → j < k → bs i = bs j → i = j
  far : ∀ i, i < k → H < bs i

theorem Wt.drewN {w : World} {B H n k : Nat} {bs : Nat → Nat} {F : Nat → Nat → Nat} (h : Wt w B H n k bs F) (q : Nat) : Wt (w.drewN q) B H n k bs F := ⟨h.base, h.top, h.row, h.inj, h.far⟩
theorem Wt.congr {w : World} {B H n k : Nat} {bs : Nat → Nat} {F G : Nat → Nat → Nat} (h : Wt w B H n k bs F) (e : ∀ i, i < k → ∀ x, x ≤ n → F i x = G i x) : Wt w B H n k bs G :=
  ⟨h.base, h.top, fun i hi => by rw [← rowA_congr (e i hi)]; exact h.row i hi, h.inj, h.far⟩
theorem Wt.topCell {w : World} {B H n k : Nat} {bs : Nat → Nat} {F : Nat → Nat → Nat} (h : Wt w B H n k bs F) {i : Nat} (hk : i < k) (hi : i < 4) : w.cell? ⟨H, i, none⟩ = some (.slice (some ⟨bs i, 0, none⟩) (n + 1) (n + 1)) := by
  rw [h.top.cell, topA_at hi, if_pos hk]; rfl
theorem Wt.cell {w : World} {B H n k : Nat} {bs : Nat → Nat} {F : Nat → Nat → Nat} (h : Wt w B H n k bs F) {i x : Nat} (hk : i < k) (hx : x ≤ n) : w.cell? ⟨bs i, x, none⟩ = some (.int .i64 (F i x : Nat)) := by
  rw [(h.row i hk).cell, rowA_at hx]
theorem Wt.set {w : World} {B H n k : Nat} {bs : Nat → Nat} {F G : Nat → Nat → Nat} (h : Wt w B H n k bs F) {i x y : Nat} (hi : i < k) (hG : ∀ j, j < k → ∀ z, z ≤ n → G j z = if j = i ∧ z = x then y else F j z) :
    Wt (w.setCell ⟨bs i, x, none⟩ (.int .i64 (y : Nat))) B H n k bs G := by
  refine ⟨h.base, h.top.far (by have := h.far i hi; simp; omega) _, fun j hj => ?_, h.inj, h.far⟩
  by_cases e : j = i
  · subst e
    rw [← rowA_set (f := F j) (g := G j) (n := n) (i := x) (x := y) (fun z hz => by rw [hG j hj z hz]; simp)]
    exact (h.row j hj).set_ x _
  · rw [← rowA_congr (f := F j) (g := G j) (fun z hz => by rw [hG j hj z hz, if_neg (fun a => e a.1)])]
    exact (h.row j hj).far (fun a => e (h.inj j i hj hi a)) _
/-- A row is made, and put into the table. -/
theorem Wt.grow {w w2 : World} {B H n k : Nat} {bs : Nat → Nat} {F : Nat → Nat → Nat} (h : Wt w B H n k bs F) (hk : k < 4) (hg : w.grownBy w2 none)
    (hb : Blk w2 w.heap.size 3 (rowA (F k) n)) : Wt (w2.setCell ⟨H, k, none⟩ (.slice (some ⟨w.heap.size, 0, none⟩) (n + 1) (n + 1))) B H n (k + 1) (fun i => if i = k then w.heap.size else bs i) F := by
  have hH := h.top.lt
  have hr : ∀ i, i < k → bs i < w.heap.size := fun i hi => (h.row i hi).lt
  refine ⟨h.base, ?_, fun i hi => ?_, fun i j hi hj => ?_, fun i hi => ?_⟩
  · rw [← topA_set hk]
    exact Blk.set_ ((hg.block _ hH (by simp)).trans h.top) k _
  · by_cases e : i = k
    · subst e
      simp only [if_true]
      exact hb.far (by simp; omega) _
    · rw [if_neg e]
      have hi : i < k := by omega
      exact Blk.far ((hg.block _ (hr i hi) (by simp)).trans (h.row i hi)) (by have := h.far i hi; simp; omega) _
  · intro e
    by_cases e1 : i = k
    · by_cases e2 : j = k
      · omega
      · rw [if_pos e1, if_neg e2] at e
        have := hr j (by omega); omega
    · by_cases e2 : j = k
      · rw [if_neg e1, if_pos e2] at e
        have := hr i (by omega); omega
      · rw [if_neg e1, if_neg e2] at e
        exact h.inj i j (by omega) (by omega) e
  · by_cases e : i = k
    · rw [if_pos e]; exact hH
    · rw [if_neg e]; exact h.far i (by omega)

/-- The table where all columns below m are done, and rows below q of column m. -/
def tab (ranks : List Nat) (m q i x : Nat) : Nat := if x < m ∨ (x = m ∧ i < q) then c30 (Wn ranks i x) else 0
theorem tab_le (ranks : List Nat) (m q i x : Nat) : tab ranks m q i x ≤ 1073741824 := by
  unfold tab; split
  · exact c30_le _
  · omega

end Go.Proofs.YthhliogcafmnfaaDoor
