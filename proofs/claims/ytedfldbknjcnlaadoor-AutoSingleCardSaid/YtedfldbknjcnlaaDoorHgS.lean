/- Hedges in memory whose blocks all lie in a set. -/
import Derived.Test.YtedfldbknjcnlaaDoorHg
import Derived.Test.YtedfldbknjcnlaaDoorRF
namespace Go.Proofs.YtedfldbknjcnlaaDoor
open Go.RowKit

def RowS (S : Nat → Prop) (w : World) : Hg → Nat → Nat → Prop
  | .nil, _, _ => True
  | .cons l k r, b, o => S b ∧ w.cell? ⟨b, o, none⟩ = some (.int .i64 l) ∧ (Lit.int .i64 l).wf = true ∧
      (∃ p c, w.cell? ⟨b, o + 1, none⟩ = some (.slice p k.len c) ∧ k.len ≤ c ∧ c ≤ maxLen ∧ (k ≠ .nil → ∃ b' o', p = some ⟨b', o', none⟩ ∧ RowS S w k b' o')) ∧ RowS S w r b (o + 2)

def IsHS (S : Nat → Prop) (w : World) (v : Value) (h : Hg) : Prop :=
  ∃ p c, v = .slice p h.len c ∧ h.len ≤ c ∧ c ≤ maxLen ∧ (h ≠ .nil → ∃ b o, p = some ⟨b, o, none⟩ ∧ RowS S w h b o)

/-- A tree: the root's symbol (or label) and its subtrees. -/
def IsTS (S : Nat → Prop) (w : World) (v : Value) (t : Int × Hg) : Prop := ∃ vk, v = .agg #[.int .i64 t.1, vk] ∧ (Lit.int .i64 t.1).wf = true ∧ IsHS S w vk t.2
def IsT (w : World) (v : Value) (t : Int × Hg) : Prop := ∃ vk, v = .agg #[.int .i64 t.1, vk] ∧ (Lit.int .i64 t.1).wf = true ∧ IsH w vk t.2

theorem RowS.cons_iff {S : Nat → Prop} {w : World} {l : Int} {k r : Hg} {b o : Nat} : RowS S w (.cons l k r) b o ↔
    S b ∧ w.cell? ⟨b, o, none⟩ = some (.int .i64 l) ∧ (Lit.int .i64 l).wf = true ∧ (∃ v, w.cell? ⟨b, o + 1, none⟩ = some v ∧ IsHS S w v k) ∧ RowS S w r b (o + 2) := by
  constructor
  · rintro ⟨h0, h1, h2, ⟨p, c, h3, h4⟩, h5⟩
    exact ⟨h0, h1, h2, ⟨_, h3, p, c, rfl, h4⟩, h5⟩
  · rintro ⟨h0, h1, h2, ⟨v, h3, p, c, rfl, h4⟩, h5⟩
    exact ⟨h0, h1, h2, ⟨p, c, h3, h4⟩, h5⟩

theorem RowS.row {S : Nat → Prop} {w : World} : ∀ {h : Hg} {b o : Nat}, RowS S w h b o → Row w h b o
  | .nil, _, _, _ => trivial
  | .cons _ _ _, _, _, ⟨_, h1, h2, ⟨p, c, h3, h4, h5, h6⟩, h7⟩ => ⟨h1, h2, ⟨p, c, h3, h4, h5, fun hk => (by
      obtain ⟨b', o', e, hr⟩ := h6 hk
      exact ⟨b', o', e, RowS.row hr⟩)⟩, RowS.row h7⟩
theorem IsHS.isH {S : Nat → Prop} {w : World} {v : Value} {h : Hg} : IsHS S w v h → IsH w v h
  | ⟨p, c, e, h4, h5, h6⟩ => ⟨p, c, e, h4, h5, fun hk => (by
      obtain ⟨b', o', e, hr⟩ := h6 hk
      exact ⟨b', o', e, hr.row⟩)⟩
theorem IsTS.isT {S : Nat → Prop} {w : World} {v : Value} {t : Int × Hg} : IsTS S w v t → IsT w v t
  | ⟨vk, h1, h2, h3⟩ => ⟨vk, h1, h2, h3.isH⟩

theorem RowS.kp' {S : Nat → Prop} {w w' : World} (hb : Kp S w w') : ∀ (h : Hg) (b o : Nat), RowS S w h b o → RowS S w' h b o
  | .nil, _, _, _ => trivial
  | .cons l k r, b, o, ⟨h0, h1, h2, ⟨p, c, h3, h4, h5, h6⟩, h7⟩ =>
    ⟨h0, hb.cell h1 h0, h2, ⟨p, c, hb.cell h3 h0, h4, h5, fun hk => (by
      obtain ⟨b', o', e, hr⟩ := h6 hk
      exact ⟨b', o', e, RowS.kp' hb k b' o' hr⟩)⟩, RowS.kp' hb r b (o + 2) h7⟩
theorem RowS.kp {S : Nat → Prop} {w w' : World} {h : Hg} {b o : Nat} (hr : RowS S w h b o) (hb : Kp S w w') : RowS S w' h b o := RowS.kp' hb h b o hr
theorem IsHS.kp {S : Nat → Prop} {w w' : World} {v : Value} {h : Hg} (hv : IsHS S w v h) (hb : Kp S w w') : IsHS S w' v h := by
  obtain ⟨p, c, e, h4, h5, h6⟩ := hv
  refine ⟨p, c, e, h4, h5, fun hk => ?_⟩
  obtain ⟨b', o', e, hr⟩ := h6 hk
  exact ⟨b', o', e, hr.kp hb⟩
theorem IsTS.kp {S : Nat → Prop} {w w' : World} {v : Value} {t : Int × Hg} (hv : IsTS S w v t) (hb : Kp S w w') : IsTS S w' v t := by
  obtain ⟨vk, h1, h2, h3⟩ := hv
  exact ⟨vk, h1, h2, h3.kp hb⟩

theorem RowS.mono' {S S' : Nat → Prop} {w : World} (hS : ∀ b, b < w.heap.size → S b → S' b) : ∀ (h : Hg) (b o : Nat), RowS S w h b o → RowS S' w h b o
  | .nil, _, _, _ => trivial
  | .cons l k r, b, o, ⟨h0, h1, h2, ⟨p, c, h3, h4, h5, h6⟩, h7⟩ =>
    ⟨hS b (World.block_lt_of_cell? _ _ h1) h0, h1, h2, ⟨p, c, h3, h4, h5, fun hk => (by
      obtain ⟨b', o', e, hr⟩ := h6 hk
      exact ⟨b', o', e, RowS.mono' hS k b' o' hr⟩)⟩, RowS.mono' hS r b (o + 2) h7⟩
theorem IsHS.mono {S S' : Nat → Prop} {w : World} {v : Value} {h : Hg} (hv : IsHS S w v h) (hS : ∀ b, b < w.heap.size → S b → S' b) : IsHS S' w v h := by
  obtain ⟨p, c, e, h4, h5, h6⟩ := hv
  refine ⟨p, c, e, h4, h5, fun hk => ?_⟩
  obtain ⟨b', o', e, hr⟩ := h6 hk
  exact ⟨b', o', e, RowS.mono' hS h b' o' hr⟩
theorem IsTS.mono {S S' : Nat → Prop} {w : World} {v : Value} {t : Int × Hg} (hv : IsTS S w v t) (hS : ∀ b, b < w.heap.size → S b → S' b) : IsTS S' w v t := by
  obtain ⟨vk, h1, h2, h3⟩ := hv
  exact ⟨vk, h1, h2, h3.mono hS⟩
theorem RowS.of_row' {w : World} : ∀ (h : Hg) (b o : Nat), Row w h b o → RowS (fun c => c < w.heap.size) w h b o
  | .nil, _, _, _ => trivial
  | .cons l k r, b, o, ⟨h1, h2, ⟨p, c, h3, h4, h5, h6⟩, h7⟩ =>
    ⟨World.block_lt_of_cell? _ _ h1, h1, h2, ⟨p, c, h3, h4, h5, fun hk => (by
      obtain ⟨b', o', e, hr⟩ := h6 hk
      exact ⟨b', o', e, RowS.of_row' k b' o' hr⟩)⟩, RowS.of_row' r b (o + 2) h7⟩
theorem IsH.isHS {w : World} {v : Value} {h : Hg} (hv : IsH w v h) : IsHS (fun c => c < w.heap.size) w v h := by
  obtain ⟨p, c, e, h4, h5, h6⟩ := hv
  refine ⟨p, c, e, h4, h5, fun hk => ?_⟩
  obtain ⟨b', o', e, hr⟩ := h6 hk
  exact ⟨b', o', e, RowS.of_row' h b' o' hr⟩
theorem IsT.below {w w' : World} {v : Value} {t : Int × Hg} (h : IsT w v t) (hb : Below w.heap.size w w') : IsT w' v t := by
  obtain ⟨vk, h1, h2, h3⟩ := h
  exact ⟨vk, h1, h2, h3.below hb⟩
theorem IsT.isTS {w : World} {v : Value} {t : Int × Hg} (h : IsT w v t) : IsTS (fun c => c < w.heap.size) w v t := by
  obtain ⟨vk, h1, h2, h3⟩ := h
  exact ⟨vk, h1, h2, h3.isHS⟩

/-- A block known whole. -/
def Blk (w : World) (g : Nat) (t : TypeId) (cs : Array Value) : Prop := w.heap[g]? = some (.cells cs t (0, 0))
theorem Blk.lt {w : World} {g : Nat} {t : TypeId} {cs : Array Value} (h : Blk w g t cs) : g < w.heap.size := (Array.getElem?_eq_some_iff.1 h).1
theorem Blk.cell {w : World} {g : Nat} {t : TypeId} {cs : Array Value} (h : Blk w g t cs) (i : Nat) : w.cell? ⟨g, i, none⟩ = cs[i]? := cell_of_row w g i cs t (0, 0) h
theorem Blk.frozen {w : World} {g : Nat} {t : TypeId} {cs : Array Value} (h : Blk w g t cs) (i : Nat) : w.frozen? ⟨g, i, none⟩ = false := by
  unfold Blk at h; simp [World.frozen?, h]
theorem Blk.new (w : World) (t : TypeId) (cs : Array Value) : Blk (w.alloc (.cells cs t)) w.heap.size t cs := World.alloc_heap_new w _
theorem Blk.alloc {w : World} {g : Nat} {t : TypeId} {cs : Array Value} (h : Blk w g t cs) (o : Obj) : Blk (w.alloc o) g t cs := (Below.heap_alloc w o g h.lt).trans h
theorem Blk.drew {w : World} {g : Nat} {t : TypeId} {cs : Array Value} (h : Blk w g t cs) : Blk w.drew g t cs := h
theorem Blk.set_ {w : World} {g : Nat} {t : TypeId} {cs : Array Value} (h : Blk w g t cs) (i : Nat) (u : Value) : Blk (w.setCell ⟨g, i, none⟩ u) g t (cs.setIfInBounds i u) := by
  unfold Blk at h ⊢
  simp [World.setCell, Array.getElem?_modify, h]
theorem Blk.far {w : World} {g : Nat} {t : TypeId} {cs : Array Value} (h : Blk w g t cs) {p : Addr} (hp : g ≠ p.block) (u : Value) : Blk (w.setCell p u) g t cs := (Below.heap_setCell w p u g hp).trans h
theorem Blk.below {w w' : World} {g : Nat} {t : TypeId} {cs : Array Value} {B : Nat} (h : Blk w g t cs) (hb : Below B w w') (hg : g < B) : Blk w' g t cs := (hb.block g hg).trans h
theorem Blk.kp {w w' : World} {g : Nat} {t : TypeId} {cs : Array Value} {S : Nat → Prop} (h : Blk w g t cs) (hb : Kp S w w') (hg : S g) : Blk w' g t cs := hb.heap h hg

theorem Blk.ne_ {w : World} {g g' : Nat} {t t' : TypeId} {cs cs' : Array Value} (h : Blk w g t cs) (h' : Blk w g' t' cs') (hne : t ≠ t') : ¬ g = g' := by
  rintro rfl
  unfold Blk at h h'
  rw [h] at h'
  injection h' with h'
  injection h' with _ ht
  exact hne ht
theorem blk_0 (w : World) (t : TypeId) (a : Array Value) (o1 o2 : Obj) : Blk (((w.alloc (.cells a t)).alloc o1).alloc o2) w.heap.size t a := ((Blk.new w _ _).alloc _).alloc _
theorem blk_1 (w : World) (t : TypeId) (o0 : Obj) (a : Array Value) (o2 : Obj) : Blk (((w.alloc o0).alloc (.cells a t)).alloc o2) (w.heap.size + 1) t a := by
  have := (Blk.new (w.alloc o0) t a).alloc o2
  rwa [World.size_alloc] at this
theorem blk_2 (w : World) (t : TypeId) (o0 o1 : Obj) (a : Array Value) : Blk (((w.alloc o0).alloc o1).alloc (.cells a t)) (w.heap.size + 1 + 1) t a := by
  have := Blk.new ((w.alloc o0).alloc o1) t a
  rwa [World.size_alloc, World.size_alloc] at this


end Go.Proofs.YtedfldbknjcnlaaDoor
