/- rule.NewTable: the table as data. -/
import Derived.Test.YtedfldbknjcnlaaDoorFG1
import Derived.Test.YtedfldbknjcnlaaDoorFG2
namespace Go.Proofs.YtedfldbknjcnlaaDoor
open Go.RowKit Go.Shelf

structure GB where
  blk : Nat
  s : Int
  a : Int
  b : Int
  c : Int
  W : Nat → Nat

def GB.key (x : GB) : Int × Int × Int × Int := (x.s, x.a, x.b, x.c)
def GB.kl (x : GB) : Lit := klOf x.s x.a x.b x.c
def GB.pre (x : GB) : List Value := [.int .i64 x.s, .int .i64 x.a, .int .i64 x.b, .int .i64 x.c]
def GB.ptr (x : GB) : Value := .pointer (some ⟨x.blk, 0, none⟩)
def GB.wf (x : GB) : Prop := (Lit.int .i64 x.s).wf = true ∧ (Lit.int .i64 x.a).wf = true ∧ (Lit.int .i64 x.b).wf = true ∧ (Lit.int .i64 x.c).wf = true
def Ru.key (r : Ru) : Int × Int × Int × Int := (r.sym, r.fr.getD 0 0, r.fr.getD 1 0, r.fr.getD 2 0)
def rowsOf (s : Nat) (GL : List GB) : List GB := GL.filter (fun x => x.s == (s : Int))
def ptrs (GL : List GB) : List Value := GL.map GB.ptr

theorem GB.kl_inj {x y : GB} (hx : x.wf) (hy : y.wf) (h : x.kl = y.kl) : x.key = y.key := by
  obtain ⟨a1, a2, a3, a4⟩ := hx
  obtain ⟨b1, b2, b3, b4⟩ := hy
  obtain ⟨h1, h2, h3, h4⟩ := Proofs.YtedfldbknjcnlaaDoor.kl_inj a1 a2 a3 a4 b1 b2 b3 b4 h
  unfold GB.key
  rw [h1, h2, h3, h4]

/-- What the groups say of the rules. -/
structure Means (R : List Ru) (GL : List GB) : Prop where
  keys : GL.Pairwise (fun x y => x.key ≠ y.key)
  sound : ∀ x ∈ GL, ∀ q, mem x.W q = true → ∃ r ∈ R, r.key = x.key ∧ r.to = (q : Int)
  full : ∀ r ∈ R, ∃ x ∈ GL, x.key = r.key ∧ ∃ q : Nat, r.to = (q : Int) ∧ mem x.W q = true

def setW (k : Nat) (q : Nat) (x : GB) : GB := if x.blk = k then { x with W := addW x.W q } else x
theorem setW_key (k q : Nat) (x : GB) : (setW k q x).key = x.key := by unfold setW; split <;> rfl
theorem setW_blk (k q : Nat) (x : GB) : (setW k q x).blk = x.blk := by unfold setW; split <;> rfl
theorem setW_s (k q : Nat) (x : GB) : (setW k q x).s = x.s := by unfold setW; split <;> rfl
theorem setW_kl (k q : Nat) (x : GB) : (setW k q x).kl = x.kl := by unfold setW; split <;> rfl
theorem setW_ptr (k q : Nat) (x : GB) : (setW k q x).ptr = x.ptr := by unfold GB.ptr; rw [setW_blk]
theorem setW_pre (k q : Nat) (x : GB) : (setW k q x).pre = x.pre := by unfold setW; split <;> rfl
theorem setW_wf (k q : Nat) (x : GB) : (setW k q x).wf ↔ x.wf := by unfold setW; split <;> rfl

theorem rowsOf_setW (k q s : Nat) (GL : List GB) : ptrs (rowsOf s (GL.map (setW k q))) = ptrs (rowsOf s GL) := by
  unfold ptrs rowsOf
  induction GL with
  | nil => rfl
  | cons x l ih =>
    simp only [List.map_cons, List.filter_cons, setW_s]
    split
    · simp only [List.map_cons, setW_ptr, ih]
    · exact ih
theorem rowsOf_app (s : Nat) (GL : List GB) (y : GB) : rowsOf s (GL ++ [y]) = if y.s = (s : Int) then rowsOf s GL ++ [y] else rowsOf s GL := by
  unfold rowsOf
  rw [List.filter_append]
  by_cases h : y.s = (s : Int)
  · rw [if_pos h]; simp [h]
  · rw [if_neg h]; simp [h]

theorem pw_one : ∀ {l : List GB}, l.Pairwise (fun x y => x.blk ≠ y.blk) → ∀ {x y : GB}, x ∈ l → y ∈ l → x.blk = y.blk → x = y
  | [], _, _, _, hx, _, _ => by cases hx
  | a :: l, h, x, y, hx, hy, e => by
    rw [List.pairwise_cons] at h
    rcases List.mem_cons.1 hx with rfl | hx2
    · rcases List.mem_cons.1 hy with rfl | hy2
      · rfl
      · exact absurd e (h.1 y hy2)
    · rcases List.mem_cons.1 hy with rfl | hy2
      · exact absurd e.symm (h.1 x hx2)
      · exact pw_one h.2 hx2 hy2 e
theorem Means.nil : Means [] [] := ⟨List.Pairwise.nil, fun _ h => (by cases h), fun _ h => (by cases h)⟩
theorem Means.fresh {R : List Ru} {GL : List GB} (h : Means R GL) {y : GB} (hy : ∀ x ∈ GL, x.key ≠ y.key) (hW : ∀ q, mem y.W q = false) : Means R (GL ++ [y]) := by
  refine ⟨List.pairwise_append.2 ⟨h.keys, List.pairwise_singleton _ _, fun x hx z hz => ?_⟩, fun x hx q hq => ?_, fun r hr => ?_⟩
  · rw [List.mem_singleton] at hz; subst hz; exact hy x hx
  · rcases List.mem_append.1 hx with hx | hx
    · exact h.sound x hx q hq
    · rw [List.mem_singleton] at hx; subst hx; rw [hW] at hq; cases hq
  · obtain ⟨x, hx, h1⟩ := h.full r hr
    exact ⟨x, List.mem_append_left _ hx, h1⟩
theorem Means.add {R : List Ru} {GL : List GB} (h : Means R GL) (hb : GL.Pairwise (fun x y => x.blk ≠ y.blk)) {y : GB} (hy : y ∈ GL) {r : Ru} (hk : r.key = y.key) {q : Nat} (hq : r.to = (q : Int)) : Means (R ++ [r]) (GL.map (setW y.blk q)) := by
  have hone : ∀ x ∈ GL, x.blk = y.blk → x = y := fun x hx e => pw_one hb hx hy e
  refine ⟨?_, fun x hx p hp => ?_, fun r' hr' => ?_⟩
  · rw [List.pairwise_map]
    exact h.keys.imp (fun {a b} hab => by rw [setW_key, setW_key]; exact hab)
  · obtain ⟨x0, hx0, rfl⟩ := List.mem_map.1 hx
    rw [setW_key]
    by_cases e : x0.blk = y.blk
    · have := hone x0 hx0 e
      subst this
      unfold setW at hp
      rw [if_pos rfl] at hp
      simp only [addW_mem, Bool.or_eq_true, decide_eq_true_eq] at hp
      rcases hp with hp | rfl
      · obtain ⟨r0, h0, h1⟩ := h.sound x0 hx0 p hp
        exact ⟨r0, List.mem_append_left _ h0, h1⟩
      · exact ⟨r, by simp, hk, hq⟩
    · unfold setW at hp
      rw [if_neg e] at hp
      obtain ⟨r0, h0, h1⟩ := h.sound x0 hx0 p hp
      exact ⟨r0, List.mem_append_left _ h0, h1⟩
  · rcases List.mem_append.1 hr' with hr' | hr'
    · obtain ⟨x, hx, h1, p, h2, h3⟩ := h.full r' hr'
      refine ⟨setW y.blk q x, List.mem_map_of_mem hx, by rw [setW_key]; exact h1, p, h2, ?_⟩
      unfold setW
      split
      · simp only [addW_mem, h3, Bool.true_or]
      · exact h3
    · rw [List.mem_singleton] at hr'
      subst hr'
      refine ⟨setW y.blk q y, List.mem_map_of_mem hy, by rw [setW_key]; exact hk.symm, q, hq, ?_⟩
      unfold setW
      rw [if_pos rfl]
      simp [addW_mem]

/-- A table under way. -/
structure Tab (B : Nat) (ks : List Lit) (T G M n : Nat) (w : World) (GL : List GB) (rows : List Value) (f : Lit → Option Value) : Prop where
  t : Blk w T 105 #[.slice (some ⟨G, 0, none⟩) n n, .map (some M)]
  g : Blk w G 109 rows.toArray
  len : rows.length = n
  row : ∀ (s : Nat) v, rows[s]? = some v → w.ownsRow B 106 1 v (ptrs (rowsOf s GL)).length (ptrs (rowsOf s GL))
  apart : ∀ (s s' : Nat) v v' b, s ≠ s' → rows[s]? = some v → rows[s']? = some v' → v.ownBlock = some b → v'.ownBlock ≠ some b
  gb : ∀ x ∈ GL, Blk w x.blk 108 (scs x.pre x.W []) ∧ W64 x.W ∧ B ≤ x.blk ∧ x.wf
  blks : GL.Pairwise (fun x y => x.blk ≠ y.blk)
  mp : IsMp Tryd.prog 97 ks w M f
  fs : ∀ x ∈ GL, f x.kl = some x.ptr
  fn : ∀ kl v, f kl = some v → ∃ x ∈ GL, x.kl = kl ∧ v = x.ptr
  ge : B ≤ T ∧ B ≤ G ∧ B ≤ M

theorem own_cells {w : World} {B : Nat} {e : TypeId} {size n : Nat} {v : Value} {xs : List Value} {b : Nat} (h : w.ownsRow B e size v n xs) (hb : v.ownBlock = some b) : ∃ cur, Blk w b e cur ∧ B ≤ b := by
  rcases h.2 with ⟨e2, _⟩ | ⟨g, cap, cur, e2, hbg, hg, _⟩
  · rw [e2] at hb; simp [Value.ownBlock] at hb
  · rw [e2] at hb
    simp only [Value.ownBlock, Option.some.injEq] at hb
    subst hb
    exact ⟨cur, hg, hbg⟩
theorem ownsRow_kp {w w' : World} {B : Nat} {e : TypeId} {size n : Nat} {v : Value} {xs : List Value} {S : Nat → Prop} (h : w.ownsRow B e size v n xs) (hk : Kp S w w') (hS : ∀ b, v.ownBlock = some b → S b) : w'.ownsRow B e size v n xs := by
  refine ⟨h.1, ?_⟩
  rcases h.2 with hn | ⟨g, cap, cur, rfl, hbg, hg, rest⟩
  · exact .inl hn
  · exact .inr ⟨g, cap, cur, rfl, hbg, (hk.block g (Array.getElem?_eq_some_iff.1 hg).1 (hS g rfl)).trans hg, rest⟩
theorem IsMp.ne_blk {P : Program} {k : TypeId} {ks : List Lit} {w : World} {b g : Nat} {f : Lit → Option Value} {t : TypeId} {cs : Array Value} (h : IsMp P k ks w b f) (hg : Blk w g t cs) : g ≠ b := by
  obtain ⟨D, ⟨es, clock, hb, _⟩, _⟩ := h
  rintro rfl
  have : w.heap[g]? = some (.cells cs t (0, 0)) := hg
  rw [hb] at this
  cases this

section
variable {B : Nat} {ks : List Lit} {T G M n : Nat} {w w' : World} {GL : List GB} {rows : List Value} {f : Lit → Option Value}

theorem Tab.below (h : Tab B ks T G M n w GL rows f) (hb : Below w.heap.size w w') : Tab B ks T G M n w' GL rows f where
  t := h.t.below hb h.t.lt
  g := h.g.below hb h.g.lt
  len := h.len
  row s v hs := ownsRow_kp (h.row s v hs) (Kp.of_below hb (fun k hk _ => hk) : Kp (fun _ => True) w w') (fun _ _ => trivial)
  apart := h.apart
  gb x hx := ⟨(h.gb x hx).1.below hb (h.gb x hx).1.lt, (h.gb x hx).2⟩
  blks := h.blks
  mp := h.mp.kp (Kp.of_below hb (fun k hk _ => hk) : Kp (fun _ => True) w w') trivial
  fs := h.fs
  fn := h.fn
  ge := h.ge

theorem Tab.add (h : Tab B ks T G M n w GL rows f) {y : GB} (hy : y ∈ GL) {q : Nat} (hblk : Blk w' y.blk 108 (scs y.pre (addW y.W q) [])) (hk : Kp (fun c => c ≠ y.blk) w w') : Tab B ks T G M n w' (GL.map (setW y.blk q)) rows f := by
  have hyb := h.gb y hy
  have hone : ∀ x ∈ GL, x.blk = y.blk → x = y := fun x hx e => pw_one h.blks hx hy e
  refine ⟨h.t.kp hk (h.t.ne_ hyb.1 (by decide)), h.g.kp hk (h.g.ne_ hyb.1 (by decide)), h.len, fun s v hs => ?_, h.apart, fun x hx => ?_, ?_, h.mp.kp hk (fun e => h.mp.ne_blk hyb.1 e.symm), fun x hx => ?_, fun kl v hf => ?_, h.ge⟩
  · rw [rowsOf_setW]
    refine ownsRow_kp (h.row s v hs) hk (fun b hb => ?_)
    obtain ⟨cur, hc, _⟩ := own_cells (h.row s v hs) hb
    exact hc.ne_ hyb.1 (by decide)
  · obtain ⟨x0, hx0, rfl⟩ := List.mem_map.1 hx
    rw [setW_blk, setW_pre, setW_wf]
    have h0 := h.gb x0 hx0
    by_cases e : x0.blk = y.blk
    · have := hone x0 hx0 e
      subst this
      unfold setW
      rw [if_pos rfl]
      exact ⟨hblk, addW_lt h0.2.1 q, h0.2.2.1, h0.2.2.2⟩
    · unfold setW
      rw [if_neg e]
      exact ⟨h0.1.kp hk e, h0.2⟩
  · rw [List.pairwise_map]
    exact h.blks.imp (fun {a b} hab => by rw [setW_blk, setW_blk]; exact hab)
  · obtain ⟨x0, hx0, rfl⟩ := List.mem_map.1 hx
    rw [setW_kl, setW_ptr]
    exact h.fs x0 hx0
  · obtain ⟨x, hx, h1, h2⟩ := h.fn kl v hf
    exact ⟨setW y.blk q x, List.mem_map_of_mem hx, by rw [setW_kl]; exact h1, by rw [setW_ptr]; exact h2⟩

theorem Tab.new (h : Tab B ks T G M n w GL rows f) {y : GB} {s : Nat} {v v' : Value} (hv : rows[s]? = some v) (hys : y.s = (s : Int)) (hwf : y.wf) (hW : W64 y.W) (hB : B ≤ w.heap.size) (hyb : w.heap.size ≤ y.blk)
    (hfn : ∀ x ∈ GL, x.key ≠ y.key)
    (hk : Kp (fun c => c ≠ M ∧ c ≠ G ∧ v.ownBlock ≠ some c) w w')
    (hmp : IsMp Tryd.prog 97 ks w' M (putF f y.kl y.ptr)) (hG : Blk w' G 109 (rows.set s v').toArray)
    (hrow : w'.ownsRow B 106 1 v' ((ptrs (rowsOf s GL)).length + 1) (ptrs (rowsOf s GL) ++ [y.ptr]))
    (hat : v'.ownBlock = v.ownBlock ∨ ∃ b, v'.ownBlock = some b ∧ w.heap.size ≤ b) (hblk : Blk w' y.blk 108 (scs y.pre y.W [])) :
    Tab B ks T G M n w' (GL ++ [y]) (rows.set s v') (putF f y.kl y.ptr) := by
  have hsl : s < rows.length := (List.getElem?_eq_some_iff.1 hv).1
  have hne : ∀ x ∈ GL, x.kl ≠ y.kl := fun x hx e => hfn x hx (GB.kl_inj (h.gb x hx).2.2.2 hwf e)
  have hvb : ∀ {c : Nat} {t : TypeId} {cs : Array Value}, Blk w c t cs → t ≠ 106 → v.ownBlock ≠ some c := fun hc ht e => by
    obtain ⟨cur, hcur, _⟩ := own_cells (h.row s v hv) e
    exact hc.ne_ hcur ht rfl
  refine ⟨h.t.kp hk ⟨h.mp.ne_blk h.t, h.t.ne_ h.g (by decide), hvb h.t (by decide)⟩, hG, by rw [List.length_set]; exact h.len, fun s' u hs' => ?_, fun s1 s2 v1 v2 b h12 h1 h2 hb1 hb2 => ?_, fun x hx => ?_, ?_, hmp, fun x hx => ?_, fun kl u hf => ?_, h.ge⟩
  · rw [rowsOf_app]
    by_cases e : s' = s
    · subst e
      rw [if_pos hys]
      rw [List.getElem?_set_self hsl] at hs'
      cases hs'
      simpa [ptrs] using hrow
    · rw [if_neg (by rw [hys]; omega)]
      rw [List.getElem?_set_ne (fun e2 => e e2.symm)] at hs'
      refine ownsRow_kp (h.row s' u hs') hk (fun b hb => ?_)
      obtain ⟨cur, hc, _⟩ := own_cells (h.row s' u hs') hb
      exact ⟨h.mp.ne_blk hc, hc.ne_ h.g (by decide), fun e2 => h.apart s' s u v b e hs' hv hb e2⟩
  · by_cases e1 : s1 = s
    · subst e1
      rw [List.getElem?_set_self hsl] at h1
      cases h1
      rw [List.getElem?_set_ne h12] at h2
      rcases hat with e | ⟨c, e, hc⟩
      · rw [e] at hb1
        exact h.apart s1 s2 v v2 b h12 hv h2 hb1 hb2
      · rw [e] at hb1; cases hb1
        obtain ⟨cur, hcur, _⟩ := own_cells (h.row s2 v2 h2) hb2
        have := hcur.lt
        omega
    · rw [List.getElem?_set_ne (fun e2 => e1 e2.symm)] at h1
      by_cases e3 : s2 = s
      · subst e3
        rw [List.getElem?_set_self hsl] at h2
        cases h2
        rcases hat with e | ⟨c, e, hc⟩
        · rw [e] at hb2
          exact h.apart s1 s2 v1 v b h12 h1 hv hb1 hb2
        · rw [e] at hb2; cases hb2
          obtain ⟨cur, hcur, _⟩ := own_cells (h.row s1 v1 h1) hb1
          have := hcur.lt
          omega
      · rw [List.getElem?_set_ne (fun e2 => e3 e2.symm)] at h2
        exact h.apart s1 s2 v1 v2 b h12 h1 h2 hb1 hb2
  · rcases List.mem_append.1 hx with hx | hx
    · have h0 := h.gb x hx
      exact ⟨h0.1.kp hk ⟨h.mp.ne_blk h0.1, h0.1.ne_ h.g (by decide), hvb h0.1 (by decide)⟩, h0.2⟩
    · rw [List.mem_singleton] at hx; subst hx
      exact ⟨hblk, hW, by omega, hwf⟩
  · refine List.pairwise_append.2 ⟨h.blks, List.pairwise_singleton _ _, fun x hx z hz => ?_⟩
    rw [List.mem_singleton] at hz; subst hz
    have := (h.gb x hx).1.lt
    omega
  · rcases List.mem_append.1 hx with hx | hx
    · rw [putF_other _ _ (hne x hx)]; exact h.fs x hx
    · rw [List.mem_singleton] at hx; subst hx; exact putF_same _ _ _
  · by_cases e : kl = y.kl
    · subst e
      rw [putF_same] at hf; cases hf
      exact ⟨y, by simp, rfl, rfl⟩
    · rw [putF_other _ _ e] at hf
      obtain ⟨x, hx, h1, h2⟩ := h.fn kl u hf
      exact ⟨x, List.mem_append_left _ hx, h1, h2⟩

end
end Go.Proofs.YtedfldbknjcnlaaDoor
