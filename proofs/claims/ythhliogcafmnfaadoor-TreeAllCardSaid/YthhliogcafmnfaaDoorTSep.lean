/- A tree whose lists lie apart from each other; what a store at one of its nodes makes of it. -/
import Derived.Test.YthhliogcafmnfaaDoorTPos
import Derived.Test.YthhliogcafmnfaaDoorCloneT
namespace Go.Proofs.YthhliogcafmnfaaDoor
open Go.RowKit Go.Shelf

/-- A block that may be written. -/
def Unfz (w : World) (b : Nat) : Prop := ∃ cs t, w.heap[b]? = some (.cells cs t (0, 0))
theorem Unfz.heap {w w' : World} {b : Nat} (h : Unfz w b) (e : w'.heap[b]? = w.heap[b]?) : Unfz w' b := by
  obtain ⟨cs, t, h⟩ := h
  exact ⟨cs, t, e.trans h⟩
theorem Unfz.frozen {w : World} {b : Nat} (h : Unfz w b) (i : Nat) : w.frozen? ⟨b, i, none⟩ = false := by
  obtain ⟨cs, t, h⟩ := h
  simp [World.frozen?, h]

def RowI (w : World) : Hg → Nat → Nat → Nat → Nat → Prop
  | .nil, _, _, lo, hi => lo ≤ hi
  | .cons l k r, b, o, lo, hi => w.cell? ⟨b, o, none⟩ = some (.int .i64 l) ∧ (Lit.int .i64 l).wf = true ∧ ∃ mid, lo ≤ mid ∧
      (∃ p c, w.cell? ⟨b, o + 1, none⟩ = some (.slice p k.len c) ∧ k.len ≤ c ∧ c ≤ maxLen ∧ (k ≠ .nil → ∃ b', p = some ⟨b', 0, none⟩ ∧ lo ≤ b' ∧ b' < mid ∧ Unfz w b' ∧ RowI w k b' 0 (b' + 1) mid)) ∧ RowI w r b (o + 2) mid hi
def IsHI (w : World) (v : Value) (h : Hg) (lo hi : Nat) : Prop :=
  ∃ p c, v = .slice p h.len c ∧ h.len ≤ c ∧ c ≤ maxLen ∧ (h ≠ .nil → ∃ b, p = some ⟨b, 0, none⟩ ∧ lo ≤ b ∧ b < hi ∧ Unfz w b ∧ RowI w h b 0 (b + 1) hi)
def IsTI (w : World) (v : Value) (t : Int × Hg) (lo hi : Nat) : Prop := ∃ vk, v = .agg #[.int .i64 t.1, vk] ∧ (Lit.int .i64 t.1).wf = true ∧ IsHI w vk t.2 lo hi

theorem RowI.cons_iff {w : World} {l : Int} {k r : Hg} {b o lo hi : Nat} : RowI w (.cons l k r) b o lo hi ↔
    w.cell? ⟨b, o, none⟩ = some (.int .i64 l) ∧ (Lit.int .i64 l).wf = true ∧ ∃ mid, lo ≤ mid ∧ (∃ v, w.cell? ⟨b, o + 1, none⟩ = some v ∧ IsHI w v k lo mid) ∧ RowI w r b (o + 2) mid hi := by
  constructor
  · rintro ⟨h1, h2, mid, hm, ⟨p, c, h3, h4⟩, h5⟩
    exact ⟨h1, h2, mid, hm, ⟨_, h3, p, c, rfl, h4⟩, h5⟩
  · rintro ⟨h1, h2, mid, hm, ⟨v, h3, p, c, rfl, h4⟩, h5⟩
    exact ⟨h1, h2, mid, hm, ⟨p, c, h3, h4⟩, h5⟩
theorem RowI.le {w : World} : ∀ {h : Hg} {b o lo hi : Nat}, RowI w h b o lo hi → lo ≤ hi
  | .nil, _, _, _, _, h => h
  | .cons _ _ _, _, _, _, _, ⟨_, _, _, hm, _, h⟩ => Nat.le_trans hm h.le

theorem RowI.rowS' {S : Nat → Prop} {w : World} : ∀ (h : Hg) (b o lo hi : Nat), RowI w h b o lo hi → S b → (∀ c, lo ≤ c → c < hi → S c) → RowS S w h b o
  | .nil, _, _, _, _, _, _, _ => trivial
  | .cons l k r, b, o, lo, hi, ⟨h1, h2, mid, hm, ⟨p, c, h3, h4, h5, h6⟩, h7⟩, hb, hS =>
    ⟨hb, h1, h2, ⟨p, c, h3, h4, h5, fun hk => (by
      obtain ⟨b', e, g1, g2, gu, hr⟩ := h6 hk
      have hle := h7.le
      exact ⟨b', 0, e, RowI.rowS' k b' 0 (b' + 1) mid hr (hS b' g1 (by omega)) (fun c g3 g4 => hS c (by omega) (by omega))⟩)⟩,
      RowI.rowS' r b (o + 2) mid hi h7 hb (fun c g3 g4 => hS c (by omega) g4)⟩
theorem RowI.rowS {S : Nat → Prop} {w : World} {h : Hg} {b o lo hi : Nat} (hr : RowI w h b o lo hi) (hb : S b) (hS : ∀ c, lo ≤ c → c < hi → S c) : RowS S w h b o := RowI.rowS' h b o lo hi hr hb hS
theorem IsHI.isHS {S : Nat → Prop} {w : World} {v : Value} {h : Hg} {lo hi : Nat} (hv : IsHI w v h lo hi) (hS : ∀ c, lo ≤ c → c < hi → S c) : IsHS S w v h := by
  obtain ⟨p, c, e, h4, h5, h6⟩ := hv
  refine ⟨p, c, e, h4, h5, fun hk => ?_⟩
  obtain ⟨b', e, g1, g2, gu, hr⟩ := h6 hk
  exact ⟨b', 0, e, hr.rowS (hS b' g1 g2) (fun c g3 g4 => hS c (by omega) g4)⟩
theorem IsTI.isT {w : World} {v : Value} {t : Int × Hg} {lo hi : Nat} (hv : IsTI w v t lo hi) : IsT w v t := by
  obtain ⟨vk, e, h1, h2⟩ := hv
  exact ⟨vk, e, h1, (h2.isHS (S := fun _ => True) (fun _ _ _ => trivial)).isH⟩

theorem RowI.frame' {w w' : World} : ∀ (h : Hg) (b o lo hi : Nat), RowI w h b o lo hi → (∀ j, o ≤ j → w'.cell? ⟨b, j, none⟩ = w.cell? ⟨b, j, none⟩) → (∀ c, lo ≤ c → c < hi → w'.heap[c]? = w.heap[c]?) → RowI w' h b o lo hi
  | .nil, _, _, _, _, h, _, _ => h
  | .cons l k r, b, o, lo, hi, ⟨h1, h2, mid, hm, ⟨p, c, h3, h4, h5, h6⟩, h7⟩, hb, hS =>
    ⟨(hb o (Nat.le_refl _)).trans h1, h2, mid, hm, ⟨p, c, (hb (o + 1) (by omega)).trans h3, h4, h5, fun hk => (by
      obtain ⟨b', e, g1, g2, gu, hr⟩ := h6 hk
      have hle := h7.le
      exact ⟨b', e, g1, g2, gu.heap (hS b' g1 (by omega)), RowI.frame' k b' 0 (b' + 1) mid hr (fun j _ => World.cell?_of_block (hS b' g1 (by omega))) (fun c g3 g4 => hS c (by omega) (by omega))⟩)⟩,
      RowI.frame' r b (o + 2) mid hi h7 (fun j hj => hb j (by omega)) (fun c g3 g4 => hS c (by omega) g4)⟩
theorem RowI.frame {w w' : World} {h : Hg} {b o lo hi : Nat} (hr : RowI w h b o lo hi) (hb : ∀ j, o ≤ j → w'.cell? ⟨b, j, none⟩ = w.cell? ⟨b, j, none⟩) (hS : ∀ c, lo ≤ c → c < hi → w'.heap[c]? = w.heap[c]?) : RowI w' h b o lo hi :=
  RowI.frame' h b o lo hi hr hb hS
theorem IsHI.frame {w w' : World} {v : Value} {h : Hg} {lo hi : Nat} (hv : IsHI w v h lo hi) (hS : ∀ c, lo ≤ c → c < hi → w'.heap[c]? = w.heap[c]?) : IsHI w' v h lo hi := by
  obtain ⟨p, c, e, h4, h5, h6⟩ := hv
  refine ⟨p, c, e, h4, h5, fun hk => ?_⟩
  obtain ⟨b', e, g1, g2, gu, hr⟩ := h6 hk
  exact ⟨b', e, g1, g2, gu.heap (hS b' g1 g2), hr.frame (fun j _ => World.cell?_of_block (hS b' g1 g2)) (fun c g3 g4 => hS c (by omega) g4)⟩
theorem RowI.widen' {w : World} : ∀ (h : Hg) (b o lo hi hi' : Nat), RowI w h b o lo hi → hi ≤ hi' → RowI w h b o lo hi'
  | .nil, _, _, _, _, _, h, hh => Nat.le_trans h hh
  | .cons _ _ r, b, o, _, hi, hi', ⟨h1, h2, mid, hm, h3, h7⟩, hh => ⟨h1, h2, mid, hm, h3, RowI.widen' r b (o + 2) mid hi hi' h7 hh⟩
theorem RowI.widen {w : World} {h : Hg} {b o lo hi hi' : Nat} (hr : RowI w h b o lo hi) (hh : hi ≤ hi') : RowI w h b o lo hi' := RowI.widen' h b o lo hi hi' hr hh
theorem IsHI.widen {w : World} {v : Value} {h : Hg} {lo hi lo' hi' : Nat} (hv : IsHI w v h lo hi) (hl : lo' ≤ lo) (hh : hi ≤ hi') : IsHI w v h lo' hi' := by
  obtain ⟨p, c, e, h4, h5, h6⟩ := hv
  refine ⟨p, c, e, h4, h5, fun hk => ?_⟩
  obtain ⟨b', e, g1, g2, gu, hr⟩ := h6 hk
  exact ⟨b', e, by omega, by omega, gu, hr.widen hh⟩

/-- A list of nodes under way, its kids one behind the other. -/
def DInI (w : World) : DL → Nat → Nat → Prop
  | [], lo, hi => lo ≤ hi
  | x :: D, lo, hi => (Lit.int .i64 x.1).wf = true ∧ ∃ mid, lo ≤ mid ∧ IsHI w x.2.2 x.2.1 lo mid ∧ DInI w D mid hi
theorem DInI.le {w : World} : ∀ {D : DL} {lo hi : Nat}, DInI w D lo hi → lo ≤ hi
  | [], _, _, h => h
  | _ :: _, _, _, ⟨_, _, hm, _, h⟩ => Nat.le_trans hm h.le
theorem DInI.frame {w w' : World} : ∀ {D : DL} {lo hi : Nat}, DInI w D lo hi → (∀ c, lo ≤ c → c < hi → w'.heap[c]? = w.heap[c]?) → DInI w' D lo hi
  | [], _, _, h, _ => h
  | _ :: _, _, _, ⟨h1, mid, hm, h2, h⟩, hS => by
    have hle := h.le
    exact ⟨h1, mid, hm, h2.frame (fun c g1 g2 => hS c g1 (by omega)), h.frame (fun c g1 g2 => hS c (by omega) g2)⟩
theorem DInI.snoc {w : World} : ∀ {D : DL} {lo mid hi : Nat} {x : Int × Hg × Value}, DInI w D lo mid → mid ≤ hi → (Lit.int .i64 x.1).wf = true → IsHI w x.2.2 x.2.1 mid hi → DInI w (D ++ [x]) lo hi
  | [], lo, mid, hi, x, h, hm, h1, h2 => ⟨h1, hi, by have : lo ≤ mid := h; omega, h2.widen h (Nat.le_refl _), Nat.le_refl _⟩
  | _ :: _, _, _, _, _, ⟨g1, m, gm, g2, g⟩, hm, h1, h2 => ⟨g1, m, gm, g2, g.snoc hm h1 h2⟩
theorem DInI.row {w : World} {g : Nat} : ∀ (D : DL) (o lo hi : Nat), DInI w D lo hi → (∀ i u, (dcells D)[i]? = some u → w.cell? ⟨g, o + i, none⟩ = some u) → RowI w (dapp D .nil) g o lo hi
  | [], _, _, _, h, _ => h
  | (l, K, kv) :: D, o, lo, hi, ⟨h1, mid, hm, h2, h⟩, hc => by
    rw [dapp, RowI.cons_iff]
    refine ⟨?_, h1, mid, hm, ⟨kv, ?_, h2⟩, ?_⟩
    · simpa using hc 0 (.int .i64 l) (by simp [dcells])
    · exact hc 1 kv (by simp [dcells])
    · refine DInI.row D (o + 2) mid hi h (fun i u hu => ?_)
      have := hc (2 + i) u (by simpa [dcells, List.getElem?_cons, Nat.add_comm 2 i] using hu)
      rw [show o + 2 + i = o + (2 + i) by omega]; exact this

/-- A node at an address. -/
def PTI (w : World) (b o : Nat) (t : Int × Hg) (lo hi : Nat) : Prop := w.cell? ⟨b, o, none⟩ = some (.int .i64 t.1) ∧ (Lit.int .i64 t.1).wf = true ∧ ∃ v, w.cell? ⟨b, o + 1, none⟩ = some v ∧ IsHI w v t.2 lo hi
def PTS (S : Nat → Prop) (w : World) (b o : Nat) (t : Int × Hg) : Prop := w.cell? ⟨b, o, none⟩ = some (.int .i64 t.1) ∧ (Lit.int .i64 t.1).wf = true ∧ ∃ v, w.cell? ⟨b, o + 1, none⟩ = some v ∧ IsHS S w v t.2
def PT (w : World) (b o : Nat) (t : Int × Hg) : Prop := w.cell? ⟨b, o, none⟩ = some (.int .i64 t.1) ∧ (Lit.int .i64 t.1).wf = true ∧ ∃ v, w.cell? ⟨b, o + 1, none⟩ = some v ∧ IsH w v t.2
theorem PTI.pt {w : World} {b o lo hi : Nat} {t : Int × Hg} (h : PTI w b o t lo hi) : PT w b o t := by
  obtain ⟨h1, h2, v, h3, h4⟩ := h
  exact ⟨h1, h2, v, h3, (h4.isHS (S := fun _ => True) (fun _ _ _ => trivial)).isH⟩
theorem PT.below {w w' : World} {b o : Nat} {t : Int × Hg} (h : PT w b o t) (hb : Below w.heap.size w w') : PT w' b o t := by
  obtain ⟨h1, h2, v, h3, h4⟩ := h
  exact ⟨cell_later hb h1, h2, v, cell_later hb h3, h4.below hb⟩
/-- The address that a position leads to. -/
def Reach (w : World) : List Int → Nat → Nat → Nat → Nat → Prop
  | [], b, o, b', o' => b' = b ∧ o' = o
  | i :: ps, b, o, b', o' => ∃ p n c, w.cell? ⟨b, o + 1, none⟩ = some (.slice (some p) n c) ∧ Reach w ps p.block (p.off + i.toNat * 2) b' o'
theorem Reach.snoc {w : World} : ∀ {ps : List Int} {b o b' o' : Nat} {i : Int} {g q n c : Nat}, Reach w ps b o b' o' → w.cell? ⟨b', o' + 1, none⟩ = some (.slice (some ⟨g, q, none⟩) n c) → Reach w (ps ++ [i]) b o g (q + i.toNat * 2)
  | [], _, _, _, _, _, _, _, _, _, ⟨e1, e2⟩, hc => by subst e1; subst e2; exact ⟨_, _, _, hc, rfl, rfl⟩
  | _ :: _, _, _, _, _, _, _, _, _, _, ⟨p, n, c, h1, h2⟩, hc => ⟨p, n, c, h1, h2.snoc hc⟩

theorem row_nth {w : World} : ∀ (K : Hg) (i : Nat) (k : Int × Hg) (b o lo hi : Nat), RowI w K b o lo hi → K.nth i = some k → ¬ (lo ≤ b ∧ b < hi) →
    ∃ l h, lo ≤ l ∧ h ≤ hi ∧ PTI w b (o + i * 2) k l h ∧
      ∀ (w2 : World) (S : Nat → Prop) (k' : Int × Hg), (∀ j, j ≠ o + i * 2 → j ≠ o + i * 2 + 1 → w2.cell? ⟨b, j, none⟩ = w.cell? ⟨b, j, none⟩) → (∀ c, lo ≤ c → c < hi → ¬ (l ≤ c ∧ c < h) → w2.heap[c]? = w.heap[c]?) →
        S b → (∀ c, lo ≤ c → c < hi → S c) → PTS S w2 b (o + i * 2) k' → RowS S w2 (K.upd i k') b o
  | .nil, _, _, _, _, _, _, _, e, _ => by cases e
  | .cons l k r, 0, x, b, o, lo, hi, hr, e, hn => by
    rw [RowI.cons_iff] at hr
    obtain ⟨h1, h2, mid, hm, ⟨v, h3, h4⟩, h5⟩ := hr
    simp only [Hg.nth, Option.some.injEq] at e
    subst e
    have hle := h5.le
    refine ⟨lo, mid, Nat.le_refl _, hle, ⟨by simpa using h1, h2, v, by simpa using h3, h4⟩, fun w2 S k' hc hh hb hS hp => ?_⟩
    obtain ⟨q1, q2, v', q3, q4⟩ := hp
    rw [Hg.upd, RowS.cons_iff]
    refine ⟨hb, by simpa using q1, q2, ⟨v', by simpa using q3, q4⟩, ?_⟩
    exact (h5.frame (fun j hj => hc j (by omega) (by omega)) (fun c g1 g2 => hh c (by omega) g2 (by omega))).rowS hb (fun c g1 g2 => hS c (by omega) g2)
  | .cons l k r, i + 1, x, b, o, lo, hi, hr, e, hn => by
    rw [RowI.cons_iff] at hr
    obtain ⟨h1, h2, mid, hm, ⟨v, h3, h4⟩, h5⟩ := hr
    have hle := h5.le
    obtain ⟨l', h', g1, g2, g3, g4⟩ := row_nth r i x b (o + 2) mid hi h5 e (by omega)
    have ei : o + (i + 1) * 2 = o + 2 + i * 2 := by omega
    rw [ei]
    refine ⟨l', h', by omega, g2, g3, fun w2 S k' hc hh hb hS hp => ?_⟩
    rw [Hg.upd, RowS.cons_iff]
    refine ⟨hb, (hc o (by omega) (by omega)).trans h1, h2, ⟨v, (hc (o + 1) (by omega) (by omega)).trans h3, ?_⟩, ?_⟩
    · exact (h4.frame (fun c q1 q2 => hh c q1 (by omega) (by omega))).isHS (fun c q1 q2 => hS c q1 (by omega))
    · exact g4 w2 S k' hc (fun c q1 q2 => hh c (by omega) q2) hb (fun c q1 q2 => hS c (by omega) q2) hp

theorem put_mem {w w2 : World} {vx : Value} {x : Int × Hg} {T : Nat → Prop} (hx0 : (Lit.int .i64 x.1).wf = true) (hx3 : IsHS T w2 vx x.2) : ∀ (ps : List Int) (t y : Int × Hg) (b o lo hi b' o' : Nat), PTI w b o t lo hi → ¬ (lo ≤ b ∧ b < hi) → hi ≤ w.heap.size → getT ps t = some y → Reach w ps b o b' o' →
    w2.cell? ⟨b', o', none⟩ = some (.int .i64 x.1) → w2.cell? ⟨b', o' + 1, none⟩ = some vx → (∀ j, j ≠ o' → j ≠ o' + 1 → w2.cell? ⟨b', j, none⟩ = w.cell? ⟨b', j, none⟩) → (∀ c, c ≠ b' → c < w.heap.size → w2.heap[c]? = w.heap[c]?) →
    PTS (fun c => (lo ≤ c ∧ c < hi) ∨ T c) w2 b o (putT ps t x) ∧ ((b' = b ∧ o' = o) ∨ (lo ≤ b' ∧ b' < hi))
  | [], t, y, b, o, lo, hi, b', o', hp, hn, _, hg, ⟨e1, e2⟩, c1, c2, _, _ => by
    subst e1; subst e2
    exact ⟨⟨c1, hx0, vx, c2, hx3.mono (fun c _ h => .inr h)⟩, .inl ⟨rfl, rfl⟩⟩
  | i :: ps, t, y, b, o, lo, hi, b', o', hp, hn, hz, hg, hr, c1, c2, hc, hh => by
    obtain ⟨h1, h2, v, h3, h4⟩ := hp
    obtain ⟨hi0, k, e1, e2⟩ := getT_step hg
    obtain ⟨p, n, c, q1, q2⟩ := hr
    have hlt := Hg.nth_lt e1
    obtain ⟨p', c', rfl, g1, g2, g3⟩ := h4
    rw [h3, Option.some.injEq, Value.slice.injEq] at q1
    obtain ⟨rfl, rfl, rfl⟩ := q1
    obtain ⟨bk, e3, g4, g5, gu, g6⟩ := g3 (fun h => by rw [h] at hlt; simp [Hg.len] at hlt)
    simp only [Option.some.injEq] at e3
    subst e3
    obtain ⟨l, h, r1, r2, r3, r4⟩ := row_nth t.2 i.toNat k bk 0 (bk + 1) hi g6 e1 (by omega)
    obtain ⟨s1, s2⟩ := put_mem hx0 hx3 ps k y bk (0 + i.toNat * 2) l h b' o' r3 (by omega) (by omega) e2 q2 c1 c2 hc hh
    have hb'lo : lo ≤ b' ∧ b' < hi := by rcases s2 with ⟨rfl, _⟩ | h <;> omega
    have hbb : b ≠ b' := fun e => hn (e ▸ hb'lo)
    have hbl : b < w.heap.size := World.block_lt_of_cell? _ _ h1
    refine ⟨?_, .inr hb'lo⟩
    simp only [putT, e1]
    refine ⟨(World.cell?_of_block (hh b hbb hbl)).trans h1, h2, _, (World.cell?_of_block (hh b hbb hbl)).trans h3, some ⟨bk, 0, none⟩, c', by rw [Hg.upd_len], by rw [Hg.upd_len]; exact g1, g2, fun _ => ⟨bk, 0, rfl, ?_⟩⟩
    refine r4 w2 _ _ (fun j j1 j2 => ?_) (fun c d1 d2 d3 => ?_) (.inl ⟨g4, g5⟩) (fun c d1 d2 => .inl ⟨by omega, d2⟩) ?_
    · by_cases e : bk = b'
      · subst e
        rcases s2 with ⟨_, e⟩ | h
        · subst e; exact hc j j1 j2
        · omega
      · exact World.cell?_of_block (hh bk e (by omega))
    · exact hh c (by rcases s2 with ⟨rfl, _⟩ | h <;> omega) (by omega)
    · obtain ⟨t1, t2, v', t3, t4⟩ := s1
      exact ⟨t1, t2, v', t3, t4.mono (fun c _ h => h.imp (fun g => ⟨by omega, by omega⟩) id)⟩

theorem reach_unfz {w : World} : ∀ (ps : List Int) (t y : Int × Hg) (b o lo hi b' o' : Nat), PTI w b o t lo hi → ¬ (lo ≤ b ∧ b < hi) → Unfz w b → getT ps t = some y → Reach w ps b o b' o' → Unfz w b'
  | [], _, _, b, _, _, _, _, _, _, _, hu, _, ⟨e1, _⟩ => by subst e1; exact hu
  | i :: ps, t, y, b, o, lo, hi, b', o', hp, hn, hu, hg, hr => by
    obtain ⟨h1, h2, v, h3, h4⟩ := hp
    obtain ⟨hi0, k, e1, e2⟩ := getT_step hg
    obtain ⟨p, n, c, q1, q2⟩ := hr
    have hlt := Hg.nth_lt e1
    obtain ⟨p', c', rfl, g1, g2, g3⟩ := h4
    rw [h3, Option.some.injEq, Value.slice.injEq] at q1
    obtain ⟨rfl, rfl, rfl⟩ := q1
    obtain ⟨bk, e3, g4, g5, gu, g6⟩ := g3 (fun h => by rw [h] at hlt; simp [Hg.len] at hlt)
    simp only [Option.some.injEq] at e3
    subst e3
    obtain ⟨l, h, r1, r2, r3, _⟩ := row_nth t.2 i.toNat k bk 0 (bk + 1) hi g6 e1 (by omega)
    exact reach_unfz ps k y bk (0 + i.toNat * 2) l h b' o' r3 (by omega) gu e2 q2

end Go.Proofs.YthhliogcafmnfaaDoor
