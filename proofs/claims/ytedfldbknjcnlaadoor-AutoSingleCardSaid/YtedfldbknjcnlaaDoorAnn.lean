/- auto.annotate. -/
import Derived.Test.YtedfldbknjcnlaaDoorFG7
import Derived.Test.YtedfldbknjcnlaaDoorFG4
import Derived.Test.YtedfldbknjcnlaaDoorFG9
import Derived.Test.YtedfldbknjcnlaaDoorIns
namespace Go.Proofs.YtedfldbknjcnlaaDoor
open Go.RowKit Go.Shelf

/-- Symbols of the alphabet, and ranks up to three. -/
def OkS (n : Nat) : Hg → Prop
  | .nil => True
  | .cons l k r => (∃ s : Nat, l = (s : Int) ∧ s < n) ∧ k.len ≤ 3 ∧ OkS n k ∧ OkS n r

structure NK where
  s : Int
  W : Nat → Nat
  v : Value
def NK.cells (x : NK) : List Value := [.int .i64 x.s, .int .u64 (x.W 0 : Nat), .int .u64 (x.W 1 : Nat), .int .u64 (x.W 2 : Nat), .int .u64 (x.W 3 : Nat), .int .u64 (x.W 4 : Nat), x.v]
def nkCells : List NK → List Value
  | [] => []
  | x :: l => x.cells ++ nkCells l
theorem nkCells_len (l : List NK) : (nkCells l).length = l.length * 7 := by
  induction l with
  | nil => rfl
  | cons x l ih => rw [nkCells, List.length_append, ih, List.length_cons]; simp [NK.cells]; omega
theorem nkCells_app (l : List NK) (x : NK) : nkCells (l ++ [x]) = nkCells l ++ x.cells := by
  induction l with
  | nil => simp [nkCells]
  | cons y l ih => rw [List.cons_append, nkCells, ih, nkCells, List.append_assoc]
theorem nkCells_at : ∀ (l : List NK) (i : Nat) (x : NK) (j : Nat) (u : Value), l[i]? = some x → x.cells[j]? = some u → (nkCells l)[i * 7 + j]? = some u
  | [], i, x, j, u, h, _ => by simp at h
  | y :: l, 0, x, j, u, h, hu => by
    simp at h; subst h
    rw [nkCells, List.getElem?_append_left (by have := (List.getElem?_eq_some_iff.1 hu).1; omega)]
    simpa using hu
  | y :: l, i + 1, x, j, u, h, hu => by
    have ih := nkCells_at l i x j u (by simpa using h) hu
    rw [nkCells, List.getElem?_append_right (by simp [NK.cells]; omega)]
    rw [show (i + 1) * 7 + j - y.cells.length = i * 7 + j by simp [NK.cells]; omega]
    exact ih

/-- A store into a row of one's own. -/
theorem own_set {W : World} {B g n c i size : Nat} {e : TypeId} {xs : List Value} (h : W.ownsRow B e size (.slice (some ⟨g, 0, none⟩) n c) n xs) (u : Value) : (W.setCell ⟨g, i, none⟩ u).ownsRow B e size (.slice (some ⟨g, 0, none⟩) n c) n (xs.set i u) := by
  refine ⟨by rw [List.length_set]; exact h.1, ?_⟩
  rcases h.2 with ⟨e2, _⟩ | ⟨g', cap, cur, e2, hb, hg, h1, h2, h3, h4⟩
  · cases e2
  · simp only [Value.slice.injEq, Option.some.injEq, Addr.mk.injEq] at e2
    obtain ⟨⟨rfl, _⟩, _, rfl⟩ := e2
    have hx : Blk W g e cur := hg
    refine .inr ⟨g, c, cur.setIfInBounds i u, rfl, hb, hx.set_ i u, h1, h2, by simpa using h3, ?_⟩
    rw [← h4, Array.toList_setIfInBounds, List.take_set]
theorem own_at {W : World} {B g n c i size : Nat} {e : TypeId} {xs : List Value} {u : Value} (h : W.ownsRow B e size (.slice (some ⟨g, 0, none⟩) n c) n xs) (hu : xs[i]? = some u) : W.cell? ⟨g, i, none⟩ = some u ∧ W.frozen? ⟨g, i, none⟩ = false ∧ g < W.heap.size := by
  rcases h.2 with ⟨e2, _⟩ | ⟨g', cap, cur, e2, hb, hg, h1, h2, h3, h4⟩
  · cases e2
  · simp only [Value.slice.injEq, Option.some.injEq, Addr.mk.injEq] at e2
    obtain ⟨⟨rfl, _⟩, _, rfl⟩ := e2
    have hx : Blk W g e cur := hg
    refine ⟨?_, hx.frozen _, hx.lt⟩
    rw [hx.cell]
    rw [← h4] at hu
    have := (List.getElem?_eq_some_iff.1 hu).1
    rw [List.getElem?_take_of_lt (by simp at this; omega)] at hu
    simpa using hu
/-- What stands while a kid is added. -/
structure AS (w : World) (b : Nat) (kc tc : Array Value) (s : Int) (W : World) (u vv : Value) (m : Nat) (xs : List Value) : Prop where
  kb : Blk W b 43 kc
  tb : Blk W w.heap.size 43 tc
  rb : Blk W (w.heap.size + 1) 82 #[.int .i64 0, .int .u64 0, .int .u64 0, .int .u64 0, .int .u64 0, .int .u64 0, .slice none 0 0]
  nb : Blk W (w.heap.size + 1 + 1) 82 #[.int .i64 s, .int .u64 0, .int .u64 0, .int .u64 0, .int .u64 0, .int .u64 0, u]
  own : W.ownsRow (w.heap.size + 1 + 1 + 1) 82 7 vv m xs
  bel : Below w.heap.size w W
section
variable {w : World} {b : Nat} {kc tc : Array Value} {s : Int} {W W' : World} {u vv v' : Value} {m m' : Nat} {xs xs' : List Value}
theorem AS.below (h : AS w b kc tc s W u vv m xs) (hb : Below W.heap.size W W') : AS w b kc tc s W' u vv m xs :=
  ⟨h.kb.below hb h.kb.lt, h.tb.below hb h.tb.lt, h.rb.below hb h.rb.lt, h.nb.below hb h.nb.lt, ownsRow_kp h.own (Kp.of_below hb (fun k hk _ => hk) : Kp (fun _ => True) W W') (fun _ _ => trivial), h.bel.trans (hb.mono h.bel.size)⟩
theorem AS.app (h : AS w b kc tc s W u vv m xs) (hg : W.grownBy W' vv.ownBlock) (ho : W'.ownsRow (w.heap.size + 1 + 1 + 1) 82 7 v' m' xs') : AS w b kc tc s W' u v' m' xs' := by
  have hk : Kp (fun c => vv.ownBlock ≠ some c) W W' := (Kp.refl _ _).grown hg (fun k e hs => absurd e hs)
  have hlo : ∀ c, c < w.heap.size + 1 + 1 + 1 → vv.ownBlock ≠ some c := fun c hc e => by
    obtain ⟨cur, _, h2⟩ := own_cells h.own e
    omega
  refine ⟨h.kb.kp hk (fun e => ?_), h.tb.kp hk (hlo _ (by omega)), h.rb.kp hk (hlo _ (by omega)), h.nb.kp hk (hlo _ (by omega)), ho, h.bel.trans (hk.below h.bel.size (fun c hc => hlo c (by omega)))⟩
  obtain ⟨cur, hc, _⟩ := own_cells h.own e
  exact hc.ne_ h.kb (by decide) rfl
theorem AS.cell {g c : Nat} (h : AS w b kc tc s W u (.slice (some ⟨g, 0, none⟩) m c) m xs) (i : Nat) (x : Value) : AS w b kc tc s (W.setCell ⟨g, i, none⟩ x) u (.slice (some ⟨g, 0, none⟩) m c) m (xs.set i x) := by
  obtain ⟨cur, hc, hg⟩ := own_cells h.own (b := g) rfl
  exact ⟨h.kb.far (fun e => hc.ne_ h.kb (by decide) e.symm) _, h.tb.far (by simp only; omega) _, h.rb.far (by simp only; omega) _, h.nb.far (by simp only; omega) _, own_set h.own x, h.bel.setCell (p := ⟨g, i, none⟩) (by simp only; omega) _⟩
theorem AS.store (h : AS w b kc tc s W u vv m xs) (x : Value) : AS w b kc tc s (W.setCell ⟨w.heap.size + 1 + 1, 6, none⟩ x) x vv m xs := by
  refine ⟨h.kb.far (h.kb.ne_ h.nb (by decide)) _, h.tb.far (by simp only; omega) _, h.rb.far (by simp only; omega) _, h.nb.set_ 6 x, ownsRow_kp h.own ((Kp.refl (fun c => c ≠ w.heap.size + 1 + 1) W).setCell (p := ⟨w.heap.size + 1 + 1, 6, none⟩) (fun h => absurd rfl h) x) (fun b hb => ?_), h.bel.setCell (p := ⟨w.heap.size + 1 + 1, 6, none⟩) (by simp only; omega) _⟩
  obtain ⟨cur, _, h2⟩ := own_cells h.own hb
  omega
theorem own_slice2 {w : World} {B : Nat} {e : TypeId} {size n : Nat} {v : Value} {xs : List Value} (h : w.ownsRow B e size v n xs) : ∃ a c, v = .slice a n c := by
  rcases h.2 with ⟨e2, e3⟩ | ⟨g, cap, cur, e2, _⟩
  · exact ⟨none, 0, by rw [e2, e3]⟩
  · exact ⟨_, _, e2⟩
theorem new_list {W : World} {g : Nat} {t : TypeId} {l : List Value} (hb : Blk W g t l.toArray) : ∀ j x, l[j]? = some x → W.cell? ((⟨g, 0, none⟩ : Addr).add j) = some x := fun j x hx => by
  rw [show ((⟨g, 0, none⟩ : Addr).add j) = ⟨g, j, none⟩ by unfold Addr.add; split <;> simp_all, hb.cell]
  simpa using hx
theorem own_form {W : World} {B m : Nat} {e : TypeId} {size : Nat} {v : Value} {xs : List Value} (h : W.ownsRow B e size v (m + 1) xs) : ∃ g c, v = .slice (some ⟨g, 0, none⟩) (m + 1) c := by
  rcases h.2 with ⟨_, e2⟩ | ⟨g, cap, cur, e2, _⟩
  · omega
  · exact ⟨_, _, e2⟩
theorem set7 (L : List Value) (a0 a1 a2 a3 a4 a5 a6 z0 z1 z2 z3 z4 z5 z6 : Value) (n : Nat) (hn : L.length = n) :
    (((((((L ++ [z0, z1, z2, z3, z4, z5, z6]).set n a0).set (n + 1) a1).set (n + 2) a2).set (n + 3) a3).set (n + 4) a4).set (n + 5) a5).set (n + 6) a6 = L ++ [a0, a1, a2, a3, a4, a5, a6] := by
  subst hn
  simp [List.set_append]
end

theorem Tab.rule {R : List Ru} {B T G M n : Nat} {w : World} {GL : List GB} {rows : List Value} {f : Lit → Option Value} (h : Tab B (ksOf R) T G M n w GL rows f) (hr : ∀ r ∈ R, RuV n r) (hn : n ≤ 1000) {y : GB} (hy : y ∈ GL) : (0 ≤ y.a ∧ y.a < 300) ∧ (0 ≤ y.b ∧ y.b < 300) ∧ (0 ≤ y.c ∧ y.c < 300) := by
  obtain ⟨D, _, _, h3⟩ := h.mp
  have hk := (h3 _ _ (h.fs y hy)).2.1
  unfold ksOf at hk
  obtain ⟨r, hrm, he⟩ := List.mem_map.1 hk
  obtain ⟨⟨s, hs1, hs2⟩, _, _, hfr⟩ := hr r hrm
  have hgd : ∀ i, 0 ≤ r.fr.getD i 0 ∧ r.fr.getD i 0 < 300 := fun i => by
    rw [List.getD_eq_getElem?_getD]
    cases h : r.fr[i]? with
    | none => simp
    | some x => exact hfr x (List.mem_of_getElem? h)
  obtain ⟨a1, a2, a3, a4⟩ := (h.gb y hy).2.2.2
  have hw : ∀ i, (Lit.int .i64 (r.fr.getD i 0)).wf = true := fun i => wf_small (hgd i).1 (by have := (hgd i).2; omega)
  obtain ⟨e1, e2, e3, e4⟩ := kl_inj (wf_small (by rw [hs1]; omega) (by rw [hs1]; omega)) (hw 0) (hw 1) (hw 2) a1 a2 a3 a4 he
  rw [← e2, ← e3, ← e4]
  exact ⟨hgd 0, hgd 1, hgd 2⟩
theorem isKs_of_own {W : World} {B : Nat} {v : Value} {D : List NK} (h : W.ownsRow B 82 7 v D.length (nkCells D)) (hW : ∀ x ∈ D, W64 x.W) : IsKs W v (D.map NK.W) := by
  have h0 := h
  rcases h.2 with ⟨e2, e3⟩ | ⟨g, cap, cur, e2, _, _, h1, h2, _, _⟩
  · have : D = [] := List.eq_nil_of_length_eq_zero e3
    subst this
    exact ⟨none, 0, e2, Nat.le_refl _, by decide, fun h => absurd rfl h⟩
  · subst e2
    refine ⟨some ⟨g, 0, none⟩, cap, by rw [List.length_map], by rw [List.length_map]; exact h1, h2, fun _ => ⟨g, 0, rfl, fun i V hi => ?_⟩⟩
    rw [List.getElem?_map, Option.map_eq_some_iff] at hi
    obtain ⟨x, hx, rfl⟩ := hi
    refine ⟨fun j hj => ?_, hW x (List.mem_of_getElem? hx)⟩
    rw [show 0 + i * 7 + 1 + j = i * 7 + (1 + j) by omega]
    refine (own_at h0 (nkCells_at D i x (1 + j) _ hx ?_)).1
    have : j = 0 ∨ j = 1 ∨ j = 2 ∨ j = 3 ∨ j = 4 := by omega
    rcases this with rfl | rfl | rfl | rfl | rfl <;> rfl

theorem uniG_app (KS : List (Nat → Nat)) (y : GB) : ∀ (l : List GB) (W : Nat → Nat), uniG KS (l ++ [y]) W = if admB KS [y.a.toNat, y.b.toNat, y.c.toNat] = true then uniW (uniG KS l W) y.W else uniG KS l W
  | [], W => rfl
  | x :: l, W => by rw [List.cons_append, uniG, uniG_app KS y l, uniG]

theorem Tryd.infoNode : (Tryd.prog.info? 82).map (fun i => (i.zero, i.size, i.bytes)) = some (some (.agg #[.int .i64 0, .int .u64 0, .int .u64 0, .int .u64 0, .int .u64 0, .int .u64 0, .slice none 0 0]), 7, 72) := by kernel_rfl

set_option maxRecDepth 100000 in
set_option maxHeartbeats 4000000 in
theorem annotate_ok (A : Au) {B : Nat} {T G M n : Nat} {GL : List GB} {rows : List Value} {f : Lit → Option Value} (hM : Means A.ru GL) (hr : ∀ r ∈ A.ru, RuV n r) (hn : n ≤ 1000) (hgl : GL.length ≤ 20000) : ∀ (N : Nat) (s : Nat) (K : Hg) (vk : Value) (w : World), K.size < N → K.size ≤ 2000 → Tab B (ksOf A.ru) T G M n w GL rows f → IsH w vk K → s < n → K.len ≤ 3 → OkS n K →
    (∀ x ∈ A.ru, x.sym = (s : Int) → K.len ≤ x.fr.length) → OkH A.ru K →
    Calls Tryd.prog 63 #[.pointer (some ⟨T, 0, none⟩), .agg #[.int .i64 (s : Int), vk]] w fun e w' => (∃ W pk nk ck, e = .returned (nodeV (s : Int) W (.slice pk nk ck)) ∧ W64 W ∧ ∀ q : Nat, mem W q = true ↔ (q : Int) ∈ stepL A.ru (s : Int) (ofL A.ru K) []) ∧ Below w.heap.size w w' := by
  intro N
  induction N with
  | zero => intro s K vk w h; omega
  | succ N ih =>
    intro s K vk w hN h2000 hT hK hs hk3 hos hfit hok
    obtain ⟨i0, hi, hz0, hz1, hz2⟩ := info_parts Tryd.infoNode
    have HS7 : Hid ((Tryd.prog.info? 82).map (·.size) = some 7) := Lib.hid (by kernel_rfl)
    have HIH := Lib.hid ih
    have HI := Lib.hid hi
    have HT := Lib.hid hT
    have HM := Lib.hid hM
    have HRV := Lib.hid hr
    have HFIT := Lib.hid hfit
    have HK := Lib.hid hK
    obtain ⟨p, c, rfl, hc1, hc2, hrow⟩ := hK
    unfold maxLen at hc2
    have HROW := Lib.hid hrow
    have HOK0 := Lib.hid hok
    have HOS0 := Lib.hid hos
    have hb0 : Below w.heap.size w (((w.alloc (.cells #[.int .i64 (s : Int), .slice p K.len c] 43)).alloc (.cells #[.int .i64 0, .int .u64 0, .int .u64 0, .int .u64 0, .int .u64 0, .int .u64 0, .slice none 0 0] 82)).alloc (.cells #[.int .i64 (s : Int), .int .u64 0, .int .u64 0, .int .u64 0, .int .u64 0, .int .u64 0, .slice none 0 0] 82)) := (((Below.refl _ w).alloc (Nat.le_refl _) _).alloc (by simp) _).alloc (by simp; omega) _
    have HBX := Lib.hid hb0
    clear ih hi hT hM hr hfit hrow hok hos hb0
    go_enter Tryd.func63, Tryd.ntmps63
    go_wp2_with fail
    have hT0 := three_boxes w #[.int .i64 (s : Int), .slice p K.len c] #[.int .i64 0, .int .u64 0, .int .u64 0, .int .u64 0, .int .u64 0, .int .u64 0, .slice none 0 0] #[.int .i64 (s : Int), .int .u64 0, .int .u64 0, .int .u64 0, .int .u64 0, .int .u64 0, .slice none 0 0] 43 82 82 _ (Below.refl _ _)
    have HBT := Lib.hid hT0.1
    have HBR := Lib.hid hT0.2.1
    have HBN := Lib.hid hT0.2.2.1
    clear hT0
    go_loopw [16] (fun iv wr => ∃ (k : Nat) (R : Hg) (P : List (List Int)) (D : List NK) (v : Value), iv = .int .i64 (k : Nat) ∧ Hid (k + R.len = K.len) ∧ Hid (P ++ ofL A.ru R = ofL A.ru K) ∧ Hid (OkH A.ru R) ∧ Hid (OkS n R) ∧ Hid (R.size ≤ K.size) ∧ Hid (D.length = k) ∧ Hid (SetsOf (D.map NK.W) P) ∧ Hid (∀ x ∈ D, W64 x.W) ∧
        Hid (R ≠ .nil → ∃ b o, p = some ⟨b, o, none⟩ ∧ Row w R b (o + k * 2)) ∧ Hid (wr.ownsRow (w.heap.size + 1 + 1 + 1) 82 7 v D.length (nkCells D)) ∧ Hid (Below w.heap.size w wr) ∧ Hid (Blk wr w.heap.size 43 #[.int .i64 (s : Int), .slice p K.len c]) ∧
        Hid (Blk wr (w.heap.size + 1) 82 #[.int .i64 0, .int .u64 0, .int .u64 0, .int .u64 0, .int .u64 0, .int .u64 0, .slice none 0 0]) ∧ Hid (Blk wr (w.heap.size + 1 + 1) 82 #[.int .i64 (s : Int), .int .u64 0, .int .u64 0, .int .u64 0, .int .u64 0, .int .u64 0, v]))
      (fun iv _ => K.len - (intOf iv).toNat)
    case atStart => exact ⟨0, K, [], [], .slice none 0 0, rfl, Lib.hid (by simp), Lib.hid rfl, HOK0, HOS0, Lib.hid (Nat.le_refl _), Lib.hid rfl, Lib.hid trivial, Lib.hid (fun x hx => by cases hx), Lib.hid (by simpa using HROW.out), Lib.hid (World.ownsRow_nil _ _ _ _), HBX, HBT, HBR, HBN⟩
    case round =>
      rename World => wr
      obtain ⟨k, R, P, D, v, rfl, hk, HE, HOKR, HOSR, HSZ, HDL, HSO, HDW, hR, HO, HBr, HTr, HRr, HNr⟩ := hrel
      have hs2 := HNr.out.lt
      cases R with
      | nil =>
        have hge : K.len ≤ k := by have := hk.out; simp only [Hg.len] at this; omega
        obtain ⟨a0, k0, rfl⟩ := own_slice2 HO.out
        clear hR HROW
        have y0 : wr.cell? ⟨w.heap.size, 0, none⟩ = some (.int .i64 (s : Int)) := by rw [HTr.out.cell]; rfl
        have yl := HTr.out.lt
        go_wp2_with fail
        have HTr2 : Hid (Tab B (ksOf A.ru) T G M n wr GL rows f) := Lib.hid (HT.out.below HBr.out)
        obtain ⟨rv, hrv⟩ : ∃ rv, rows[s]? = some rv := ⟨_, List.getElem?_eq_getElem (by rw [HT.out.len]; exact hs)⟩
        refine (groups_ok HTr2.out s rv hrv hn).mono ?_
        rintro e w1 ⟨rfl, rfl⟩
        have HRW := Lib.hid (HTr2.out.row s rv hrv)
        obtain ⟨ga, gc, rfl⟩ := own_slice2 HRW.out
        have HP : Hid (P = ofL A.ru K) := Lib.hid (by have := HE.out; rwa [ofL, List.append_nil] at this)
        have hLl : (ptrs (rowsOf s GL)).length = (rowsOf s GL).length := by unfold ptrs; rw [List.length_map]
        have HLL := Lib.hid hLl
        rw [hLl]
        clear hLl hrv y0
        go_wp2_with fail
        have HKW : Hid (IsKs w1 (.slice a0 D.length k0) (D.map NK.W)) := Lib.hid (isKs_of_own HO.out HDW.out)
        have HNsc : Hid (Blk w1 (w.heap.size + 1 + 1) 82 (scs [.int .i64 (s : Int)] (fun _ => 0) [.slice a0 D.length k0])) := Lib.hid HNr.out
        have hrl : (rowsOf s GL).length ≤ 20000 := Nat.le_trans (List.length_filter_le _ _) hgl
        clear hs2 hge
        go_loopw [36] (fun iv wj => ∃ j : Nat, iv = .int .i64 (j : Nat) ∧ j ≤ (rowsOf s GL).length ∧ Hid (Blk wj (w.heap.size + 1 + 1) 82 (scs [.int .i64 (s : Int)] (uniG (D.map NK.W) ((rowsOf s GL).take j) (fun _ => 0)) [.slice a0 D.length k0])) ∧ Hid (Kp (fun c => c ≠ w.heap.size + 1 + 1) w1 wj)) (fun iv _ => (rowsOf s GL).length - (intOf iv).toNat)
        case atStart => exact ⟨0, rfl, by omega, HNsc, Lib.hid (Kp.refl _ _)⟩
        case round =>
          rename World => wj
          obtain ⟨j, rfl, hj, HNj, HKj⟩ := hrel
          have hxl := HNj.out.lt
          have x6 : wj.cell? ⟨w.heap.size + 1 + 1, 6, none⟩ = some (.slice a0 D.length k0) := by rw [HNj.out.cell]; rfl
          by_cases hjl : j < (rowsOf s GL).length
          · obtain ⟨y, hy⟩ : ∃ y, (rowsOf s GL)[j]? = some y := ⟨_, List.getElem?_eq_getElem hjl⟩
            have hym : y ∈ GL := (List.mem_filter.1 (List.mem_of_getElem? hy)).1
            have hgb := HT.out.gb y hym
            have hgl := hgb.1.lt
            have hgj : Blk wj y.blk 108 (scs y.pre y.W []) := (HTr2.out.gb y hym).1.kp HKj.out (by omega)
            obtain ⟨ra, rb, rc⟩ := HT.out.rule HRV.out hn hym
            have HTK : Hid ((rowsOf s GL).take (j + 1) = (rowsOf s GL).take j ++ [y]) := Lib.hid (by rw [List.take_add_one, hy]; rfl)
            have hrow := ownsRow_kp HRW.out HKj.out (fun c hc e => by
              obtain ⟨cur, h1, _⟩ := own_cells HRW.out hc
              exact h1.ne_ HNr.out (by decide) e)
            rcases hrow.2 with ⟨_, e3⟩ | ⟨gr, cap, cur, e2, _, _, _, _, _, _⟩
            · exact absurd e3 (by rw [HLL.out]; omega)
            · simp only [Value.slice.injEq] at e2
              obtain ⟨rfl, _, rfl⟩ := e2
              have pj := own_at (i := j) (u := y.ptr) hrow (by unfold ptrs; rw [List.getElem?_map, hy]; rfl)
              have p1 : wj.cell? ⟨gr, j, none⟩ = some (.pointer (some ⟨y.blk, 0, none⟩)) := pj.1
              have p2 := pj.2.2
              have hOj := ownsRow_kp HO.out HKj.out (fun c hc e => by
                obtain ⟨cur, _, h2⟩ := own_cells HO.out hc
                omega)
              have hkd : (D.map NK.W).length ≤ 3 := by rw [List.length_map]; have h1 := hk.out; have h2 := HDL.out; simp only [Hg.len] at h1; omega
              have HADM := Lib.hid (admits_ok wj (w.heap.size + 1 + 1) (.slice a0 D.length k0) (D.map NK.W) y.blk 0 [y.a.toNat, y.b.toNat, y.c.toNat] (fun _ => 0) rfl hkd (fun q hq => by
                simp only [List.mem_cons, List.not_mem_nil, or_false] at hq
                rcases hq with rfl | rfl | rfl <;> omega) x6 (isKs_of_own hOj HDW.out) (fun i q hq => by
                have hi : i < 3 := (List.getElem?_eq_some_iff.1 hq).1
                rw [hgj.cell]
                have : i = 0 ∨ i = 1 ∨ i = 2 := by omega
                rcases this with rfl | rfl | rfl
                · simp at hq; subst hq; rw [Int.toNat_of_nonneg ra.1]; rfl
                · simp at hq; subst hq; rw [Int.toNat_of_nonneg rb.1]; rfl
                · simp at hq; subst hq; rw [Int.toNat_of_nonneg rc.1]; rfl))
              have HGJ := Lib.hid hgj
              have HGB := Lib.hid hgb.2.1
              have hyne : y.blk ≠ w.heap.size + 1 + 1 := by omega
              have hyx : ¬ y.blk = w.heap.size + 1 + 1 := hyne
              have hji : (j : Int) < ((rowsOf s GL).length : Int) := by omega
              have HU64 : Hid (W64 (uniG (D.map NK.W) ((rowsOf s GL).take j) (fun _ => 0))) := Lib.hid (uniG_lt (fun _ => (by simp : (0 : Nat) < 18446744073709551616)) (fun x hx => (HT.out.gb x (List.mem_filter.1 (List.mem_of_mem_take hx)).1).2.1))
              have HUA := Lib.hid (uniG_app (D.map NK.W) y ((rowsOf s GL).take j) (fun _ => 0))
              clear hy hrow pj hOj hkd hgj hgb ra rb rc hym
              cases ha : admB (D.map NK.W) [y.a.toNat, y.b.toNat, y.c.toNat] with
              | true =>
                rw [ha] at HADM
                have HAT := Lib.hid ha
                clear ha
                go_wp2_with fail
                refine HADM.out.mono ?_
                rintro e w9 ⟨rfl, hb9⟩
                have HUN := Lib.hid (unite_ok w9 (w.heap.size + 1 + 1) 82 [.int .i64 (s : Int)] [.slice a0 D.length k0] (uniG (D.map NK.W) ((rowsOf s GL).take j) (fun _ => 0)) y.W y.blk 4 1 rfl (HNj.out.below hb9 HNj.out.lt) hyne (scs_setAt (HGJ.out.below hb9 HGJ.out.lt)) HU64.out HGB.out)
                have HB9 := Lib.hid hb9
                clear hb9
                go_wp2_with fail
                refine HUN.out.mono ?_
                rintro e w8 ⟨rfl, hn8, hk8⟩
                have HN8 : Hid (Blk w8 (w.heap.size + 1 + 1) 82 (scs [.int .i64 (s : Int)] (uniG (D.map NK.W) ((rowsOf s GL).take (j + 1)) (fun _ => 0)) [.slice a0 D.length k0])) := Lib.hid (by rw [HTK.out, HUA.out, if_pos HAT.out]; exact hn8)
                have HK8 : Hid (Kp (fun c => c ≠ w.heap.size + 1 + 1) w1 w8) := Lib.hid ((HKj.out.trans (Kp.of_below HB9.out (fun k hk _ => hk))).trans hk8)
                clear hn8 hk8
                go_wp2_with fail
                refine ⟨⟨j + 1, by go_num, by omega, HN8, HK8⟩, ?_⟩
                simp [intOf]; omega
              | false =>
                rw [ha] at HADM
                have HAF := Lib.hid ha
                clear ha
                go_wp2_with fail
                refine HADM.out.mono ?_
                rintro e w9 ⟨rfl, hb9⟩
                have HN9 : Hid (Blk w9 (w.heap.size + 1 + 1) 82 (scs [.int .i64 (s : Int)] (uniG (D.map NK.W) ((rowsOf s GL).take (j + 1)) (fun _ => 0)) [.slice a0 D.length k0])) := Lib.hid (by rw [HTK.out, HUA.out, if_neg (by rw [HAF.out]; decide)]; exact HNj.out.below hb9 HNj.out.lt)
                have HK9 : Hid (Kp (fun c => c ≠ w.heap.size + 1 + 1) w1 w9) := Lib.hid (HKj.out.trans (Kp.of_below hb9 (fun k hk _ => hk)))
                clear hb9
                go_wp2_with fail
                refine ⟨⟨j + 1, by go_num, by omega, HN9, HK9⟩, ?_⟩
                simp [intOf]; omega
          · have hge : (rowsOf s GL).length ≤ j := by omega
            have HTA : Hid ((rowsOf s GL).take j = rowsOf s GL) := Lib.hid (List.take_of_length_le hge)
            clear hjl x6
            rw [HTA.out] at HNj
            have HMEM : Hid (∀ q : Nat, mem (uniG (D.map NK.W) (rowsOf s GL) (fun _ => 0)) q = true ↔ (q : Int) ∈ stepL A.ru (s : Int) (ofL A.ru K) []) := Lib.hid (fun q => by
              rw [← HP.out]
              exact ann_mem HM.out HRV.out s HSO.out (fun r hr hs => by
                have h1 := HFIT.out r hr hs
                have h2 := HSO.out.len
                rw [List.length_map] at h2
                have h3 := hk.out
                have h4 := HDL.out
                simp only [Hg.len] at h3
                omega) q)
            have HU64 : Hid (W64 (uniG (D.map NK.W) (rowsOf s GL) (fun _ => 0))) := Lib.hid (uniG_lt (fun _ => (by simp : (0 : Nat) < 18446744073709551616)) (fun x hx => (HT.out.gb x (List.mem_filter.1 hx).1).2.1))
            generalize uniG (D.map NK.W) (rowsOf s GL) (fun _ => 0) = Wf at HNj HMEM HU64
            have HRj : Hid (Blk wj (w.heap.size + 1) 82 #[.int .i64 0, .int .u64 0, .int .u64 0, .int .u64 0, .int .u64 0, .int .u64 0, .slice none 0 0]) := Lib.hid (HRr.out.kp HKj.out (by omega))
            have x0 : wj.cell? ⟨w.heap.size + 1 + 1, 0, none⟩ = some (.int .i64 (s : Int)) := by rw [HNj.out.cell]; rfl
            have x1 : wj.cell? ⟨w.heap.size + 1 + 1, 1, none⟩ = some (.int .u64 (Wf 0 : Nat)) := by rw [HNj.out.cell]; rfl
            have x2 : wj.cell? ⟨w.heap.size + 1 + 1, 2, none⟩ = some (.int .u64 (Wf 1 : Nat)) := by rw [HNj.out.cell]; rfl
            have x3 : wj.cell? ⟨w.heap.size + 1 + 1, 3, none⟩ = some (.int .u64 (Wf 2 : Nat)) := by rw [HNj.out.cell]; rfl
            have x4 : wj.cell? ⟨w.heap.size + 1 + 1, 4, none⟩ = some (.int .u64 (Wf 3 : Nat)) := by rw [HNj.out.cell]; rfl
            have x5 : wj.cell? ⟨w.heap.size + 1 + 1, 5, none⟩ = some (.int .u64 (Wf 4 : Nat)) := by rw [HNj.out.cell]; rfl
            have x6 : wj.cell? ⟨w.heap.size + 1 + 1, 6, none⟩ = some (.slice a0 D.length k0) := by rw [HNj.out.cell]; rfl
            have c0 : wj.cell? ⟨w.heap.size + 1, 0, none⟩ = some (.int .i64 0) := by rw [HRj.out.cell]; rfl
            have f0 : wj.frozen? ⟨w.heap.size + 1, 0, none⟩ = false := HRj.out.frozen _
            have c1 : wj.cell? ⟨w.heap.size + 1, 1, none⟩ = some (.int .u64 0) := by rw [HRj.out.cell]; rfl
            have f1 : wj.frozen? ⟨w.heap.size + 1, 1, none⟩ = false := HRj.out.frozen _
            have c2 : wj.cell? ⟨w.heap.size + 1, 2, none⟩ = some (.int .u64 0) := by rw [HRj.out.cell]; rfl
            have f2 : wj.frozen? ⟨w.heap.size + 1, 2, none⟩ = false := HRj.out.frozen _
            have c3 : wj.cell? ⟨w.heap.size + 1, 3, none⟩ = some (.int .u64 0) := by rw [HRj.out.cell]; rfl
            have f3 : wj.frozen? ⟨w.heap.size + 1, 3, none⟩ = false := HRj.out.frozen _
            have c4 : wj.cell? ⟨w.heap.size + 1, 4, none⟩ = some (.int .u64 0) := by rw [HRj.out.cell]; rfl
            have f4 : wj.frozen? ⟨w.heap.size + 1, 4, none⟩ = false := HRj.out.frozen _
            have c5 : wj.cell? ⟨w.heap.size + 1, 5, none⟩ = some (.int .u64 0) := by rw [HRj.out.cell]; rfl
            have f5 : wj.frozen? ⟨w.heap.size + 1, 5, none⟩ = false := HRj.out.frozen _
            have c6 : wj.cell? ⟨w.heap.size + 1, 6, none⟩ = some (.slice none 0 0) := by rw [HRj.out.cell]; rfl
            have f6 : wj.frozen? ⟨w.heap.size + 1, 6, none⟩ = false := HRj.out.frozen _
            have HBj : Hid (Below w.heap.size w wj) := Lib.hid (HBr.out.trans (HKj.out.below HBr.out.size (fun c hc e => by omega)))
            have hrl2 := HRj.out.lt
            go_wp2_with fail
            refine bodyPost_ret (results_cell_row rfl _ _ (w.heap.size + 1) 82 #[.int .i64 (s : Int), .int .u64 (Wf 0 : Nat), .int .u64 (Wf 1 : Nat), .int .u64 (Wf 2 : Nat), .int .u64 (Wf 3 : Nat), .int .u64 (Wf 4 : Nat), .slice a0 D.length k0] (0, 0) _ rfl (by have h := (((((((HRj.out.set_ 0 (.int .i64 (s : Int))).set_ 1 (.int .u64 (Wf 0 : Nat))).set_ 2 (.int .u64 (Wf 1 : Nat))).set_ 3 (.int .u64 (Wf 2 : Nat))).set_ 4 (.int .u64 (Wf 3 : Nat))).set_ 5 (.int .u64 (Wf 4 : Nat))).set_ 6 (.slice a0 D.length k0)); exact h) Tryd.underlying82 rfl HS7.out) rfl ⟨⟨Wf, a0, D.length, k0, rfl, HU64.out, HMEM.out⟩, ?_⟩
            exact (((((((HBj.out.setCell (p := ⟨w.heap.size + 1, 0, none⟩) (Nat.le_succ _) _).setCell (p := ⟨w.heap.size + 1, 1, none⟩) (Nat.le_succ _) _).setCell (p := ⟨w.heap.size + 1, 2, none⟩) (Nat.le_succ _) _).setCell (p := ⟨w.heap.size + 1, 3, none⟩) (Nat.le_succ _) _).setCell (p := ⟨w.heap.size + 1, 4, none⟩) (Nat.le_succ _) _).setCell (p := ⟨w.heap.size + 1, 5, none⟩) (Nat.le_succ _) _).setCell (p := ⟨w.heap.size + 1, 6, none⟩) (Nat.le_succ _) _)
      | cons l2 K2 R2 =>
        obtain ⟨b, o, hp, hrw⟩ := hR.out (by simp)
        obtain ⟨r1, _, ⟨pk, ck, r2, hk1, hk2, hk3'⟩, r4⟩ := hrw
        have hlt : k < K.len := by have := hk.out; simp only [Hg.len] at this; omega
        have q0 : wr.cell? ⟨b, o + k * 2, none⟩ = some (.int .i64 l2) := cell_later HBr.out r1
        have q1 : wr.cell? ⟨b, o + k * 2 + 1, none⟩ = some (.slice pk K2.len ck) := cell_later HBr.out r2
        have HK2 : Hid (IsH w (.slice pk K2.len ck) K2) := Lib.hid ⟨pk, ck, rfl, hk1, hk2, hk3'⟩
        have HR2 : Hid (Row w R2 b (o + (k + 1) * 2)) := Lib.hid (by rw [show o + (k + 1) * 2 = o + k * 2 + 2 by omega]; exact r4)
        obtain ⟨⟨s2, rfl, hs2n⟩, hk23, hosk, hosr⟩ := HOSR.out
        have HFK := Lib.hid HOKR.out.1
        have HOK2 := Lib.hid HOKR.out.2.1
        have HOKR2 := Lib.hid HOKR.out.2.2
        have HOSK := Lib.hid hosk
        have HOSR2 := Lib.hid hosr
        have HSK : Hid (K2.size < N ∧ K2.size ≤ 2000 ∧ R2.size ≤ K.size) := Lib.hid (by have := HSZ.out; simp only [Hg.size] at this; omega)
        have hkb : k < 9223372036854775807 := by omega
        unfold maxLen at hk2
        obtain ⟨a0, k0, rfl⟩ := own_slice2 HO.out
        clear r1 r2 r4 hk3' hR HSZ HROW HOKR HOSR hosk hosr
        subst hp
        go_wp2_with fail
        have HA0 : Hid (AS w wr.heap.size #[.int .i64 (s2 : Int), .slice pk K2.len ck] #[.int .i64 (s : Int), .slice (some ⟨b, o, none⟩) K.len c] (s : Int) (wr.alloc (.cells #[.int .i64 (s2 : Int), .slice pk K2.len ck] 43)).drew (.slice a0 D.length k0) (.slice a0 D.length k0) D.length (nkCells D)) := Lib.hid ⟨Blk.new wr _ _, HTr.out.alloc _, HRr.out.alloc _, HNr.out.alloc _, ownsRow_kp HO.out ((Kp.refl (fun _ => True) wr).alloc _).drew (fun _ _ => trivial), (HBr.out.alloc HBr.out.size _).drew⟩
        have HSA : Hid (∀ (W : World) (u vv : Value) (m : Nat) (xs : List Value), AS w wr.heap.size #[.int .i64 (s2 : Int), .slice pk K2.len ck] #[.int .i64 (s : Int), .slice (some ⟨b, o, none⟩) K.len c] (s : Int) W u vv m xs → (W.cell? ⟨wr.heap.size, 0, none⟩ = some (.int .i64 (s2 : Int)) ∧ W.cell? ⟨wr.heap.size, 1, none⟩ = some (.slice pk K2.len ck))) := Lib.hid (fun W u vv m xs h => ⟨by rw [h.kb.cell]; rfl, by rw [h.kb.cell]; rfl⟩)
        have HXK : Hid (∀ (W : World) (u vv : Value) (m : Nat) (xs : List Value), AS w wr.heap.size #[.int .i64 (s2 : Int), .slice pk K2.len ck] #[.int .i64 (s : Int), .slice (some ⟨b, o, none⟩) K.len c] (s : Int) W u vv m xs → (W.cell? ⟨w.heap.size + 1 + 1, 6, none⟩ = some u ∧ W.frozen? ⟨w.heap.size + 1 + 1, 6, none⟩ = false ∧ w.heap.size + 1 + 1 < W.heap.size)) := Lib.hid (fun W u vv m xs h => ⟨by rw [h.nb.cell]; rfl, h.nb.frozen _, h.nb.lt⟩)
        have HD0 : Hid (D.length ≤ 3) := Lib.hid (by have := HDL.out; omega)
        have hdl3 := HD0.out
        have HZW : Hid (∀ (g k9 : Nat) (W : World) (u : Value), AS w wr.heap.size #[.int .i64 (s2 : Int), .slice pk K2.len ck] #[.int .i64 (s : Int), .slice (some ⟨b, o, none⟩) K.len c] (s : Int) W u (.slice (some ⟨g, 0, none⟩) (D.length + 1) k9) (D.length + 1) (nkCells D ++ [.int .i64 0, .int .u64 0, .int .u64 0, .int .u64 0, .int .u64 0, .int .u64 0, .slice none 0 0]) → ∀ j x, j < 7 → ([.int .i64 0, .int .u64 0, .int .u64 0, .int .u64 0, .int .u64 0, .int .u64 0, .slice none 0 0] : List Value)[j]? = some x → W.cell? ⟨g, D.length * 7 + j, none⟩ = some x ∧ W.frozen? ⟨g, D.length * 7 + j, none⟩ = false ∧ g < W.heap.size) := Lib.hid (fun g k9 W u h j x hj hx => own_at h.own (by rw [List.getElem?_append_right (by rw [nkCells_len]; omega), nkCells_len, show D.length * 7 + j - D.length * 7 = j by omega]; exact hx))
        have HAK : Hid (AS w wr.heap.size #[.int .i64 (s2 : Int), .slice pk K2.len ck] #[.int .i64 (s : Int), .slice (some ⟨b, o, none⟩) K.len c] (s : Int) (wr.alloc (.cells #[.int .i64 (s2 : Int), .slice pk K2.len ck] 43)) (.slice a0 D.length k0) (.slice a0 D.length k0) D.length (nkCells D)) := Lib.hid ⟨Blk.new wr _ _, HTr.out.alloc _, HRr.out.alloc _, HNr.out.alloc _, ownsRow_kp HO.out ((Kp.refl (fun _ => True) wr).alloc _) (fun _ _ => trivial), HBr.out.alloc HBr.out.size _⟩
        have HBS : Hid (∀ (W : World) (u vv : Value) (m : Nat) (xs : List Value), AS w wr.heap.size #[.int .i64 (s2 : Int), .slice pk K2.len ck] #[.int .i64 (s : Int), .slice (some ⟨b, o, none⟩) K.len c] (s : Int) W u vv m xs → w.heap.size + 1 + 1 + 1 ≤ W.heap.size) := Lib.hid (fun W u vv m xs h => h.nb.lt)
        have HON : Hid (∀ u ∈ ([.int .i64 0, .int .u64 0, .int .u64 0, .int .u64 0, .int .u64 0, .int .u64 0, .slice none 0 0] : List Value), u.oneCell' = true) := Lib.hid (fun u hu => by
          simp only [List.mem_cons, List.not_mem_nil, or_false] at hu
          rcases hu with rfl | rfl | rfl | rfl | rfl | rfl | rfl <;> rfl)
        have HLM1 : Hid (D.length + 1 ≤ maxLen) := Lib.hid (by unfold maxLen; omega)
        have HLM2 : Hid ((D.length + 1) * 72 ≤ 140737488355328) := Lib.hid (by omega)
        have hix : (D.length : Int) < (D.length : Int) + 1 := by omega
        have hdl := HDL.out
        have z0 := (HXK.out _ _ _ _ _ HA0.out).1
        clear hdl hs2
        refine wp_region_held_drew (S := (fun W => W.cell? ⟨wr.heap.size, 0, none⟩ = some (.int .i64 (s2 : Int)) ∧ W.cell? ⟨wr.heap.size, 1, none⟩ = some (.slice pk K2.len ck))) (by kernel_rfl) (by (try dsimp only); exact HSA.out _ _ _ _ _ HA0.out) (fun hHeld => ?_)
        refine wpAnyH_take (i := 0) (v := ?v_18) rfl (by kernel_rfl) (by kernel_rfl) (by kernel_rfl) (fun _ _ _ h => h) (Or.inl ⟨by rfl, ?y_18⟩) (by assumption) ?r_18
        case y_18 => (intro w hSw; (try dsimp only at hSw); go_simp); (try with_reducible rfl)
        (try simp only [Act.put, List.setIfInBounds_toArray, List.set_cons_zero, List.set_cons_succ])
        refine wpAnyH_take (i := 2) (v := ?v_19) rfl (by kernel_rfl) (by kernel_rfl) (by kernel_rfl) (fun _ _ _ h => h) (Or.inl ⟨by rfl, ?y_19⟩) (by assumption) ?r_19
        case y_19 => (intro w hSw; (try dsimp only at hSw); go_simp); (try with_reducible rfl)
        (try simp only [Act.put, List.setIfInBounds_toArray, List.set_cons_zero, List.set_cons_succ])
        refine wpAnyH_take (i := 3) (v := ?v_20) rfl (by kernel_rfl) (by kernel_rfl) (by kernel_rfl) (fun _ _ _ h => h) (Or.inl ⟨by rfl, ?y_20⟩) (by assumption) ?r_20
        case y_20 => (intro w hSw; (try dsimp only at hSw); go_simp); (try with_reducible rfl)
        (try simp only [Act.put, List.setIfInBounds_toArray, List.set_cons_zero, List.set_cons_succ])
        refine wpAnyH_ready (rs := [1, 4, 6]) (by kernel_rfl) (by simp) ?_
        refine AllReadyH.cons rfl (fun K hK => ?_) (AllReadyH.cons rfl (fun K hK => ?_) (AllReadyH.cons rfl (fun K hK => ?_) AllReadyH.nil))
        · skip
          have zz := (HXK.out _ _ _ _ _ HA0.out).1
          go_simp
          refine hK.out _ _ (by (try dsimp only); exact HSA.out _ _ _ _ _ HA0.out) (fun hHeld => ?_)
          clear hK K
          (try simp only [Act.put, List.setIfInBounds_toArray, List.set_cons_zero, List.set_cons_succ])
          clear zz
          refine wpAnyH_take (i := 5) (v := ?v_1) rfl (by kernel_rfl) (by kernel_rfl) (by kernel_rfl) (fun _ _ _ h => h) (Or.inl ⟨by rfl, ?y_1⟩) (by assumption) ?r_1
          case y_1 => (intro w hSw; (try dsimp only at hSw); go_simp); (try with_reducible rfl)
          (try simp only [Act.put, List.setIfInBounds_toArray, List.set_cons_zero, List.set_cons_succ])
          refine wpAnyH_ready (rs := [4, 6]) (by kernel_rfl) (by simp) ?_
          refine AllReadyH.cons rfl (fun K hK => ?_) (AllReadyH.cons rfl (fun K hK => ?_) AllReadyH.nil)
          · skip
            go_simp
            refine (HIH.out s2 K2 _ _ HSK.out.1 HSK.out.2.1 (HT.out.below HA0.out.bel) (HK2.out.below HA0.out.bel) hs2n hk23 HOSK.out HFK.out HOK2.out).mono ?_
            rintro e wc ⟨⟨W2, pk2, nk2, ck2, rfl, hW2, hm2⟩, hbc⟩
            have HW2 := Lib.hid hW2
            have HM2 := Lib.hid hm2
            have HBC := Lib.hid hbc
            have HA2 := Lib.hid (HA0.out.below hbc)
            clear hW2 hm2 hbc
            unfold nodeV
            (try go_wp2_with fail)
            refine hK.out _ _ (by (try dsimp only); exact HSA.out _ _ _ _ _ HA2.out) (fun hHeld => ?_)
            clear hK K
            (try simp only [Act.put, List.setIfInBounds_toArray, List.set_cons_zero, List.set_cons_succ])
            refine wpAnyH_ready (rs := [6]) (by kernel_rfl) (by simp) ?_
            refine AllReadyH.cons rfl (fun K hK => ?_) AllReadyH.nil
            · skip
              have HA3 := Lib.hid (HA2.out.below ((Below.refl _ _).alloc (Nat.le_refl _) (.cells #[.int .i64 0, .int .u64 0, .int .u64 0, .int .u64 0, .int .u64 0, .int .u64 0, .slice none 0 0] 82)))
              have HZB := Lib.hid (Blk.new wc 82 #[.int .i64 0, .int .u64 0, .int .u64 0, .int .u64 0, .int .u64 0, .int .u64 0, .slice none 0 0])
              go_simp
              refine hK.out _ _ (by (try dsimp only); exact HSA.out _ _ _ _ _ HA3.out) (fun hHeld => ?_)
              clear hK K
              (try simp only [Act.put, List.setIfInBounds_toArray, List.set_cons_zero, List.set_cons_succ])
              refine wpAnyH_ready (rs := [7]) (by kernel_rfl) (by simp) ?_
              refine AllReadyH.cons rfl (fun K hK => ?_) AllReadyH.nil
              refine step_append_own _ rfl (.tmp 21) (.tmp 26) 80 rfl (w.heap.size + 1 + 1 + 1) 82 i0 _ 7 72 Tryd.underlying80 HI.out hz0 hz1 hz2 rfl (by decide) (.slice a0 D.length k0) D.length (nkCells D) rfl HA3.out.own _ 1 1 [.int .i64 0, .int .u64 0, .int .u64 0, .int .u64 0, .int .u64 0, .int .u64 0, .slice none 0 0] rfl rfl (new_list (HZB.out)) HON.out HLM1.out HLM2.out (HBS.out _ _ _ _ _ HA3.out) ?_
              intro v3 W3 ho3 hg3 _
              obtain ⟨g3, c3, rfl⟩ := own_form ho3
              have HB9 := Lib.hid (HA3.out.app hg3 ho3)
              clear ho3 hg3
              refine hK.out _ _ (by (try dsimp only); exact HSA.out _ _ _ _ _ HB9.out) (fun hHeld => ?_)
              clear hK K
              (try simp only [Act.put, List.setIfInBounds_toArray, List.set_cons_zero, List.set_cons_succ])
              refine wpAnyH_take (i := 8) (v := ?v_2) rfl (by kernel_rfl) (by kernel_rfl) (by kernel_rfl) (fun _ _ _ h => h) (Or.inl ⟨by rfl, ?y_2⟩) (by assumption) ?r_2
              case y_2 => (intro w hSw; (try dsimp only at hSw); go_simp); (try with_reducible rfl)
              (try simp only [Act.put, List.setIfInBounds_toArray, List.set_cons_zero, List.set_cons_succ])
              refine wpAnyH_take (i := 10) (v := ?v_3) rfl (by kernel_rfl) (by kernel_rfl) (by kernel_rfl) (fun _ _ _ h => h) (Or.inl ⟨by rfl, ?y_3⟩) (by assumption) ?r_3
              case y_3 => (intro w hSw; (try dsimp only at hSw); go_simp); (try with_reducible rfl)
              (try simp only [Act.put, List.setIfInBounds_toArray, List.set_cons_zero, List.set_cons_succ])
              refine wpAnyH_ready (rs := [9, 11]) (by kernel_rfl) (by simp) ?_
              refine AllReadyH.cons rfl (fun K hK => ?_) (AllReadyH.cons rfl (fun K hK => ?_) AllReadyH.nil)
              · skip
                have e0 := HZW.out g3 c3 _ _ HB9.out 0 _ (by omega) rfl
                have e1 := HZW.out g3 c3 _ _ HB9.out 1 _ (by omega) rfl
                have e2 := HZW.out g3 c3 _ _ HB9.out 2 _ (by omega) rfl
                have e3 := HZW.out g3 c3 _ _ HB9.out 3 _ (by omega) rfl
                have e4 := HZW.out g3 c3 _ _ HB9.out 4 _ (by omega) rfl
                have e5 := HZW.out g3 c3 _ _ HB9.out 5 _ (by omega) rfl
                have e6 := HZW.out g3 c3 _ _ HB9.out 6 _ (by omega) rfl
                simp only [Nat.add_zero] at e0
                have e01 := e0.1
                have e02 := e0.2.1
                have e03 := e0.2.2
                have e11 := e1.1
                have e12 := e1.2.1
                have e21 := e2.1
                have e22 := e2.2.1
                have e31 := e3.1
                have e32 := e3.2.1
                have e41 := e4.1
                have e42 := e4.2.1
                have e51 := e5.1
                have e52 := e5.2.1
                have e61 := e6.1
                have e62 := e6.2.1
                clear e0 e1 e2 e3 e4 e5 e6
                have HC1 := Lib.hid (((((((HB9.out.cell (D.length * 7) (.int .i64 (s2 : Int))).cell (D.length * 7 + 1) (.int .u64 (W2 0 : Nat))).cell (D.length * 7 + 2) (.int .u64 (W2 1 : Nat))).cell (D.length * 7 + 3) (.int .u64 (W2 2 : Nat))).cell (D.length * 7 + 4) (.int .u64 (W2 3 : Nat))).cell (D.length * 7 + 5) (.int .u64 (W2 4 : Nat))).cell (D.length * 7 + 6) (.slice pk2 nk2 ck2))
                go_simp
                (try go_wp2_with fail)
                refine hK.out _ _ (by (try dsimp only); exact HSA.out _ _ _ _ _ HC1.out) (fun hHeld => ?_)
                clear hK K
                (try simp only [Act.put, List.setIfInBounds_toArray, List.set_cons_zero, List.set_cons_succ])
                clear e01 e02 e03 e11 e12 e21 e22 e31 e32 e41 e42 e51 e52 e61 e62
                refine wpAnyH_ready (rs := [11]) (by kernel_rfl) (by simp) ?_
                refine AllReadyH.cons rfl (fun K hK => ?_) AllReadyH.nil
                have n0 := HXK.out _ _ _ _ _ HC1.out
                have n1 := n0.1
                have n2 := n0.2.1
                have n3 := n0.2.2
                clear n0
                have HC2 := Lib.hid (HC1.out.store (.slice (some ⟨g3, 0, none⟩) (D.length + 1) c3))
                go_simp
                (try go_wp2_with fail)
                refine hK.out _ _ (by (try dsimp only); exact HSA.out _ _ _ _ _ HC2.out) (fun hHeld => ?_)
                clear hK K
                (try simp only [Act.put, List.setIfInBounds_toArray, List.set_cons_zero, List.set_cons_succ])
                clear n1 n2 n3
                refine wpAnyH_done (by kernel_rfl) ?_ _
                skip
                go_wp2_with fail
                have hown := HC2.out.own
                rw [set7 (nkCells D) _ _ _ _ _ _ _ _ _ _ _ _ _ _ (D.length * 7) (nkCells_len D)] at hown
                refine ⟨⟨k + 1, R2, P ++ [stepL A.ru (s2 : Int) (ofL A.ru K2) []], D ++ [⟨(s2 : Int), W2, .slice pk2 nk2 ck2⟩], .slice (some ⟨g3, 0, none⟩) (D.length + 1) c3, by go_num, Lib.hid (by have := hk.out; simp only [Hg.len] at this; omega), Lib.hid (by rw [← HE.out, ofL]; simp), HOKR2, HOSR2, Lib.hid HSK.out.2.2, Lib.hid (by rw [List.length_append, HDL.out]; rfl), Lib.hid (by rw [List.map_append]; exact HSO.out.snoc HM2.out), Lib.hid (fun x hx => by rcases List.mem_append.1 hx with hx | hx; exact HDW.out x hx; rw [List.mem_singleton] at hx; subst hx; exact HW2.out), Lib.hid (fun _ => ⟨b, o, rfl, HR2.out⟩), Lib.hid (by rw [nkCells_app, List.length_append]; exact hown), Lib.hid HC2.out.bel, Lib.hid HC2.out.tb, Lib.hid HC2.out.rb, Lib.hid HC2.out.nb⟩, ?_⟩
                simp [intOf]; omega
              · skip
                have n0 := HXK.out _ _ _ _ _ HB9.out
                have n1 := n0.1
                have n2 := n0.2.1
                have n3 := n0.2.2
                clear n0
                have HC1 := Lib.hid (HB9.out.store (.slice (some ⟨g3, 0, none⟩) (D.length + 1) c3))
                go_simp
                (try go_wp2_with fail)
                refine hK.out _ _ (by (try dsimp only); exact HSA.out _ _ _ _ _ HC1.out) (fun hHeld => ?_)
                clear hK K
                (try simp only [Act.put, List.setIfInBounds_toArray, List.set_cons_zero, List.set_cons_succ])
                clear n1 n2 n3
                refine wpAnyH_ready (rs := [9]) (by kernel_rfl) (by simp) ?_
                refine AllReadyH.cons rfl (fun K hK => ?_) AllReadyH.nil
                have e0 := HZW.out g3 c3 _ _ HC1.out 0 _ (by omega) rfl
                have e1 := HZW.out g3 c3 _ _ HC1.out 1 _ (by omega) rfl
                have e2 := HZW.out g3 c3 _ _ HC1.out 2 _ (by omega) rfl
                have e3 := HZW.out g3 c3 _ _ HC1.out 3 _ (by omega) rfl
                have e4 := HZW.out g3 c3 _ _ HC1.out 4 _ (by omega) rfl
                have e5 := HZW.out g3 c3 _ _ HC1.out 5 _ (by omega) rfl
                have e6 := HZW.out g3 c3 _ _ HC1.out 6 _ (by omega) rfl
                simp only [Nat.add_zero] at e0
                have e01 := e0.1
                have e02 := e0.2.1
                have e03 := e0.2.2
                have e11 := e1.1
                have e12 := e1.2.1
                have e21 := e2.1
                have e22 := e2.2.1
                have e31 := e3.1
                have e32 := e3.2.1
                have e41 := e4.1
                have e42 := e4.2.1
                have e51 := e5.1
                have e52 := e5.2.1
                have e61 := e6.1
                have e62 := e6.2.1
                clear e0 e1 e2 e3 e4 e5 e6
                have HC2 := Lib.hid (((((((HC1.out.cell (D.length * 7) (.int .i64 (s2 : Int))).cell (D.length * 7 + 1) (.int .u64 (W2 0 : Nat))).cell (D.length * 7 + 2) (.int .u64 (W2 1 : Nat))).cell (D.length * 7 + 3) (.int .u64 (W2 2 : Nat))).cell (D.length * 7 + 4) (.int .u64 (W2 3 : Nat))).cell (D.length * 7 + 5) (.int .u64 (W2 4 : Nat))).cell (D.length * 7 + 6) (.slice pk2 nk2 ck2))
                go_simp
                (try go_wp2_with fail)
                refine hK.out _ _ (by (try dsimp only); exact HSA.out _ _ _ _ _ HC2.out) (fun hHeld => ?_)
                clear hK K
                (try simp only [Act.put, List.setIfInBounds_toArray, List.set_cons_zero, List.set_cons_succ])
                clear e01 e02 e03 e11 e12 e21 e22 e31 e32 e41 e42 e51 e52 e61 e62
                refine wpAnyH_done (by kernel_rfl) ?_ _
                skip
                go_wp2_with fail
                have hown := HC2.out.own
                rw [set7 (nkCells D) _ _ _ _ _ _ _ _ _ _ _ _ _ _ (D.length * 7) (nkCells_len D)] at hown
                refine ⟨⟨k + 1, R2, P ++ [stepL A.ru (s2 : Int) (ofL A.ru K2) []], D ++ [⟨(s2 : Int), W2, .slice pk2 nk2 ck2⟩], .slice (some ⟨g3, 0, none⟩) (D.length + 1) c3, by go_num, Lib.hid (by have := hk.out; simp only [Hg.len] at this; omega), Lib.hid (by rw [← HE.out, ofL]; simp), HOKR2, HOSR2, Lib.hid HSK.out.2.2, Lib.hid (by rw [List.length_append, HDL.out]; rfl), Lib.hid (by rw [List.map_append]; exact HSO.out.snoc HM2.out), Lib.hid (fun x hx => by rcases List.mem_append.1 hx with hx | hx; exact HDW.out x hx; rw [List.mem_singleton] at hx; subst hx; exact HW2.out), Lib.hid (fun _ => ⟨b, o, rfl, HR2.out⟩), Lib.hid (by rw [nkCells_app, List.length_append]; exact hown), Lib.hid HC2.out.bel, Lib.hid HC2.out.tb, Lib.hid HC2.out.rb, Lib.hid HC2.out.nb⟩, ?_⟩
                simp [intOf]; omega
          · skip
            have HA2 := Lib.hid (HAK.out.below (((Below.refl _ (wr.alloc (.cells #[.int .i64 (s2 : Int), .slice pk K2.len ck] 43))).alloc (Nat.le_refl _) (.cells #[.int .i64 0, .int .u64 0, .int .u64 0, .int .u64 0, .int .u64 0, .int .u64 0, .slice none 0 0] 82)).drew))
            have HZB := Lib.hid ((Blk.new (wr.alloc (.cells #[.int .i64 (s2 : Int), .slice pk K2.len ck] 43)) 82 #[.int .i64 0, .int .u64 0, .int .u64 0, .int .u64 0, .int .u64 0, .int .u64 0, .slice none 0 0]).drew)
            rw [World.size_alloc] at HZB
            go_simp
            refine hK.out _ _ (by (try dsimp only); exact HSA.out _ _ _ _ _ HA2.out) (fun hHeld => ?_)
            clear hK K
            (try simp only [Act.put, List.setIfInBounds_toArray, List.set_cons_zero, List.set_cons_succ])
            refine wpAnyH_ready (rs := [4]) (by kernel_rfl) (by simp) ?_
            refine AllReadyH.cons rfl (fun K hK => ?_) AllReadyH.nil
            · skip
              go_simp
              refine (HIH.out s2 K2 _ _ HSK.out.1 HSK.out.2.1 (HT.out.below HA2.out.bel) (HK2.out.below HA2.out.bel) hs2n hk23 HOSK.out HFK.out HOK2.out).mono ?_
              rintro e wc ⟨⟨W2, pk2, nk2, ck2, rfl, hW2, hm2⟩, hbc⟩
              have HW2 := Lib.hid hW2
              have HM2 := Lib.hid hm2
              have HBC := Lib.hid hbc
              have HA3 := Lib.hid (HA2.out.below hbc)
              have HZC := Lib.hid ((HZB.out).below hbc (HZB.out).lt)
              clear hW2 hm2 hbc
              unfold nodeV
              (try go_wp2_with fail)
              refine hK.out _ _ (by (try dsimp only); exact HSA.out _ _ _ _ _ HA3.out) (fun hHeld => ?_)
              clear hK K
              (try simp only [Act.put, List.setIfInBounds_toArray, List.set_cons_zero, List.set_cons_succ])
              refine wpAnyH_ready (rs := [7]) (by kernel_rfl) (by simp) ?_
              refine AllReadyH.cons rfl (fun K hK => ?_) AllReadyH.nil
              refine step_append_own _ rfl (.tmp 21) (.tmp 26) 80 rfl (w.heap.size + 1 + 1 + 1) 82 i0 _ 7 72 Tryd.underlying80 HI.out hz0 hz1 hz2 rfl (by decide) (.slice a0 D.length k0) D.length (nkCells D) rfl HA3.out.own _ 1 1 [.int .i64 0, .int .u64 0, .int .u64 0, .int .u64 0, .int .u64 0, .int .u64 0, .slice none 0 0] rfl rfl (new_list (HZC.out)) HON.out HLM1.out HLM2.out (HBS.out _ _ _ _ _ HA3.out) ?_
              intro v3 W3 ho3 hg3 _
              obtain ⟨g3, c3, rfl⟩ := own_form ho3
              have HB9 := Lib.hid (HA3.out.app hg3 ho3)
              clear ho3 hg3
              refine hK.out _ _ (by (try dsimp only); exact HSA.out _ _ _ _ _ HB9.out) (fun hHeld => ?_)
              clear hK K
              (try simp only [Act.put, List.setIfInBounds_toArray, List.set_cons_zero, List.set_cons_succ])
              refine wpAnyH_take (i := 8) (v := ?v_4) rfl (by kernel_rfl) (by kernel_rfl) (by kernel_rfl) (fun _ _ _ h => h) (Or.inl ⟨by rfl, ?y_4⟩) (by assumption) ?r_4
              case y_4 => (intro w hSw; (try dsimp only at hSw); go_simp); (try with_reducible rfl)
              (try simp only [Act.put, List.setIfInBounds_toArray, List.set_cons_zero, List.set_cons_succ])
              refine wpAnyH_take (i := 10) (v := ?v_5) rfl (by kernel_rfl) (by kernel_rfl) (by kernel_rfl) (fun _ _ _ h => h) (Or.inl ⟨by rfl, ?y_5⟩) (by assumption) ?r_5
              case y_5 => (intro w hSw; (try dsimp only at hSw); go_simp); (try with_reducible rfl)
              (try simp only [Act.put, List.setIfInBounds_toArray, List.set_cons_zero, List.set_cons_succ])
              refine wpAnyH_ready (rs := [9, 11]) (by kernel_rfl) (by simp) ?_
              refine AllReadyH.cons rfl (fun K hK => ?_) (AllReadyH.cons rfl (fun K hK => ?_) AllReadyH.nil)
              · skip
                have e0 := HZW.out g3 c3 _ _ HB9.out 0 _ (by omega) rfl
                have e1 := HZW.out g3 c3 _ _ HB9.out 1 _ (by omega) rfl
                have e2 := HZW.out g3 c3 _ _ HB9.out 2 _ (by omega) rfl
                have e3 := HZW.out g3 c3 _ _ HB9.out 3 _ (by omega) rfl
                have e4 := HZW.out g3 c3 _ _ HB9.out 4 _ (by omega) rfl
                have e5 := HZW.out g3 c3 _ _ HB9.out 5 _ (by omega) rfl
                have e6 := HZW.out g3 c3 _ _ HB9.out 6 _ (by omega) rfl
                simp only [Nat.add_zero] at e0
                have e01 := e0.1
                have e02 := e0.2.1
                have e03 := e0.2.2
                have e11 := e1.1
                have e12 := e1.2.1
                have e21 := e2.1
                have e22 := e2.2.1
                have e31 := e3.1
                have e32 := e3.2.1
                have e41 := e4.1
                have e42 := e4.2.1
                have e51 := e5.1
                have e52 := e5.2.1
                have e61 := e6.1
                have e62 := e6.2.1
                clear e0 e1 e2 e3 e4 e5 e6
                have HC1 := Lib.hid (((((((HB9.out.cell (D.length * 7) (.int .i64 (s2 : Int))).cell (D.length * 7 + 1) (.int .u64 (W2 0 : Nat))).cell (D.length * 7 + 2) (.int .u64 (W2 1 : Nat))).cell (D.length * 7 + 3) (.int .u64 (W2 2 : Nat))).cell (D.length * 7 + 4) (.int .u64 (W2 3 : Nat))).cell (D.length * 7 + 5) (.int .u64 (W2 4 : Nat))).cell (D.length * 7 + 6) (.slice pk2 nk2 ck2))
                go_simp
                (try go_wp2_with fail)
                refine hK.out _ _ (by (try dsimp only); exact HSA.out _ _ _ _ _ HC1.out) (fun hHeld => ?_)
                clear hK K
                (try simp only [Act.put, List.setIfInBounds_toArray, List.set_cons_zero, List.set_cons_succ])
                clear e01 e02 e03 e11 e12 e21 e22 e31 e32 e41 e42 e51 e52 e61 e62
                refine wpAnyH_ready (rs := [11]) (by kernel_rfl) (by simp) ?_
                refine AllReadyH.cons rfl (fun K hK => ?_) AllReadyH.nil
                have n0 := HXK.out _ _ _ _ _ HC1.out
                have n1 := n0.1
                have n2 := n0.2.1
                have n3 := n0.2.2
                clear n0
                have HC2 := Lib.hid (HC1.out.store (.slice (some ⟨g3, 0, none⟩) (D.length + 1) c3))
                go_simp
                (try go_wp2_with fail)
                refine hK.out _ _ (by (try dsimp only); exact HSA.out _ _ _ _ _ HC2.out) (fun hHeld => ?_)
                clear hK K
                (try simp only [Act.put, List.setIfInBounds_toArray, List.set_cons_zero, List.set_cons_succ])
                clear n1 n2 n3
                refine wpAnyH_done (by kernel_rfl) ?_ _
                skip
                go_wp2_with fail
                have hown := HC2.out.own
                rw [set7 (nkCells D) _ _ _ _ _ _ _ _ _ _ _ _ _ _ (D.length * 7) (nkCells_len D)] at hown
                refine ⟨⟨k + 1, R2, P ++ [stepL A.ru (s2 : Int) (ofL A.ru K2) []], D ++ [⟨(s2 : Int), W2, .slice pk2 nk2 ck2⟩], .slice (some ⟨g3, 0, none⟩) (D.length + 1) c3, by go_num, Lib.hid (by have := hk.out; simp only [Hg.len] at this; omega), Lib.hid (by rw [← HE.out, ofL]; simp), HOKR2, HOSR2, Lib.hid HSK.out.2.2, Lib.hid (by rw [List.length_append, HDL.out]; rfl), Lib.hid (by rw [List.map_append]; exact HSO.out.snoc HM2.out), Lib.hid (fun x hx => by rcases List.mem_append.1 hx with hx | hx; exact HDW.out x hx; rw [List.mem_singleton] at hx; subst hx; exact HW2.out), Lib.hid (fun _ => ⟨b, o, rfl, HR2.out⟩), Lib.hid (by rw [nkCells_app, List.length_append]; exact hown), Lib.hid HC2.out.bel, Lib.hid HC2.out.tb, Lib.hid HC2.out.rb, Lib.hid HC2.out.nb⟩, ?_⟩
                simp [intOf]; omega
              · skip
                have n0 := HXK.out _ _ _ _ _ HB9.out
                have n1 := n0.1
                have n2 := n0.2.1
                have n3 := n0.2.2
                clear n0
                have HC1 := Lib.hid (HB9.out.store (.slice (some ⟨g3, 0, none⟩) (D.length + 1) c3))
                go_simp
                (try go_wp2_with fail)
                refine hK.out _ _ (by (try dsimp only); exact HSA.out _ _ _ _ _ HC1.out) (fun hHeld => ?_)
                clear hK K
                (try simp only [Act.put, List.setIfInBounds_toArray, List.set_cons_zero, List.set_cons_succ])
                clear n1 n2 n3
                refine wpAnyH_ready (rs := [9]) (by kernel_rfl) (by simp) ?_
                refine AllReadyH.cons rfl (fun K hK => ?_) AllReadyH.nil
                have e0 := HZW.out g3 c3 _ _ HC1.out 0 _ (by omega) rfl
                have e1 := HZW.out g3 c3 _ _ HC1.out 1 _ (by omega) rfl
                have e2 := HZW.out g3 c3 _ _ HC1.out 2 _ (by omega) rfl
                have e3 := HZW.out g3 c3 _ _ HC1.out 3 _ (by omega) rfl
                have e4 := HZW.out g3 c3 _ _ HC1.out 4 _ (by omega) rfl
                have e5 := HZW.out g3 c3 _ _ HC1.out 5 _ (by omega) rfl
                have e6 := HZW.out g3 c3 _ _ HC1.out 6 _ (by omega) rfl
                simp only [Nat.add_zero] at e0
                have e01 := e0.1
                have e02 := e0.2.1
                have e03 := e0.2.2
                have e11 := e1.1
                have e12 := e1.2.1
                have e21 := e2.1
                have e22 := e2.2.1
                have e31 := e3.1
                have e32 := e3.2.1
                have e41 := e4.1
                have e42 := e4.2.1
                have e51 := e5.1
                have e52 := e5.2.1
                have e61 := e6.1
                have e62 := e6.2.1
                clear e0 e1 e2 e3 e4 e5 e6
                have HC2 := Lib.hid (((((((HC1.out.cell (D.length * 7) (.int .i64 (s2 : Int))).cell (D.length * 7 + 1) (.int .u64 (W2 0 : Nat))).cell (D.length * 7 + 2) (.int .u64 (W2 1 : Nat))).cell (D.length * 7 + 3) (.int .u64 (W2 2 : Nat))).cell (D.length * 7 + 4) (.int .u64 (W2 3 : Nat))).cell (D.length * 7 + 5) (.int .u64 (W2 4 : Nat))).cell (D.length * 7 + 6) (.slice pk2 nk2 ck2))
                go_simp
                (try go_wp2_with fail)
                refine hK.out _ _ (by (try dsimp only); exact HSA.out _ _ _ _ _ HC2.out) (fun hHeld => ?_)
                clear hK K
                (try simp only [Act.put, List.setIfInBounds_toArray, List.set_cons_zero, List.set_cons_succ])
                clear e01 e02 e03 e11 e12 e21 e22 e31 e32 e41 e42 e51 e52 e61 e62
                refine wpAnyH_done (by kernel_rfl) ?_ _
                skip
                go_wp2_with fail
                have hown := HC2.out.own
                rw [set7 (nkCells D) _ _ _ _ _ _ _ _ _ _ _ _ _ _ (D.length * 7) (nkCells_len D)] at hown
                refine ⟨⟨k + 1, R2, P ++ [stepL A.ru (s2 : Int) (ofL A.ru K2) []], D ++ [⟨(s2 : Int), W2, .slice pk2 nk2 ck2⟩], .slice (some ⟨g3, 0, none⟩) (D.length + 1) c3, by go_num, Lib.hid (by have := hk.out; simp only [Hg.len] at this; omega), Lib.hid (by rw [← HE.out, ofL]; simp), HOKR2, HOSR2, Lib.hid HSK.out.2.2, Lib.hid (by rw [List.length_append, HDL.out]; rfl), Lib.hid (by rw [List.map_append]; exact HSO.out.snoc HM2.out), Lib.hid (fun x hx => by rcases List.mem_append.1 hx with hx | hx; exact HDW.out x hx; rw [List.mem_singleton] at hx; subst hx; exact HW2.out), Lib.hid (fun _ => ⟨b, o, rfl, HR2.out⟩), Lib.hid (by rw [nkCells_app, List.length_append]; exact hown), Lib.hid HC2.out.bel, Lib.hid HC2.out.tb, Lib.hid HC2.out.rb, Lib.hid HC2.out.nb⟩, ?_⟩
                simp [intOf]; omega
        · skip
          go_simp
          refine (HIH.out s2 K2 _ _ HSK.out.1 HSK.out.2.1 (HT.out.below HA0.out.bel) (HK2.out.below HA0.out.bel) hs2n hk23 HOSK.out HFK.out HOK2.out).mono ?_
          rintro e wc ⟨⟨W2, pk2, nk2, ck2, rfl, hW2, hm2⟩, hbc⟩
          have HW2 := Lib.hid hW2
          have HM2 := Lib.hid hm2
          have HBC := Lib.hid hbc
          have HA1 := Lib.hid (HA0.out.below hbc)
          clear hW2 hm2 hbc
          unfold nodeV
          (try go_wp2_with fail)
          refine hK.out _ _ (by (try dsimp only); exact HSA.out _ _ _ _ _ HA1.out) (fun hHeld => ?_)
          clear hK K
          (try simp only [Act.put, List.setIfInBounds_toArray, List.set_cons_zero, List.set_cons_succ])
          refine wpAnyH_ready (rs := [1, 6]) (by kernel_rfl) (by simp) ?_
          refine AllReadyH.cons rfl (fun K hK => ?_) (AllReadyH.cons rfl (fun K hK => ?_) AllReadyH.nil)
          · skip
            have zz := (HXK.out _ _ _ _ _ HA1.out).1
            go_simp
            refine hK.out _ _ (by (try dsimp only); exact HSA.out _ _ _ _ _ HA1.out) (fun hHeld => ?_)
            clear hK K
            (try simp only [Act.put, List.setIfInBounds_toArray, List.set_cons_zero, List.set_cons_succ])
            clear zz
            refine wpAnyH_take (i := 5) (v := ?v_6) rfl (by kernel_rfl) (by kernel_rfl) (by kernel_rfl) (fun _ _ _ h => h) (Or.inl ⟨by rfl, ?y_6⟩) (by assumption) ?r_6
            case y_6 => (intro w hSw; (try dsimp only at hSw); go_simp); (try with_reducible rfl)
            (try simp only [Act.put, List.setIfInBounds_toArray, List.set_cons_zero, List.set_cons_succ])
            refine wpAnyH_ready (rs := [6]) (by kernel_rfl) (by simp) ?_
            refine AllReadyH.cons rfl (fun K hK => ?_) AllReadyH.nil
            · skip
              have HA3 := Lib.hid (HA1.out.below ((Below.refl _ _).alloc (Nat.le_refl _) (.cells #[.int .i64 0, .int .u64 0, .int .u64 0, .int .u64 0, .int .u64 0, .int .u64 0, .slice none 0 0] 82)))
              have HZB := Lib.hid (Blk.new wc 82 #[.int .i64 0, .int .u64 0, .int .u64 0, .int .u64 0, .int .u64 0, .int .u64 0, .slice none 0 0])
              go_simp
              refine hK.out _ _ (by (try dsimp only); exact HSA.out _ _ _ _ _ HA3.out) (fun hHeld => ?_)
              clear hK K
              (try simp only [Act.put, List.setIfInBounds_toArray, List.set_cons_zero, List.set_cons_succ])
              refine wpAnyH_ready (rs := [7]) (by kernel_rfl) (by simp) ?_
              refine AllReadyH.cons rfl (fun K hK => ?_) AllReadyH.nil
              refine step_append_own _ rfl (.tmp 21) (.tmp 26) 80 rfl (w.heap.size + 1 + 1 + 1) 82 i0 _ 7 72 Tryd.underlying80 HI.out hz0 hz1 hz2 rfl (by decide) (.slice a0 D.length k0) D.length (nkCells D) rfl HA3.out.own _ 1 1 [.int .i64 0, .int .u64 0, .int .u64 0, .int .u64 0, .int .u64 0, .int .u64 0, .slice none 0 0] rfl rfl (new_list (HZB.out)) HON.out HLM1.out HLM2.out (HBS.out _ _ _ _ _ HA3.out) ?_
              intro v3 W3 ho3 hg3 _
              obtain ⟨g3, c3, rfl⟩ := own_form ho3
              have HB9 := Lib.hid (HA3.out.app hg3 ho3)
              clear ho3 hg3
              refine hK.out _ _ (by (try dsimp only); exact HSA.out _ _ _ _ _ HB9.out) (fun hHeld => ?_)
              clear hK K
              (try simp only [Act.put, List.setIfInBounds_toArray, List.set_cons_zero, List.set_cons_succ])
              refine wpAnyH_take (i := 8) (v := ?v_7) rfl (by kernel_rfl) (by kernel_rfl) (by kernel_rfl) (fun _ _ _ h => h) (Or.inl ⟨by rfl, ?y_7⟩) (by assumption) ?r_7
              case y_7 => (intro w hSw; (try dsimp only at hSw); go_simp); (try with_reducible rfl)
              (try simp only [Act.put, List.setIfInBounds_toArray, List.set_cons_zero, List.set_cons_succ])
              refine wpAnyH_take (i := 10) (v := ?v_8) rfl (by kernel_rfl) (by kernel_rfl) (by kernel_rfl) (fun _ _ _ h => h) (Or.inl ⟨by rfl, ?y_8⟩) (by assumption) ?r_8
              case y_8 => (intro w hSw; (try dsimp only at hSw); go_simp); (try with_reducible rfl)
              (try simp only [Act.put, List.setIfInBounds_toArray, List.set_cons_zero, List.set_cons_succ])
              refine wpAnyH_ready (rs := [9, 11]) (by kernel_rfl) (by simp) ?_
              refine AllReadyH.cons rfl (fun K hK => ?_) (AllReadyH.cons rfl (fun K hK => ?_) AllReadyH.nil)
              · skip
                have e0 := HZW.out g3 c3 _ _ HB9.out 0 _ (by omega) rfl
                have e1 := HZW.out g3 c3 _ _ HB9.out 1 _ (by omega) rfl
                have e2 := HZW.out g3 c3 _ _ HB9.out 2 _ (by omega) rfl
                have e3 := HZW.out g3 c3 _ _ HB9.out 3 _ (by omega) rfl
                have e4 := HZW.out g3 c3 _ _ HB9.out 4 _ (by omega) rfl
                have e5 := HZW.out g3 c3 _ _ HB9.out 5 _ (by omega) rfl
                have e6 := HZW.out g3 c3 _ _ HB9.out 6 _ (by omega) rfl
                simp only [Nat.add_zero] at e0
                have e01 := e0.1
                have e02 := e0.2.1
                have e03 := e0.2.2
                have e11 := e1.1
                have e12 := e1.2.1
                have e21 := e2.1
                have e22 := e2.2.1
                have e31 := e3.1
                have e32 := e3.2.1
                have e41 := e4.1
                have e42 := e4.2.1
                have e51 := e5.1
                have e52 := e5.2.1
                have e61 := e6.1
                have e62 := e6.2.1
                clear e0 e1 e2 e3 e4 e5 e6
                have HC1 := Lib.hid (((((((HB9.out.cell (D.length * 7) (.int .i64 (s2 : Int))).cell (D.length * 7 + 1) (.int .u64 (W2 0 : Nat))).cell (D.length * 7 + 2) (.int .u64 (W2 1 : Nat))).cell (D.length * 7 + 3) (.int .u64 (W2 2 : Nat))).cell (D.length * 7 + 4) (.int .u64 (W2 3 : Nat))).cell (D.length * 7 + 5) (.int .u64 (W2 4 : Nat))).cell (D.length * 7 + 6) (.slice pk2 nk2 ck2))
                go_simp
                (try go_wp2_with fail)
                refine hK.out _ _ (by (try dsimp only); exact HSA.out _ _ _ _ _ HC1.out) (fun hHeld => ?_)
                clear hK K
                (try simp only [Act.put, List.setIfInBounds_toArray, List.set_cons_zero, List.set_cons_succ])
                clear e01 e02 e03 e11 e12 e21 e22 e31 e32 e41 e42 e51 e52 e61 e62
                refine wpAnyH_ready (rs := [11]) (by kernel_rfl) (by simp) ?_
                refine AllReadyH.cons rfl (fun K hK => ?_) AllReadyH.nil
                have n0 := HXK.out _ _ _ _ _ HC1.out
                have n1 := n0.1
                have n2 := n0.2.1
                have n3 := n0.2.2
                clear n0
                have HC2 := Lib.hid (HC1.out.store (.slice (some ⟨g3, 0, none⟩) (D.length + 1) c3))
                go_simp
                (try go_wp2_with fail)
                refine hK.out _ _ (by (try dsimp only); exact HSA.out _ _ _ _ _ HC2.out) (fun hHeld => ?_)
                clear hK K
                (try simp only [Act.put, List.setIfInBounds_toArray, List.set_cons_zero, List.set_cons_succ])
                clear n1 n2 n3
                refine wpAnyH_done (by kernel_rfl) ?_ _
                skip
                go_wp2_with fail
                have hown := HC2.out.own
                rw [set7 (nkCells D) _ _ _ _ _ _ _ _ _ _ _ _ _ _ (D.length * 7) (nkCells_len D)] at hown
                refine ⟨⟨k + 1, R2, P ++ [stepL A.ru (s2 : Int) (ofL A.ru K2) []], D ++ [⟨(s2 : Int), W2, .slice pk2 nk2 ck2⟩], .slice (some ⟨g3, 0, none⟩) (D.length + 1) c3, by go_num, Lib.hid (by have := hk.out; simp only [Hg.len] at this; omega), Lib.hid (by rw [← HE.out, ofL]; simp), HOKR2, HOSR2, Lib.hid HSK.out.2.2, Lib.hid (by rw [List.length_append, HDL.out]; rfl), Lib.hid (by rw [List.map_append]; exact HSO.out.snoc HM2.out), Lib.hid (fun x hx => by rcases List.mem_append.1 hx with hx | hx; exact HDW.out x hx; rw [List.mem_singleton] at hx; subst hx; exact HW2.out), Lib.hid (fun _ => ⟨b, o, rfl, HR2.out⟩), Lib.hid (by rw [nkCells_app, List.length_append]; exact hown), Lib.hid HC2.out.bel, Lib.hid HC2.out.tb, Lib.hid HC2.out.rb, Lib.hid HC2.out.nb⟩, ?_⟩
                simp [intOf]; omega
              · skip
                have n0 := HXK.out _ _ _ _ _ HB9.out
                have n1 := n0.1
                have n2 := n0.2.1
                have n3 := n0.2.2
                clear n0
                have HC1 := Lib.hid (HB9.out.store (.slice (some ⟨g3, 0, none⟩) (D.length + 1) c3))
                go_simp
                (try go_wp2_with fail)
                refine hK.out _ _ (by (try dsimp only); exact HSA.out _ _ _ _ _ HC1.out) (fun hHeld => ?_)
                clear hK K
                (try simp only [Act.put, List.setIfInBounds_toArray, List.set_cons_zero, List.set_cons_succ])
                clear n1 n2 n3
                refine wpAnyH_ready (rs := [9]) (by kernel_rfl) (by simp) ?_
                refine AllReadyH.cons rfl (fun K hK => ?_) AllReadyH.nil
                have e0 := HZW.out g3 c3 _ _ HC1.out 0 _ (by omega) rfl
                have e1 := HZW.out g3 c3 _ _ HC1.out 1 _ (by omega) rfl
                have e2 := HZW.out g3 c3 _ _ HC1.out 2 _ (by omega) rfl
                have e3 := HZW.out g3 c3 _ _ HC1.out 3 _ (by omega) rfl
                have e4 := HZW.out g3 c3 _ _ HC1.out 4 _ (by omega) rfl
                have e5 := HZW.out g3 c3 _ _ HC1.out 5 _ (by omega) rfl
                have e6 := HZW.out g3 c3 _ _ HC1.out 6 _ (by omega) rfl
                simp only [Nat.add_zero] at e0
                have e01 := e0.1
                have e02 := e0.2.1
                have e03 := e0.2.2
                have e11 := e1.1
                have e12 := e1.2.1
                have e21 := e2.1
                have e22 := e2.2.1
                have e31 := e3.1
                have e32 := e3.2.1
                have e41 := e4.1
                have e42 := e4.2.1
                have e51 := e5.1
                have e52 := e5.2.1
                have e61 := e6.1
                have e62 := e6.2.1
                clear e0 e1 e2 e3 e4 e5 e6
                have HC2 := Lib.hid (((((((HC1.out.cell (D.length * 7) (.int .i64 (s2 : Int))).cell (D.length * 7 + 1) (.int .u64 (W2 0 : Nat))).cell (D.length * 7 + 2) (.int .u64 (W2 1 : Nat))).cell (D.length * 7 + 3) (.int .u64 (W2 2 : Nat))).cell (D.length * 7 + 4) (.int .u64 (W2 3 : Nat))).cell (D.length * 7 + 5) (.int .u64 (W2 4 : Nat))).cell (D.length * 7 + 6) (.slice pk2 nk2 ck2))
                go_simp
                (try go_wp2_with fail)
                refine hK.out _ _ (by (try dsimp only); exact HSA.out _ _ _ _ _ HC2.out) (fun hHeld => ?_)
                clear hK K
                (try simp only [Act.put, List.setIfInBounds_toArray, List.set_cons_zero, List.set_cons_succ])
                clear e01 e02 e03 e11 e12 e21 e22 e31 e32 e41 e42 e51 e52 e61 e62
                refine wpAnyH_done (by kernel_rfl) ?_ _
                skip
                go_wp2_with fail
                have hown := HC2.out.own
                rw [set7 (nkCells D) _ _ _ _ _ _ _ _ _ _ _ _ _ _ (D.length * 7) (nkCells_len D)] at hown
                refine ⟨⟨k + 1, R2, P ++ [stepL A.ru (s2 : Int) (ofL A.ru K2) []], D ++ [⟨(s2 : Int), W2, .slice pk2 nk2 ck2⟩], .slice (some ⟨g3, 0, none⟩) (D.length + 1) c3, by go_num, Lib.hid (by have := hk.out; simp only [Hg.len] at this; omega), Lib.hid (by rw [← HE.out, ofL]; simp), HOKR2, HOSR2, Lib.hid HSK.out.2.2, Lib.hid (by rw [List.length_append, HDL.out]; rfl), Lib.hid (by rw [List.map_append]; exact HSO.out.snoc HM2.out), Lib.hid (fun x hx => by rcases List.mem_append.1 hx with hx | hx; exact HDW.out x hx; rw [List.mem_singleton] at hx; subst hx; exact HW2.out), Lib.hid (fun _ => ⟨b, o, rfl, HR2.out⟩), Lib.hid (by rw [nkCells_app, List.length_append]; exact hown), Lib.hid HC2.out.bel, Lib.hid HC2.out.tb, Lib.hid HC2.out.rb, Lib.hid HC2.out.nb⟩, ?_⟩
                simp [intOf]; omega
          · skip
            have HA2 := Lib.hid (HA1.out.below ((Below.refl _ _).alloc (Nat.le_refl _) (.cells #[.int .i64 0, .int .u64 0, .int .u64 0, .int .u64 0, .int .u64 0, .int .u64 0, .slice none 0 0] 82)))
            have HZB := Lib.hid (Blk.new wc 82 #[.int .i64 0, .int .u64 0, .int .u64 0, .int .u64 0, .int .u64 0, .int .u64 0, .slice none 0 0])
            go_simp
            refine hK.out _ _ (by (try dsimp only); exact HSA.out _ _ _ _ _ HA2.out) (fun hHeld => ?_)
            clear hK K
            (try simp only [Act.put, List.setIfInBounds_toArray, List.set_cons_zero, List.set_cons_succ])
            refine wpAnyH_ready (rs := [1]) (by kernel_rfl) (by simp) ?_
            refine AllReadyH.cons rfl (fun K hK => ?_) AllReadyH.nil
            · skip
              have zz := (HXK.out _ _ _ _ _ HA2.out).1
              go_simp
              refine hK.out _ _ (by (try dsimp only); exact HSA.out _ _ _ _ _ HA2.out) (fun hHeld => ?_)
              clear hK K
              (try simp only [Act.put, List.setIfInBounds_toArray, List.set_cons_zero, List.set_cons_succ])
              clear zz
              refine wpAnyH_take (i := 5) (v := ?v_9) rfl (by kernel_rfl) (by kernel_rfl) (by kernel_rfl) (fun _ _ _ h => h) (Or.inl ⟨by rfl, ?y_9⟩) (by assumption) ?r_9
              case y_9 => (intro w hSw; (try dsimp only at hSw); go_simp); (try with_reducible rfl)
              (try simp only [Act.put, List.setIfInBounds_toArray, List.set_cons_zero, List.set_cons_succ])
              refine wpAnyH_ready (rs := [7]) (by kernel_rfl) (by simp) ?_
              refine AllReadyH.cons rfl (fun K hK => ?_) AllReadyH.nil
              refine step_append_own _ rfl (.tmp 21) (.tmp 26) 80 rfl (w.heap.size + 1 + 1 + 1) 82 i0 _ 7 72 Tryd.underlying80 HI.out hz0 hz1 hz2 rfl (by decide) (.slice a0 D.length k0) D.length (nkCells D) rfl HA2.out.own _ 1 1 [.int .i64 0, .int .u64 0, .int .u64 0, .int .u64 0, .int .u64 0, .int .u64 0, .slice none 0 0] rfl rfl (new_list (HZB.out)) HON.out HLM1.out HLM2.out (HBS.out _ _ _ _ _ HA2.out) ?_
              intro v3 W3 ho3 hg3 _
              obtain ⟨g3, c3, rfl⟩ := own_form ho3
              have HB9 := Lib.hid (HA2.out.app hg3 ho3)
              clear ho3 hg3
              refine hK.out _ _ (by (try dsimp only); exact HSA.out _ _ _ _ _ HB9.out) (fun hHeld => ?_)
              clear hK K
              (try simp only [Act.put, List.setIfInBounds_toArray, List.set_cons_zero, List.set_cons_succ])
              refine wpAnyH_take (i := 8) (v := ?v_10) rfl (by kernel_rfl) (by kernel_rfl) (by kernel_rfl) (fun _ _ _ h => h) (Or.inl ⟨by rfl, ?y_10⟩) (by assumption) ?r_10
              case y_10 => (intro w hSw; (try dsimp only at hSw); go_simp); (try with_reducible rfl)
              (try simp only [Act.put, List.setIfInBounds_toArray, List.set_cons_zero, List.set_cons_succ])
              refine wpAnyH_take (i := 10) (v := ?v_11) rfl (by kernel_rfl) (by kernel_rfl) (by kernel_rfl) (fun _ _ _ h => h) (Or.inl ⟨by rfl, ?y_11⟩) (by assumption) ?r_11
              case y_11 => (intro w hSw; (try dsimp only at hSw); go_simp); (try with_reducible rfl)
              (try simp only [Act.put, List.setIfInBounds_toArray, List.set_cons_zero, List.set_cons_succ])
              refine wpAnyH_ready (rs := [9, 11]) (by kernel_rfl) (by simp) ?_
              refine AllReadyH.cons rfl (fun K hK => ?_) (AllReadyH.cons rfl (fun K hK => ?_) AllReadyH.nil)
              · skip
                have e0 := HZW.out g3 c3 _ _ HB9.out 0 _ (by omega) rfl
                have e1 := HZW.out g3 c3 _ _ HB9.out 1 _ (by omega) rfl
                have e2 := HZW.out g3 c3 _ _ HB9.out 2 _ (by omega) rfl
                have e3 := HZW.out g3 c3 _ _ HB9.out 3 _ (by omega) rfl
                have e4 := HZW.out g3 c3 _ _ HB9.out 4 _ (by omega) rfl
                have e5 := HZW.out g3 c3 _ _ HB9.out 5 _ (by omega) rfl
                have e6 := HZW.out g3 c3 _ _ HB9.out 6 _ (by omega) rfl
                simp only [Nat.add_zero] at e0
                have e01 := e0.1
                have e02 := e0.2.1
                have e03 := e0.2.2
                have e11 := e1.1
                have e12 := e1.2.1
                have e21 := e2.1
                have e22 := e2.2.1
                have e31 := e3.1
                have e32 := e3.2.1
                have e41 := e4.1
                have e42 := e4.2.1
                have e51 := e5.1
                have e52 := e5.2.1
                have e61 := e6.1
                have e62 := e6.2.1
                clear e0 e1 e2 e3 e4 e5 e6
                have HC1 := Lib.hid (((((((HB9.out.cell (D.length * 7) (.int .i64 (s2 : Int))).cell (D.length * 7 + 1) (.int .u64 (W2 0 : Nat))).cell (D.length * 7 + 2) (.int .u64 (W2 1 : Nat))).cell (D.length * 7 + 3) (.int .u64 (W2 2 : Nat))).cell (D.length * 7 + 4) (.int .u64 (W2 3 : Nat))).cell (D.length * 7 + 5) (.int .u64 (W2 4 : Nat))).cell (D.length * 7 + 6) (.slice pk2 nk2 ck2))
                go_simp
                (try go_wp2_with fail)
                refine hK.out _ _ (by (try dsimp only); exact HSA.out _ _ _ _ _ HC1.out) (fun hHeld => ?_)
                clear hK K
                (try simp only [Act.put, List.setIfInBounds_toArray, List.set_cons_zero, List.set_cons_succ])
                clear e01 e02 e03 e11 e12 e21 e22 e31 e32 e41 e42 e51 e52 e61 e62
                refine wpAnyH_ready (rs := [11]) (by kernel_rfl) (by simp) ?_
                refine AllReadyH.cons rfl (fun K hK => ?_) AllReadyH.nil
                have n0 := HXK.out _ _ _ _ _ HC1.out
                have n1 := n0.1
                have n2 := n0.2.1
                have n3 := n0.2.2
                clear n0
                have HC2 := Lib.hid (HC1.out.store (.slice (some ⟨g3, 0, none⟩) (D.length + 1) c3))
                go_simp
                (try go_wp2_with fail)
                refine hK.out _ _ (by (try dsimp only); exact HSA.out _ _ _ _ _ HC2.out) (fun hHeld => ?_)
                clear hK K
                (try simp only [Act.put, List.setIfInBounds_toArray, List.set_cons_zero, List.set_cons_succ])
                clear n1 n2 n3
                refine wpAnyH_done (by kernel_rfl) ?_ _
                skip
                go_wp2_with fail
                have hown := HC2.out.own
                rw [set7 (nkCells D) _ _ _ _ _ _ _ _ _ _ _ _ _ _ (D.length * 7) (nkCells_len D)] at hown
                refine ⟨⟨k + 1, R2, P ++ [stepL A.ru (s2 : Int) (ofL A.ru K2) []], D ++ [⟨(s2 : Int), W2, .slice pk2 nk2 ck2⟩], .slice (some ⟨g3, 0, none⟩) (D.length + 1) c3, by go_num, Lib.hid (by have := hk.out; simp only [Hg.len] at this; omega), Lib.hid (by rw [← HE.out, ofL]; simp), HOKR2, HOSR2, Lib.hid HSK.out.2.2, Lib.hid (by rw [List.length_append, HDL.out]; rfl), Lib.hid (by rw [List.map_append]; exact HSO.out.snoc HM2.out), Lib.hid (fun x hx => by rcases List.mem_append.1 hx with hx | hx; exact HDW.out x hx; rw [List.mem_singleton] at hx; subst hx; exact HW2.out), Lib.hid (fun _ => ⟨b, o, rfl, HR2.out⟩), Lib.hid (by rw [nkCells_app, List.length_append]; exact hown), Lib.hid HC2.out.bel, Lib.hid HC2.out.tb, Lib.hid HC2.out.rb, Lib.hid HC2.out.nb⟩, ?_⟩
                simp [intOf]; omega
              · skip
                have n0 := HXK.out _ _ _ _ _ HB9.out
                have n1 := n0.1
                have n2 := n0.2.1
                have n3 := n0.2.2
                clear n0
                have HC1 := Lib.hid (HB9.out.store (.slice (some ⟨g3, 0, none⟩) (D.length + 1) c3))
                go_simp
                (try go_wp2_with fail)
                refine hK.out _ _ (by (try dsimp only); exact HSA.out _ _ _ _ _ HC1.out) (fun hHeld => ?_)
                clear hK K
                (try simp only [Act.put, List.setIfInBounds_toArray, List.set_cons_zero, List.set_cons_succ])
                clear n1 n2 n3
                refine wpAnyH_ready (rs := [9]) (by kernel_rfl) (by simp) ?_
                refine AllReadyH.cons rfl (fun K hK => ?_) AllReadyH.nil
                have e0 := HZW.out g3 c3 _ _ HC1.out 0 _ (by omega) rfl
                have e1 := HZW.out g3 c3 _ _ HC1.out 1 _ (by omega) rfl
                have e2 := HZW.out g3 c3 _ _ HC1.out 2 _ (by omega) rfl
                have e3 := HZW.out g3 c3 _ _ HC1.out 3 _ (by omega) rfl
                have e4 := HZW.out g3 c3 _ _ HC1.out 4 _ (by omega) rfl
                have e5 := HZW.out g3 c3 _ _ HC1.out 5 _ (by omega) rfl
                have e6 := HZW.out g3 c3 _ _ HC1.out 6 _ (by omega) rfl
                simp only [Nat.add_zero] at e0
                have e01 := e0.1
                have e02 := e0.2.1
                have e03 := e0.2.2
                have e11 := e1.1
                have e12 := e1.2.1
                have e21 := e2.1
                have e22 := e2.2.1
                have e31 := e3.1
                have e32 := e3.2.1
                have e41 := e4.1
                have e42 := e4.2.1
                have e51 := e5.1
                have e52 := e5.2.1
                have e61 := e6.1
                have e62 := e6.2.1
                clear e0 e1 e2 e3 e4 e5 e6
                have HC2 := Lib.hid (((((((HC1.out.cell (D.length * 7) (.int .i64 (s2 : Int))).cell (D.length * 7 + 1) (.int .u64 (W2 0 : Nat))).cell (D.length * 7 + 2) (.int .u64 (W2 1 : Nat))).cell (D.length * 7 + 3) (.int .u64 (W2 2 : Nat))).cell (D.length * 7 + 4) (.int .u64 (W2 3 : Nat))).cell (D.length * 7 + 5) (.int .u64 (W2 4 : Nat))).cell (D.length * 7 + 6) (.slice pk2 nk2 ck2))
                go_simp
                (try go_wp2_with fail)
                refine hK.out _ _ (by (try dsimp only); exact HSA.out _ _ _ _ _ HC2.out) (fun hHeld => ?_)
                clear hK K
                (try simp only [Act.put, List.setIfInBounds_toArray, List.set_cons_zero, List.set_cons_succ])
                clear e01 e02 e03 e11 e12 e21 e22 e31 e32 e41 e42 e51 e52 e61 e62
                refine wpAnyH_done (by kernel_rfl) ?_ _
                skip
                go_wp2_with fail
                have hown := HC2.out.own
                rw [set7 (nkCells D) _ _ _ _ _ _ _ _ _ _ _ _ _ _ (D.length * 7) (nkCells_len D)] at hown
                refine ⟨⟨k + 1, R2, P ++ [stepL A.ru (s2 : Int) (ofL A.ru K2) []], D ++ [⟨(s2 : Int), W2, .slice pk2 nk2 ck2⟩], .slice (some ⟨g3, 0, none⟩) (D.length + 1) c3, by go_num, Lib.hid (by have := hk.out; simp only [Hg.len] at this; omega), Lib.hid (by rw [← HE.out, ofL]; simp), HOKR2, HOSR2, Lib.hid HSK.out.2.2, Lib.hid (by rw [List.length_append, HDL.out]; rfl), Lib.hid (by rw [List.map_append]; exact HSO.out.snoc HM2.out), Lib.hid (fun x hx => by rcases List.mem_append.1 hx with hx | hx; exact HDW.out x hx; rw [List.mem_singleton] at hx; subst hx; exact HW2.out), Lib.hid (fun _ => ⟨b, o, rfl, HR2.out⟩), Lib.hid (by rw [nkCells_app, List.length_append]; exact hown), Lib.hid HC2.out.bel, Lib.hid HC2.out.tb, Lib.hid HC2.out.rb, Lib.hid HC2.out.nb⟩, ?_⟩
                simp [intOf]; omega
        · skip
          have HA1 := Lib.hid (HAK.out.below (((Below.refl _ (wr.alloc (.cells #[.int .i64 (s2 : Int), .slice pk K2.len ck] 43))).alloc (Nat.le_refl _) (.cells #[.int .i64 0, .int .u64 0, .int .u64 0, .int .u64 0, .int .u64 0, .int .u64 0, .slice none 0 0] 82)).drew))
          have HZB := Lib.hid ((Blk.new (wr.alloc (.cells #[.int .i64 (s2 : Int), .slice pk K2.len ck] 43)) 82 #[.int .i64 0, .int .u64 0, .int .u64 0, .int .u64 0, .int .u64 0, .int .u64 0, .slice none 0 0]).drew)
          rw [World.size_alloc] at HZB
          go_simp
          refine hK.out _ _ (by (try dsimp only); exact HSA.out _ _ _ _ _ HA1.out) (fun hHeld => ?_)
          clear hK K
          (try simp only [Act.put, List.setIfInBounds_toArray, List.set_cons_zero, List.set_cons_succ])
          refine wpAnyH_ready (rs := [1, 4]) (by kernel_rfl) (by simp) ?_
          refine AllReadyH.cons rfl (fun K hK => ?_) (AllReadyH.cons rfl (fun K hK => ?_) AllReadyH.nil)
          · skip
            have zz := (HXK.out _ _ _ _ _ HA1.out).1
            go_simp
            refine hK.out _ _ (by (try dsimp only); exact HSA.out _ _ _ _ _ HA1.out) (fun hHeld => ?_)
            clear hK K
            (try simp only [Act.put, List.setIfInBounds_toArray, List.set_cons_zero, List.set_cons_succ])
            clear zz
            refine wpAnyH_take (i := 5) (v := ?v_12) rfl (by kernel_rfl) (by kernel_rfl) (by kernel_rfl) (fun _ _ _ h => h) (Or.inl ⟨by rfl, ?y_12⟩) (by assumption) ?r_12
            case y_12 => (intro w hSw; (try dsimp only at hSw); go_simp); (try with_reducible rfl)
            (try simp only [Act.put, List.setIfInBounds_toArray, List.set_cons_zero, List.set_cons_succ])
            refine wpAnyH_ready (rs := [4]) (by kernel_rfl) (by simp) ?_
            refine AllReadyH.cons rfl (fun K hK => ?_) AllReadyH.nil
            · skip
              go_simp
              refine (HIH.out s2 K2 _ _ HSK.out.1 HSK.out.2.1 (HT.out.below HA1.out.bel) (HK2.out.below HA1.out.bel) hs2n hk23 HOSK.out HFK.out HOK2.out).mono ?_
              rintro e wc ⟨⟨W2, pk2, nk2, ck2, rfl, hW2, hm2⟩, hbc⟩
              have HW2 := Lib.hid hW2
              have HM2 := Lib.hid hm2
              have HBC := Lib.hid hbc
              have HA3 := Lib.hid (HA1.out.below hbc)
              have HZC := Lib.hid ((HZB.out).below hbc (HZB.out).lt)
              clear hW2 hm2 hbc
              unfold nodeV
              (try go_wp2_with fail)
              refine hK.out _ _ (by (try dsimp only); exact HSA.out _ _ _ _ _ HA3.out) (fun hHeld => ?_)
              clear hK K
              (try simp only [Act.put, List.setIfInBounds_toArray, List.set_cons_zero, List.set_cons_succ])
              refine wpAnyH_ready (rs := [7]) (by kernel_rfl) (by simp) ?_
              refine AllReadyH.cons rfl (fun K hK => ?_) AllReadyH.nil
              refine step_append_own _ rfl (.tmp 21) (.tmp 26) 80 rfl (w.heap.size + 1 + 1 + 1) 82 i0 _ 7 72 Tryd.underlying80 HI.out hz0 hz1 hz2 rfl (by decide) (.slice a0 D.length k0) D.length (nkCells D) rfl HA3.out.own _ 1 1 [.int .i64 0, .int .u64 0, .int .u64 0, .int .u64 0, .int .u64 0, .int .u64 0, .slice none 0 0] rfl rfl (new_list (HZC.out)) HON.out HLM1.out HLM2.out (HBS.out _ _ _ _ _ HA3.out) ?_
              intro v3 W3 ho3 hg3 _
              obtain ⟨g3, c3, rfl⟩ := own_form ho3
              have HB9 := Lib.hid (HA3.out.app hg3 ho3)
              clear ho3 hg3
              refine hK.out _ _ (by (try dsimp only); exact HSA.out _ _ _ _ _ HB9.out) (fun hHeld => ?_)
              clear hK K
              (try simp only [Act.put, List.setIfInBounds_toArray, List.set_cons_zero, List.set_cons_succ])
              refine wpAnyH_take (i := 8) (v := ?v_13) rfl (by kernel_rfl) (by kernel_rfl) (by kernel_rfl) (fun _ _ _ h => h) (Or.inl ⟨by rfl, ?y_13⟩) (by assumption) ?r_13
              case y_13 => (intro w hSw; (try dsimp only at hSw); go_simp); (try with_reducible rfl)
              (try simp only [Act.put, List.setIfInBounds_toArray, List.set_cons_zero, List.set_cons_succ])
              refine wpAnyH_take (i := 10) (v := ?v_14) rfl (by kernel_rfl) (by kernel_rfl) (by kernel_rfl) (fun _ _ _ h => h) (Or.inl ⟨by rfl, ?y_14⟩) (by assumption) ?r_14
              case y_14 => (intro w hSw; (try dsimp only at hSw); go_simp); (try with_reducible rfl)
              (try simp only [Act.put, List.setIfInBounds_toArray, List.set_cons_zero, List.set_cons_succ])
              refine wpAnyH_ready (rs := [9, 11]) (by kernel_rfl) (by simp) ?_
              refine AllReadyH.cons rfl (fun K hK => ?_) (AllReadyH.cons rfl (fun K hK => ?_) AllReadyH.nil)
              · skip
                have e0 := HZW.out g3 c3 _ _ HB9.out 0 _ (by omega) rfl
                have e1 := HZW.out g3 c3 _ _ HB9.out 1 _ (by omega) rfl
                have e2 := HZW.out g3 c3 _ _ HB9.out 2 _ (by omega) rfl
                have e3 := HZW.out g3 c3 _ _ HB9.out 3 _ (by omega) rfl
                have e4 := HZW.out g3 c3 _ _ HB9.out 4 _ (by omega) rfl
                have e5 := HZW.out g3 c3 _ _ HB9.out 5 _ (by omega) rfl
                have e6 := HZW.out g3 c3 _ _ HB9.out 6 _ (by omega) rfl
                simp only [Nat.add_zero] at e0
                have e01 := e0.1
                have e02 := e0.2.1
                have e03 := e0.2.2
                have e11 := e1.1
                have e12 := e1.2.1
                have e21 := e2.1
                have e22 := e2.2.1
                have e31 := e3.1
                have e32 := e3.2.1
                have e41 := e4.1
                have e42 := e4.2.1
                have e51 := e5.1
                have e52 := e5.2.1
                have e61 := e6.1
                have e62 := e6.2.1
                clear e0 e1 e2 e3 e4 e5 e6
                have HC1 := Lib.hid (((((((HB9.out.cell (D.length * 7) (.int .i64 (s2 : Int))).cell (D.length * 7 + 1) (.int .u64 (W2 0 : Nat))).cell (D.length * 7 + 2) (.int .u64 (W2 1 : Nat))).cell (D.length * 7 + 3) (.int .u64 (W2 2 : Nat))).cell (D.length * 7 + 4) (.int .u64 (W2 3 : Nat))).cell (D.length * 7 + 5) (.int .u64 (W2 4 : Nat))).cell (D.length * 7 + 6) (.slice pk2 nk2 ck2))
                go_simp
                (try go_wp2_with fail)
                refine hK.out _ _ (by (try dsimp only); exact HSA.out _ _ _ _ _ HC1.out) (fun hHeld => ?_)
                clear hK K
                (try simp only [Act.put, List.setIfInBounds_toArray, List.set_cons_zero, List.set_cons_succ])
                clear e01 e02 e03 e11 e12 e21 e22 e31 e32 e41 e42 e51 e52 e61 e62
                refine wpAnyH_ready (rs := [11]) (by kernel_rfl) (by simp) ?_
                refine AllReadyH.cons rfl (fun K hK => ?_) AllReadyH.nil
                have n0 := HXK.out _ _ _ _ _ HC1.out
                have n1 := n0.1
                have n2 := n0.2.1
                have n3 := n0.2.2
                clear n0
                have HC2 := Lib.hid (HC1.out.store (.slice (some ⟨g3, 0, none⟩) (D.length + 1) c3))
                go_simp
                (try go_wp2_with fail)
                refine hK.out _ _ (by (try dsimp only); exact HSA.out _ _ _ _ _ HC2.out) (fun hHeld => ?_)
                clear hK K
                (try simp only [Act.put, List.setIfInBounds_toArray, List.set_cons_zero, List.set_cons_succ])
                clear n1 n2 n3
                refine wpAnyH_done (by kernel_rfl) ?_ _
                skip
                go_wp2_with fail
                have hown := HC2.out.own
                rw [set7 (nkCells D) _ _ _ _ _ _ _ _ _ _ _ _ _ _ (D.length * 7) (nkCells_len D)] at hown
                refine ⟨⟨k + 1, R2, P ++ [stepL A.ru (s2 : Int) (ofL A.ru K2) []], D ++ [⟨(s2 : Int), W2, .slice pk2 nk2 ck2⟩], .slice (some ⟨g3, 0, none⟩) (D.length + 1) c3, by go_num, Lib.hid (by have := hk.out; simp only [Hg.len] at this; omega), Lib.hid (by rw [← HE.out, ofL]; simp), HOKR2, HOSR2, Lib.hid HSK.out.2.2, Lib.hid (by rw [List.length_append, HDL.out]; rfl), Lib.hid (by rw [List.map_append]; exact HSO.out.snoc HM2.out), Lib.hid (fun x hx => by rcases List.mem_append.1 hx with hx | hx; exact HDW.out x hx; rw [List.mem_singleton] at hx; subst hx; exact HW2.out), Lib.hid (fun _ => ⟨b, o, rfl, HR2.out⟩), Lib.hid (by rw [nkCells_app, List.length_append]; exact hown), Lib.hid HC2.out.bel, Lib.hid HC2.out.tb, Lib.hid HC2.out.rb, Lib.hid HC2.out.nb⟩, ?_⟩
                simp [intOf]; omega
              · skip
                have n0 := HXK.out _ _ _ _ _ HB9.out
                have n1 := n0.1
                have n2 := n0.2.1
                have n3 := n0.2.2
                clear n0
                have HC1 := Lib.hid (HB9.out.store (.slice (some ⟨g3, 0, none⟩) (D.length + 1) c3))
                go_simp
                (try go_wp2_with fail)
                refine hK.out _ _ (by (try dsimp only); exact HSA.out _ _ _ _ _ HC1.out) (fun hHeld => ?_)
                clear hK K
                (try simp only [Act.put, List.setIfInBounds_toArray, List.set_cons_zero, List.set_cons_succ])
                clear n1 n2 n3
                refine wpAnyH_ready (rs := [9]) (by kernel_rfl) (by simp) ?_
                refine AllReadyH.cons rfl (fun K hK => ?_) AllReadyH.nil
                have e0 := HZW.out g3 c3 _ _ HC1.out 0 _ (by omega) rfl
                have e1 := HZW.out g3 c3 _ _ HC1.out 1 _ (by omega) rfl
                have e2 := HZW.out g3 c3 _ _ HC1.out 2 _ (by omega) rfl
                have e3 := HZW.out g3 c3 _ _ HC1.out 3 _ (by omega) rfl
                have e4 := HZW.out g3 c3 _ _ HC1.out 4 _ (by omega) rfl
                have e5 := HZW.out g3 c3 _ _ HC1.out 5 _ (by omega) rfl
                have e6 := HZW.out g3 c3 _ _ HC1.out 6 _ (by omega) rfl
                simp only [Nat.add_zero] at e0
                have e01 := e0.1
                have e02 := e0.2.1
                have e03 := e0.2.2
                have e11 := e1.1
                have e12 := e1.2.1
                have e21 := e2.1
                have e22 := e2.2.1
                have e31 := e3.1
                have e32 := e3.2.1
                have e41 := e4.1
                have e42 := e4.2.1
                have e51 := e5.1
                have e52 := e5.2.1
                have e61 := e6.1
                have e62 := e6.2.1
                clear e0 e1 e2 e3 e4 e5 e6
                have HC2 := Lib.hid (((((((HC1.out.cell (D.length * 7) (.int .i64 (s2 : Int))).cell (D.length * 7 + 1) (.int .u64 (W2 0 : Nat))).cell (D.length * 7 + 2) (.int .u64 (W2 1 : Nat))).cell (D.length * 7 + 3) (.int .u64 (W2 2 : Nat))).cell (D.length * 7 + 4) (.int .u64 (W2 3 : Nat))).cell (D.length * 7 + 5) (.int .u64 (W2 4 : Nat))).cell (D.length * 7 + 6) (.slice pk2 nk2 ck2))
                go_simp
                (try go_wp2_with fail)
                refine hK.out _ _ (by (try dsimp only); exact HSA.out _ _ _ _ _ HC2.out) (fun hHeld => ?_)
                clear hK K
                (try simp only [Act.put, List.setIfInBounds_toArray, List.set_cons_zero, List.set_cons_succ])
                clear e01 e02 e03 e11 e12 e21 e22 e31 e32 e41 e42 e51 e52 e61 e62
                refine wpAnyH_done (by kernel_rfl) ?_ _
                skip
                go_wp2_with fail
                have hown := HC2.out.own
                rw [set7 (nkCells D) _ _ _ _ _ _ _ _ _ _ _ _ _ _ (D.length * 7) (nkCells_len D)] at hown
                refine ⟨⟨k + 1, R2, P ++ [stepL A.ru (s2 : Int) (ofL A.ru K2) []], D ++ [⟨(s2 : Int), W2, .slice pk2 nk2 ck2⟩], .slice (some ⟨g3, 0, none⟩) (D.length + 1) c3, by go_num, Lib.hid (by have := hk.out; simp only [Hg.len] at this; omega), Lib.hid (by rw [← HE.out, ofL]; simp), HOKR2, HOSR2, Lib.hid HSK.out.2.2, Lib.hid (by rw [List.length_append, HDL.out]; rfl), Lib.hid (by rw [List.map_append]; exact HSO.out.snoc HM2.out), Lib.hid (fun x hx => by rcases List.mem_append.1 hx with hx | hx; exact HDW.out x hx; rw [List.mem_singleton] at hx; subst hx; exact HW2.out), Lib.hid (fun _ => ⟨b, o, rfl, HR2.out⟩), Lib.hid (by rw [nkCells_app, List.length_append]; exact hown), Lib.hid HC2.out.bel, Lib.hid HC2.out.tb, Lib.hid HC2.out.rb, Lib.hid HC2.out.nb⟩, ?_⟩
                simp [intOf]; omega
          · skip
            go_simp
            refine (HIH.out s2 K2 _ _ HSK.out.1 HSK.out.2.1 (HT.out.below HA1.out.bel) (HK2.out.below HA1.out.bel) hs2n hk23 HOSK.out HFK.out HOK2.out).mono ?_
            rintro e wc ⟨⟨W2, pk2, nk2, ck2, rfl, hW2, hm2⟩, hbc⟩
            have HW2 := Lib.hid hW2
            have HM2 := Lib.hid hm2
            have HBC := Lib.hid hbc
            have HA2 := Lib.hid (HA1.out.below hbc)
            have HZC := Lib.hid ((HZB.out).below hbc (HZB.out).lt)
            clear hW2 hm2 hbc
            unfold nodeV
            (try go_wp2_with fail)
            refine hK.out _ _ (by (try dsimp only); exact HSA.out _ _ _ _ _ HA2.out) (fun hHeld => ?_)
            clear hK K
            (try simp only [Act.put, List.setIfInBounds_toArray, List.set_cons_zero, List.set_cons_succ])
            refine wpAnyH_ready (rs := [1]) (by kernel_rfl) (by simp) ?_
            refine AllReadyH.cons rfl (fun K hK => ?_) AllReadyH.nil
            · skip
              have zz := (HXK.out _ _ _ _ _ HA2.out).1
              go_simp
              refine hK.out _ _ (by (try dsimp only); exact HSA.out _ _ _ _ _ HA2.out) (fun hHeld => ?_)
              clear hK K
              (try simp only [Act.put, List.setIfInBounds_toArray, List.set_cons_zero, List.set_cons_succ])
              clear zz
              refine wpAnyH_take (i := 5) (v := ?v_15) rfl (by kernel_rfl) (by kernel_rfl) (by kernel_rfl) (fun _ _ _ h => h) (Or.inl ⟨by rfl, ?y_15⟩) (by assumption) ?r_15
              case y_15 => (intro w hSw; (try dsimp only at hSw); go_simp); (try with_reducible rfl)
              (try simp only [Act.put, List.setIfInBounds_toArray, List.set_cons_zero, List.set_cons_succ])
              refine wpAnyH_ready (rs := [7]) (by kernel_rfl) (by simp) ?_
              refine AllReadyH.cons rfl (fun K hK => ?_) AllReadyH.nil
              refine step_append_own _ rfl (.tmp 21) (.tmp 26) 80 rfl (w.heap.size + 1 + 1 + 1) 82 i0 _ 7 72 Tryd.underlying80 HI.out hz0 hz1 hz2 rfl (by decide) (.slice a0 D.length k0) D.length (nkCells D) rfl HA2.out.own _ 1 1 [.int .i64 0, .int .u64 0, .int .u64 0, .int .u64 0, .int .u64 0, .int .u64 0, .slice none 0 0] rfl rfl (new_list (HZC.out)) HON.out HLM1.out HLM2.out (HBS.out _ _ _ _ _ HA2.out) ?_
              intro v3 W3 ho3 hg3 _
              obtain ⟨g3, c3, rfl⟩ := own_form ho3
              have HB9 := Lib.hid (HA2.out.app hg3 ho3)
              clear ho3 hg3
              refine hK.out _ _ (by (try dsimp only); exact HSA.out _ _ _ _ _ HB9.out) (fun hHeld => ?_)
              clear hK K
              (try simp only [Act.put, List.setIfInBounds_toArray, List.set_cons_zero, List.set_cons_succ])
              refine wpAnyH_take (i := 8) (v := ?v_16) rfl (by kernel_rfl) (by kernel_rfl) (by kernel_rfl) (fun _ _ _ h => h) (Or.inl ⟨by rfl, ?y_16⟩) (by assumption) ?r_16
              case y_16 => (intro w hSw; (try dsimp only at hSw); go_simp); (try with_reducible rfl)
              (try simp only [Act.put, List.setIfInBounds_toArray, List.set_cons_zero, List.set_cons_succ])
              refine wpAnyH_take (i := 10) (v := ?v_17) rfl (by kernel_rfl) (by kernel_rfl) (by kernel_rfl) (fun _ _ _ h => h) (Or.inl ⟨by rfl, ?y_17⟩) (by assumption) ?r_17
              case y_17 => (intro w hSw; (try dsimp only at hSw); go_simp); (try with_reducible rfl)
              (try simp only [Act.put, List.setIfInBounds_toArray, List.set_cons_zero, List.set_cons_succ])
              refine wpAnyH_ready (rs := [9, 11]) (by kernel_rfl) (by simp) ?_
              refine AllReadyH.cons rfl (fun K hK => ?_) (AllReadyH.cons rfl (fun K hK => ?_) AllReadyH.nil)
              · skip
                have e0 := HZW.out g3 c3 _ _ HB9.out 0 _ (by omega) rfl
                have e1 := HZW.out g3 c3 _ _ HB9.out 1 _ (by omega) rfl
                have e2 := HZW.out g3 c3 _ _ HB9.out 2 _ (by omega) rfl
                have e3 := HZW.out g3 c3 _ _ HB9.out 3 _ (by omega) rfl
                have e4 := HZW.out g3 c3 _ _ HB9.out 4 _ (by omega) rfl
                have e5 := HZW.out g3 c3 _ _ HB9.out 5 _ (by omega) rfl
                have e6 := HZW.out g3 c3 _ _ HB9.out 6 _ (by omega) rfl
                simp only [Nat.add_zero] at e0
                have e01 := e0.1
                have e02 := e0.2.1
                have e03 := e0.2.2
                have e11 := e1.1
                have e12 := e1.2.1
                have e21 := e2.1
                have e22 := e2.2.1
                have e31 := e3.1
                have e32 := e3.2.1
                have e41 := e4.1
                have e42 := e4.2.1
                have e51 := e5.1
                have e52 := e5.2.1
                have e61 := e6.1
                have e62 := e6.2.1
                clear e0 e1 e2 e3 e4 e5 e6
                have HC1 := Lib.hid (((((((HB9.out.cell (D.length * 7) (.int .i64 (s2 : Int))).cell (D.length * 7 + 1) (.int .u64 (W2 0 : Nat))).cell (D.length * 7 + 2) (.int .u64 (W2 1 : Nat))).cell (D.length * 7 + 3) (.int .u64 (W2 2 : Nat))).cell (D.length * 7 + 4) (.int .u64 (W2 3 : Nat))).cell (D.length * 7 + 5) (.int .u64 (W2 4 : Nat))).cell (D.length * 7 + 6) (.slice pk2 nk2 ck2))
                go_simp
                (try go_wp2_with fail)
                refine hK.out _ _ (by (try dsimp only); exact HSA.out _ _ _ _ _ HC1.out) (fun hHeld => ?_)
                clear hK K
                (try simp only [Act.put, List.setIfInBounds_toArray, List.set_cons_zero, List.set_cons_succ])
                clear e01 e02 e03 e11 e12 e21 e22 e31 e32 e41 e42 e51 e52 e61 e62
                refine wpAnyH_ready (rs := [11]) (by kernel_rfl) (by simp) ?_
                refine AllReadyH.cons rfl (fun K hK => ?_) AllReadyH.nil
                have n0 := HXK.out _ _ _ _ _ HC1.out
                have n1 := n0.1
                have n2 := n0.2.1
                have n3 := n0.2.2
                clear n0
                have HC2 := Lib.hid (HC1.out.store (.slice (some ⟨g3, 0, none⟩) (D.length + 1) c3))
                go_simp
                (try go_wp2_with fail)
                refine hK.out _ _ (by (try dsimp only); exact HSA.out _ _ _ _ _ HC2.out) (fun hHeld => ?_)
                clear hK K
                (try simp only [Act.put, List.setIfInBounds_toArray, List.set_cons_zero, List.set_cons_succ])
                clear n1 n2 n3
                refine wpAnyH_done (by kernel_rfl) ?_ _
                skip
                go_wp2_with fail
                have hown := HC2.out.own
                rw [set7 (nkCells D) _ _ _ _ _ _ _ _ _ _ _ _ _ _ (D.length * 7) (nkCells_len D)] at hown
                refine ⟨⟨k + 1, R2, P ++ [stepL A.ru (s2 : Int) (ofL A.ru K2) []], D ++ [⟨(s2 : Int), W2, .slice pk2 nk2 ck2⟩], .slice (some ⟨g3, 0, none⟩) (D.length + 1) c3, by go_num, Lib.hid (by have := hk.out; simp only [Hg.len] at this; omega), Lib.hid (by rw [← HE.out, ofL]; simp), HOKR2, HOSR2, Lib.hid HSK.out.2.2, Lib.hid (by rw [List.length_append, HDL.out]; rfl), Lib.hid (by rw [List.map_append]; exact HSO.out.snoc HM2.out), Lib.hid (fun x hx => by rcases List.mem_append.1 hx with hx | hx; exact HDW.out x hx; rw [List.mem_singleton] at hx; subst hx; exact HW2.out), Lib.hid (fun _ => ⟨b, o, rfl, HR2.out⟩), Lib.hid (by rw [nkCells_app, List.length_append]; exact hown), Lib.hid HC2.out.bel, Lib.hid HC2.out.tb, Lib.hid HC2.out.rb, Lib.hid HC2.out.nb⟩, ?_⟩
                simp [intOf]; omega
              · skip
                have n0 := HXK.out _ _ _ _ _ HB9.out
                have n1 := n0.1
                have n2 := n0.2.1
                have n3 := n0.2.2
                clear n0
                have HC1 := Lib.hid (HB9.out.store (.slice (some ⟨g3, 0, none⟩) (D.length + 1) c3))
                go_simp
                (try go_wp2_with fail)
                refine hK.out _ _ (by (try dsimp only); exact HSA.out _ _ _ _ _ HC1.out) (fun hHeld => ?_)
                clear hK K
                (try simp only [Act.put, List.setIfInBounds_toArray, List.set_cons_zero, List.set_cons_succ])
                clear n1 n2 n3
                refine wpAnyH_ready (rs := [9]) (by kernel_rfl) (by simp) ?_
                refine AllReadyH.cons rfl (fun K hK => ?_) AllReadyH.nil
                have e0 := HZW.out g3 c3 _ _ HC1.out 0 _ (by omega) rfl
                have e1 := HZW.out g3 c3 _ _ HC1.out 1 _ (by omega) rfl
                have e2 := HZW.out g3 c3 _ _ HC1.out 2 _ (by omega) rfl
                have e3 := HZW.out g3 c3 _ _ HC1.out 3 _ (by omega) rfl
                have e4 := HZW.out g3 c3 _ _ HC1.out 4 _ (by omega) rfl
                have e5 := HZW.out g3 c3 _ _ HC1.out 5 _ (by omega) rfl
                have e6 := HZW.out g3 c3 _ _ HC1.out 6 _ (by omega) rfl
                simp only [Nat.add_zero] at e0
                have e01 := e0.1
                have e02 := e0.2.1
                have e03 := e0.2.2
                have e11 := e1.1
                have e12 := e1.2.1
                have e21 := e2.1
                have e22 := e2.2.1
                have e31 := e3.1
                have e32 := e3.2.1
                have e41 := e4.1
                have e42 := e4.2.1
                have e51 := e5.1
                have e52 := e5.2.1
                have e61 := e6.1
                have e62 := e6.2.1
                clear e0 e1 e2 e3 e4 e5 e6
                have HC2 := Lib.hid (((((((HC1.out.cell (D.length * 7) (.int .i64 (s2 : Int))).cell (D.length * 7 + 1) (.int .u64 (W2 0 : Nat))).cell (D.length * 7 + 2) (.int .u64 (W2 1 : Nat))).cell (D.length * 7 + 3) (.int .u64 (W2 2 : Nat))).cell (D.length * 7 + 4) (.int .u64 (W2 3 : Nat))).cell (D.length * 7 + 5) (.int .u64 (W2 4 : Nat))).cell (D.length * 7 + 6) (.slice pk2 nk2 ck2))
                go_simp
                (try go_wp2_with fail)
                refine hK.out _ _ (by (try dsimp only); exact HSA.out _ _ _ _ _ HC2.out) (fun hHeld => ?_)
                clear hK K
                (try simp only [Act.put, List.setIfInBounds_toArray, List.set_cons_zero, List.set_cons_succ])
                clear e01 e02 e03 e11 e12 e21 e22 e31 e32 e41 e42 e51 e52 e61 e62
                refine wpAnyH_done (by kernel_rfl) ?_ _
                skip
                go_wp2_with fail
                have hown := HC2.out.own
                rw [set7 (nkCells D) _ _ _ _ _ _ _ _ _ _ _ _ _ _ (D.length * 7) (nkCells_len D)] at hown
                refine ⟨⟨k + 1, R2, P ++ [stepL A.ru (s2 : Int) (ofL A.ru K2) []], D ++ [⟨(s2 : Int), W2, .slice pk2 nk2 ck2⟩], .slice (some ⟨g3, 0, none⟩) (D.length + 1) c3, by go_num, Lib.hid (by have := hk.out; simp only [Hg.len] at this; omega), Lib.hid (by rw [← HE.out, ofL]; simp), HOKR2, HOSR2, Lib.hid HSK.out.2.2, Lib.hid (by rw [List.length_append, HDL.out]; rfl), Lib.hid (by rw [List.map_append]; exact HSO.out.snoc HM2.out), Lib.hid (fun x hx => by rcases List.mem_append.1 hx with hx | hx; exact HDW.out x hx; rw [List.mem_singleton] at hx; subst hx; exact HW2.out), Lib.hid (fun _ => ⟨b, o, rfl, HR2.out⟩), Lib.hid (by rw [nkCells_app, List.length_append]; exact hown), Lib.hid HC2.out.bel, Lib.hid HC2.out.tb, Lib.hid HC2.out.rb, Lib.hid HC2.out.nb⟩, ?_⟩
                simp [intOf]; omega

end Go.Proofs.YtedfldbknjcnlaaDoor
