/- The nodes that annotate makes, as they lie in memory. auto.annotate: what it makes, with the subtrees. -/
import Derived.Test.YtopineheelkcmaaDoorAnn
namespace Go.Proofs.YtopineheelkcmaaDoor
section
open Go.RowKit Go.Shelf

/-- Nodes of a list of trees: symbol, states, subtrees. -/
def NdRow (R : List Ru) (S : Nat → Prop) (w : World) : Hg → Nat → Nat → Prop
  | .nil, _, _ => True
  | .cons l k r, b, o => S b ∧ w.cell? ⟨b, o, none⟩ = some (.int .i64 l) ∧ (∃ W, SetAt w b (o + 1) W ∧ W64 W ∧ ∀ q : Nat, mem W q = true ↔ (q : Int) ∈ stepL R l (ofL R k) []) ∧
      (∃ p c, w.cell? ⟨b, o + 6, none⟩ = some (.slice p k.len c) ∧ k.len ≤ c ∧ c ≤ maxLen ∧ (k ≠ .nil → ∃ b', p = some ⟨b', 0, none⟩ ∧ NdRow R S w k b' 0)) ∧ NdRow R S w r b (o + 7)
def NdK (R : List Ru) (S : Nat → Prop) (w : World) (v : Value) (k : Hg) : Prop :=
  ∃ p c, v = .slice p k.len c ∧ k.len ≤ c ∧ c ≤ maxLen ∧ (k ≠ .nil → ∃ b', p = some ⟨b', 0, none⟩ ∧ NdRow R S w k b' 0)

theorem NdRow.kp {R : List Ru} {S : Nat → Prop} {w w' : World} (hb : Kp S w w') : ∀ (h : Hg) (b o : Nat), NdRow R S w h b o → NdRow R S w' h b o
  | .nil, _, _, _ => trivial
  | .cons l k r, b, o, ⟨h0, h1, ⟨W, h2, h2', h2''⟩, ⟨p, c, h3, h4, h5, h6⟩, h7⟩ =>
    ⟨h0, hb.cell h1 h0, ⟨W, fun i hi => hb.cell (h2 i hi) h0, h2', h2''⟩, ⟨p, c, hb.cell h3 h0, h4, h5, fun hk => (by
      obtain ⟨b', e, hr⟩ := h6 hk
      exact ⟨b', e, NdRow.kp hb k b' 0 hr⟩)⟩, NdRow.kp hb r b (o + 7) h7⟩
theorem NdRow.mono {R : List Ru} {S S' : Nat → Prop} {w : World} (hS : ∀ b, b < w.heap.size → S b → S' b) : ∀ (h : Hg) (b o : Nat), NdRow R S w h b o → NdRow R S' w h b o
  | .nil, _, _, _ => trivial
  | .cons l k r, b, o, ⟨h0, h1, h2, ⟨p, c, h3, h4, h5, h6⟩, h7⟩ =>
    ⟨hS b (World.block_lt_of_cell? _ _ h1) h0, h1, h2, ⟨p, c, h3, h4, h5, fun hk => (by
      obtain ⟨b', e, hr⟩ := h6 hk
      exact ⟨b', e, NdRow.mono hS k b' 0 hr⟩)⟩, NdRow.mono hS r b (o + 7) h7⟩
theorem NdK.kp {R : List Ru} {S : Nat → Prop} {w w' : World} {v : Value} {k : Hg} (h : NdK R S w v k) (hb : Kp S w w') : NdK R S w' v k := by
  obtain ⟨p, c, e, h1, h2, h3⟩ := h
  refine ⟨p, c, e, h1, h2, fun hk => ?_⟩
  obtain ⟨b', e, hr⟩ := h3 hk
  exact ⟨b', e, NdRow.kp hb k b' 0 hr⟩
theorem NdK.mono {R : List Ru} {S S' : Nat → Prop} {w : World} {v : Value} {k : Hg} (h : NdK R S w v k) (hS : ∀ b, b < w.heap.size → S b → S' b) : NdK R S' w v k := by
  obtain ⟨p, c, e, h1, h2, h3⟩ := h
  refine ⟨p, c, e, h1, h2, fun hk => ?_⟩
  obtain ⟨b', e, hr⟩ := h3 hk
  exact ⟨b', e, NdRow.mono hS k b' 0 hr⟩

/-- The trees of which nodes are done, before those that are left. -/
def kapp : List NK → List (Hg × Value) → Hg → Hg
  | x :: D, y :: L, R => .cons x.s y.1 (kapp D L R)
  | _, _, R => R
theorem kapp_snoc : ∀ (D : List NK) (L : List (Hg × Value)) (x : NK) (y : Hg × Value) (R : Hg), L.map (·.2) = D.map NK.v → kapp (D ++ [x]) (L ++ [y]) R = kapp D L (.cons x.s y.1 R)
  | [], [], _, _, _, _ => rfl
  | [], _ :: _, _, _, _, h => by simp at h
  | _ :: _, [], _, _, _, h => by simp at h
  | a :: D, b :: L, x, y, R, h => by
    simp only [List.map_cons, List.cons.injEq] at h
    simp only [List.cons_append, kapp]
    rw [kapp_snoc D L x y R h.2]
theorem nd_row {R : List Ru} {S : Nat → Prop} {w : World} {g : Nat} (hg : S g) : ∀ (D : List NK) (L : List (Hg × Value)) (K : Hg) (o : Nat), kapp D L .nil = K → L.map (·.2) = D.map NK.v → SetsOf (D.map NK.W) (ofL R K) → (∀ x ∈ D, W64 x.W) → (∀ y ∈ L, NdK R S w y.2 y.1) →
    (∀ (i : Nat) (x : NK) (j : Nat) (u : Value), D[i]? = some x → x.cells[j]? = some u → w.cell? ⟨g, o + i * 7 + j, none⟩ = some u) → NdRow R S w K g o
  | [], [], K, o, h, _, _, _, _, _ => by
    simp only [kapp] at h; subst h; exact trivial
  | [], _ :: _, _, _, _, h, _, _, _, _ => by simp at h
  | _ :: _, [], _, _, _, h, _, _, _, _ => by simp at h
  | x :: D, y :: L, K, o, h, hv, hs, hw, hk, hc => by
    simp only [kapp] at h
    subst h
    simp only [List.map_cons, List.cons.injEq] at hv
    simp only [List.map_cons, ofL, SetsOf] at hs
    have hy := hk y (List.mem_cons_self ..)
    obtain ⟨p, c, e, h1, h2, h3⟩ := hy
    have hcc : ∀ j u, x.cells[j]? = some u → w.cell? ⟨g, o + j, none⟩ = some u := fun j u hu => by
      have := hc 0 x j u rfl hu
      rwa [show o + 0 * 7 + j = o + j by omega] at this
    refine ⟨hg, by simpa using hcc 0 _ rfl, ⟨x.W, fun i hi => ?_, hw x (List.mem_cons_self ..), hs.1⟩, ⟨p, c, hcc 6 _ (by show some x.v = _; rw [← hv.1, e]), h1, h2, h3⟩, ?_⟩
    · have : i = 0 ∨ i = 1 ∨ i = 2 ∨ i = 3 ∨ i = 4 := by omega
      rcases this with rfl | rfl | rfl | rfl | rfl
      · exact hcc 1 _ rfl
      · exact hcc 2 _ rfl
      · exact hcc 3 _ rfl
      · exact hcc 4 _ rfl
      · exact hcc 5 _ rfl
    · refine nd_row hg D L _ (o + 7) rfl hv.2 hs.2 (fun z hz => hw z (List.mem_cons_of_mem _ hz)) (fun z hz => hk z (List.mem_cons_of_mem _ hz)) (fun i z j u hz hu => ?_)
      have := hc (i + 1) z j u (by simpa using hz) hu
      rwa [show o + (i + 1) * 7 + j = o + 7 + i * 7 + j by omega] at this

/-- What stands while a kid is added, with what lies below the kids. -/
structure AT (R : List Ru) (w : World) (b : Nat) (kc tc : Array Value) (s : Int) (E : List (Hg × Value)) (W : World) (u vv : Value) (m : Nat) (xs : List Value) : Prop extends AS w b kc tc s W u vv m xs where
  kd : ∀ y ∈ E, NdK R (fun c => w.heap.size + 1 + 1 + 1 ≤ c ∧ vv.ownBlock ≠ some c) W y.2 y.1
section
variable {R : List Ru} {w : World} {b : Nat} {kc tc : Array Value} {s : Int} {E : List (Hg × Value)} {W W' : World} {u vv v' : Value} {m m' : Nat} {xs xs' : List Value}
theorem AT.below (h : AT R w b kc tc s E W u vv m xs) (hb : Below W.heap.size W W') : AT R w b kc tc s E W' u vv m xs :=
  ⟨h.toAS.below hb, fun y hy => (h.kd y hy).kp (Kp.of_below hb (fun k hk _ => hk))⟩
theorem AT.kid {v : Value} {k : Hg} (h : AT R w b kc tc s E W u vv m xs) (hb : Below W.heap.size W W') (hn : NdK R (fun c => W.heap.size ≤ c) W' v k) : AT R w b kc tc s (E ++ [(k, v)]) W' u vv m xs := by
  refine ⟨h.toAS.below hb, fun y hy => ?_⟩
  rcases List.mem_append.1 hy with hy | hy
  · exact (h.kd y hy).kp (Kp.of_below hb (fun k hk _ => hk))
  · rw [List.mem_singleton] at hy
    subst hy
    refine hn.mono (fun c _ hc => ⟨Nat.le_trans h.nb.lt hc, fun e => ?_⟩)
    obtain ⟨cur, h1, _⟩ := own_cells h.own e
    have := h1.lt
    omega
theorem AT.app (h : AT R w b kc tc s E W u vv m xs) (hg : W.grownBy W' vv.ownBlock) (ho : W'.ownsRow (w.heap.size + 1 + 1 + 1) 82 7 v' m' xs') (hat : v'.ownBlock = vv.ownBlock ∨ v'.ownBlock = some W.heap.size) : AT R w b kc tc s E W' u v' m' xs' := by
  refine ⟨h.toAS.app hg ho, fun y hy => ?_⟩
  have hk : Kp (fun c => w.heap.size + 1 + 1 + 1 ≤ c ∧ vv.ownBlock ≠ some c) W W' := (Kp.refl _ _).grown hg (fun k e hs => absurd e hs.2)
  have h1 := (h.kd y hy).mono (S' := fun c => (w.heap.size + 1 + 1 + 1 ≤ c ∧ vv.ownBlock ≠ some c) ∧ v'.ownBlock ≠ some c) (fun c hc hs => ⟨hs, fun e => by
    rcases hat with e2 | e2
    · rw [e2] at e; exact hs.2 e
    · rw [e2] at e; cases e; omega⟩)
  exact (h1.kp (hk.mono (fun c _ hs => hs.1))).mono (fun c _ hs => ⟨hs.1.1, hs.2⟩)
theorem AT.cell {g c : Nat} (h : AT R w b kc tc s E W u (.slice (some ⟨g, 0, none⟩) m c) m xs) (i : Nat) (x : Value) : AT R w b kc tc s E (W.setCell ⟨g, i, none⟩ x) u (.slice (some ⟨g, 0, none⟩) m c) m (xs.set i x) :=
  ⟨h.toAS.cell i x, fun y hy => (h.kd y hy).kp ((Kp.refl _ W).setCell (p := ⟨g, i, none⟩) (fun hs => absurd rfl hs.2) x)⟩
theorem AT.store (h : AT R w b kc tc s E W u vv m xs) (x : Value) : AT R w b kc tc s E (W.setCell ⟨w.heap.size + 1 + 1, 6, none⟩ x) x vv m xs :=
  ⟨h.toAS.store x, fun y hy => (h.kd y hy).kp ((Kp.refl _ W).setCell (p := ⟨w.heap.size + 1 + 1, 6, none⟩) (fun hs => by have := hs.1; simp only at this; omega) x)⟩
end
end

section
open Go.RowKit Go.Shelf

set_option maxRecDepth 100000 in
set_option maxHeartbeats 4000000 in
theorem annotate_nd (A : Au) {B : Nat} {T G M n : Nat} {GL : List GB} {rows : List Value} {f : Lit → Option Value} (hM : Means A.ru GL) (hr : ∀ r ∈ A.ru, RuV n r) (hn : n ≤ 1000) (hgl : GL.length ≤ 20000) : ∀ (N : Nat) (s : Nat) (K : Hg) (vk : Value) (w : World), K.size < N → K.size ≤ 2000 → Tab B (ksOf A.ru) T G M n w GL rows f → IsH w vk K → s < n → K.len ≤ 3 → OkS n K →
    (∀ x ∈ A.ru, x.sym = (s : Int) → K.len ≤ x.fr.length) → OkH A.ru K →
    Calls Tryd.prog 63 #[.pointer (some ⟨T, 0, none⟩), .agg #[.int .i64 (s : Int), vk]] w fun e w' => (∃ W pk nk ck, e = .returned (nodeV (s : Int) W (.slice pk nk ck)) ∧ W64 W ∧ (∀ q : Nat, mem W q = true ↔ (q : Int) ∈ stepL A.ru (s : Int) (ofL A.ru K) []) ∧ NdK A.ru (fun c => w.heap.size ≤ c) w' (.slice pk nk ck) K) ∧ Below w.heap.size w w' := by
  intro N
  induction N with
  | zero => intro s K vk w h; omega
  | succ N ih =>
    intro s K vk w hN h2000 hT hK hs hk3 hos hfit hok
    obtain ⟨i0, hi, hz0, hz1, hz2⟩ := info_parts Tryd.infoNode
    have HS7 : Hid ((Tryd.prog.info? 82).map (·.size) = some 7) := Lib.hid (by kernel_rfl)
    have HIH := Lib.hid ih
    have HI := Lib.hid hi
    have HT := Lib.hid hT
    have HM := Lib.hid hM
    have HRV := Lib.hid hr
    have HFIT := Lib.hid hfit
    have HK := Lib.hid hK
    obtain ⟨p, c, rfl, hc1, hc2, hrow⟩ := hK
    unfold maxLen at hc2
    have HROW := Lib.hid hrow
    have HOK0 := Lib.hid hok
    have HOS0 := Lib.hid hos
    have hb0 : Below w.heap.size w (((w.alloc (.cells #[.int .i64 (s : Int), .slice p K.len c] 43)).alloc (.cells #[.int .i64 0, .int .u64 0, .int .u64 0, .int .u64 0, .int .u64 0, .int .u64 0, .slice none 0 0] 82)).alloc (.cells #[.int .i64 (s : Int), .int .u64 0, .int .u64 0, .int .u64 0, .int .u64 0, .int .u64 0, .slice none 0 0] 82)) := (((Below.refl _ w).alloc (Nat.le_refl _) _).alloc (by simp) _).alloc (by simp; omega) _
    have HBX := Lib.hid hb0
    clear ih hi hT hM hr hfit hrow hok hos hb0
    go_enter Tryd.func63, Tryd.ntmps63
    go_wp2_with fail
    have hT0 := three_boxes w #[.int .i64 (s : Int), .slice p K.len c] #[.int .i64 0, .int .u64 0, .int .u64 0, .int .u64 0, .int .u64 0, .int .u64 0, .slice none 0 0] #[.int .i64 (s : Int), .int .u64 0, .int .u64 0, .int .u64 0, .int .u64 0, .int .u64 0, .slice none 0 0] 43 82 82 _ (Below.refl _ _)
    have HBT := Lib.hid hT0.1
    have HBR := Lib.hid hT0.2.1
    have HBN := Lib.hid hT0.2.2.1
    clear hT0
    go_loopw [16] (fun iv wr => ∃ (k : Nat) (R : Hg) (P : List (List Int)) (D : List NK) (v : Value) (EL : List (Hg × Value)), iv = .int .i64 (k : Nat) ∧ Hid (k + R.len = K.len) ∧ Hid (P ++ ofL A.ru R = ofL A.ru K) ∧ Hid (OkH A.ru R) ∧ Hid (OkS n R) ∧ Hid (R.size ≤ K.size) ∧ Hid (D.length = k) ∧ Hid (SetsOf (D.map NK.W) P) ∧ Hid (∀ x ∈ D, W64 x.W) ∧
        Hid (R ≠ .nil → ∃ b o, p = some ⟨b, o, none⟩ ∧ Row w R b (o + k * 2)) ∧ Hid (wr.ownsRow (w.heap.size + 1 + 1 + 1) 82 7 v D.length (nkCells D)) ∧ Hid (Below w.heap.size w wr) ∧ Hid (Blk wr w.heap.size 43 #[.int .i64 (s : Int), .slice p K.len c]) ∧
        Hid (Blk wr (w.heap.size + 1) 82 #[.int .i64 0, .int .u64 0, .int .u64 0, .int .u64 0, .int .u64 0, .int .u64 0, .slice none 0 0]) ∧ Hid (Blk wr (w.heap.size + 1 + 1) 82 #[.int .i64 (s : Int), .int .u64 0, .int .u64 0, .int .u64 0, .int .u64 0, .int .u64 0, v]) ∧ Hid (kapp D EL R = K) ∧ Hid (EL.map (·.2) = D.map NK.v) ∧ Hid (∀ y ∈ EL, NdK A.ru (fun c => w.heap.size + 1 + 1 + 1 ≤ c ∧ v.ownBlock ≠ some c) wr y.2 y.1))
      (fun iv _ => K.len - (intOf iv).toNat)
    case atStart => exact ⟨0, K, [], [], .slice none 0 0, [], rfl, Lib.hid (by simp), Lib.hid rfl, HOK0, HOS0, Lib.hid (Nat.le_refl _), Lib.hid rfl, Lib.hid trivial, Lib.hid (fun x hx => by cases hx), Lib.hid (by simpa using HROW.out), Lib.hid (World.ownsRow_nil _ _ _ _), HBX, HBT, HBR, HBN, Lib.hid rfl, Lib.hid rfl, Lib.hid (fun y hy => by cases hy)⟩
    case round =>
      rename World => wr
      obtain ⟨k, R, P, D, v, EL, rfl, hk, HE, HOKR, HOSR, HSZ, HDL, HSO, HDW, hR, HO, HBr, HTr, HRr, HNr, HKA, HKV, HKD⟩ := hrel
      have hs2 := HNr.out.lt
      cases R with
      | nil =>
        have hge : K.len ≤ k := by have := hk.out; simp only [Hg.len] at this; omega
        obtain ⟨a0, k0, rfl⟩ := own_slice2 HO.out
        clear hR HROW
        have y0 : wr.cell? ⟨w.heap.size, 0, none⟩ = some (.int .i64 (s : Int)) := by rw [HTr.out.cell]; rfl
        have yl := HTr.out.lt
        go_wp2_with fail
        have HTr2 : Hid (Tab B (ksOf A.ru) T G M n wr GL rows f) := Lib.hid (HT.out.below HBr.out)
        obtain ⟨rv, hrv⟩ : ∃ rv, rows[s]? = some rv := ⟨_, List.getElem?_eq_getElem (by rw [HT.out.len]; exact hs)⟩
        refine (groups_ok HTr2.out s rv hrv hn).mono ?_
        rintro e w1 ⟨rfl, rfl⟩
        have HRW := Lib.hid (HTr2.out.row s rv hrv)
        obtain ⟨ga, gc, rfl⟩ := own_slice2 HRW.out
        have HP : Hid (P = ofL A.ru K) := Lib.hid (by have := HE.out; rwa [ofL, List.append_nil] at this)
        have hLl : (ptrs (rowsOf s GL)).length = (rowsOf s GL).length := by unfold ptrs; rw [List.length_map]
        have HLL := Lib.hid hLl
        rw [hLl]
        clear hLl hrv y0
        go_wp2_with fail
        have hND : NdK A.ru (fun c => w.heap.size + 1 + 1 + 1 ≤ c) w1 (.slice a0 D.length k0) K := by
          have hlk : K.len = D.length := by
            have h1 := hk.out
            have h2 := HDL.out
            simp only [Hg.len] at h1
            omega
          rcases HO.out.2 with ⟨e2, e3⟩ | ⟨g, cap, cur, e2, hgb, _, hc1', hc2', _, _⟩
          · simp only [Value.slice.injEq] at e2
            obtain ⟨rfl, _, rfl⟩ := e2
            refine ⟨none, 0, by rw [hlk], by omega, by decide, fun hne => ?_⟩
            cases K with
            | nil => exact absurd rfl hne
            | cons _ _ _ => simp only [Hg.len] at hlk; omega
          · have e0 := e2
            simp only [Value.slice.injEq] at e2
            obtain ⟨rfl, _, rfl⟩ := e2
            refine ⟨_, k0, by rw [hlk], by omega, hc2', fun _ => ⟨g, rfl, ?_⟩⟩
            refine nd_row (S := fun c => w.heap.size + 1 + 1 + 1 ≤ c) hgb D EL K 0 HKA.out HKV.out (by rw [← HP.out]; exact HSO.out) HDW.out (fun y hy => (HKD.out y hy).mono (fun c _ hs => hs.1)) (fun i x j u hx hu => ?_)
            rw [Nat.zero_add]
            exact (own_at HO.out (nkCells_at D i x j u hx hu)).1
        have HND := Lib.hid hND
        clear hND
        have HKW : Hid (IsKs w1 (.slice a0 D.length k0) (D.map NK.W)) := Lib.hid (isKs_of_own HO.out HDW.out)
        have HNsc : Hid (Blk w1 (w.heap.size + 1 + 1) 82 (scs [.int .i64 (s : Int)] (fun _ => 0) [.slice a0 D.length k0])) := Lib.hid HNr.out
        have hrl : (rowsOf s GL).length ≤ 20000 := Nat.le_trans (List.length_filter_le _ _) hgl
        clear hs2 hge
        go_loopw [36] (fun iv wj => ∃ j : Nat, iv = .int .i64 (j : Nat) ∧ j ≤ (rowsOf s GL).length ∧ Hid (Blk wj (w.heap.size + 1 + 1) 82 (scs [.int .i64 (s : Int)] (uniG (D.map NK.W) ((rowsOf s GL).take j) (fun _ => 0)) [.slice a0 D.length k0])) ∧ Hid (Kp (fun c => c ≠ w.heap.size + 1 + 1) w1 wj)) (fun iv _ => (rowsOf s GL).length - (intOf iv).toNat)
        case atStart => exact ⟨0, rfl, by omega, HNsc, Lib.hid (Kp.refl _ _)⟩
        case round =>
          rename World => wj
          obtain ⟨j, rfl, hj, HNj, HKj⟩ := hrel
          have hxl := HNj.out.lt
          have x6 : wj.cell? ⟨w.heap.size + 1 + 1, 6, none⟩ = some (.slice a0 D.length k0) := by rw [HNj.out.cell]; rfl
          by_cases hjl : j < (rowsOf s GL).length
          · obtain ⟨y, hy⟩ : ∃ y, (rowsOf s GL)[j]? = some y := ⟨_, List.getElem?_eq_getElem hjl⟩
            have hym : y ∈ GL := (List.mem_filter.1 (List.mem_of_getElem? hy)).1
            have hgb := HT.out.gb y hym
            have hgl := hgb.1.lt
            have hgj : Blk wj y.blk 108 (scs y.pre y.W []) := (HTr2.out.gb y hym).1.kp HKj.out (by omega)
            obtain ⟨ra, rb, rc⟩ := HT.out.rule HRV.out hn hym
            have HTK : Hid ((rowsOf s GL).take (j + 1) = (rowsOf s GL).take j ++ [y]) := Lib.hid (by rw [List.take_add_one, hy]; rfl)
            have hrow := ownsRow_kp HRW.out HKj.out (fun c hc e => by
              obtain ⟨cur, h1, _⟩ := own_cells HRW.out hc
              exact h1.ne_ HNr.out (by decide) e)
            rcases hrow.2 with ⟨_, e3⟩ | ⟨gr, cap, cur, e2, _, _, _, _, _, _⟩
            · exact absurd e3 (by rw [HLL.out]; omega)
            · simp only [Value.slice.injEq] at e2
              obtain ⟨rfl, _, rfl⟩ := e2
              have pj := own_at (i := j) (u := y.ptr) hrow (by unfold ptrs; rw [List.getElem?_map, hy]; rfl)
              have p1 : wj.cell? ⟨gr, j, none⟩ = some (.pointer (some ⟨y.blk, 0, none⟩)) := pj.1
              have p2 := pj.2.2
              have hOj := ownsRow_kp HO.out HKj.out (fun c hc e => by
                obtain ⟨cur, _, h2⟩ := own_cells HO.out hc
                omega)
              have hkd : (D.map NK.W).length ≤ 3 := by rw [List.length_map]; have h1 := hk.out; have h2 := HDL.out; simp only [Hg.len] at h1; omega
              have HADM := Lib.hid (admits_ok wj (w.heap.size + 1 + 1) (.slice a0 D.length k0) (D.map NK.W) y.blk 0 [y.a.toNat, y.b.toNat, y.c.toNat] (fun _ => 0) rfl hkd (fun q hq => by
                simp only [List.mem_cons, List.not_mem_nil, or_false] at hq
                rcases hq with rfl | rfl | rfl <;> omega) x6 (isKs_of_own hOj HDW.out) (fun i q hq => by
                have hi : i < 3 := (List.getElem?_eq_some_iff.1 hq).1
                rw [hgj.cell]
                have : i = 0 ∨ i = 1 ∨ i = 2 := by omega
                rcases this with rfl | rfl | rfl
                · simp at hq; subst hq; rw [Int.toNat_of_nonneg ra.1]; rfl
                · simp at hq; subst hq; rw [Int.toNat_of_nonneg rb.1]; rfl
                · simp at hq; subst hq; rw [Int.toNat_of_nonneg rc.1]; rfl))
              have HGJ := Lib.hid hgj
              have HGB := Lib.hid hgb.2.1
              have hyne : y.blk ≠ w.heap.size + 1 + 1 := by omega
              have hyx : ¬ y.blk = w.heap.size + 1 + 1 := hyne
              have hji : (j : Int) < ((rowsOf s GL).length : Int) := by omega
              have HU64 : Hid (W64 (uniG (D.map NK.W) ((rowsOf s GL).take j) (fun _ => 0))) := Lib.hid (uniG_lt (fun _ => (by simp : (0 : Nat) < 18446744073709551616)) (fun x hx => (HT.out.gb x (List.mem_filter.1 (List.mem_of_mem_take hx)).1).2.1))
              have HUA := Lib.hid (uniG_app (D.map NK.W) y ((rowsOf s GL).take j) (fun _ => 0))
              clear hy hrow pj hOj hkd hgj hgb ra rb rc hym
              cases ha : admB (D.map NK.W) [y.a.toNat, y.b.toNat, y.c.toNat] with
              | true =>
                rw [ha] at HADM
                have HAT := Lib.hid ha
                clear ha
                go_wp2_with fail
                refine HADM.out.mono ?_
                rintro e w9 ⟨rfl, hb9⟩
                have HUN := Lib.hid (unite_ok w9 (w.heap.size + 1 + 1) 82 [.int .i64 (s : Int)] [.slice a0 D.length k0] (uniG (D.map NK.W) ((rowsOf s GL).take j) (fun _ => 0)) y.W y.blk 4 1 rfl (HNj.out.below hb9 HNj.out.lt) hyne (scs_setAt (HGJ.out.below hb9 HGJ.out.lt)) HU64.out HGB.out)
                have HB9 := Lib.hid hb9
                clear hb9
                go_wp2_with fail
                refine HUN.out.mono ?_
                rintro e w8 ⟨rfl, hn8, hk8⟩
                have HN8 : Hid (Blk w8 (w.heap.size + 1 + 1) 82 (scs [.int .i64 (s : Int)] (uniG (D.map NK.W) ((rowsOf s GL).take (j + 1)) (fun _ => 0)) [.slice a0 D.length k0])) := Lib.hid (by rw [HTK.out, HUA.out, if_pos HAT.out]; exact hn8)
                have HK8 : Hid (Kp (fun c => c ≠ w.heap.size + 1 + 1) w1 w8) := Lib.hid ((HKj.out.trans (Kp.of_below HB9.out (fun k hk _ => hk))).trans hk8)
                clear hn8 hk8
                go_wp2_with fail
                refine ⟨⟨j + 1, by go_num, by omega, HN8, HK8⟩, ?_⟩
                simp [intOf]; omega
              | false =>
                rw [ha] at HADM
                have HAF := Lib.hid ha
                clear ha
                go_wp2_with fail
                refine HADM.out.mono ?_
                rintro e w9 ⟨rfl, hb9⟩
                have HN9 : Hid (Blk w9 (w.heap.size + 1 + 1) 82 (scs [.int .i64 (s : Int)] (uniG (D.map NK.W) ((rowsOf s GL).take (j + 1)) (fun _ => 0)) [.slice a0 D.length k0])) := Lib.hid (by rw [HTK.out, HUA.out, if_neg (by rw [HAF.out]; decide)]; exact HNj.out.below hb9 HNj.out.lt)
                have HK9 : Hid (Kp (fun c => c ≠ w.heap.size + 1 + 1) w1 w9) := Lib.hid (HKj.out.trans (Kp.of_below hb9 (fun k hk _ => hk)))
                clear hb9
                go_wp2_with fail
                refine ⟨⟨j + 1, by go_num, by omega, HN9, HK9⟩, ?_⟩
                simp [intOf]; omega
          · have hge : (rowsOf s GL).length ≤ j := by omega
            have HTA : Hid ((rowsOf s GL).take j = rowsOf s GL) := Lib.hid (List.take_of_length_le hge)
            clear hjl x6
            rw [HTA.out] at HNj
            have HMEM : Hid (∀ q : Nat, mem (uniG (D.map NK.W) (rowsOf s GL) (fun _ => 0)) q = true ↔ (q : Int) ∈ stepL A.ru (s : Int) (ofL A.ru K) []) := Lib.hid (fun q => by
              rw [← HP.out]
              exact ann_mem HM.out HRV.out s HSO.out (fun r hr hs => by
                have h1 := HFIT.out r hr hs
                have h2 := HSO.out.len
                rw [List.length_map] at h2
                have h3 := hk.out
                have h4 := HDL.out
                simp only [Hg.len] at h3
                omega) q)
            have HU64 : Hid (W64 (uniG (D.map NK.W) (rowsOf s GL) (fun _ => 0))) := Lib.hid (uniG_lt (fun _ => (by simp : (0 : Nat) < 18446744073709551616)) (fun x hx => (HT.out.gb x (List.mem_filter.1 hx).1).2.1))
            generalize uniG (D.map NK.W) (rowsOf s GL) (fun _ => 0) = Wf at HNj HMEM HU64
            have HRj : Hid (Blk wj (w.heap.size + 1) 82 #[.int .i64 0, .int .u64 0, .int .u64 0, .int .u64 0, .int .u64 0, .int .u64 0, .slice none 0 0]) := Lib.hid (HRr.out.kp HKj.out (by omega))
            have x0 : wj.cell? ⟨w.heap.size + 1 + 1, 0, none⟩ = some (.int .i64 (s : Int)) := by rw [HNj.out.cell]; rfl
            have x1 : wj.cell? ⟨w.heap.size + 1 + 1, 1, none⟩ = some (.int .u64 (Wf 0 : Nat)) := by rw [HNj.out.cell]; rfl
            have x2 : wj.cell? ⟨w.heap.size + 1 + 1, 2, none⟩ = some (.int .u64 (Wf 1 : Nat)) := by rw [HNj.out.cell]; rfl
            have x3 : wj.cell? ⟨w.heap.size + 1 + 1, 3, none⟩ = some (.int .u64 (Wf 2 : Nat)) := by rw [HNj.out.cell]; rfl
            have x4 : wj.cell? ⟨w.heap.size + 1 + 1, 4, none⟩ = some (.int .u64 (Wf 3 : Nat)) := by rw [HNj.out.cell]; rfl
            have x5 : wj.cell? ⟨w.heap.size + 1 + 1, 5, none⟩ = some (.int .u64 (Wf 4 : Nat)) := by rw [HNj.out.cell]; rfl
            have x6 : wj.cell? ⟨w.heap.size + 1 + 1, 6, none⟩ = some (.slice a0 D.length k0) := by rw [HNj.out.cell]; rfl
            have c0 : wj.cell? ⟨w.heap.size + 1, 0, none⟩ = some (.int .i64 0) := by rw [HRj.out.cell]; rfl
            have f0 : wj.frozen? ⟨w.heap.size + 1, 0, none⟩ = false := HRj.out.frozen _
            have c1 : wj.cell? ⟨w.heap.size + 1, 1, none⟩ = some (.int .u64 0) := by rw [HRj.out.cell]; rfl
            have f1 : wj.frozen? ⟨w.heap.size + 1, 1, none⟩ = false := HRj.out.frozen _
            have c2 : wj.cell? ⟨w.heap.size + 1, 2, none⟩ = some (.int .u64 0) := by rw [HRj.out.cell]; rfl
            have f2 : wj.frozen? ⟨w.heap.size + 1, 2, none⟩ = false := HRj.out.frozen _
            have c3 : wj.cell? ⟨w.heap.size + 1, 3, none⟩ = some (.int .u64 0) := by rw [HRj.out.cell]; rfl
            have f3 : wj.frozen? ⟨w.heap.size + 1, 3, none⟩ = false := HRj.out.frozen _
            have c4 : wj.cell? ⟨w.heap.size + 1, 4, none⟩ = some (.int .u64 0) := by rw [HRj.out.cell]; rfl
            have f4 : wj.frozen? ⟨w.heap.size + 1, 4, none⟩ = false := HRj.out.frozen _
            have c5 : wj.cell? ⟨w.heap.size + 1, 5, none⟩ = some (.int .u64 0) := by rw [HRj.out.cell]; rfl
            have f5 : wj.frozen? ⟨w.heap.size + 1, 5, none⟩ = false := HRj.out.frozen _
            have c6 : wj.cell? ⟨w.heap.size + 1, 6, none⟩ = some (.slice none 0 0) := by rw [HRj.out.cell]; rfl
            have f6 : wj.frozen? ⟨w.heap.size + 1, 6, none⟩ = false := HRj.out.frozen _
            have HBj : Hid (Below w.heap.size w wj) := Lib.hid (HBr.out.trans (HKj.out.below HBr.out.size (fun c hc e => by omega)))
            have hrl2 := HRj.out.lt
            go_wp2_with fail
            refine bodyPost_ret (results_cell_row rfl _ _ (w.heap.size + 1) 82 #[.int .i64 (s : Int), .int .u64 (Wf 0 : Nat), .int .u64 (Wf 1 : Nat), .int .u64 (Wf 2 : Nat), .int .u64 (Wf 3 : Nat), .int .u64 (Wf 4 : Nat), .slice a0 D.length k0] (0, 0) _ rfl (by have h := (((((((HRj.out.set_ 0 (.int .i64 (s : Int))).set_ 1 (.int .u64 (Wf 0 : Nat))).set_ 2 (.int .u64 (Wf 1 : Nat))).set_ 3 (.int .u64 (Wf 2 : Nat))).set_ 4 (.int .u64 (Wf 3 : Nat))).set_ 5 (.int .u64 (Wf 4 : Nat))).set_ 6 (.slice a0 D.length k0)); exact h) Tryd.underlying82 rfl HS7.out) rfl ⟨⟨Wf, a0, D.length, k0, rfl, HU64.out, HMEM.out, ?nd⟩, ?_⟩
            case nd =>
              have h0 := HND.out.kp (HKj.out.mono (fun c _ hs => by omega))
              have h1 := h0.kp ((Kp.refl _ _).setCell (p := ⟨w.heap.size + 1, 0, none⟩) (fun hs => by simp only at hs; omega) (.int .i64 (s : Int)))
              have h2 := h1.kp ((Kp.refl _ _).setCell (p := ⟨w.heap.size + 1, 1, none⟩) (fun hs => by simp only at hs; omega) (.int .u64 (Wf 0 : Nat)))
              have h3 := h2.kp ((Kp.refl _ _).setCell (p := ⟨w.heap.size + 1, 2, none⟩) (fun hs => by simp only at hs; omega) (.int .u64 (Wf 1 : Nat)))
              have h4 := h3.kp ((Kp.refl _ _).setCell (p := ⟨w.heap.size + 1, 3, none⟩) (fun hs => by simp only at hs; omega) (.int .u64 (Wf 2 : Nat)))
              have h5 := h4.kp ((Kp.refl _ _).setCell (p := ⟨w.heap.size + 1, 4, none⟩) (fun hs => by simp only at hs; omega) (.int .u64 (Wf 3 : Nat)))
              have h6 := h5.kp ((Kp.refl _ _).setCell (p := ⟨w.heap.size + 1, 5, none⟩) (fun hs => by simp only at hs; omega) (.int .u64 (Wf 4 : Nat)))
              have h7 := h6.kp ((Kp.refl _ _).setCell (p := ⟨w.heap.size + 1, 6, none⟩) (fun hs => by simp only at hs; omega) (.slice a0 D.length k0))
              exact h7.mono (fun c _ hs => by omega)
            exact (((((((HBj.out.setCell (p := ⟨w.heap.size + 1, 0, none⟩) (Nat.le_succ _) _).setCell (p := ⟨w.heap.size + 1, 1, none⟩) (Nat.le_succ _) _).setCell (p := ⟨w.heap.size + 1, 2, none⟩) (Nat.le_succ _) _).setCell (p := ⟨w.heap.size + 1, 3, none⟩) (Nat.le_succ _) _).setCell (p := ⟨w.heap.size + 1, 4, none⟩) (Nat.le_succ _) _).setCell (p := ⟨w.heap.size + 1, 5, none⟩) (Nat.le_succ _) _).setCell (p := ⟨w.heap.size + 1, 6, none⟩) (Nat.le_succ _) _)
      | cons l2 K2 R2 =>
        obtain ⟨b, o, hp, hrw⟩ := hR.out (by simp)
        obtain ⟨r1, _, ⟨pk, ck, r2, hk1, hk2, hk3'⟩, r4⟩ := hrw
        have hlt : k < K.len := by have := hk.out; simp only [Hg.len] at this; omega
        have q0 : wr.cell? ⟨b, o + k * 2, none⟩ = some (.int .i64 l2) := cell_later HBr.out r1
        have q1 : wr.cell? ⟨b, o + k * 2 + 1, none⟩ = some (.slice pk K2.len ck) := cell_later HBr.out r2
        have HK2 : Hid (IsH w (.slice pk K2.len ck) K2) := Lib.hid ⟨pk, ck, rfl, hk1, hk2, hk3'⟩
        have HR2 : Hid (Row w R2 b (o + (k + 1) * 2)) := Lib.hid (by rw [show o + (k + 1) * 2 = o + k * 2 + 2 by omega]; exact r4)
        obtain ⟨⟨s2, rfl, hs2n⟩, hk23, hosk, hosr⟩ := HOSR.out
        have HFK := Lib.hid HOKR.out.1
        have HOK2 := Lib.hid HOKR.out.2.1
        have HOKR2 := Lib.hid HOKR.out.2.2
        have HOSK := Lib.hid hosk
        have HOSR2 := Lib.hid hosr
        have HSK : Hid (K2.size < N ∧ K2.size ≤ 2000 ∧ R2.size ≤ K.size) := Lib.hid (by have := HSZ.out; simp only [Hg.size] at this; omega)
        have hkb : k < 9223372036854775807 := by omega
        unfold maxLen at hk2
        obtain ⟨a0, k0, rfl⟩ := own_slice2 HO.out
        clear r1 r2 r4 hk3' hR HSZ HROW HOKR HOSR hosk hosr
        subst hp
        go_wp2_with fail
        have HA0 : Hid (AT A.ru w wr.heap.size #[.int .i64 (s2 : Int), .slice pk K2.len ck] #[.int .i64 (s : Int), .slice (some ⟨b, o, none⟩) K.len c] (s : Int) EL (wr.alloc (.cells #[.int .i64 (s2 : Int), .slice pk K2.len ck] 43)).drew (.slice a0 D.length k0) (.slice a0 D.length k0) D.length (nkCells D)) := Lib.hid ⟨⟨Blk.new wr _ _, HTr.out.alloc _, HRr.out.alloc _, HNr.out.alloc _, ownsRow_kp HO.out ((Kp.refl (fun _ => True) wr).alloc _).drew (fun _ _ => trivial), (HBr.out.alloc HBr.out.size _).drew⟩, fun y hy => (HKD.out y hy).kp ((Kp.refl _ wr).alloc _).drew⟩
        have HSA : Hid (∀ (E : List (Hg × Value)) (W : World) (u vv : Value) (m : Nat) (xs : List Value), AT A.ru w wr.heap.size #[.int .i64 (s2 : Int), .slice pk K2.len ck] #[.int .i64 (s : Int), .slice (some ⟨b, o, none⟩) K.len c] (s : Int) E W u vv m xs → (W.cell? ⟨wr.heap.size, 0, none⟩ = some (.int .i64 (s2 : Int)) ∧ W.cell? ⟨wr.heap.size, 1, none⟩ = some (.slice pk K2.len ck))) := Lib.hid (fun E W u vv m xs h => ⟨by rw [h.kb.cell]; rfl, by rw [h.kb.cell]; rfl⟩)
        have HXK : Hid (∀ (E : List (Hg × Value)) (W : World) (u vv : Value) (m : Nat) (xs : List Value), AT A.ru w wr.heap.size #[.int .i64 (s2 : Int), .slice pk K2.len ck] #[.int .i64 (s : Int), .slice (some ⟨b, o, none⟩) K.len c] (s : Int) E W u vv m xs → (W.cell? ⟨w.heap.size + 1 + 1, 6, none⟩ = some u ∧ W.frozen? ⟨w.heap.size + 1 + 1, 6, none⟩ = false ∧ w.heap.size + 1 + 1 < W.heap.size)) := Lib.hid (fun E W u vv m xs h => ⟨by rw [h.nb.cell]; rfl, h.nb.frozen _, h.nb.lt⟩)
        have HD0 : Hid (D.length ≤ 3) := Lib.hid (by have := HDL.out; omega)
        have hdl3 := HD0.out
        have HZW : Hid (∀ (g k9 : Nat) (E : List (Hg × Value)) (W : World) (u : Value), AT A.ru w wr.heap.size #[.int .i64 (s2 : Int), .slice pk K2.len ck] #[.int .i64 (s : Int), .slice (some ⟨b, o, none⟩) K.len c] (s : Int) E W u (.slice (some ⟨g, 0, none⟩) (D.length + 1) k9) (D.length + 1) (nkCells D ++ [.int .i64 0, .int .u64 0, .int .u64 0, .int .u64 0, .int .u64 0, .int .u64 0, .slice none 0 0]) → ∀ j x, j < 7 → ([.int .i64 0, .int .u64 0, .int .u64 0, .int .u64 0, .int .u64 0, .int .u64 0, .slice none 0 0] : List Value)[j]? = some x → W.cell? ⟨g, D.length * 7 + j, none⟩ = some x ∧ W.frozen? ⟨g, D.length * 7 + j, none⟩ = false ∧ g < W.heap.size) := Lib.hid (fun g k9 E W u h j x hj hx => own_at h.own (by rw [List.getElem?_append_right (by rw [nkCells_len]; omega), nkCells_len, show D.length * 7 + j - D.length * 7 = j by omega]; exact hx))
        have HAK : Hid (AT A.ru w wr.heap.size #[.int .i64 (s2 : Int), .slice pk K2.len ck] #[.int .i64 (s : Int), .slice (some ⟨b, o, none⟩) K.len c] (s : Int) EL (wr.alloc (.cells #[.int .i64 (s2 : Int), .slice pk K2.len ck] 43)) (.slice a0 D.length k0) (.slice a0 D.length k0) D.length (nkCells D)) := Lib.hid ⟨⟨Blk.new wr _ _, HTr.out.alloc _, HRr.out.alloc _, HNr.out.alloc _, ownsRow_kp HO.out ((Kp.refl (fun _ => True) wr).alloc _) (fun _ _ => trivial), HBr.out.alloc HBr.out.size _⟩, fun y hy => (HKD.out y hy).kp ((Kp.refl _ wr).alloc _)⟩
        have HBS : Hid (∀ (E : List (Hg × Value)) (W : World) (u vv : Value) (m : Nat) (xs : List Value), AT A.ru w wr.heap.size #[.int .i64 (s2 : Int), .slice pk K2.len ck] #[.int .i64 (s : Int), .slice (some ⟨b, o, none⟩) K.len c] (s : Int) E W u vv m xs → w.heap.size + 1 + 1 + 1 ≤ W.heap.size) := Lib.hid (fun E W u vv m xs h => h.nb.lt)
        have HON : Hid (∀ u ∈ ([.int .i64 0, .int .u64 0, .int .u64 0, .int .u64 0, .int .u64 0, .int .u64 0, .slice none 0 0] : List Value), u.oneCell' = true) := Lib.hid (fun u hu => by
          simp only [List.mem_cons, List.not_mem_nil, or_false] at hu
          rcases hu with rfl | rfl | rfl | rfl | rfl | rfl | rfl <;> rfl)
        have HLM1 : Hid (D.length + 1 ≤ maxLen) := Lib.hid (by unfold maxLen; omega)
        have HLM2 : Hid ((D.length + 1) * 72 ≤ 140737488355328) := Lib.hid (by omega)
        have hix : (D.length : Int) < (D.length : Int) + 1 := by omega
        have hdl := HDL.out
        have z0 := (HXK.out _ _ _ _ _ _ HA0.out).1
        clear hdl hs2
        refine wp_region_held_drew (S := (fun W => W.cell? ⟨wr.heap.size, 0, none⟩ = some (.int .i64 (s2 : Int)) ∧ W.cell? ⟨wr.heap.size, 1, none⟩ = some (.slice pk K2.len ck))) (by kernel_rfl) (by (try dsimp only); exact HSA.out _ _ _ _ _ _ HA0.out) (fun hHeld => ?_)
        refine wpAnyH_take (i := 0) (v := ?v_18) rfl (by kernel_rfl) (by kernel_rfl) (by kernel_rfl) (fun _ _ _ h => h) (Or.inl ⟨by rfl, ?y_18⟩) (by assumption) ?r_18
        case y_18 => (intro w hSw; (try dsimp only at hSw); go_simp); (try with_reducible rfl)
        (try simp only [Act.put, List.setIfInBounds_toArray, List.set_cons_zero, List.set_cons_succ])
        refine wpAnyH_take (i := 2) (v := ?v_19) rfl (by kernel_rfl) (by kernel_rfl) (by kernel_rfl) (fun _ _ _ h => h) (Or.inl ⟨by rfl, ?y_19⟩) (by assumption) ?r_19
        case y_19 => (intro w hSw; (try dsimp only at hSw); go_simp); (try with_reducible rfl)
        (try simp only [Act.put, List.setIfInBounds_toArray, List.set_cons_zero, List.set_cons_succ])
        refine wpAnyH_take (i := 3) (v := ?v_20) rfl (by kernel_rfl) (by kernel_rfl) (by kernel_rfl) (fun _ _ _ h => h) (Or.inl ⟨by rfl, ?y_20⟩) (by assumption) ?r_20
        case y_20 => (intro w hSw; (try dsimp only at hSw); go_simp); (try with_reducible rfl)
        (try simp only [Act.put, List.setIfInBounds_toArray, List.set_cons_zero, List.set_cons_succ])
        refine wpAnyH_ready (rs := [1, 4, 6]) (by kernel_rfl) (by simp) ?_
        refine AllReadyH.cons rfl (fun K hK => ?_) (AllReadyH.cons rfl (fun K hK => ?_) (AllReadyH.cons rfl (fun K hK => ?_) AllReadyH.nil))
        · skip
          have zz := (HXK.out _ _ _ _ _ _ HA0.out).1
          go_simp
          refine hK.out _ _ (by (try dsimp only); exact HSA.out _ _ _ _ _ _ HA0.out) (fun hHeld => ?_)
          clear hK K
          (try simp only [Act.put, List.setIfInBounds_toArray, List.set_cons_zero, List.set_cons_succ])
          clear zz
          refine wpAnyH_take (i := 5) (v := ?v_1) rfl (by kernel_rfl) (by kernel_rfl) (by kernel_rfl) (fun _ _ _ h => h) (Or.inl ⟨by rfl, ?y_1⟩) (by assumption) ?r_1
          case y_1 => (intro w hSw; (try dsimp only at hSw); go_simp); (try with_reducible rfl)
          (try simp only [Act.put, List.setIfInBounds_toArray, List.set_cons_zero, List.set_cons_succ])
          refine wpAnyH_ready (rs := [4, 6]) (by kernel_rfl) (by simp) ?_
          refine AllReadyH.cons rfl (fun K hK => ?_) (AllReadyH.cons rfl (fun K hK => ?_) AllReadyH.nil)
          · skip
            go_simp
            refine (HIH.out s2 K2 _ _ HSK.out.1 HSK.out.2.1 (HT.out.below HA0.out.bel) (HK2.out.below HA0.out.bel) hs2n hk23 HOSK.out HFK.out HOK2.out).mono ?_
            rintro e wc ⟨⟨W2, pk2, nk2, ck2, rfl, hW2, hm2, hnk⟩, hbc⟩
            have HW2 := Lib.hid hW2
            have HM2 := Lib.hid hm2
            have HBC := Lib.hid hbc
            have HA2 := Lib.hid (HA0.out.kid hbc hnk)
            clear hW2 hm2 hnk hbc
            unfold nodeV
            (try go_wp2_with fail)
            refine hK.out _ _ (by (try dsimp only); exact HSA.out _ _ _ _ _ _ HA2.out) (fun hHeld => ?_)
            clear hK K
            (try simp only [Act.put, List.setIfInBounds_toArray, List.set_cons_zero, List.set_cons_succ])
            refine wpAnyH_ready (rs := [6]) (by kernel_rfl) (by simp) ?_
            refine AllReadyH.cons rfl (fun K hK => ?_) AllReadyH.nil
            · skip
              have HA3 := Lib.hid (HA2.out.below ((Below.refl _ _).alloc (Nat.le_refl _) (.cells #[.int .i64 0, .int .u64 0, .int .u64 0, .int .u64 0, .int .u64 0, .int .u64 0, .slice none 0 0] 82)))
              have HZB := Lib.hid (Blk.new wc 82 #[.int .i64 0, .int .u64 0, .int .u64 0, .int .u64 0, .int .u64 0, .int .u64 0, .slice none 0 0])
              go_simp
              refine hK.out _ _ (by (try dsimp only); exact HSA.out _ _ _ _ _ _ HA3.out) (fun hHeld => ?_)
              clear hK K
              (try simp only [Act.put, List.setIfInBounds_toArray, List.set_cons_zero, List.set_cons_succ])
              refine wpAnyH_ready (rs := [7]) (by kernel_rfl) (by simp) ?_
              refine AllReadyH.cons rfl (fun K hK => ?_) AllReadyH.nil
              refine step_append_own _ rfl (.tmp 21) (.tmp 26) 80 rfl (w.heap.size + 1 + 1 + 1) 82 i0 _ 7 72 Tryd.underlying80 HI.out hz0 hz1 hz2 rfl (by decide) (.slice a0 D.length k0) D.length (nkCells D) rfl HA3.out.own _ 1 1 [.int .i64 0, .int .u64 0, .int .u64 0, .int .u64 0, .int .u64 0, .int .u64 0, .slice none 0 0] rfl rfl (new_list (HZB.out)) HON.out HLM1.out HLM2.out (HBS.out _ _ _ _ _ _ HA3.out) ?_
              intro v3 W3 ho3 hg3 hat3
              obtain ⟨g3, c3, rfl⟩ := own_form ho3
              have HB9 := Lib.hid (HA3.out.app hg3 ho3 hat3)
              clear ho3 hg3 hat3
              refine hK.out _ _ (by (try dsimp only); exact HSA.out _ _ _ _ _ _ HB9.out) (fun hHeld => ?_)
              clear hK K
              (try simp only [Act.put, List.setIfInBounds_toArray, List.set_cons_zero, List.set_cons_succ])
              refine wpAnyH_take (i := 8) (v := ?v_2) rfl (by kernel_rfl) (by kernel_rfl) (by kernel_rfl) (fun _ _ _ h => h) (Or.inl ⟨by rfl, ?y_2⟩) (by assumption) ?r_2
              case y_2 => (intro w hSw; (try dsimp only at hSw); go_simp); (try with_reducible rfl)
              (try simp only [Act.put, List.setIfInBounds_toArray, List.set_cons_zero, List.set_cons_succ])
              refine wpAnyH_take (i := 10) (v := ?v_3) rfl (by kernel_rfl) (by kernel_rfl) (by kernel_rfl) (fun _ _ _ h => h) (Or.inl ⟨by rfl, ?y_3⟩) (by assumption) ?r_3
              case y_3 => (intro w hSw; (try dsimp only at hSw); go_simp); (try with_reducible rfl)
              (try simp only [Act.put, List.setIfInBounds_toArray, List.set_cons_zero, List.set_cons_succ])
              refine wpAnyH_ready (rs := [9, 11]) (by kernel_rfl) (by simp) ?_
              refine AllReadyH.cons rfl (fun K hK => ?_) (AllReadyH.cons rfl (fun K hK => ?_) AllReadyH.nil)
              · skip
                have e0 := HZW.out g3 c3 _ _ _ HB9.out 0 _ (by omega) rfl
                have e1 := HZW.out g3 c3 _ _ _ HB9.out 1 _ (by omega) rfl
                have e2 := HZW.out g3 c3 _ _ _ HB9.out 2 _ (by omega) rfl
                have e3 := HZW.out g3 c3 _ _ _ HB9.out 3 _ (by omega) rfl
                have e4 := HZW.out g3 c3 _ _ _ HB9.out 4 _ (by omega) rfl
                have e5 := HZW.out g3 c3 _ _ _ HB9.out 5 _ (by omega) rfl
                have e6 := HZW.out g3 c3 _ _ _ HB9.out 6 _ (by omega) rfl
                simp only [Nat.add_zero] at e0
                have e01 := e0.1
                have e02 := e0.2.1
                have e03 := e0.2.2
                have e11 := e1.1
                have e12 := e1.2.1
                have e21 := e2.1
                have e22 := e2.2.1
                have e31 := e3.1
                have e32 := e3.2.1
                have e41 := e4.1
                have e42 := e4.2.1
                have e51 := e5.1
                have e52 := e5.2.1
                have e61 := e6.1
                have e62 := e6.2.1
                clear e0 e1 e2 e3 e4 e5 e6
                have HC1 := Lib.hid (((((((HB9.out.cell (D.length * 7) (.int .i64 (s2 : Int))).cell (D.length * 7 + 1) (.int .u64 (W2 0 : Nat))).cell (D.length * 7 + 2) (.int .u64 (W2 1 : Nat))).cell (D.length * 7 + 3) (.int .u64 (W2 2 : Nat))).cell (D.length * 7 + 4) (.int .u64 (W2 3 : Nat))).cell (D.length * 7 + 5) (.int .u64 (W2 4 : Nat))).cell (D.length * 7 + 6) (.slice pk2 nk2 ck2))
                go_simp
                (try go_wp2_with fail)
                refine hK.out _ _ (by (try dsimp only); exact HSA.out _ _ _ _ _ _ HC1.out) (fun hHeld => ?_)
                clear hK K
                (try simp only [Act.put, List.setIfInBounds_toArray, List.set_cons_zero, List.set_cons_succ])
                clear e01 e02 e03 e11 e12 e21 e22 e31 e32 e41 e42 e51 e52 e61 e62
                refine wpAnyH_ready (rs := [11]) (by kernel_rfl) (by simp) ?_
                refine AllReadyH.cons rfl (fun K hK => ?_) AllReadyH.nil
                have n0 := HXK.out _ _ _ _ _ _ HC1.out
                have n1 := n0.1
                have n2 := n0.2.1
                have n3 := n0.2.2
                clear n0
                have HC2 := Lib.hid (HC1.out.store (.slice (some ⟨g3, 0, none⟩) (D.length + 1) c3))
                go_simp
                (try go_wp2_with fail)
                refine hK.out _ _ (by (try dsimp only); exact HSA.out _ _ _ _ _ _ HC2.out) (fun hHeld => ?_)
                clear hK K
                (try simp only [Act.put, List.setIfInBounds_toArray, List.set_cons_zero, List.set_cons_succ])
                clear n1 n2 n3
                refine wpAnyH_done (by kernel_rfl) ?_ _
                skip
                go_wp2_with fail
                have hown := HC2.out.own
                rw [set7 (nkCells D) _ _ _ _ _ _ _ _ _ _ _ _ _ _ (D.length * 7) (nkCells_len D)] at hown
                refine ⟨⟨k + 1, R2, P ++ [stepL A.ru (s2 : Int) (ofL A.ru K2) []], D ++ [⟨(s2 : Int), W2, .slice pk2 nk2 ck2⟩], .slice (some ⟨g3, 0, none⟩) (D.length + 1) c3, EL ++ [(K2, .slice pk2 nk2 ck2)], by go_num, Lib.hid (by have := hk.out; simp only [Hg.len] at this; omega), Lib.hid (by rw [← HE.out, ofL]; simp), HOKR2, HOSR2, Lib.hid HSK.out.2.2, Lib.hid (by rw [List.length_append, HDL.out]; rfl), Lib.hid (by rw [List.map_append]; exact HSO.out.snoc HM2.out), Lib.hid (fun x hx => by rcases List.mem_append.1 hx with hx | hx; exact HDW.out x hx; rw [List.mem_singleton] at hx; subst hx; exact HW2.out), Lib.hid (fun _ => ⟨b, o, rfl, HR2.out⟩), Lib.hid (by rw [nkCells_app, List.length_append]; exact hown), Lib.hid HC2.out.bel, Lib.hid HC2.out.tb, Lib.hid HC2.out.rb, Lib.hid HC2.out.nb, Lib.hid (by rw [kapp_snoc _ _ _ _ _ HKV.out]; exact HKA.out), Lib.hid (by rw [List.map_append, List.map_append, HKV.out]; rfl), Lib.hid HC2.out.kd⟩, ?_⟩
                simp [intOf]; omega
              · skip
                have n0 := HXK.out _ _ _ _ _ _ HB9.out
                have n1 := n0.1
                have n2 := n0.2.1
                have n3 := n0.2.2
                clear n0
                have HC1 := Lib.hid (HB9.out.store (.slice (some ⟨g3, 0, none⟩) (D.length + 1) c3))
                go_simp
                (try go_wp2_with fail)
                refine hK.out _ _ (by (try dsimp only); exact HSA.out _ _ _ _ _ _ HC1.out) (fun hHeld => ?_)
                clear hK K
                (try simp only [Act.put, List.setIfInBounds_toArray, List.set_cons_zero, List.set_cons_succ])
                clear n1 n2 n3
                refine wpAnyH_ready (rs := [9]) (by kernel_rfl) (by simp) ?_
                refine AllReadyH.cons rfl (fun K hK => ?_) AllReadyH.nil
                have e0 := HZW.out g3 c3 _ _ _ HC1.out 0 _ (by omega) rfl
                have e1 := HZW.out g3 c3 _ _ _ HC1.out 1 _ (by omega) rfl
                have e2 := HZW.out g3 c3 _ _ _ HC1.out 2 _ (by omega) rfl
                have e3 := HZW.out g3 c3 _ _ _ HC1.out 3 _ (by omega) rfl
                have e4 := HZW.out g3 c3 _ _ _ HC1.out 4 _ (by omega) rfl
                have e5 := HZW.out g3 c3 _ _ _ HC1.out 5 _ (by omega) rfl
                have e6 := HZW.out g3 c3 _ _ _ HC1.out 6 _ (by omega) rfl
                simp only [Nat.add_zero] at e0
                have e01 := e0.1
                have e02 := e0.2.1
                have e03 := e0.2.2
                have e11 := e1.1
                have e12 := e1.2.1
                have e21 := e2.1
                have e22 := e2.2.1
                have e31 := e3.1
                have e32 := e3.2.1
                have e41 := e4.1
                have e42 := e4.2.1
                have e51 := e5.1
                have e52 := e5.2.1
                have e61 := e6.1
                have e62 := e6.2.1
                clear e0 e1 e2 e3 e4 e5 e6
                have HC2 := Lib.hid (((((((HC1.out.cell (D.length * 7) (.int .i64 (s2 : Int))).cell (D.length * 7 + 1) (.int .u64 (W2 0 : Nat))).cell (D.length * 7 + 2) (.int .u64 (W2 1 : Nat))).cell (D.length * 7 + 3) (.int .u64 (W2 2 : Nat))).cell (D.length * 7 + 4) (.int .u64 (W2 3 : Nat))).cell (D.length * 7 + 5) (.int .u64 (W2 4 : Nat))).cell (D.length * 7 + 6) (.slice pk2 nk2 ck2))
                go_simp
                (try go_wp2_with fail)
                refine hK.out _ _ (by (try dsimp only); exact HSA.out _ _ _ _ _ _ HC2.out) (fun hHeld => ?_)
                clear hK K
                (try simp only [Act.put, List.setIfInBounds_toArray, List.set_cons_zero, List.set_cons_succ])
                clear e01 e02 e03 e11 e12 e21 e22 e31 e32 e41 e42 e51 e52 e61 e62
                refine wpAnyH_done (by kernel_rfl) ?_ _
                skip
                go_wp2_with fail
                have hown := HC2.out.own
                rw [set7 (nkCells D) _ _ _ _ _ _ _ _ _ _ _ _ _ _ (D.length * 7) (nkCells_len D)] at hown
                refine ⟨⟨k + 1, R2, P ++ [stepL A.ru (s2 : Int) (ofL A.ru K2) []], D ++ [⟨(s2 : Int), W2, .slice pk2 nk2 ck2⟩], .slice (some ⟨g3, 0, none⟩) (D.length + 1) c3, EL ++ [(K2, .slice pk2 nk2 ck2)], by go_num, Lib.hid (by have := hk.out; simp only [Hg.len] at this; omega), Lib.hid (by rw [← HE.out, ofL]; simp), HOKR2, HOSR2, Lib.hid HSK.out.2.2, Lib.hid (by rw [List.length_append, HDL.out]; rfl), Lib.hid (by rw [List.map_append]; exact HSO.out.snoc HM2.out), Lib.hid (fun x hx => by rcases List.mem_append.1 hx with hx | hx; exact HDW.out x hx; rw [List.mem_singleton] at hx; subst hx; exact HW2.out), Lib.hid (fun _ => ⟨b, o, rfl, HR2.out⟩), Lib.hid (by rw [nkCells_app, List.length_append]; exact hown), Lib.hid HC2.out.bel, Lib.hid HC2.out.tb, Lib.hid HC2.out.rb, Lib.hid HC2.out.nb, Lib.hid (by rw [kapp_snoc _ _ _ _ _ HKV.out]; exact HKA.out), Lib.hid (by rw [List.map_append, List.map_append, HKV.out]; rfl), Lib.hid HC2.out.kd⟩, ?_⟩
                simp [intOf]; omega
          · skip
            have HA2 := Lib.hid (HAK.out.below (((Below.refl _ (wr.alloc (.cells #[.int .i64 (s2 : Int), .slice pk K2.len ck] 43))).alloc (Nat.le_refl _) (.cells #[.int .i64 0, .int .u64 0, .int .u64 0, .int .u64 0, .int .u64 0, .int .u64 0, .slice none 0 0] 82)).drew))
            have HZB := Lib.hid ((Blk.new (wr.alloc (.cells #[.int .i64 (s2 : Int), .slice pk K2.len ck] 43)) 82 #[.int .i64 0, .int .u64 0, .int .u64 0, .int .u64 0, .int .u64 0, .int .u64 0, .slice none 0 0]).drew)
            rw [World.size_alloc] at HZB
            go_simp
            refine hK.out _ _ (by (try dsimp only); exact HSA.out _ _ _ _ _ _ HA2.out) (fun hHeld => ?_)
            clear hK K
            (try simp only [Act.put, List.setIfInBounds_toArray, List.set_cons_zero, List.set_cons_succ])
            refine wpAnyH_ready (rs := [4]) (by kernel_rfl) (by simp) ?_
            refine AllReadyH.cons rfl (fun K hK => ?_) AllReadyH.nil
            · skip
              go_simp
              refine (HIH.out s2 K2 _ _ HSK.out.1 HSK.out.2.1 (HT.out.below HA2.out.bel) (HK2.out.below HA2.out.bel) hs2n hk23 HOSK.out HFK.out HOK2.out).mono ?_
              rintro e wc ⟨⟨W2, pk2, nk2, ck2, rfl, hW2, hm2, hnk⟩, hbc⟩
              have HW2 := Lib.hid hW2
              have HM2 := Lib.hid hm2
              have HBC := Lib.hid hbc
              have HA3 := Lib.hid (HA2.out.kid hbc hnk)
              have HZC := Lib.hid ((HZB.out).below hbc (HZB.out).lt)
              clear hW2 hm2 hnk hbc
              unfold nodeV
              (try go_wp2_with fail)
              refine hK.out _ _ (by (try dsimp only); exact HSA.out _ _ _ _ _ _ HA3.out) (fun hHeld => ?_)
              clear hK K
              (try simp only [Act.put, List.setIfInBounds_toArray, List.set_cons_zero, List.set_cons_succ])
              refine wpAnyH_ready (rs := [7]) (by kernel_rfl) (by simp) ?_
              refine AllReadyH.cons rfl (fun K hK => ?_) AllReadyH.nil
              refine step_append_own _ rfl (.tmp 21) (.tmp 26) 80 rfl (w.heap.size + 1 + 1 + 1) 82 i0 _ 7 72 Tryd.underlying80 HI.out hz0 hz1 hz2 rfl (by decide) (.slice a0 D.length k0) D.length (nkCells D) rfl HA3.out.own _ 1 1 [.int .i64 0, .int .u64 0, .int .u64 0, .int .u64 0, .int .u64 0, .int .u64 0, .slice none 0 0] rfl rfl (new_list (HZC.out)) HON.out HLM1.out HLM2.out (HBS.out _ _ _ _ _ _ HA3.out) ?_
              intro v3 W3 ho3 hg3 hat3
              obtain ⟨g3, c3, rfl⟩ := own_form ho3
              have HB9 := Lib.hid (HA3.out.app hg3 ho3 hat3)
              clear ho3 hg3 hat3
              refine hK.out _ _ (by (try dsimp only); exact HSA.out _ _ _ _ _ _ HB9.out) (fun hHeld => ?_)
              clear hK K
              (try simp only [Act.put, List.setIfInBounds_toArray, List.set_cons_zero, List.set_cons_succ])
              refine wpAnyH_take (i := 8) (v := ?v_4) rfl (by kernel_rfl) (by kernel_rfl) (by kernel_rfl) (fun _ _ _ h => h) (Or.inl ⟨by rfl, ?y_4⟩) (by assumption) ?r_4
              case y_4 => (intro w hSw; (try dsimp only at hSw); go_simp); (try with_reducible rfl)
              (try simp only [Act.put, List.setIfInBounds_toArray, List.set_cons_zero, List.set_cons_succ])
              refine wpAnyH_take (i := 10) (v := ?v_5) rfl (by kernel_rfl) (by kernel_rfl) (by kernel_rfl) (fun _ _ _ h => h) (Or.inl ⟨by rfl, ?y_5⟩) (by assumption) ?r_5
              case y_5 => (intro w hSw; (try dsimp only at hSw); go_simp); (try with_reducible rfl)
              (try simp only [Act.put, List.setIfInBounds_toArray, List.set_cons_zero, List.set_cons_succ])
              refine wpAnyH_ready (rs := [9, 11]) (by kernel_rfl) (by simp) ?_
              refine AllReadyH.cons rfl (fun K hK => ?_) (AllReadyH.cons rfl (fun K hK => ?_) AllReadyH.nil)
              · skip
                have e0 := HZW.out g3 c3 _ _ _ HB9.out 0 _ (by omega) rfl
                have e1 := HZW.out g3 c3 _ _ _ HB9.out 1 _ (by omega) rfl
                have e2 := HZW.out g3 c3 _ _ _ HB9.out 2 _ (by omega) rfl
                have e3 := HZW.out g3 c3 _ _ _ HB9.out 3 _ (by omega) rfl
                have e4 := HZW.out g3 c3 _ _ _ HB9.out 4 _ (by omega) rfl
                have e5 := HZW.out g3 c3 _ _ _ HB9.out 5 _ (by omega) rfl
                have e6 := HZW.out g3 c3 _ _ _ HB9.out 6 _ (by omega) rfl
                simp only [Nat.add_zero] at e0
                have e01 := e0.1
                have e02 := e0.2.1
                have e03 := e0.2.2
                have e11 := e1.1
                have e12 := e1.2.1
                have e21 := e2.1
                have e22 := e2.2.1
                have e31 := e3.1
                have e32 := e3.2.1
                have e41 := e4.1
                have e42 := e4.2.1
                have e51 := e5.1
                have e52 := e5.2.1
                have e61 := e6.1
                have e62 := e6.2.1
                clear e0 e1 e2 e3 e4 e5 e6
                have HC1 := Lib.hid (((((((HB9.out.cell (D.length * 7) (.int .i64 (s2 : Int))).cell (D.length * 7 + 1) (.int .u64 (W2 0 : Nat))).cell (D.length * 7 + 2) (.int .u64 (W2 1 : Nat))).cell (D.length * 7 + 3) (.int .u64 (W2 2 : Nat))).cell (D.length * 7 + 4) (.int .u64 (W2 3 : Nat))).cell (D.length * 7 + 5) (.int .u64 (W2 4 : Nat))).cell (D.length * 7 + 6) (.slice pk2 nk2 ck2))
                go_simp
                (try go_wp2_with fail)
                refine hK.out _ _ (by (try dsimp only); exact HSA.out _ _ _ _ _ _ HC1.out) (fun hHeld => ?_)
                clear hK K
                (try simp only [Act.put, List.setIfInBounds_toArray, List.set_cons_zero, List.set_cons_succ])
                clear e01 e02 e03 e11 e12 e21 e22 e31 e32 e41 e42 e51 e52 e61 e62
                refine wpAnyH_ready (rs := [11]) (by kernel_rfl) (by simp) ?_
                refine AllReadyH.cons rfl (fun K hK => ?_) AllReadyH.nil
                have n0 := HXK.out _ _ _ _ _ _ HC1.out
                have n1 := n0.1
                have n2 := n0.2.1
                have n3 := n0.2.2
                clear n0
                have HC2 := Lib.hid (HC1.out.store (.slice (some ⟨g3, 0, none⟩) (D.length + 1) c3))
                go_simp
                (try go_wp2_with fail)
                refine hK.out _ _ (by (try dsimp only); exact HSA.out _ _ _ _ _ _ HC2.out) (fun hHeld => ?_)
                clear hK K
                (try simp only [Act.put, List.setIfInBounds_toArray, List.set_cons_zero, List.set_cons_succ])
                clear n1 n2 n3
                refine wpAnyH_done (by kernel_rfl) ?_ _
                skip
                go_wp2_with fail
                have hown := HC2.out.own
                rw [set7 (nkCells D) _ _ _ _ _ _ _ _ _ _ _ _ _ _ (D.length * 7) (nkCells_len D)] at hown
                refine ⟨⟨k + 1, R2, P ++ [stepL A.ru (s2 : Int) (ofL A.ru K2) []], D ++ [⟨(s2 : Int), W2, .slice pk2 nk2 ck2⟩], .slice (some ⟨g3, 0, none⟩) (D.length + 1) c3, EL ++ [(K2, .slice pk2 nk2 ck2)], by go_num, Lib.hid (by have := hk.out; simp only [Hg.len] at this; omega), Lib.hid (by rw [← HE.out, ofL]; simp), HOKR2, HOSR2, Lib.hid HSK.out.2.2, Lib.hid (by rw [List.length_append, HDL.out]; rfl), Lib.hid (by rw [List.map_append]; exact HSO.out.snoc HM2.out), Lib.hid (fun x hx => by rcases List.mem_append.1 hx with hx | hx; exact HDW.out x hx; rw [List.mem_singleton] at hx; subst hx; exact HW2.out), Lib.hid (fun _ => ⟨b, o, rfl, HR2.out⟩), Lib.hid (by rw [nkCells_app, List.length_append]; exact hown), Lib.hid HC2.out.bel, Lib.hid HC2.out.tb, Lib.hid HC2.out.rb, Lib.hid HC2.out.nb, Lib.hid (by rw [kapp_snoc _ _ _ _ _ HKV.out]; exact HKA.out), Lib.hid (by rw [List.map_append, List.map_append, HKV.out]; rfl), Lib.hid HC2.out.kd⟩, ?_⟩
                simp [intOf]; omega
              · skip
                have n0 := HXK.out _ _ _ _ _ _ HB9.out
                have n1 := n0.1
                have n2 := n0.2.1
                have n3 := n0.2.2
                clear n0
                have HC1 := Lib.hid (HB9.out.store (.slice (some ⟨g3, 0, none⟩) (D.length + 1) c3))
                go_simp
                (try go_wp2_with fail)
                refine hK.out _ _ (by (try dsimp only); exact HSA.out _ _ _ _ _ _ HC1.out) (fun hHeld => ?_)
                clear hK K
                (try simp only [Act.put, List.setIfInBounds_toArray, List.set_cons_zero, List.set_cons_succ])
                clear n1 n2 n3
                refine wpAnyH_ready (rs := [9]) (by kernel_rfl) (by simp) ?_
                refine AllReadyH.cons rfl (fun K hK => ?_) AllReadyH.nil
                have e0 := HZW.out g3 c3 _ _ _ HC1.out 0 _ (by omega) rfl
                have e1 := HZW.out g3 c3 _ _ _ HC1.out 1 _ (by omega) rfl
                have e2 := HZW.out g3 c3 _ _ _ HC1.out 2 _ (by omega) rfl
                have e3 := HZW.out g3 c3 _ _ _ HC1.out 3 _ (by omega) rfl
                have e4 := HZW.out g3 c3 _ _ _ HC1.out 4 _ (by omega) rfl
                have e5 := HZW.out g3 c3 _ _ _ HC1.out 5 _ (by omega) rfl
                have e6 := HZW.out g3 c3 _ _ _ HC1.out 6 _ (by omega) rfl
                simp only [Nat.add_zero] at e0
                have e01 := e0.1
                have e02 := e0.2.1
                have e03 := e0.2.2
                have e11 := e1.1
                have e12 := e1.2.1
                have e21 := e2.1
                have e22 := e2.2.1
                have e31 := e3.1
                have e32 := e3.2.1
                have e41 := e4.1
                have e42 := e4.2.1
                have e51 := e5.1
                have e52 := e5.2.1
                have e61 := e6.1
                have e62 := e6.2.1
                clear e0 e1 e2 e3 e4 e5 e6
                have HC2 := Lib.hid (((((((HC1.out.cell (D.length * 7) (.int .i64 (s2 : Int))).cell (D.length * 7 + 1) (.int .u64 (W2 0 : Nat))).cell (D.length * 7 + 2) (.int .u64 (W2 1 : Nat))).cell (D.length * 7 + 3) (.int .u64 (W2 2 : Nat))).cell (D.length * 7 + 4) (.int .u64 (W2 3 : Nat))).cell (D.length * 7 + 5) (.int .u64 (W2 4 : Nat))).cell (D.length * 7 + 6) (.slice pk2 nk2 ck2))
                go_simp
                (try go_wp2_with fail)
                refine hK.out _ _ (by (try dsimp only); exact HSA.out _ _ _ _ _ _ HC2.out) (fun hHeld => ?_)
                clear hK K
                (try simp only [Act.put, List.setIfInBounds_toArray, List.set_cons_zero, List.set_cons_succ])
                clear e01 e02 e03 e11 e12 e21 e22 e31 e32 e41 e42 e51 e52 e61 e62
                refine wpAnyH_done (by kernel_rfl) ?_ _
                skip
                go_wp2_with fail
                have hown := HC2.out.own
                rw [set7 (nkCells D) _ _ _ _ _ _ _ _ _ _ _ _ _ _ (D.length * 7) (nkCells_len D)] at hown
                refine ⟨⟨k + 1, R2, P ++ [stepL A.ru (s2 : Int) (ofL A.ru K2) []], D ++ [⟨(s2 : Int), W2, .slice pk2 nk2 ck2⟩], .slice (some ⟨g3, 0, none⟩) (D.length + 1) c3, EL ++ [(K2, .slice pk2 nk2 ck2)], by go_num, Lib.hid (by have := hk.out; simp only [Hg.len] at this; omega), Lib.hid (by rw [← HE.out, ofL]; simp), HOKR2, HOSR2, Lib.hid HSK.out.2.2, Lib.hid (by rw [List.length_append, HDL.out]; rfl), Lib.hid (by rw [List.map_append]; exact HSO.out.snoc HM2.out), Lib.hid (fun x hx => by rcases List.mem_append.1 hx with hx | hx; exact HDW.out x hx; rw [List.mem_singleton] at hx; subst hx; exact HW2.out), Lib.hid (fun _ => ⟨b, o, rfl, HR2.out⟩), Lib.hid (by rw [nkCells_app, List.length_append]; exact hown), Lib.hid HC2.out.bel, Lib.hid HC2.out.tb, Lib.hid HC2.out.rb, Lib.hid HC2.out.nb, Lib.hid (by rw [kapp_snoc _ _ _ _ _ HKV.out]; exact HKA.out), Lib.hid (by rw [List.map_append, List.map_append, HKV.out]; rfl), Lib.hid HC2.out.kd⟩, ?_⟩
                simp [intOf]; omega
        · skip
          go_simp
          refine (HIH.out s2 K2 _ _ HSK.out.1 HSK.out.2.1 (HT.out.below HA0.out.bel) (HK2.out.below HA0.out.bel) hs2n hk23 HOSK.out HFK.out HOK2.out).mono ?_
          rintro e wc ⟨⟨W2, pk2, nk2, ck2, rfl, hW2, hm2, hnk⟩, hbc⟩
          have HW2 := Lib.hid hW2
          have HM2 := Lib.hid hm2
          have HBC := Lib.hid hbc
          have HA1 := Lib.hid (HA0.out.kid hbc hnk)
          clear hW2 hm2 hnk hbc
          unfold nodeV
          (try go_wp2_with fail)
          refine hK.out _ _ (by (try dsimp only); exact HSA.out _ _ _ _ _ _ HA1.out) (fun hHeld => ?_)
          clear hK K
          (try simp only [Act.put, List.setIfInBounds_toArray, List.set_cons_zero, List.set_cons_succ])
          refine wpAnyH_ready (rs := [1, 6]) (by kernel_rfl) (by simp) ?_
          refine AllReadyH.cons rfl (fun K hK => ?_) (AllReadyH.cons rfl (fun K hK => ?_) AllReadyH.nil)
          · skip
            have zz := (HXK.out _ _ _ _ _ _ HA1.out).1
            go_simp
            refine hK.out _ _ (by (try dsimp only); exact HSA.out _ _ _ _ _ _ HA1.out) (fun hHeld => ?_)
            clear hK K
            (try simp only [Act.put, List.setIfInBounds_toArray, List.set_cons_zero, List.set_cons_succ])
            clear zz
            refine wpAnyH_take (i := 5) (v := ?v_6) rfl (by kernel_rfl) (by kernel_rfl) (by kernel_rfl) (fun _ _ _ h => h) (Or.inl ⟨by rfl, ?y_6⟩) (by assumption) ?r_6
            case y_6 => (intro w hSw; (try dsimp only at hSw); go_simp); (try with_reducible rfl)
            (try simp only [Act.put, List.setIfInBounds_toArray, List.set_cons_zero, List.set_cons_succ])
            refine wpAnyH_ready (rs := [6]) (by kernel_rfl) (by simp) ?_
            refine AllReadyH.cons rfl (fun K hK => ?_) AllReadyH.nil
            · skip
              have HA3 := Lib.hid (HA1.out.below ((Below.refl _ _).alloc (Nat.le_refl _) (.cells #[.int .i64 0, .int .u64 0, .int .u64 0, .int .u64 0, .int .u64 0, .int .u64 0, .slice none 0 0] 82)))
              have HZB := Lib.hid (Blk.new wc 82 #[.int .i64 0, .int .u64 0, .int .u64 0, .int .u64 0, .int .u64 0, .int .u64 0, .slice none 0 0])
              go_simp
              refine hK.out _ _ (by (try dsimp only); exact HSA.out _ _ _ _ _ _ HA3.out) (fun hHeld => ?_)
              clear hK K
              (try simp only [Act.put, List.setIfInBounds_toArray, List.set_cons_zero, List.set_cons_succ])
              refine wpAnyH_ready (rs := [7]) (by kernel_rfl) (by simp) ?_
              refine AllReadyH.cons rfl (fun K hK => ?_) AllReadyH.nil
              refine step_append_own _ rfl (.tmp 21) (.tmp 26) 80 rfl (w.heap.size + 1 + 1 + 1) 82 i0 _ 7 72 Tryd.underlying80 HI.out hz0 hz1 hz2 rfl (by decide) (.slice a0 D.length k0) D.length (nkCells D) rfl HA3.out.own _ 1 1 [.int .i64 0, .int .u64 0, .int .u64 0, .int .u64 0, .int .u64 0, .int .u64 0, .slice none 0 0] rfl rfl (new_list (HZB.out)) HON.out HLM1.out HLM2.out (HBS.out _ _ _ _ _ _ HA3.out) ?_
              intro v3 W3 ho3 hg3 hat3
              obtain ⟨g3, c3, rfl⟩ := own_form ho3
              have HB9 := Lib.hid (HA3.out.app hg3 ho3 hat3)
              clear ho3 hg3 hat3
              refine hK.out _ _ (by (try dsimp only); exact HSA.out _ _ _ _ _ _ HB9.out) (fun hHeld => ?_)
              clear hK K
              (try simp only [Act.put, List.setIfInBounds_toArray, List.set_cons_zero, List.set_cons_succ])
              refine wpAnyH_take (i := 8) (v := ?v_7) rfl (by kernel_rfl) (by kernel_rfl) (by kernel_rfl) (fun _ _ _ h => h) (Or.inl ⟨by rfl, ?y_7⟩) (by assumption) ?r_7
              case y_7 => (intro w hSw; (try dsimp only at hSw); go_simp); (try with_reducible rfl)
              (try simp only [Act.put, List.setIfInBounds_toArray, List.set_cons_zero, List.set_cons_succ])
              refine wpAnyH_take (i := 10) (v := ?v_8) rfl (by kernel_rfl) (by kernel_rfl) (by kernel_rfl) (fun _ _ _ h => h) (Or.inl ⟨by rfl, ?y_8⟩) (by assumption) ?r_8
              case y_8 => (intro w hSw; (try dsimp only at hSw); go_simp); (try with_reducible rfl)
              (try simp only [Act.put, List.setIfInBounds_toArray, List.set_cons_zero, List.set_cons_succ])
              refine wpAnyH_ready (rs := [9, 11]) (by kernel_rfl) (by simp) ?_
              refine AllReadyH.cons rfl (fun K hK => ?_) (AllReadyH.cons rfl (fun K hK => ?_) AllReadyH.nil)
              · skip
                have e0 := HZW.out g3 c3 _ _ _ HB9.out 0 _ (by omega) rfl
                have e1 := HZW.out g3 c3 _ _ _ HB9.out 1 _ (by omega) rfl
                have e2 := HZW.out g3 c3 _ _ _ HB9.out 2 _ (by omega) rfl
                have e3 := HZW.out g3 c3 _ _ _ HB9.out 3 _ (by omega) rfl
                have e4 := HZW.out g3 c3 _ _ _ HB9.out 4 _ (by omega) rfl
                have e5 := HZW.out g3 c3 _ _ _ HB9.out 5 _ (by omega) rfl
                have e6 := HZW.out g3 c3 _ _ _ HB9.out 6 _ (by omega) rfl
                simp only [Nat.add_zero] at e0
                have e01 := e0.1
                have e02 := e0.2.1
                have e03 := e0.2.2
                have e11 := e1.1
                have e12 := e1.2.1
                have e21 := e2.1
                have e22 := e2.2.1
                have e31 := e3.1
                have e32 := e3.2.1
                have e41 := e4.1
                have e42 := e4.2.1
                have e51 := e5.1
                have e52 := e5.2.1
                have e61 := e6.1
                have e62 := e6.2.1
                clear e0 e1 e2 e3 e4 e5 e6
                have HC1 := Lib.hid (((((((HB9.out.cell (D.length * 7) (.int .i64 (s2 : Int))).cell (D.length * 7 + 1) (.int .u64 (W2 0 : Nat))).cell (D.length * 7 + 2) (.int .u64 (W2 1 : Nat))).cell (D.length * 7 + 3) (.int .u64 (W2 2 : Nat))).cell (D.length * 7 + 4) (.int .u64 (W2 3 : Nat))).cell (D.length * 7 + 5) (.int .u64 (W2 4 : Nat))).cell (D.length * 7 + 6) (.slice pk2 nk2 ck2))
                go_simp
                (try go_wp2_with fail)
                refine hK.out _ _ (by (try dsimp only); exact HSA.out _ _ _ _ _ _ HC1.out) (fun hHeld => ?_)
                clear hK K
                (try simp only [Act.put, List.setIfInBounds_toArray, List.set_cons_zero, List.set_cons_succ])
                clear e01 e02 e03 e11 e12 e21 e22 e31 e32 e41 e42 e51 e52 e61 e62
                refine wpAnyH_ready (rs := [11]) (by kernel_rfl) (by simp) ?_
                refine AllReadyH.cons rfl (fun K hK => ?_) AllReadyH.nil
                have n0 := HXK.out _ _ _ _ _ _ HC1.out
                have n1 := n0.1
                have n2 := n0.2.1
                have n3 := n0.2.2
                clear n0
                have HC2 := Lib.hid (HC1.out.store (.slice (some ⟨g3, 0, none⟩) (D.length + 1) c3))
                go_simp
                (try go_wp2_with fail)
                refine hK.out _ _ (by (try dsimp only); exact HSA.out _ _ _ _ _ _ HC2.out) (fun hHeld => ?_)
                clear hK K
                (try simp only [Act.put, List.setIfInBounds_toArray, List.set_cons_zero, List.set_cons_succ])
                clear n1 n2 n3
                refine wpAnyH_done (by kernel_rfl) ?_ _
                skip
                go_wp2_with fail
                have hown := HC2.out.own
                rw [set7 (nkCells D) _ _ _ _ _ _ _ _ _ _ _ _ _ _ (D.length * 7) (nkCells_len D)] at hown
                refine ⟨⟨k + 1, R2, P ++ [stepL A.ru (s2 : Int) (ofL A.ru K2) []], D ++ [⟨(s2 : Int), W2, .slice pk2 nk2 ck2⟩], .slice (some ⟨g3, 0, none⟩) (D.length + 1) c3, EL ++ [(K2, .slice pk2 nk2 ck2)], by go_num, Lib.hid (by have := hk.out; simp only [Hg.len] at this; omega), Lib.hid (by rw [← HE.out, ofL]; simp), HOKR2, HOSR2, Lib.hid HSK.out.2.2, Lib.hid (by rw [List.length_append, HDL.out]; rfl), Lib.hid (by rw [List.map_append]; exact HSO.out.snoc HM2.out), Lib.hid (fun x hx => by rcases List.mem_append.1 hx with hx | hx; exact HDW.out x hx; rw [List.mem_singleton] at hx; subst hx; exact HW2.out), Lib.hid (fun _ => ⟨b, o, rfl, HR2.out⟩), Lib.hid (by rw [nkCells_app, List.length_append]; exact hown), Lib.hid HC2.out.bel, Lib.hid HC2.out.tb, Lib.hid HC2.out.rb, Lib.hid HC2.out.nb, Lib.hid (by rw [kapp_snoc _ _ _ _ _ HKV.out]; exact HKA.out), Lib.hid (by rw [List.map_append, List.map_append, HKV.out]; rfl), Lib.hid HC2.out.kd⟩, ?_⟩
                simp [intOf]; omega
              · skip
                have n0 := HXK.out _ _ _ _ _ _ HB9.out
                have n1 := n0.1
                have n2 := n0.2.1
                have n3 := n0.2.2
                clear n0
                have HC1 := Lib.hid (HB9.out.store (.slice (some ⟨g3, 0, none⟩) (D.length + 1) c3))
                go_simp
                (try go_wp2_with fail)
                refine hK.out _ _ (by (try dsimp only); exact HSA.out _ _ _ _ _ _ HC1.out) (fun hHeld => ?_)
                clear hK K
                (try simp only [Act.put, List.setIfInBounds_toArray, List.set_cons_zero, List.set_cons_succ])
                clear n1 n2 n3
                refine wpAnyH_ready (rs := [9]) (by kernel_rfl) (by simp) ?_
                refine AllReadyH.cons rfl (fun K hK => ?_) AllReadyH.nil
                have e0 := HZW.out g3 c3 _ _ _ HC1.out 0 _ (by omega) rfl
                have e1 := HZW.out g3 c3 _ _ _ HC1.out 1 _ (by omega) rfl
                have e2 := HZW.out g3 c3 _ _ _ HC1.out 2 _ (by omega) rfl
                have e3 := HZW.out g3 c3 _ _ _ HC1.out 3 _ (by omega) rfl
                have e4 := HZW.out g3 c3 _ _ _ HC1.out 4 _ (by omega) rfl
                have e5 := HZW.out g3 c3 _ _ _ HC1.out 5 _ (by omega) rfl
                have e6 := HZW.out g3 c3 _ _ _ HC1.out 6 _ (by omega) rfl
                simp only [Nat.add_zero] at e0
                have e01 := e0.1
                have e02 := e0.2.1
                have e03 := e0.2.2
                have e11 := e1.1
                have e12 := e1.2.1
                have e21 := e2.1
                have e22 := e2.2.1
                have e31 := e3.1
                have e32 := e3.2.1
                have e41 := e4.1
                have e42 := e4.2.1
                have e51 := e5.1
                have e52 := e5.2.1
                have e61 := e6.1
                have e62 := e6.2.1
                clear e0 e1 e2 e3 e4 e5 e6
                have HC2 := Lib.hid (((((((HC1.out.cell (D.length * 7) (.int .i64 (s2 : Int))).cell (D.length * 7 + 1) (.int .u64 (W2 0 : Nat))).cell (D.length * 7 + 2) (.int .u64 (W2 1 : Nat))).cell (D.length * 7 + 3) (.int .u64 (W2 2 : Nat))).cell (D.length * 7 + 4) (.int .u64 (W2 3 : Nat))).cell (D.length * 7 + 5) (.int .u64 (W2 4 : Nat))).cell (D.length * 7 + 6) (.slice pk2 nk2 ck2))
                go_simp
                (try go_wp2_with fail)
                refine hK.out _ _ (by (try dsimp only); exact HSA.out _ _ _ _ _ _ HC2.out) (fun hHeld => ?_)
                clear hK K
                (try simp only [Act.put, List.setIfInBounds_toArray, List.set_cons_zero, List.set_cons_succ])
                clear e01 e02 e03 e11 e12 e21 e22 e31 e32 e41 e42 e51 e52 e61 e62
                refine wpAnyH_done (by kernel_rfl) ?_ _
                skip
                go_wp2_with fail
                have hown := HC2.out.own
                rw [set7 (nkCells D) _ _ _ _ _ _ _ _ _ _ _ _ _ _ (D.length * 7) (nkCells_len D)] at hown
                refine ⟨⟨k + 1, R2, P ++ [stepL A.ru (s2 : Int) (ofL A.ru K2) []], D ++ [⟨(s2 : Int), W2, .slice pk2 nk2 ck2⟩], .slice (some ⟨g3, 0, none⟩) (D.length + 1) c3, EL ++ [(K2, .slice pk2 nk2 ck2)], by go_num, Lib.hid (by have := hk.out; simp only [Hg.len] at this; omega), Lib.hid (by rw [← HE.out, ofL]; simp), HOKR2, HOSR2, Lib.hid HSK.out.2.2, Lib.hid (by rw [List.length_append, HDL.out]; rfl), Lib.hid (by rw [List.map_append]; exact HSO.out.snoc HM2.out), Lib.hid (fun x hx => by rcases List.mem_append.1 hx with hx | hx; exact HDW.out x hx; rw [List.mem_singleton] at hx; subst hx; exact HW2.out), Lib.hid (fun _ => ⟨b, o, rfl, HR2.out⟩), Lib.hid (by rw [nkCells_app, List.length_append]; exact hown), Lib.hid HC2.out.bel, Lib.hid HC2.out.tb, Lib.hid HC2.out.rb, Lib.hid HC2.out.nb, Lib.hid (by rw [kapp_snoc _ _ _ _ _ HKV.out]; exact HKA.out), Lib.hid (by rw [List.map_append, List.map_append, HKV.out]; rfl), Lib.hid HC2.out.kd⟩, ?_⟩
                simp [intOf]; omega
          · skip
            have HA2 := Lib.hid (HA1.out.below ((Below.refl _ _).alloc (Nat.le_refl _) (.cells #[.int .i64 0, .int .u64 0, .int .u64 0, .int .u64 0, .int .u64 0, .int .u64 0, .slice none 0 0] 82)))
            have HZB := Lib.hid (Blk.new wc 82 #[.int .i64 0, .int .u64 0, .int .u64 0, .int .u64 0, .int .u64 0, .int .u64 0, .slice none 0 0])
            go_simp
            refine hK.out _ _ (by (try dsimp only); exact HSA.out _ _ _ _ _ _ HA2.out) (fun hHeld => ?_)
            clear hK K
            (try simp only [Act.put, List.setIfInBounds_toArray, List.set_cons_zero, List.set_cons_succ])
            refine wpAnyH_ready (rs := [1]) (by kernel_rfl) (by simp) ?_
            refine AllReadyH.cons rfl (fun K hK => ?_) AllReadyH.nil
            · skip
              have zz := (HXK.out _ _ _ _ _ _ HA2.out).1
              go_simp
              refine hK.out _ _ (by (try dsimp only); exact HSA.out _ _ _ _ _ _ HA2.out) (fun hHeld => ?_)
              clear hK K
              (try simp only [Act.put, List.setIfInBounds_toArray, List.set_cons_zero, List.set_cons_succ])
              clear zz
              refine wpAnyH_take (i := 5) (v := ?v_9) rfl (by kernel_rfl) (by kernel_rfl) (by kernel_rfl) (fun _ _ _ h => h) (Or.inl ⟨by rfl, ?y_9⟩) (by assumption) ?r_9
              case y_9 => (intro w hSw; (try dsimp only at hSw); go_simp); (try with_reducible rfl)
              (try simp only [Act.put, List.setIfInBounds_toArray, List.set_cons_zero, List.set_cons_succ])
              refine wpAnyH_ready (rs := [7]) (by kernel_rfl) (by simp) ?_
              refine AllReadyH.cons rfl (fun K hK => ?_) AllReadyH.nil
              refine step_append_own _ rfl (.tmp 21) (.tmp 26) 80 rfl (w.heap.size + 1 + 1 + 1) 82 i0 _ 7 72 Tryd.underlying80 HI.out hz0 hz1 hz2 rfl (by decide) (.slice a0 D.length k0) D.length (nkCells D) rfl HA2.out.own _ 1 1 [.int .i64 0, .int .u64 0, .int .u64 0, .int .u64 0, .int .u64 0, .int .u64 0, .slice none 0 0] rfl rfl (new_list (HZB.out)) HON.out HLM1.out HLM2.out (HBS.out _ _ _ _ _ _ HA2.out) ?_
              intro v3 W3 ho3 hg3 hat3
              obtain ⟨g3, c3, rfl⟩ := own_form ho3
              have HB9 := Lib.hid (HA2.out.app hg3 ho3 hat3)
              clear ho3 hg3 hat3
              refine hK.out _ _ (by (try dsimp only); exact HSA.out _ _ _ _ _ _ HB9.out) (fun hHeld => ?_)
              clear hK K
              (try simp only [Act.put, List.setIfInBounds_toArray, List.set_cons_zero, List.set_cons_succ])
              refine wpAnyH_take (i := 8) (v := ?v_10) rfl (by kernel_rfl) (by kernel_rfl) (by kernel_rfl) (fun _ _ _ h => h) (Or.inl ⟨by rfl, ?y_10⟩) (by assumption) ?r_10
              case y_10 => (intro w hSw; (try dsimp only at hSw); go_simp); (try with_reducible rfl)
              (try simp only [Act.put, List.setIfInBounds_toArray, List.set_cons_zero, List.set_cons_succ])
              refine wpAnyH_take (i := 10) (v := ?v_11) rfl (by kernel_rfl) (by kernel_rfl) (by kernel_rfl) (fun _ _ _ h => h) (Or.inl ⟨by rfl, ?y_11⟩) (by assumption) ?r_11
              case y_11 => (intro w hSw; (try dsimp only at hSw); go_simp); (try with_reducible rfl)
              (try simp only [Act.put, List.setIfInBounds_toArray, List.set_cons_zero, List.set_cons_succ])
              refine wpAnyH_ready (rs := [9, 11]) (by kernel_rfl) (by simp) ?_
              refine AllReadyH.cons rfl (fun K hK => ?_) (AllReadyH.cons rfl (fun K hK => ?_) AllReadyH.nil)
              · skip
                have e0 := HZW.out g3 c3 _ _ _ HB9.out 0 _ (by omega) rfl
                have e1 := HZW.out g3 c3 _ _ _ HB9.out 1 _ (by omega) rfl
                have e2 := HZW.out g3 c3 _ _ _ HB9.out 2 _ (by omega) rfl
                have e3 := HZW.out g3 c3 _ _ _ HB9.out 3 _ (by omega) rfl
                have e4 := HZW.out g3 c3 _ _ _ HB9.out 4 _ (by omega) rfl
                have e5 := HZW.out g3 c3 _ _ _ HB9.out 5 _ (by omega) rfl
                have e6 := HZW.out g3 c3 _ _ _ HB9.out 6 _ (by omega) rfl
                simp only [Nat.add_zero] at e0
                have e01 := e0.1
                have e02 := e0.2.1
                have e03 := e0.2.2
                have e11 := e1.1
                have e12 := e1.2.1
                have e21 := e2.1
                have e22 := e2.2.1
                have e31 := e3.1
                have e32 := e3.2.1
                have e41 := e4.1
                have e42 := e4.2.1
                have e51 := e5.1
                have e52 := e5.2.1
                have e61 := e6.1
                have e62 := e6.2.1
                clear e0 e1 e2 e3 e4 e5 e6
                have HC1 := Lib.hid (((((((HB9.out.cell (D.length * 7) (.int .i64 (s2 : Int))).cell (D.length * 7 + 1) (.int .u64 (W2 0 : Nat))).cell (D.length * 7 + 2) (.int .u64 (W2 1 : Nat))).cell (D.length * 7 + 3) (.int .u64 (W2 2 : Nat))).cell (D.length * 7 + 4) (.int .u64 (W2 3 : Nat))).cell (D.length * 7 + 5) (.int .u64 (W2 4 : Nat))).cell (D.length * 7 + 6) (.slice pk2 nk2 ck2))
                go_simp
                (try go_wp2_with fail)
                refine hK.out _ _ (by (try dsimp only); exact HSA.out _ _ _ _ _ _ HC1.out) (fun hHeld => ?_)
                clear hK K
                (try simp only [Act.put, List.setIfInBounds_toArray, List.set_cons_zero, List.set_cons_succ])
                clear e01 e02 e03 e11 e12 e21 e22 e31 e32 e41 e42 e51 e52 e61 e62
                refine wpAnyH_ready (rs := [11]) (by kernel_rfl) (by simp) ?_
                refine AllReadyH.cons rfl (fun K hK => ?_) AllReadyH.nil
                have n0 := HXK.out _ _ _ _ _ _ HC1.out
                have n1 := n0.1
                have n2 := n0.2.1
                have n3 := n0.2.2
                clear n0
                have HC2 := Lib.hid (HC1.out.store (.slice (some ⟨g3, 0, none⟩) (D.length + 1) c3))
                go_simp
                (try go_wp2_with fail)
                refine hK.out _ _ (by (try dsimp only); exact HSA.out _ _ _ _ _ _ HC2.out) (fun hHeld => ?_)
                clear hK K
                (try simp only [Act.put, List.setIfInBounds_toArray, List.set_cons_zero, List.set_cons_succ])
                clear n1 n2 n3
                refine wpAnyH_done (by kernel_rfl) ?_ _
                skip
                go_wp2_with fail
                have hown := HC2.out.own
                rw [set7 (nkCells D) _ _ _ _ _ _ _ _ _ _ _ _ _ _ (D.length * 7) (nkCells_len D)] at hown
                refine ⟨⟨k + 1, R2, P ++ [stepL A.ru (s2 : Int) (ofL A.ru K2) []], D ++ [⟨(s2 : Int), W2, .slice pk2 nk2 ck2⟩], .slice (some ⟨g3, 0, none⟩) (D.length + 1) c3, EL ++ [(K2, .slice pk2 nk2 ck2)], by go_num, Lib.hid (by have := hk.out; simp only [Hg.len] at this; omega), Lib.hid (by rw [← HE.out, ofL]; simp), HOKR2, HOSR2, Lib.hid HSK.out.2.2, Lib.hid (by rw [List.length_append, HDL.out]; rfl), Lib.hid (by rw [List.map_append]; exact HSO.out.snoc HM2.out), Lib.hid (fun x hx => by rcases List.mem_append.1 hx with hx | hx; exact HDW.out x hx; rw [List.mem_singleton] at hx; subst hx; exact HW2.out), Lib.hid (fun _ => ⟨b, o, rfl, HR2.out⟩), Lib.hid (by rw [nkCells_app, List.length_append]; exact hown), Lib.hid HC2.out.bel, Lib.hid HC2.out.tb, Lib.hid HC2.out.rb, Lib.hid HC2.out.nb, Lib.hid (by rw [kapp_snoc _ _ _ _ _ HKV.out]; exact HKA.out), Lib.hid (by rw [List.map_append, List.map_append, HKV.out]; rfl), Lib.hid HC2.out.kd⟩, ?_⟩
                simp [intOf]; omega
              · skip
                have n0 := HXK.out _ _ _ _ _ _ HB9.out
                have n1 := n0.1
                have n2 := n0.2.1
                have n3 := n0.2.2
                clear n0
                have HC1 := Lib.hid (HB9.out.store (.slice (some ⟨g3, 0, none⟩) (D.length + 1) c3))
                go_simp
                (try go_wp2_with fail)
                refine hK.out _ _ (by (try dsimp only); exact HSA.out _ _ _ _ _ _ HC1.out) (fun hHeld => ?_)
                clear hK K
                (try simp only [Act.put, List.setIfInBounds_toArray, List.set_cons_zero, List.set_cons_succ])
                clear n1 n2 n3
                refine wpAnyH_ready (rs := [9]) (by kernel_rfl) (by simp) ?_
                refine AllReadyH.cons rfl (fun K hK => ?_) AllReadyH.nil
                have e0 := HZW.out g3 c3 _ _ _ HC1.out 0 _ (by omega) rfl
                have e1 := HZW.out g3 c3 _ _ _ HC1.out 1 _ (by omega) rfl
                have e2 := HZW.out g3 c3 _ _ _ HC1.out 2 _ (by omega) rfl
                have e3 := HZW.out g3 c3 _ _ _ HC1.out 3 _ (by omega) rfl
                have e4 := HZW.out g3 c3 _ _ _ HC1.out 4 _ (by omega) rfl
                have e5 := HZW.out g3 c3 _ _ _ HC1.out 5 _ (by omega) rfl
                have e6 := HZW.out g3 c3 _ _ _ HC1.out 6 _ (by omega) rfl
                simp only [Nat.add_zero] at e0
                have e01 := e0.1
                have e02 := e0.2.1
                have e03 := e0.2.2
                have e11 := e1.1
                have e12 := e1.2.1
                have e21 := e2.1
                have e22 := e2.2.1
                have e31 := e3.1
                have e32 := e3.2.1
                have e41 := e4.1
                have e42 := e4.2.1
                have e51 := e5.1
                have e52 := e5.2.1
                have e61 := e6.1
                have e62 := e6.2.1
                clear e0 e1 e2 e3 e4 e5 e6
                have HC2 := Lib.hid (((((((HC1.out.cell (D.length * 7) (.int .i64 (s2 : Int))).cell (D.length * 7 + 1) (.int .u64 (W2 0 : Nat))).cell (D.length * 7 + 2) (.int .u64 (W2 1 : Nat))).cell (D.length * 7 + 3) (.int .u64 (W2 2 : Nat))).cell (D.length * 7 + 4) (.int .u64 (W2 3 : Nat))).cell (D.length * 7 + 5) (.int .u64 (W2 4 : Nat))).cell (D.length * 7 + 6) (.slice pk2 nk2 ck2))
                go_simp
                (try go_wp2_with fail)
                refine hK.out _ _ (by (try dsimp only); exact HSA.out _ _ _ _ _ _ HC2.out) (fun hHeld => ?_)
                clear hK K
                (try simp only [Act.put, List.setIfInBounds_toArray, List.set_cons_zero, List.set_cons_succ])
                clear e01 e02 e03 e11 e12 e21 e22 e31 e32 e41 e42 e51 e52 e61 e62
                refine wpAnyH_done (by kernel_rfl) ?_ _
                skip
                go_wp2_with fail
                have hown := HC2.out.own
                rw [set7 (nkCells D) _ _ _ _ _ _ _ _ _ _ _ _ _ _ (D.length * 7) (nkCells_len D)] at hown
                refine ⟨⟨k + 1, R2, P ++ [stepL A.ru (s2 : Int) (ofL A.ru K2) []], D ++ [⟨(s2 : Int), W2, .slice pk2 nk2 ck2⟩], .slice (some ⟨g3, 0, none⟩) (D.length + 1) c3, EL ++ [(K2, .slice pk2 nk2 ck2)], by go_num, Lib.hid (by have := hk.out; simp only [Hg.len] at this; omega), Lib.hid (by rw [← HE.out, ofL]; simp), HOKR2, HOSR2, Lib.hid HSK.out.2.2, Lib.hid (by rw [List.length_append, HDL.out]; rfl), Lib.hid (by rw [List.map_append]; exact HSO.out.snoc HM2.out), Lib.hid (fun x hx => by rcases List.mem_append.1 hx with hx | hx; exact HDW.out x hx; rw [List.mem_singleton] at hx; subst hx; exact HW2.out), Lib.hid (fun _ => ⟨b, o, rfl, HR2.out⟩), Lib.hid (by rw [nkCells_app, List.length_append]; exact hown), Lib.hid HC2.out.bel, Lib.hid HC2.out.tb, Lib.hid HC2.out.rb, Lib.hid HC2.out.nb, Lib.hid (by rw [kapp_snoc _ _ _ _ _ HKV.out]; exact HKA.out), Lib.hid (by rw [List.map_append, List.map_append, HKV.out]; rfl), Lib.hid HC2.out.kd⟩, ?_⟩
                simp [intOf]; omega
        · skip
          have HA1 := Lib.hid (HAK.out.below (((Below.refl _ (wr.alloc (.cells #[.int .i64 (s2 : Int), .slice pk K2.len ck] 43))).alloc (Nat.le_refl _) (.cells #[.int .i64 0, .int .u64 0, .int .u64 0, .int .u64 0, .int .u64 0, .int .u64 0, .slice none 0 0] 82)).drew))
          have HZB := Lib.hid ((Blk.new (wr.alloc (.cells #[.int .i64 (s2 : Int), .slice pk K2.len ck] 43)) 82 #[.int .i64 0, .int .u64 0, .int .u64 0, .int .u64 0, .int .u64 0, .int .u64 0, .slice none 0 0]).drew)
          rw [World.size_alloc] at HZB
          go_simp
          refine hK.out _ _ (by (try dsimp only); exact HSA.out _ _ _ _ _ _ HA1.out) (fun hHeld => ?_)
          clear hK K
          (try simp only [Act.put, List.setIfInBounds_toArray, List.set_cons_zero, List.set_cons_succ])
          refine wpAnyH_ready (rs := [1, 4]) (by kernel_rfl) (by simp) ?_
          refine AllReadyH.cons rfl (fun K hK => ?_) (AllReadyH.cons rfl (fun K hK => ?_) AllReadyH.nil)
          · skip
            have zz := (HXK.out _ _ _ _ _ _ HA1.out).1
            go_simp
            refine hK.out _ _ (by (try dsimp only); exact HSA.out _ _ _ _ _ _ HA1.out) (fun hHeld => ?_)
            clear hK K
            (try simp only [Act.put, List.setIfInBounds_toArray, List.set_cons_zero, List.set_cons_succ])
            clear zz
            refine wpAnyH_take (i := 5) (v := ?v_12) rfl (by kernel_rfl) (by kernel_rfl) (by kernel_rfl) (fun _ _ _ h => h) (Or.inl ⟨by rfl, ?y_12⟩) (by assumption) ?r_12
            case y_12 => (intro w hSw; (try dsimp only at hSw); go_simp); (try with_reducible rfl)
            (try simp only [Act.put, List.setIfInBounds_toArray, List.set_cons_zero, List.set_cons_succ])
            refine wpAnyH_ready (rs := [4]) (by kernel_rfl) (by simp) ?_
            refine AllReadyH.cons rfl (fun K hK => ?_) AllReadyH.nil
            · skip
              go_simp
              refine (HIH.out s2 K2 _ _ HSK.out.1 HSK.out.2.1 (HT.out.below HA1.out.bel) (HK2.out.below HA1.out.bel) hs2n hk23 HOSK.out HFK.out HOK2.out).mono ?_
              rintro e wc ⟨⟨W2, pk2, nk2, ck2, rfl, hW2, hm2, hnk⟩, hbc⟩
              have HW2 := Lib.hid hW2
              have HM2 := Lib.hid hm2
              have HBC := Lib.hid hbc
              have HA3 := Lib.hid (HA1.out.kid hbc hnk)
              have HZC := Lib.hid ((HZB.out).below hbc (HZB.out).lt)
              clear hW2 hm2 hnk hbc
              unfold nodeV
              (try go_wp2_with fail)
              refine hK.out _ _ (by (try dsimp only); exact HSA.out _ _ _ _ _ _ HA3.out) (fun hHeld => ?_)
              clear hK K
              (try simp only [Act.put, List.setIfInBounds_toArray, List.set_cons_zero, List.set_cons_succ])
              refine wpAnyH_ready (rs := [7]) (by kernel_rfl) (by simp) ?_
              refine AllReadyH.cons rfl (fun K hK => ?_) AllReadyH.nil
              refine step_append_own _ rfl (.tmp 21) (.tmp 26) 80 rfl (w.heap.size + 1 + 1 + 1) 82 i0 _ 7 72 Tryd.underlying80 HI.out hz0 hz1 hz2 rfl (by decide) (.slice a0 D.length k0) D.length (nkCells D) rfl HA3.out.own _ 1 1 [.int .i64 0, .int .u64 0, .int .u64 0, .int .u64 0, .int .u64 0, .int .u64 0, .slice none 0 0] rfl rfl (new_list (HZC.out)) HON.out HLM1.out HLM2.out (HBS.out _ _ _ _ _ _ HA3.out) ?_
              intro v3 W3 ho3 hg3 hat3
              obtain ⟨g3, c3, rfl⟩ := own_form ho3
              have HB9 := Lib.hid (HA3.out.app hg3 ho3 hat3)
              clear ho3 hg3 hat3
              refine hK.out _ _ (by (try dsimp only); exact HSA.out _ _ _ _ _ _ HB9.out) (fun hHeld => ?_)
              clear hK K
              (try simp only [Act.put, List.setIfInBounds_toArray, List.set_cons_zero, List.set_cons_succ])
              refine wpAnyH_take (i := 8) (v := ?v_13) rfl (by kernel_rfl) (by kernel_rfl) (by kernel_rfl) (fun _ _ _ h => h) (Or.inl ⟨by rfl, ?y_13⟩) (by assumption) ?r_13
              case y_13 => (intro w hSw; (try dsimp only at hSw); go_simp); (try with_reducible rfl)
              (try simp only [Act.put, List.setIfInBounds_toArray, List.set_cons_zero, List.set_cons_succ])
              refine wpAnyH_take (i := 10) (v := ?v_14) rfl (by kernel_rfl) (by kernel_rfl) (by kernel_rfl) (fun _ _ _ h => h) (Or.inl ⟨by rfl, ?y_14⟩) (by assumption) ?r_14
              case y_14 => (intro w hSw; (try dsimp only at hSw); go_simp); (try with_reducible rfl)
              (try simp only [Act.put, List.setIfInBounds_toArray, List.set_cons_zero, List.set_cons_succ])
              refine wpAnyH_ready (rs := [9, 11]) (by kernel_rfl) (by simp) ?_
              refine AllReadyH.cons rfl (fun K hK => ?_) (AllReadyH.cons rfl (fun K hK => ?_) AllReadyH.nil)
              · skip
                have e0 := HZW.out g3 c3 _ _ _ HB9.out 0 _ (by omega) rfl
                have e1 := HZW.out g3 c3 _ _ _ HB9.out 1 _ (by omega) rfl
                have e2 := HZW.out g3 c3 _ _ _ HB9.out 2 _ (by omega) rfl
                have e3 := HZW.out g3 c3 _ _ _ HB9.out 3 _ (by omega) rfl
                have e4 := HZW.out g3 c3 _ _ _ HB9.out 4 _ (by omega) rfl
                have e5 := HZW.out g3 c3 _ _ _ HB9.out 5 _ (by omega) rfl
                have e6 := HZW.out g3 c3 _ _ _ HB9.out 6 _ (by omega) rfl
                simp only [Nat.add_zero] at e0
                have e01 := e0.1
                have e02 := e0.2.1
                have e03 := e0.2.2
                have e11 := e1.1
                have e12 := e1.2.1
                have e21 := e2.1
                have e22 := e2.2.1
                have e31 := e3.1
                have e32 := e3.2.1
                have e41 := e4.1
                have e42 := e4.2.1
                have e51 := e5.1
                have e52 := e5.2.1
                have e61 := e6.1
                have e62 := e6.2.1
                clear e0 e1 e2 e3 e4 e5 e6
                have HC1 := Lib.hid (((((((HB9.out.cell (D.length * 7) (.int .i64 (s2 : Int))).cell (D.length * 7 + 1) (.int .u64 (W2 0 : Nat))).cell (D.length * 7 + 2) (.int .u64 (W2 1 : Nat))).cell (D.length * 7 + 3) (.int .u64 (W2 2 : Nat))).cell (D.length * 7 + 4) (.int .u64 (W2 3 : Nat))).cell (D.length * 7 + 5) (.int .u64 (W2 4 : Nat))).cell (D.length * 7 + 6) (.slice pk2 nk2 ck2))
                go_simp
                (try go_wp2_with fail)
                refine hK.out _ _ (by (try dsimp only); exact HSA.out _ _ _ _ _ _ HC1.out) (fun hHeld => ?_)
                clear hK K
                (try simp only [Act.put, List.setIfInBounds_toArray, List.set_cons_zero, List.set_cons_succ])
                clear e01 e02 e03 e11 e12 e21 e22 e31 e32 e41 e42 e51 e52 e61 e62
                refine wpAnyH_ready (rs := [11]) (by kernel_rfl) (by simp) ?_
                refine AllReadyH.cons rfl (fun K hK => ?_) AllReadyH.nil
                have n0 := HXK.out _ _ _ _ _ _ HC1.out
                have n1 := n0.1
                have n2 := n0.2.1
                have n3 := n0.2.2
                clear n0
                have HC2 := Lib.hid (HC1.out.store (.slice (some ⟨g3, 0, none⟩) (D.length + 1) c3))
                go_simp
                (try go_wp2_with fail)
                refine hK.out _ _ (by (try dsimp only); exact HSA.out _ _ _ _ _ _ HC2.out) (fun hHeld => ?_)
                clear hK K
                (try simp only [Act.put, List.setIfInBounds_toArray, List.set_cons_zero, List.set_cons_succ])
                clear n1 n2 n3
                refine wpAnyH_done (by kernel_rfl) ?_ _
                skip
                go_wp2_with fail
                have hown := HC2.out.own
                rw [set7 (nkCells D) _ _ _ _ _ _ _ _ _ _ _ _ _ _ (D.length * 7) (nkCells_len D)] at hown
                refine ⟨⟨k + 1, R2, P ++ [stepL A.ru (s2 : Int) (ofL A.ru K2) []], D ++ [⟨(s2 : Int), W2, .slice pk2 nk2 ck2⟩], .slice (some ⟨g3, 0, none⟩) (D.length + 1) c3, EL ++ [(K2, .slice pk2 nk2 ck2)], by go_num, Lib.hid (by have := hk.out; simp only [Hg.len] at this; omega), Lib.hid (by rw [← HE.out, ofL]; simp), HOKR2, HOSR2, Lib.hid HSK.out.2.2, Lib.hid (by rw [List.length_append, HDL.out]; rfl), Lib.hid (by rw [List.map_append]; exact HSO.out.snoc HM2.out), Lib.hid (fun x hx => by rcases List.mem_append.1 hx with hx | hx; exact HDW.out x hx; rw [List.mem_singleton] at hx; subst hx; exact HW2.out), Lib.hid (fun _ => ⟨b, o, rfl, HR2.out⟩), Lib.hid (by rw [nkCells_app, List.length_append]; exact hown), Lib.hid HC2.out.bel, Lib.hid HC2.out.tb, Lib.hid HC2.out.rb, Lib.hid HC2.out.nb, Lib.hid (by rw [kapp_snoc _ _ _ _ _ HKV.out]; exact HKA.out), Lib.hid (by rw [List.map_append, List.map_append, HKV.out]; rfl), Lib.hid HC2.out.kd⟩, ?_⟩
                simp [intOf]; omega
              · skip
                have n0 := HXK.out _ _ _ _ _ _ HB9.out
                have n1 := n0.1
                have n2 := n0.2.1
                have n3 := n0.2.2
                clear n0
                have HC1 := Lib.hid (HB9.out.store (.slice (some ⟨g3, 0, none⟩) (D.length + 1) c3))
                go_simp
                (try go_wp2_with fail)
                refine hK.out _ _ (by (try dsimp only); exact HSA.out _ _ _ _ _ _ HC1.out) (fun hHeld => ?_)
                clear hK K
                (try simp only [Act.put, List.setIfInBounds_toArray, List.set_cons_zero, List.set_cons_succ])
                clear n1 n2 n3
                refine wpAnyH_ready (rs := [9]) (by kernel_rfl) (by simp) ?_
                refine AllReadyH.cons rfl (fun K hK => ?_) AllReadyH.nil
                have e0 := HZW.out g3 c3 _ _ _ HC1.out 0 _ (by omega) rfl
                have e1 := HZW.out g3 c3 _ _ _ HC1.out 1 _ (by omega) rfl
                have e2 := HZW.out g3 c3 _ _ _ HC1.out 2 _ (by omega) rfl
                have e3 := HZW.out g3 c3 _ _ _ HC1.out 3 _ (by omega) rfl
                have e4 := HZW.out g3 c3 _ _ _ HC1.out 4 _ (by omega) rfl
                have e5 := HZW.out g3 c3 _ _ _ HC1.out 5 _ (by omega) rfl
                have e6 := HZW.out g3 c3 _ _ _ HC1.out 6 _ (by omega) rfl
                simp only [Nat.add_zero] at e0
                have e01 := e0.1
                have e02 := e0.2.1
                have e03 := e0.2.2
                have e11 := e1.1
                have e12 := e1.2.1
                have e21 := e2.1
                have e22 := e2.2.1
                have e31 := e3.1
                have e32 := e3.2.1
                have e41 := e4.1
                have e42 := e4.2.1
                have e51 := e5.1
                have e52 := e5.2.1
                have e61 := e6.1
                have e62 := e6.2.1
                clear e0 e1 e2 e3 e4 e5 e6
                have HC2 := Lib.hid (((((((HC1.out.cell (D.length * 7) (.int .i64 (s2 : Int))).cell (D.length * 7 + 1) (.int .u64 (W2 0 : Nat))).cell (D.length * 7 + 2) (.int .u64 (W2 1 : Nat))).cell (D.length * 7 + 3) (.int .u64 (W2 2 : Nat))).cell (D.length * 7 + 4) (.int .u64 (W2 3 : Nat))).cell (D.length * 7 + 5) (.int .u64 (W2 4 : Nat))).cell (D.length * 7 + 6) (.slice pk2 nk2 ck2))
                go_simp
                (try go_wp2_with fail)
                refine hK.out _ _ (by (try dsimp only); exact HSA.out _ _ _ _ _ _ HC2.out) (fun hHeld => ?_)
                clear hK K
                (try simp only [Act.put, List.setIfInBounds_toArray, List.set_cons_zero, List.set_cons_succ])
                clear e01 e02 e03 e11 e12 e21 e22 e31 e32 e41 e42 e51 e52 e61 e62
                refine wpAnyH_done (by kernel_rfl) ?_ _
                skip
                go_wp2_with fail
                have hown := HC2.out.own
                rw [set7 (nkCells D) _ _ _ _ _ _ _ _ _ _ _ _ _ _ (D.length * 7) (nkCells_len D)] at hown
                refine ⟨⟨k + 1, R2, P ++ [stepL A.ru (s2 : Int) (ofL A.ru K2) []], D ++ [⟨(s2 : Int), W2, .slice pk2 nk2 ck2⟩], .slice (some ⟨g3, 0, none⟩) (D.length + 1) c3, EL ++ [(K2, .slice pk2 nk2 ck2)], by go_num, Lib.hid (by have := hk.out; simp only [Hg.len] at this; omega), Lib.hid (by rw [← HE.out, ofL]; simp), HOKR2, HOSR2, Lib.hid HSK.out.2.2, Lib.hid (by rw [List.length_append, HDL.out]; rfl), Lib.hid (by rw [List.map_append]; exact HSO.out.snoc HM2.out), Lib.hid (fun x hx => by rcases List.mem_append.1 hx with hx | hx; exact HDW.out x hx; rw [List.mem_singleton] at hx; subst hx; exact HW2.out), Lib.hid (fun _ => ⟨b, o, rfl, HR2.out⟩), Lib.hid (by rw [nkCells_app, List.length_append]; exact hown), Lib.hid HC2.out.bel, Lib.hid HC2.out.tb, Lib.hid HC2.out.rb, Lib.hid HC2.out.nb, Lib.hid (by rw [kapp_snoc _ _ _ _ _ HKV.out]; exact HKA.out), Lib.hid (by rw [List.map_append, List.map_append, HKV.out]; rfl), Lib.hid HC2.out.kd⟩, ?_⟩
                simp [intOf]; omega
          · skip
            go_simp
            refine (HIH.out s2 K2 _ _ HSK.out.1 HSK.out.2.1 (HT.out.below HA1.out.bel) (HK2.out.below HA1.out.bel) hs2n hk23 HOSK.out HFK.out HOK2.out).mono ?_
            rintro e wc ⟨⟨W2, pk2, nk2, ck2, rfl, hW2, hm2, hnk⟩, hbc⟩
            have HW2 := Lib.hid hW2
            have HM2 := Lib.hid hm2
            have HBC := Lib.hid hbc
            have HA2 := Lib.hid (HA1.out.kid hbc hnk)
            have HZC := Lib.hid ((HZB.out).below hbc (HZB.out).lt)
            clear hW2 hm2 hnk hbc
            unfold nodeV
            (try go_wp2_with fail)
            refine hK.out _ _ (by (try dsimp only); exact HSA.out _ _ _ _ _ _ HA2.out) (fun hHeld => ?_)
            clear hK K
            (try simp only [Act.put, List.setIfInBounds_toArray, List.set_cons_zero, List.set_cons_succ])
            refine wpAnyH_ready (rs := [1]) (by kernel_rfl) (by simp) ?_
            refine AllReadyH.cons rfl (fun K hK => ?_) AllReadyH.nil
            · skip
              have zz := (HXK.out _ _ _ _ _ _ HA2.out).1
              go_simp
              refine hK.out _ _ (by (try dsimp only); exact HSA.out _ _ _ _ _ _ HA2.out) (fun hHeld => ?_)
              clear hK K
              (try simp only [Act.put, List.setIfInBounds_toArray, List.set_cons_zero, List.set_cons_succ])
              clear zz
              refine wpAnyH_take (i := 5) (v := ?v_15) rfl (by kernel_rfl) (by kernel_rfl) (by kernel_rfl) (fun _ _ _ h => h) (Or.inl ⟨by rfl, ?y_15⟩) (by assumption) ?r_15
              case y_15 => (intro w hSw; (try dsimp only at hSw); go_simp); (try with_reducible rfl)
              (try simp only [Act.put, List.setIfInBounds_toArray, List.set_cons_zero, List.set_cons_succ])
              refine wpAnyH_ready (rs := [7]) (by kernel_rfl) (by simp) ?_
              refine AllReadyH.cons rfl (fun K hK => ?_) AllReadyH.nil
              refine step_append_own _ rfl (.tmp 21) (.tmp 26) 80 rfl (w.heap.size + 1 + 1 + 1) 82 i0 _ 7 72 Tryd.underlying80 HI.out hz0 hz1 hz2 rfl (by decide) (.slice a0 D.length k0) D.length (nkCells D) rfl HA2.out.own _ 1 1 [.int .i64 0, .int .u64 0, .int .u64 0, .int .u64 0, .int .u64 0, .int .u64 0, .slice none 0 0] rfl rfl (new_list (HZC.out)) HON.out HLM1.out HLM2.out (HBS.out _ _ _ _ _ _ HA2.out) ?_
              intro v3 W3 ho3 hg3 hat3
              obtain ⟨g3, c3, rfl⟩ := own_form ho3
              have HB9 := Lib.hid (HA2.out.app hg3 ho3 hat3)
              clear ho3 hg3 hat3
              refine hK.out _ _ (by (try dsimp only); exact HSA.out _ _ _ _ _ _ HB9.out) (fun hHeld => ?_)
              clear hK K
              (try simp only [Act.put, List.setIfInBounds_toArray, List.set_cons_zero, List.set_cons_succ])
              refine wpAnyH_take (i := 8) (v := ?v_16) rfl (by kernel_rfl) (by kernel_rfl) (by kernel_rfl) (fun _ _ _ h => h) (Or.inl ⟨by rfl, ?y_16⟩) (by assumption) ?r_16
              case y_16 => (intro w hSw; (try dsimp only at hSw); go_simp); (try with_reducible rfl)
              (try simp only [Act.put, List.setIfInBounds_toArray, List.set_cons_zero, List.set_cons_succ])
              refine wpAnyH_take (i := 10) (v := ?v_17) rfl (by kernel_rfl) (by kernel_rfl) (by kernel_rfl) (fun _ _ _ h => h) (Or.inl ⟨by rfl, ?y_17⟩) (by assumption) ?r_17
              case y_17 => (intro w hSw; (try dsimp only at hSw); go_simp); (try with_reducible rfl)
              (try simp only [Act.put, List.setIfInBounds_toArray, List.set_cons_zero, List.set_cons_succ])
              refine wpAnyH_ready (rs := [9, 11]) (by kernel_rfl) (by simp) ?_
              refine AllReadyH.cons rfl (fun K hK => ?_) (AllReadyH.cons rfl (fun K hK => ?_) AllReadyH.nil)
              · skip
                have e0 := HZW.out g3 c3 _ _ _ HB9.out 0 _ (by omega) rfl
                have e1 := HZW.out g3 c3 _ _ _ HB9.out 1 _ (by omega) rfl
                have e2 := HZW.out g3 c3 _ _ _ HB9.out 2 _ (by omega) rfl
                have e3 := HZW.out g3 c3 _ _ _ HB9.out 3 _ (by omega) rfl
                have e4 := HZW.out g3 c3 _ _ _ HB9.out 4 _ (by omega) rfl
                have e5 := HZW.out g3 c3 _ _ _ HB9.out 5 _ (by omega) rfl
                have e6 := HZW.out g3 c3 _ _ _ HB9.out 6 _ (by omega) rfl
                simp only [Nat.add_zero] at e0
                have e01 := e0.1
                have e02 := e0.2.1
                have e03 := e0.2.2
                have e11 := e1.1
                have e12 := e1.2.1
                have e21 := e2.1
                have e22 := e2.2.1
                have e31 := e3.1
                have e32 := e3.2.1
                have e41 := e4.1
                have e42 := e4.2.1
                have e51 := e5.1
                have e52 := e5.2.1
                have e61 := e6.1
                have e62 := e6.2.1
                clear e0 e1 e2 e3 e4 e5 e6
                have HC1 := Lib.hid (((((((HB9.out.cell (D.length * 7) (.int .i64 (s2 : Int))).cell (D.length * 7 + 1) (.int .u64 (W2 0 : Nat))).cell (D.length * 7 + 2) (.int .u64 (W2 1 : Nat))).cell (D.length * 7 + 3) (.int .u64 (W2 2 : Nat))).cell (D.length * 7 + 4) (.int .u64 (W2 3 : Nat))).cell (D.length * 7 + 5) (.int .u64 (W2 4 : Nat))).cell (D.length * 7 + 6) (.slice pk2 nk2 ck2))
                go_simp
                (try go_wp2_with fail)
                refine hK.out _ _ (by (try dsimp only); exact HSA.out _ _ _ _ _ _ HC1.out) (fun hHeld => ?_)
                clear hK K
                (try simp only [Act.put, List.setIfInBounds_toArray, List.set_cons_zero, List.set_cons_succ])
                clear e01 e02 e03 e11 e12 e21 e22 e31 e32 e41 e42 e51 e52 e61 e62
                refine wpAnyH_ready (rs := [11]) (by kernel_rfl) (by simp) ?_
                refine AllReadyH.cons rfl (fun K hK => ?_) AllReadyH.nil
                have n0 := HXK.out _ _ _ _ _ _ HC1.out
                have n1 := n0.1
                have n2 := n0.2.1
                have n3 := n0.2.2
                clear n0
                have HC2 := Lib.hid (HC1.out.store (.slice (some ⟨g3, 0, none⟩) (D.length + 1) c3))
                go_simp
                (try go_wp2_with fail)
                refine hK.out _ _ (by (try dsimp only); exact HSA.out _ _ _ _ _ _ HC2.out) (fun hHeld => ?_)
                clear hK K
                (try simp only [Act.put, List.setIfInBounds_toArray, List.set_cons_zero, List.set_cons_succ])
                clear n1 n2 n3
                refine wpAnyH_done (by kernel_rfl) ?_ _
                skip
                go_wp2_with fail
                have hown := HC2.out.own
                rw [set7 (nkCells D) _ _ _ _ _ _ _ _ _ _ _ _ _ _ (D.length * 7) (nkCells_len D)] at hown
                refine ⟨⟨k + 1, R2, P ++ [stepL A.ru (s2 : Int) (ofL A.ru K2) []], D ++ [⟨(s2 : Int), W2, .slice pk2 nk2 ck2⟩], .slice (some ⟨g3, 0, none⟩) (D.length + 1) c3, EL ++ [(K2, .slice pk2 nk2 ck2)], by go_num, Lib.hid (by have := hk.out; simp only [Hg.len] at this; omega), Lib.hid (by rw [← HE.out, ofL]; simp), HOKR2, HOSR2, Lib.hid HSK.out.2.2, Lib.hid (by rw [List.length_append, HDL.out]; rfl), Lib.hid (by rw [List.map_append]; exact HSO.out.snoc HM2.out), Lib.hid (fun x hx => by rcases List.mem_append.1 hx with hx | hx; exact HDW.out x hx; rw [List.mem_singleton] at hx; subst hx; exact HW2.out), Lib.hid (fun _ => ⟨b, o, rfl, HR2.out⟩), Lib.hid (by rw [nkCells_app, List.length_append]; exact hown), Lib.hid HC2.out.bel, Lib.hid HC2.out.tb, Lib.hid HC2.out.rb, Lib.hid HC2.out.nb, Lib.hid (by rw [kapp_snoc _ _ _ _ _ HKV.out]; exact HKA.out), Lib.hid (by rw [List.map_append, List.map_append, HKV.out]; rfl), Lib.hid HC2.out.kd⟩, ?_⟩
                simp [intOf]; omega
              · skip
                have n0 := HXK.out _ _ _ _ _ _ HB9.out
                have n1 := n0.1
                have n2 := n0.2.1
                have n3 := n0.2.2
                clear n0
                have HC1 := Lib.hid (HB9.out.store (.slice (some ⟨g3, 0, none⟩) (D.length + 1) c3))
                go_simp
                (try go_wp2_with fail)
                refine hK.out _ _ (by (try dsimp only); exact HSA.out _ _ _ _ _ _ HC1.out) (fun hHeld => ?_)
                clear hK K
                (try simp only [Act.put, List.setIfInBounds_toArray, List.set_cons_zero, List.set_cons_succ])
                clear n1 n2 n3
                refine wpAnyH_ready (rs := [9]) (by kernel_rfl) (by simp) ?_
                refine AllReadyH.cons rfl (fun K hK => ?_) AllReadyH.nil
                have e0 := HZW.out g3 c3 _ _ _ HC1.out 0 _ (by omega) rfl
                have e1 := HZW.out g3 c3 _ _ _ HC1.out 1 _ (by omega) rfl
                have e2 := HZW.out g3 c3 _ _ _ HC1.out 2 _ (by omega) rfl
                have e3 := HZW.out g3 c3 _ _ _ HC1.out 3 _ (by omega) rfl
                have e4 := HZW.out g3 c3 _ _ _ HC1.out 4 _ (by omega) rfl
                have e5 := HZW.out g3 c3 _ _ _ HC1.out 5 _ (by omega) rfl
                have e6 := HZW.out g3 c3 _ _ _ HC1.out 6 _ (by omega) rfl
                simp only [Nat.add_zero] at e0
                have e01 := e0.1
                have e02 := e0.2.1
                have e03 := e0.2.2
                have e11 := e1.1
                have e12 := e1.2.1
                have e21 := e2.1
                have e22 := e2.2.1
                have e31 := e3.1
                have e32 := e3.2.1
                have e41 := e4.1
                have e42 := e4.2.1
                have e51 := e5.1
                have e52 := e5.2.1
                have e61 := e6.1
                have e62 := e6.2.1
                clear e0 e1 e2 e3 e4 e5 e6
                have HC2 := Lib.hid (((((((HC1.out.cell (D.length * 7) (.int .i64 (s2 : Int))).cell (D.length * 7 + 1) (.int .u64 (W2 0 : Nat))).cell (D.length * 7 + 2) (.int .u64 (W2 1 : Nat))).cell (D.length * 7 + 3) (.int .u64 (W2 2 : Nat))).cell (D.length * 7 + 4) (.int .u64 (W2 3 : Nat))).cell (D.length * 7 + 5) (.int .u64 (W2 4 : Nat))).cell (D.length * 7 + 6) (.slice pk2 nk2 ck2))
                go_simp
                (try go_wp2_with fail)
                refine hK.out _ _ (by (try dsimp only); exact HSA.out _ _ _ _ _ _ HC2.out) (fun hHeld => ?_)
                clear hK K
                (try simp only [Act.put, List.setIfInBounds_toArray, List.set_cons_zero, List.set_cons_succ])
                clear e01 e02 e03 e11 e12 e21 e22 e31 e32 e41 e42 e51 e52 e61 e62
                refine wpAnyH_done (by kernel_rfl) ?_ _
                skip
                go_wp2_with fail
                have hown := HC2.out.own
                rw [set7 (nkCells D) _ _ _ _ _ _ _ _ _ _ _ _ _ _ (D.length * 7) (nkCells_len D)] at hown
                refine ⟨⟨k + 1, R2, P ++ [stepL A.ru (s2 : Int) (ofL A.ru K2) []], D ++ [⟨(s2 : Int), W2, .slice pk2 nk2 ck2⟩], .slice (some ⟨g3, 0, none⟩) (D.length + 1) c3, EL ++ [(K2, .slice pk2 nk2 ck2)], by go_num, Lib.hid (by have := hk.out; simp only [Hg.len] at this; omega), Lib.hid (by rw [← HE.out, ofL]; simp), HOKR2, HOSR2, Lib.hid HSK.out.2.2, Lib.hid (by rw [List.length_append, HDL.out]; rfl), Lib.hid (by rw [List.map_append]; exact HSO.out.snoc HM2.out), Lib.hid (fun x hx => by rcases List.mem_append.1 hx with hx | hx; exact HDW.out x hx; rw [List.mem_singleton] at hx; subst hx; exact HW2.out), Lib.hid (fun _ => ⟨b, o, rfl, HR2.out⟩), Lib.hid (by rw [nkCells_app, List.length_append]; exact hown), Lib.hid HC2.out.bel, Lib.hid HC2.out.tb, Lib.hid HC2.out.rb, Lib.hid HC2.out.nb, Lib.hid (by rw [kapp_snoc _ _ _ _ _ HKV.out]; exact HKA.out), Lib.hid (by rw [List.map_append, List.map_append, HKV.out]; rfl), Lib.hid HC2.out.kd⟩, ?_⟩
                simp [intOf]; omega
end

end Go.Proofs.YtopineheelkcmaaDoor
