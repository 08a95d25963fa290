/- The closure of auto.Single: the state of a tree. -/
import Derived.Test.YtedfldbknjcnlaaDoorSgM
import Derived.Test.YtedfldbknjcnlaaDoorFG1
import Derived.Test.YtedfldbknjcnlaaDoorNewT
import Derived.Test.YtedfldbknjcnlaaDoorRSo
import Derived.Test.YtedfldbknjcnlaaDoorFG22
import Derived.Test.YtedfldbknjcnlaaDoorFG17
namespace Go.Proofs.YtedfldbknjcnlaaDoor
open Go.RowKit Go.Shelf Go.Maps Go.WideElems

def klR (r : Ru) : Lit := klOf r.sym (r.fr.getD 0 0) (r.fr.getD 1 0) (r.fr.getD 2 0)
def sgF (cb mb rb : Nat) : Value := .func (.func 76) #[] #[.pointer (some ⟨cb, 0, none⟩), .pointer (some ⟨mb, 0, none⟩), .pointer (some ⟨rb, 0, none⟩)]
/-- A list of numbers in a block of numbers that a set admits. -/
def IsIntsU (S : Nat → Prop) (w : World) (v : Value) (l : List Int) : Prop :=
  ∃ p c, v = .slice p l.length c ∧ l.length ≤ c ∧ c ≤ maxLen ∧ (l ≠ [] → ∃ b o cur, p = some ⟨b, o, none⟩ ∧ S b ∧ Blk w b 3 cur ∧ ∀ (i : Nat) (x : Int), l[i]? = some x → w.cell? ⟨b, o + i, none⟩ = some (.int .i64 x))
theorem IsIntsU.isInts {S : Nat → Prop} {w : World} {v : Value} {l : List Int} (h : IsIntsU S w v l) : IsInts w v l := by
  obtain ⟨p, c, e, h1, h2, h3⟩ := h
  exact ⟨p, c, e, h1, h2, fun hne => by obtain ⟨b, o, cur, e2, _, _, hc⟩ := h3 hne; exact ⟨b, o, e2, hc⟩⟩
theorem IsIntsU.kp {S T : Nat → Prop} {w w' : World} {v : Value} {l : List Int} (h : IsIntsU S w v l) (hk : Kp T w w') (hS : ∀ b cur, S b → Blk w b 3 cur → T b) : IsIntsU S w' v l := by
  obtain ⟨p, c, e, h1, h2, h3⟩ := h
  refine ⟨p, c, e, h1, h2, fun hne => ?_⟩
  obtain ⟨b, o, cur, e2, hB, hb, hc⟩ := h3 hne
  exact ⟨b, o, cur, e2, hB, hb.kp hk (hS b cur hB hb), fun i x hx => hk.cell (hc i x hx) (hS b cur hB hb)⟩
theorem IsIntsU.mono {S T : Nat → Prop} {w : World} {v : Value} {l : List Int} (h : IsIntsU S w v l) (hS : ∀ b, b < w.heap.size → S b → T b) : IsIntsU T w v l := by
  obtain ⟨p, c, e, h1, h2, h3⟩ := h
  refine ⟨p, c, e, h1, h2, fun hne => ?_⟩
  obtain ⟨b, o, cur, e2, hB, hb, hc⟩ := h3 hne
  exact ⟨b, o, cur, e2, hS b hb.lt hB, hb, hc⟩
theorem IsIntsU.of_blk {S : Nat → Prop} {w : World} {b : Nat} {l : List Int} (h : Blk w b 3 (intV l).toArray) (hS : S b) (hl : l.length ≤ 1000) : IsIntsU S w (.slice (some ⟨b, 0, none⟩) l.length l.length) l :=
  ⟨_, _, rfl, Nat.le_refl _, by unfold maxLen; omega, fun _ => ⟨b, 0, _, rfl, hS, h, fun i x hx => by
    rw [Nat.zero_add, h.cell]
    simp [intV, hx]⟩⟩
/-- What the closure works on: its own box, the map of the heads, the rules. -/
structure SgW (B : Nat) (S : Nat → Prop) (ks : List Lit) (cb mb rb M : Nat) (W : World) (D : List (Ru × Value)) (rv : Value) (f : Lit → Option Value) : Prop where
  c : Blk W cb 58 #[sgF cb mb rb]
  m : Blk W mb 94 #[.map (some M)]
  mp : IsMp Tryd.prog 97 ks W M f
  r : Blk W rb 25 #[rv]
  own : W.ownsRow B 70 3 rv D.length (rcells D)
  fr : ∀ x ∈ D, IsIntsU S W x.2 x.1.fr
  to : ∀ (q : Nat) x, D[q]? = some x → f (klR x.1) = some (.int .i64 (q : Int))
  of : ∀ kl v, f kl = some v → ∃ (q : Nat) (x : Ru × Value), D[q]? = some x ∧ kl = klR x.1 ∧ v = .int .i64 (q : Int)
theorem SgW.kpS {B : Nat} {S T : Nat → Prop} {ks : List Lit} {cb mb rb M : Nat} {W W' : World} {D : List (Ru × Value)} {rv : Value} {f : Lit → Option Value} (h : SgW B S ks cb mb rb M W D rv f) (hk : Kp T W W') (h1 : T cb) (h2 : T mb) (h3 : T M) (h4 : T rb) (h5 : ∀ c cur, rv.ownBlock = some c → Blk W c 70 cur → T c) (h6 : ∀ c cur, S c → Blk W c 3 cur → T c) : SgW B S ks cb mb rb M W' D rv f :=
  ⟨h.c.kp hk h1, h.m.kp hk h2, h.mp.kp hk h3, h.r.kp hk h4, ownsRow_kp h.own hk (fun c e => by obtain ⟨cur, hc, _⟩ := own_cells h.own e; exact h5 c cur e hc), fun x hx => (h.fr x hx).kp hk h6, h.to, h.of⟩
theorem SgW.kp {B : Nat} {S : Nat → Prop} {ks : List Lit} {cb mb rb M : Nat} {W W' : World} {D : List (Ru × Value)} {rv : Value} {f : Lit → Option Value} (h : SgW B S ks cb mb rb M W D rv f) (hk : Kp (fun _ => True) W W') : SgW B S ks cb mb rb M W' D rv f :=
  h.kpS hk trivial trivial trivial trivial (fun _ _ _ _ => trivial) (fun _ _ _ _ => trivial)
theorem SgW.mono {B : Nat} {S T : Nat → Prop} {ks : List Lit} {cb mb rb M : Nat} {W : World} {D : List (Ru × Value)} {rv : Value} {f : Lit → Option Value} (h : SgW B S ks cb mb rb M W D rv f) (hS : ∀ b, b < W.heap.size → S b → T b) : SgW B T ks cb mb rb M W D rv f :=
  ⟨h.c, h.m, h.mp, h.r, h.own, fun x hx => (h.fr x hx).mono hS, h.to, h.of⟩
/-- A block of numbers lies apart from all that. -/
theorem SgW.apart {B : Nat} {S : Nat → Prop} {ks : List Lit} {cb mb rb M g : Nat} {W : World} {D : List (Ru × Value)} {rv : Value} {f : Lit → Option Value} {cs : Array Value} (h : SgW B S ks cb mb rb M W D rv f) (hg : Blk W g 3 cs) : g ≠ cb ∧ g ≠ mb ∧ g ≠ M ∧ g ≠ rb ∧ rv.ownBlock ≠ some g :=
  ⟨hg.ne_ h.c (by decide), hg.ne_ h.m (by decide), h.mp.ne_blk hg, hg.ne_ h.r (by decide), fun e => by
    obtain ⟨cur, hc, _⟩ := own_cells h.own e
    exact hg.ne_ hc (by decide) rfl⟩
theorem SgW.setI {B : Nat} {S : Nat → Prop} {ks : List Lit} {cb mb rb M g : Nat} {W : World} {D : List (Ru × Value)} {rv : Value} {f : Lit → Option Value} {cs : Array Value} (h : SgW B S ks cb mb rb M W D rv f) (hg : Blk W g 3 cs) (hS : ¬ S g) (i : Nat) (u : Value) : SgW B S ks cb mb rb M (W.setCell ⟨g, i, none⟩ u) D rv f := by
  have ha := h.apart hg
  exact h.kpS (T := fun c => c ≠ g) ((Kp.refl (fun c => c ≠ g) W).setCell (p := ⟨g, i, none⟩) (fun h => absurd rfl h) u) (Ne.symm ha.1) (Ne.symm ha.2.1) (Ne.symm ha.2.2.1) (Ne.symm ha.2.2.2.1) (fun c _ e _ e2 => ha.2.2.2.2 (e2 ▸ e)) (fun c _ hc _ e => hS (e ▸ hc))
theorem intV_put (F : List Int) (n : Nat) (q : Int) : (intV (F ++ List.replicate (n + 1) 0)).set F.length (.int .i64 q) = intV ((F ++ [q]) ++ List.replicate n 0) := by
  unfold intV
  rw [← List.map_set (f := fun x : Int => Value.int .i64 x) (a := q), List.set_append_right _ _ (Nat.le_refl _), Nat.sub_self, List.replicate_succ, List.set_cons_zero, List.append_assoc]
  rfl
theorem getD3 : ∀ {F G : List Int}, F.length = G.length → F.length ≤ 3 → F.getD 0 0 = G.getD 0 0 → F.getD 1 0 = G.getD 1 0 → F.getD 2 0 = G.getD 2 0 → F = G
  | [], [], _, _, _, _, _ => rfl
  | [a], [a'], _, _, h0, _, _ => by simp at h0; rw [h0]
  | [a, b], [a', b'], _, _, h0, h1, _ => by simp at h0 h1; rw [h0, h1]
  | [a, b, c], [a', b', c'], _, _, h0, h1, h2 => by simp at h0 h1 h2; rw [h0, h1, h2]
  | _ :: _ :: _ :: _ :: _, _, _, h, _, _, _ => by simp at h
  | [], _ :: _, h, _, _, _, _ => by simp at h
  | [_], [], h, _, _, _, _ => by simp at h
  | [_], _ :: _ :: _, h, _, _, _, _ => by simp at h
  | [_, _], [], h, _, _, _, _ => by simp at h
  | [_, _], [_], h, _, _, _, _ => by simp at h
  | [_, _], _ :: _ :: _ :: _, h, _, _, _, _ => by simp at h
  | [_, _, _], [], h, _, _, _, _ => by simp at h
  | [_, _, _], [_], h, _, _, _, _ => by simp at h
  | [_, _, _], [_, _], h, _, _, _, _ => by simp at h
  | [_, _, _], _ :: _ :: _ :: _ :: _, h, _, _, _, _ => by simp at h
/-- Numbers of a rule are small. -/
structure RuS (r : Ru) : Prop where
  s : 0 ≤ r.sym ∧ r.sym < 1000000
  l : r.fr.length ≤ 3
  f : ∀ i, 0 ≤ r.fr.getD i 0 ∧ r.fr.getD i 0 < 1000000
theorem ruS_of {l t : Int} {F : List Int} (h : 0 ≤ l ∧ l < 1000) (hl : F.length ≤ 3) (hF : ∀ x ∈ F, 0 ≤ x ∧ x < 1000) : RuS ⟨l, F, t⟩ := by
  refine ⟨⟨h.1, by show l < _; omega⟩, hl, fun i => ?_⟩
  show 0 ≤ F.getD i 0 ∧ F.getD i 0 < 1000000
  rw [List.getD_eq_getElem?_getD]
  cases hx : F[i]? with
  | none => simp
  | some x =>
    have := hF x (List.mem_of_getElem? hx)
    simp only [Option.getD_some]
    omega
theorem klR_inj {r s : Ru} (hr : RuS r) (hs : RuS s) (h : klR r = klR s) (hl : r.sym = s.sym → r.fr.length = s.fr.length) : r.sym = s.sym ∧ r.fr = s.fr := by
  obtain ⟨e0, e1, e2, e3⟩ := kl_inj (wf_small hr.s.1 hr.s.2) (wf_small (hr.f 0).1 (hr.f 0).2) (wf_small (hr.f 1).1 (hr.f 1).2) (wf_small (hr.f 2).1 (hr.f 2).2) (wf_small hs.s.1 hs.s.2) (wf_small (hs.f 0).1 (hs.f 0).2) (wf_small (hs.f 1).1 (hs.f 1).2) (wf_small (hs.f 2).1 (hs.f 2).2) h
  exact ⟨e0, getD3 (hl e0) hr.l e1 e2 e3⟩
theorem SgI.ruS {al : List Int} {R : List Ru} (h : SgI al R) (ha : al.length ≤ 12) (hrk : ∀ x ∈ al, 0 ≤ x ∧ x ≤ 3) (hl : R.length ≤ 300) : ∀ r ∈ R, RuS r := fun r hr => by
  obtain ⟨i, hi⟩ := List.getElem?_of_mem hr
  have h1 := h.fit r hr
  have h2 := h.lt i r hi
  have h3 := (List.getElem?_eq_some_iff.1 hi).1
  have h4 : al.getD r.sym.toNat 0 ≤ 3 := by
    rw [List.getD_eq_getElem?_getD]
    cases hx : al[r.sym.toNat]? with
    | none => simp
    | some x => exact (hrk x (List.mem_of_getElem? hx)).2
  obtain ⟨sy, fr, to⟩ := r
  simp only at h1 h2 h4
  exact ruS_of ⟨h1.1, by omega⟩ (by omega) (fun x hx => by have := h2 x hx; omega)
theorem sg_to {D : List (Ru × Value)} {f : Lit → Option Value} {nw : Ru × Value} {kl : Lit} (h : ∀ (q : Nat) x, D[q]? = some x → f (klR x.1) = some (.int .i64 (q : Int))) (hn : f kl = none) (e : klR nw.1 = kl) :
    ∀ (q : Nat) x, (D ++ [nw])[q]? = some x → putF f kl (.int .i64 ((D.length : Nat) : Int)) (klR x.1) = some (.int .i64 (q : Int)) := by
  intro q x hq
  rcases Nat.lt_or_ge q D.length with g | g
  · rw [List.getElem?_append_left g] at hq
    have h1 := h q x hq
    have hne : klR x.1 ≠ kl := fun e2 => by
      rw [e2, hn] at h1
      cases h1
    rw [putF_other f _ hne]
    exact h1
  · rw [List.getElem?_append_right g] at hq
    have h0 : q - D.length = 0 := by
      rcases Nat.eq_zero_or_pos (q - D.length) with h0 | h0
      · exact h0
      · rw [List.getElem?_eq_none (by simp; omega)] at hq
        cases hq
    rw [h0] at hq
    simp only [List.getElem?_cons_zero, Option.some.injEq] at hq
    have h2 : q = D.length := by omega
    rw [← hq, e, putF_same, h2]
theorem sg_of2 {D : List (Ru × Value)} {f : Lit → Option Value} {nw : Ru × Value} {kl : Lit} (h : ∀ kl v, f kl = some v → ∃ (q : Nat) (x : Ru × Value), D[q]? = some x ∧ kl = klR x.1 ∧ v = .int .i64 (q : Int)) (e : klR nw.1 = kl) :
    ∀ kl' v, putF f kl (.int .i64 ((D.length : Nat) : Int)) kl' = some v → ∃ (q : Nat) (x : Ru × Value), (D ++ [nw])[q]? = some x ∧ kl' = klR x.1 ∧ v = .int .i64 (q : Int) := by
  intro kl' v hv
  by_cases e2 : kl' = kl
  · rw [e2, putF_same] at hv
    exact ⟨D.length, nw, by rw [List.getElem?_append_right (Nat.le_refl _), Nat.sub_self]; rfl, by rw [e2, e], (Option.some.inj hv).symm⟩
  · rw [putF_other f _ e2] at hv
    obtain ⟨q, x, h1, h2, h3⟩ := h kl' v hv
    exact ⟨q, x, by rw [List.getElem?_append_left (List.getElem?_eq_some_iff.1 h1).1]; exact h1, h2, h3⟩
/-- What the map says of a head. -/
theorem SgW.look {al : List Int} {B : Nat} {S : Nat → Prop} {ks : List Lit} {cb mb rb M : Nat} {W : World} {D : List (Ru × Value)} {rv : Value} {f : Lit → Option Value} (h : SgW B S ks cb mb rb M W D rv f) (hI : SgI al (D.map Prod.fst)) (hS : ∀ r ∈ D.map Prod.fst, RuS r) {l : Int} {F : List Int} (hF : RuS ⟨l, F, 0⟩) (hl : (F.length : Int) = al.getD l.toNat 0) :
    f (klOf l (F.getD 0 0) (F.getD 1 0) (F.getD 2 0)) = if idxR (D.map Prod.fst) l F < D.length then some (.int .i64 ((idxR (D.map Prod.fst) l F : Nat) : Int)) else none := by
  have hlen : (D.map Prod.fst).length = D.length := List.length_map _
  by_cases hi : idxR (D.map Prod.fst) l F < D.length
  · rw [if_pos hi]
    obtain ⟨r, h1, h2, h3⟩ := idxR_at (R := D.map Prod.fst) (l := l) (F := F) (by rw [hlen]; exact hi)
    rw [List.getElem?_map] at h1
    cases hx : D[idxR (D.map Prod.fst) l F]? with
    | none => rw [hx] at h1; cases h1
    | some x =>
      rw [hx] at h1
      simp only [Option.map_some, Option.some.injEq] at h1
      have := h.to _ x hx
      unfold klR at this
      rw [h1, h2, h3] at this
      exact this
  · rw [if_neg hi]
    cases hf : f (klOf l (F.getD 0 0) (F.getD 1 0) (F.getD 2 0)) with
    | none => rfl
    | some v =>
      exfalso
      obtain ⟨q, x, hq, hk, _⟩ := h.of _ _ hf
      have hm : x.1 ∈ D.map Prod.fst := List.mem_map_of_mem (List.mem_of_getElem? hq)
      have hfit := hI.fit x.1 hm
      have e := klR_inj (r := ⟨l, F, 0⟩) (s := x.1) hF (hS x.1 hm) hk (fun e0 => by
        simp only at e0
        have := hfit.2.2
        rw [← e0] at this
        simp only
        omega)
      exact idxR_no (by rw [hlen]; exact hi) x.1 hm ⟨e.1.symm, e.2.symm⟩

set_option maxRecDepth 100000 in
set_option maxHeartbeats 8000000 in
theorem sgv_ok (al : List Int) (hrk : ∀ x ∈ al, 0 ≤ x ∧ x ≤ 3) (hal : al.length ≤ 12) (wB : World) (ks : List Lit) (hks : ks.length ≤ 1000) (cb mb rb M : Nat) (hM : wB.heap.size ≤ M) (hrb : wB.heap.size ≤ rb) : ∀ (N : Nat) (S : Nat → Prop) (l : Int) (K : Hg) (vk : Value) (W : World) (D : List (Ru × Value)) (rv : Value) (f : Lit → Option Value) (F : List Int) (R1 : List Ru), K.size < N → SgI al (D.map Prod.fst) → fit al l K.len = true → K.fitAll al = true → D.length + K.size + 1 ≤ 300 → sgH K (D.map Prod.fst) = (F, R1) → (∀ r ∈ addR R1 l F, klR r ∈ ks) → IsH wB vk K → Below wB.heap.size wB W → (∀ b, W.heap.size ≤ b → S b) → SgW wB.heap.size S ks cb mb rb M W D rv f →
    Calls Tryd.prog 76 #[.agg #[.int .i64 l, vk], .pointer (some ⟨cb, 0, none⟩), .pointer (some ⟨mb, 0, none⟩), .pointer (some ⟨rb, 0, none⟩)] W fun e W' => e = .returned (.int .i64 ((idxR R1 l F : Nat) : Int)) ∧ (∃ D' rv' f', SgW wB.heap.size S ks cb mb rb M W' D' rv' f' ∧ D'.map Prod.fst = addR R1 l F ∧ ∀ c, rv'.ownBlock = some c → rv.ownBlock = some c ∨ W.heap.size ≤ c) ∧ Kp (fun c => c ≠ M ∧ c ≠ rb ∧ rv.ownBlock ≠ some c) W W' := by
  intro N
  induction N with
  | zero => intro S l K vk W D rv f F R1 h; omega
  | succ N ih =>
    intro S l K vk W D rv f F R1 hN hI hfit hfa hsz hsg hks2 hK hB hS hW
    have HSS := Lib.hid hS
    have HIH := Lib.hid ih
    have HSO := Lib.hid (sg_ok K (D.map Prod.fst) hI hfa)
    have hlK := fit_of hfit
    have hK3 : K.len ≤ 3 := by
      have h4 : al.getD l.toNat 0 ≤ 3 := by
        rw [List.getD_eq_getElem?_getD]
        cases hx : al[l.toNat]? with
        | none => simp
        | some x => exact (hrk x (List.mem_of_getElem? hx)).2
      omega
    have HLK := Lib.hid hlK
    have HK2 := Lib.hid hks2
    have HSG := Lib.hid hsg
    have HI := Lib.hid hI
    have HFA := Lib.hid hfa
    have HBW := Lib.hid hB
    have HW := Lib.hid hW
    obtain ⟨i1, hi1, hy0, hy1, hy2⟩ := info_parts Tryd.infoInt
    have HI1 := Lib.hid hi1
    obtain ⟨p, c, rfl, hc1, hc2, hrow⟩ := hK
    unfold maxLen at hc2
    have HROW := Lib.hid hrow
    have HX0 := Lib.hid (Blk.new W 43 #[.int .i64 l, .slice p K.len c])
    have HKA : Hid (Kp (fun _ => True) W (W.alloc (.cells #[.int .i64 l, .slice p K.len c] 43))) := Lib.hid ((Kp.refl _ W).alloc _)
    have x1 : (W.alloc (.cells #[.int .i64 l, .slice p K.len c] 43)).cell? ⟨W.heap.size, 1, none⟩ = some (.slice p K.len c) := by rw [HX0.out.cell]; rfl
    have hsW := hB.size
    clear ih hI hfit hfa hsg hks2 hB hS hW hi1 hrow hlK
    go_enter Tryd.func76, Tryd.ntmps76
    go_wp2_with (at_make; refine wpList_make_full _ rfl _ _ 22 rfl (W.heap.size + 1) 3 i1 _ 1 Tryd.underlying22 HI1.out hy0 hy1 _ _ _ _ K.len rfl rfl rfl rfl (by rw [hy2]; omega) (by simp only [maxLen]; omega) (by simp) ?_)
    intro w2 hown hgrow
    have hG := own_full hown
    rw [toList_madeCells_one] at hG
    have hGl := hG.lt
    try simp only [World.size_alloc] at hGl
    try simp only [World.size_alloc] at hG
    have HK2' : Hid (Kp (fun _ => True) W w2) := Lib.hid (HKA.out.grown hgrow (fun k e _ => by simp at e))
    have HX2 : Hid (Blk w2 W.heap.size 43 #[.int .i64 l, .slice p K.len c]) := Lib.hid ((hgrow.block _ HX0.out.lt (by simp)).trans HX0.out)
    have HN2 : Hid (Blk w2 (W.heap.size + 1) 3 (intV ([] ++ List.replicate K.len 0)).toArray) := Lib.hid (by
      unfold intV
      rw [List.nil_append, List.map_replicate]
      exact hG)
    have HW2 : Hid (SgW wB.heap.size (fun b => S b ∧ b ≠ W.heap.size + 1) ks cb mb rb M w2 D rv f) := Lib.hid ((HW.out.mono (T := fun b => S b ∧ b ≠ W.heap.size + 1) (fun b hb h => ⟨h, by omega⟩)).kp HK2'.out)
    have x2 : w2.cell? ⟨W.heap.size, 1, none⟩ = some (.slice p K.len c) := by rw [HX2.out.cell]; rfl
    have xl := HX2.out.lt
    have hs2 : W.heap.size + 1 < w2.heap.size := hGl
    have HKS2 : Hid (Kp (fun c => c < W.heap.size ∧ c ≠ M ∧ c ≠ rb ∧ rv.ownBlock ≠ some c) W w2) := Lib.hid (HK2'.out.mono (fun _ _ _ => trivial))
    clear hown hgrow hG x1 HK2' HX0 HKA
    go_wp2_with fail
    go_loopw [19] (fun iv wk => ∃ (k : Nat) (R : Hg) (Fk : List Int) (Dk : List (Ru × Value)) (rk : Value) (fk : Lit → Option Value), iv = .int .i64 (k : Nat) ∧ Hid (k + R.len = K.len) ∧ Hid (Fk.length = k) ∧ Hid (SgI al (Dk.map Prod.fst)) ∧ Hid ((F, R1) = (Fk ++ (sgH R (Dk.map Prod.fst)).1, (sgH R (Dk.map Prod.fst)).2)) ∧ Hid (R.fitAll al = true) ∧ Hid (Dk.length + R.size ≤ D.length + K.size) ∧ Hid (R.size ≤ K.size) ∧
        Hid (R ≠ .nil → ∃ b o, p = some ⟨b, o, none⟩ ∧ Row wB R b (o + k * 2)) ∧ Hid (SgW wB.heap.size (fun b => S b ∧ b ≠ W.heap.size + 1) ks cb mb rb M wk Dk rk fk) ∧ Hid (Blk wk (W.heap.size + 1) 3 (intV (Fk ++ List.replicate R.len 0)).toArray) ∧ Hid (Kp (fun c => c < W.heap.size ∧ c ≠ M ∧ c ≠ rb ∧ rv.ownBlock ≠ some c) W wk) ∧ Hid (∀ c, rk.ownBlock = some c → rv.ownBlock = some c ∨ W.heap.size ≤ c) ∧ Hid (Blk wk W.heap.size 43 #[.int .i64 l, .slice p K.len c]))
      (fun iv _ => K.len - (intOf iv).toNat)
    case atStart => exact ⟨0, K, [], D, rv, f, rfl, Lib.hid (by simp), Lib.hid rfl, HI, Lib.hid (by rw [List.nil_append, HSG.out]), HFA, Lib.hid (Nat.le_refl _), Lib.hid (Nat.le_refl _), Lib.hid (by simpa using HROW.out), HW2, HN2, HKS2, Lib.hid (fun c h => .inl h), HX2⟩
    case round =>
      rename World => wk
      obtain ⟨k, R, Fk, Dk, rk, fk, rfl, hk, HFK, HIk, HEk, HFAk, HDL, HRS, hR, HWk, HNk, HKk, HOk, HXk⟩ := hrel
      have hsk := HKk.out.size
      have HBk : Hid (Below wB.heap.size wB wk) := Lib.hid (HBW.out.trans (HKk.out.below HBW.out.size (fun c hc => ⟨by omega, by omega, by omega, fun e => by
        obtain ⟨cur, _, hB⟩ := own_cells HW.out.own e
        omega⟩)))
      cases R with
      | nil =>
        have he := HEk.out
        simp only [sgH, List.append_nil, Prod.mk.injEq] at he
        obtain ⟨hF, hR1⟩ := he
        subst hF hR1
        have hfl : F.length = K.len := by have h1 := HFK.out; have h2 := hk.out; simp only [Hg.len] at h2; omega
        have HNF : Hid (Blk wk (W.heap.size + 1) 3 (intV F).toArray) := Lib.hid (by
          have h := HNk.out
          simp only [Hg.len, List.replicate_zero, List.append_nil] at h
          exact h)
        have hso := HSO.out
        have hsl := hso.lt
        have hss := hso.siz
        rw [HSG.out] at hsl hss
        simp only [List.length_map] at hsl hss
        have hDl : Dk.length ≤ 299 := by omega
        have HRU := Lib.hid (HIk.out.ruS hal hrk (by rw [List.length_map]; omega))
        have hl12 := HLK.out
        have HRF : Hid (RuS ⟨l, F, 0⟩) := Lib.hid (ruS_of ⟨hl12.1, by omega⟩ (by omega) (fun x hx => by have := hsl x hx; omega))
        have HFU : Hid (IsIntsU S wk (.slice (some ⟨W.heap.size + 1, 0, none⟩) F.length F.length) F) := Lib.hid (IsIntsU.of_blk HNF.out (HSS.out _ (by omega)) (by omega))
        have HLOOK := Lib.hid (HWk.out.look HIk.out HRU.out HRF.out (by rw [hfl]; exact hl12.2.2))
        have hF3 : F.length ≤ 3 := by omega
        have HH := Lib.hid (headOf_ok l F _ wk HFU.out.isInts hF3)
        unfold hdV keyV at HH
        rw [hfl] at HH
        obtain ⟨g0, hg0⟩ : ∃ g, g = F.getD 0 0 := ⟨_, rfl⟩
        obtain ⟨g1, hg1⟩ : ∃ g, g = F.getD 1 0 := ⟨_, rfl⟩
        obtain ⟨g2, hg2⟩ : ∃ g, g = F.getD 2 0 := ⟨_, rfl⟩
        have hrs := HRF.out
        have w0 : (Lit.int .i64 l).wf = true := wf_small hrs.s.1 hrs.s.2
        have w1 : (Lit.int .i64 g0).wf = true := wf_small (by rw [hg0]; exact (hrs.f 0).1) (by rw [hg0]; exact (hrs.f 0).2)
        have w2' : (Lit.int .i64 g1).wf = true := wf_small (by rw [hg1]; exact (hrs.f 1).1) (by rw [hg1]; exact (hrs.f 1).2)
        have w3 : (Lit.int .i64 g2).wf = true := wf_small (by rw [hg2]; exact (hrs.f 2).1) (by rw [hg2]; exact (hrs.f 2).2)
        have HKO := Lib.hid (hd_keyOf w0 w1 w2' w3)
        unfold keyV at HKO
        have HKLE : Hid (klR ⟨l, F, ((Dk.length : Nat) : Int)⟩ = klOf l g0 g1 g2) := Lib.hid (by unfold klR; rw [hg0, hg1, hg2])
        rw [← hg0, ← hg1, ← hg2] at HH HLOOK
        have x0 : wk.cell? ⟨W.heap.size, 0, none⟩ = some (.int .i64 l) := by rw [HXk.out.cell]; rfl
        have xl2 := HXk.out.lt
        have hge : ¬ k < K.len := by have h2 := hk.out; simp only [Hg.len] at h2; omega
        have hkd : decide (k < K.len) = false := decide_eq_false hge
        have hkd2 : decide ((k : Int) < (K.len : Int)) = false := decide_eq_false (by omega)
        clear hso hsl hss hl12 hg0 hg1 hg2 hrs w0 w1 w2' w3 hge
        go_wp2_with fail
        refine HH.out.mono ?_
        rintro e wh ⟨rfl, hbh⟩
        obtain ⟨Y, hY⟩ : ∃ Y, Y = wh.alloc (.cells #[.int .i64 l, .int .i64 g0, .int .i64 g1, .int .i64 g2] 97) := ⟨_, rfl⟩
        have HKY : Hid (Kp (fun _ => True) wk Y) := Lib.hid (hY ▸ ((Kp.of_below hbh (fun k hk _ => hk)).alloc _))
        have HWY := Lib.hid (HWk.out.kp HKY.out)
        have HXY : Hid (Blk Y W.heap.size 43 #[.int .i64 l, .slice p K.len c]) := Lib.hid (HXk.out.kp HKY.out trivial)
        have HFY : Hid (IsIntsU S Y (.slice (some ⟨W.heap.size + 1, 0, none⟩) F.length F.length) F) := Lib.hid (HFU.out.kp HKY.out (fun _ _ _ _ => trivial))
        have HNY : Hid (Blk Y (W.heap.size + 1) 3 (intV F).toArray) := Lib.hid (HNF.out.kp HKY.out trivial)
        have HHY : Hid (Blk Y wh.heap.size 97 #[.int .i64 l, .int .i64 g0, .int .i64 g1, .int .i64 g2]) := Lib.hid (hY ▸ Blk.new wh _ _)
        have hlook := HWY.out.mp.look_ok hd_keyed Tryd.underlying94 (z := .int .i64 0) (by kernel_rfl) HKO.out
        have m0 : Y.cell? ⟨mb, 0, none⟩ = some (.map (some M)) := by rw [HWY.out.m.cell]; rfl
        have ml := HWY.out.m.lt
        have k0 : Y.cell? ⟨wh.heap.size, 0, none⟩ = some (.int .i64 l) := by rw [HHY.out.cell]; rfl
        have k1 : Y.cell? ⟨wh.heap.size, 1, none⟩ = some (.int .i64 g0) := by rw [HHY.out.cell]; rfl
        have k2 : Y.cell? ⟨wh.heap.size, 2, none⟩ = some (.int .i64 g1) := by rw [HHY.out.cell]; rfl
        have k3 : Y.cell? ⟨wh.heap.size, 3, none⟩ = some (.int .i64 g2) := by rw [HHY.out.cell]; rfl
        have kl := HHY.out.lt
        have HY := Lib.hid hY
        have HDL2 := Lib.hid hDl
        by_cases hlt : idxR (Dk.map Prod.fst) l F < Dk.length
        · rw [HLOOK.out, if_pos hlt] at hlook
          simp only [Option.getD_some, Option.isSome_some] at hlook
          have HLT := Lib.hid hlt
          have HADD : Hid (addR (Dk.map Prod.fst) l F = Dk.map Prod.fst) := Lib.hid (by
            unfold addR
            rw [if_pos (by rw [List.length_map]; exact hlt)])
          obtain ⟨qv, hqv⟩ : ∃ qv : Nat, qv = idxR (Dk.map Prod.fst) l F := ⟨_, rfl⟩
          rw [← hqv] at hlook
          have HQV := Lib.hid hqv
          rw [hY] at hlook m0 ml k0 k1 k2 k3 kl
          clear hlt hY hqv
          go_wp2_with fail
          go_ret
          rw [← HY.out]
          refine ⟨ret_int (by rw [HQV.out]), ⟨Dk, rk, fk, HWY.out.mono (fun b _ h => h.1), HADD.out.symm, HOk.out⟩, ?_⟩
          exact (HKk.out.trans (HKY.out.mono (fun _ _ _ => trivial))).mono (fun c hc h => ⟨hc, h⟩)
        · rw [HLOOK.out, if_neg hlt] at hlook
          simp only [Option.getD_none, Option.isSome_none] at hlook
          have hql : idxR (Dk.map Prod.fst) l F = Dk.length := by have := idxR_le (Dk.map Prod.fst) l F; rw [List.length_map] at this; omega
          have HADD : Hid (addR (Dk.map Prod.fst) l F = Dk.map Prod.fst ++ [⟨l, F, ((Dk.length : Nat) : Int)⟩]) := Lib.hid (by
            unfold addR
            rw [if_neg (by rw [List.length_map]; exact hlt), List.length_map])
          have HKM : Hid (klOf l g0 g1 g2 ∈ ks) := Lib.hid (by rw [← HKLE.out]; exact HK2.out _ (by rw [HADD.out]; simp))
          obtain ⟨ar, cr, hrk2⟩ := ownsRow_shape HWY.out.own
          subst hrk2
          have r0 : Y.cell? ⟨rb, 0, none⟩ = some (.slice ar Dk.length cr) := by rw [HWY.out.r.cell]; rfl
          have rl := HWY.out.r.lt
          have HKSL : Hid (ks.length < maxLen) := Lib.hid (by unfold maxLen; omega)
          have HQL := Lib.hid hql
          have HLN : Hid (fk (klOf l g0 g1 g2) = none) := Lib.hid (by rw [HLOOK.out, if_neg hlt])
          obtain ⟨Y2, hmu, hmp2, hgr2⟩ := HWY.out.mp.put hd_keyed Tryd.underlying94 (val := .int .i64 ((Dk.length : Nat) : Int)) HKO.out HKM.out HKSL.out
          have HMP2 := Lib.hid hmp2
          have HKM2 : Hid (Kp (fun c => c ≠ M) Y Y2) := Lib.hid ((Kp.refl _ Y).grown hgr2 (fun k e hS => absurd (Option.some.inj e).symm hS))
          have hsy2 := HKM2.out.size
          have HR2 : Hid (Blk Y2 rb 25 #[.slice ar Dk.length cr]) := Lib.hid (HWY.out.r.kp HKM2.out (HWY.out.mp.ne_blk HWY.out.r))
          have HX2Y : Hid (Blk Y2 W.heap.size 43 #[.int .i64 l, .slice p K.len c]) := Lib.hid (HXY.out.kp HKM2.out (HWY.out.mp.ne_blk HXY.out))
          have hownM : (Value.slice ar Dk.length cr).ownBlock ≠ some M := fun e => by
            obtain ⟨cur, hc, _⟩ := own_cells HWY.out.own e
            exact HWY.out.mp.ne_blk hc rfl
          have HOW2 : Hid (Y2.ownsRow wB.heap.size 70 3 (.slice ar Dk.length cr) Dk.length (rcells Dk)) := Lib.hid (ownsRow_kp HWY.out.own HKM2.out (fun b e e2 => hownM (e2 ▸ e)))
          obtain ⟨Y3, hY3⟩ : ∃ Y3, Y3 = Y2.alloc (.cells #[.int .i64 l, .slice (some ⟨W.heap.size + 1, 0, none⟩) K.len K.len, .int .i64 ((Dk.length : Nat) : Int)] 70) := ⟨_, rfl⟩
          have HK3 : Hid (Kp (fun _ => True) Y2 Y3) := Lib.hid (hY3 ▸ (Kp.refl _ Y2).alloc _)
          have HN3 : Hid (Blk Y3 Y2.heap.size 70 #[.int .i64 l, .slice (some ⟨W.heap.size + 1, 0, none⟩) K.len K.len, .int .i64 ((Dk.length : Nat) : Int)]) := Lib.hid (hY3 ▸ Blk.new Y2 _ _)
          have HR3 : Hid (Blk Y3 rb 25 #[.slice ar Dk.length cr]) := Lib.hid (HR2.out.kp HK3.out trivial)
          have HOW3 : Hid (Y3.ownsRow wB.heap.size 70 3 (.slice ar Dk.length cr) Dk.length (rcells Dk)) := Lib.hid (ownsRow_kp HOW2.out HK3.out (fun _ _ => trivial))
          obtain ⟨i2, hi2, hx0, hx1, hx2⟩ := info_parts Tryd.infoRule
          have HI2 := Lib.hid hi2
          have HM1 : Hid (Dk.length + 1 ≤ maxLen) := Lib.hid (by unfold maxLen; omega)
          have HM2 : Hid ((Dk.length + 1) * 40 ≤ 140737488355328) := Lib.hid (by omega)
          have HB3 : Hid (wB.heap.size ≤ Y3.heap.size) := Lib.hid (by
            have h1 := HK3.out.size
            have h2 := HKY.out.size
            omega)
          have t0 : Y2.cell? ⟨rb, 0, none⟩ = some (.slice ar Dk.length cr) := by rw [HR2.out.cell]; rfl
          have tl := HR2.out.lt
          have t1 : Y2.cell? ⟨W.heap.size, 0, none⟩ = some (.int .i64 l) := by rw [HX2Y.out.cell]; rfl
          have tl1 := HX2Y.out.lt
          have u0 : Y3.cell? ⟨rb, 0, none⟩ = some (.slice ar Dk.length cr) := by rw [HR3.out.cell]; rfl
          have ul := HR3.out.lt
          have uf := HR3.out.frozen 0
          have HY3 := Lib.hid hY3
          rw [hY3] at u0 ul uf
          rw [hY] at hlook m0 ml k0 k1 k2 k3 kl r0 rl hmu
          rw [hY3] at HOW3 HN3 HB3
          clear hlt hY hql hmp2 hgr2 hY3 hi2 hownM
          go_wp2_with (at_builtin; refine wpList_append_own_at _ rfl (.tmp 48) (.tmp 54) 25 rfl wB.heap.size 70 i2 _ 3 40 Tryd.underlying25 HI2.out hx0 hx1 hx2 rfl (by decide) (.slice ar Dk.length cr) Dk.length (rcells Dk) rfl HOW3.out _ 1 1 [.int .i64 l, .slice (some ⟨W.heap.size + 1, 0, none⟩) K.len K.len, .int .i64 ((Dk.length : Nat) : Int)] rfl rfl (new_three HN3.out) (one_three rfl) HM1.out HM2.out HB3.out ?_)
          intro v9 w9 ho9 hg9 _ hat9
          rw [← HY3.out] at hg9
          obtain ⟨a9, c9, hv9⟩ := ownsRow_shape ho9
          subst hv9
          have HKG : Hid (Kp (fun c => (Value.slice ar Dk.length cr).ownBlock ≠ some c) Y3 w9) := Lib.hid ((Kp.refl _ Y3).grown hg9 (fun k e hS => absurd e hS))
          have hort : (Value.slice ar Dk.length cr).ownBlock ≠ some rb := fun e => by
            obtain ⟨cur, hc, _⟩ := own_cells HOW2.out e
            exact HR2.out.ne_ hc (by decide) rfl
          have HR9 : Hid (Blk w9 rb 25 #[.slice ar Dk.length cr]) := Lib.hid (HR3.out.kp HKG.out hort)
          have HO9 := Lib.hid ho9
          have HAT := Lib.hid hat9
          have v0 : w9.cell? ⟨rb, 0, none⟩ = some (.slice ar Dk.length cr) := by rw [HR9.out.cell]; rfl
          have vl := HR9.out.lt
          have vf := HR9.out.frozen 0
          have HORT := Lib.hid hort
          clear ho9 hg9 hat9 hort u0 ul uf t0 tl t1 tl1 hlook m0 ml k0 k1 k2 k3 kl r0 rl hmu
          go_wp2_with fail
          go_ret
          have hKZ : Kp (fun c => c ≠ rb) w9 (w9.setCell ⟨rb, 0, none⟩ (.slice a9 (Dk.length + 1) c9)) := (Kp.refl _ w9).setCell (p := ⟨rb, 0, none⟩) (fun h => absurd rfl h) _
          have hRZ : Blk (w9.setCell ⟨rb, 0, none⟩ (.slice a9 (Dk.length + 1) c9)) rb 25 #[.slice a9 (Dk.length + 1) c9] := by
            have h := HR9.out.set_ 0 (.slice a9 (Dk.length + 1) c9)
            simpa using h
          generalize w9.setCell ⟨rb, 0, none⟩ (.slice a9 (Dk.length + 1) c9) = Z at *
          have hK2Z : Kp (fun c => c ≠ rb ∧ (Value.slice ar Dk.length cr).ownBlock ≠ some c) Y2 Z := ((HK3.out.mono (fun _ _ _ => trivial)).trans (HKG.out.mono (fun _ _ h => h.2))).trans (hKZ.mono (fun _ _ h => h.1))
          have hKYZ : Kp (fun c => c ≠ M ∧ c ≠ rb ∧ (Value.slice ar Dk.length cr).ownBlock ≠ some c) Y Z := (HKM2.out.mono (fun _ _ h => h.1)).trans (hK2Z.mono (fun _ _ h => h.2))
          have hFK : F.length = K.len := hfl
          have hown9 : ∀ e : (Value.slice a9 (Dk.length + 1) c9).ownBlock = some rb, False := fun e => by
            obtain ⟨cur, hc, _⟩ := own_cells HO9.out e
            exact HR9.out.ne_ hc (by decide) rfl
          have hoc : ∀ {g : Nat} {t : TypeId} {cs : Array Value}, Blk Y g t cs → t ≠ 70 → (Value.slice ar Dk.length cr).ownBlock ≠ some g := fun hg ht e => by
            obtain ⟨cur, hc, _⟩ := own_cells HWY.out.own e
            exact hg.ne_ hc ht rfl
          have hMo : (Value.slice ar Dk.length cr).ownBlock ≠ some M := fun e => by
            obtain ⟨cur, hc, _⟩ := own_cells HWY.out.own e
            exact HWY.out.mp.ne_blk hc rfl
          refine ⟨ret_int (by rw [HQL.out]), ⟨Dk ++ [(⟨l, F, ((Dk.length : Nat) : Int)⟩, .slice (some ⟨W.heap.size + 1, 0, none⟩) K.len K.len)], .slice a9 (Dk.length + 1) c9, putF fk (klOf l g0 g1 g2) (.int .i64 ((Dk.length : Nat) : Int)), ⟨?_, ?_, ?_, hRZ, ?_, ?_, ?_, ?_⟩, ?_, ?_⟩, ?_⟩
          · exact HWY.out.c.kp hKYZ ⟨HWY.out.mp.ne_blk HWY.out.c, HWY.out.c.ne_ HWY.out.r (by decide), hoc HWY.out.c (by decide)⟩
          · exact HWY.out.m.kp hKYZ ⟨HWY.out.mp.ne_blk HWY.out.m, HWY.out.m.ne_ HWY.out.r (by decide), hoc HWY.out.m (by decide)⟩
          · exact HMP2.out.kp hK2Z ⟨Ne.symm (HWY.out.mp.ne_blk HWY.out.r), hMo⟩
          · have h := ownsRow_kp HO9.out hKZ (fun b e e2 => hown9 (e2 ▸ e))
            rw [rcells_app, List.length_append]
            exact h
          · intro x hx
            rcases List.mem_append.1 hx with hx | hx
            · refine ((HWY.out.fr x hx).kp hKYZ (fun b cur _ hb => ?_)).mono (fun b _ h => h.1)
              have ha := HWY.out.apart hb
              exact ⟨ha.2.2.1, ha.2.2.2.1, ha.2.2.2.2⟩
            · rw [List.mem_singleton] at hx
              subst hx
              have h := HFY.out.kp hKYZ (fun b cur _ hb => by
                have ha := HWY.out.apart hb
                exact ⟨ha.2.2.1, ha.2.2.2.1, ha.2.2.2.2⟩)
              rw [hFK] at h
              exact h
          · exact sg_to HWY.out.to HLN.out HKLE.out
          · exact sg_of2 HWY.out.of HKLE.out
          · rw [List.map_append, HADD.out]
            rfl
          · intro c' e
            rcases HAT.out with g | g
            · exact HOk.out c' (g ▸ e)
            · rw [g] at e
              have h2 := HKY.out.size
              have := Option.some.inj e
              exact .inr (by omega)
          · refine ((HKk.out.trans (HKY.out.mono (fun _ _ _ => trivial))).trans (hKYZ.mono (fun c' _ h => ⟨h.2.1, h.2.2.1, fun e => ?_⟩))).mono (fun c' hc h => ⟨hc, h⟩)
            rcases HOk.out c' e with g | g
            · exact h.2.2.2 g
            · have := h.1
              omega
      | cons l2 K2 R2 =>
        obtain ⟨b, o, hp, hrw⟩ := hR.out (by simp)
        obtain ⟨r1, _, ⟨pk, ck, r2, hk1, hk2, hk3⟩, r4⟩ := hrw
        have hlt : k < K.len := by have := hk.out; simp only [Hg.len] at this; omega
        have q0 : wk.cell? ⟨b, o + k * 2, none⟩ = some (.int .i64 l2) := cell_later HBk.out r1
        have q1 : wk.cell? ⟨b, o + k * 2 + 1, none⟩ = some (.slice pk K2.len ck) := cell_later HBk.out r2
        have HKK2 : Hid (IsH wB (.slice pk K2.len ck) K2) := Lib.hid ⟨pk, ck, rfl, hk1, hk2, hk3⟩
        have HR2 : Hid (Row wB R2 b (o + (k + 1) * 2)) := Lib.hid (by rw [show o + (k + 1) * 2 = o + k * 2 + 2 by omega]; exact r4)
        have hfa2 := HFAk.out
        simp only [Hg.fitAll, Bool.and_eq_true] at hfa2
        have HF2 := Lib.hid hfa2
        obtain ⟨F2, R2', h2⟩ : ∃ F2 R2', sgH K2 (Dk.map Prod.fst) = (F2, R2') := ⟨_, _, rfl⟩
        have HS2 := Lib.hid h2
        have o2 := sg_ok K2 (Dk.map Prod.fst) HIk.out hfa2.2.1
        have o2i := o2.inv
        have o2t := o2.lt
        have o2l := o2.len
        have o2s := o2.siz
        rw [h2] at o2i o2t o2l o2s
        simp only at o2i o2t o2l o2s
        have i2' : SgI al (addR R2' l2 F2) := addR_inv o2i o2t (l := l2) (by rw [o2l]; exact fit_of hfa2.1)
        have o3 := sg_ok R2 (addR R2' l2 F2) i2' hfa2.2.2
        have he := HEk.out
        simp only [sgH, h2] at he
        have HIN := Lib.hid i2'
        have HPR : Hid (addR R2' l2 F2 <+: addR R1 l F) := Lib.hid (by
          have e : R1 = (sgH R2 (addR R2' l2 F2)).2 := congrArg Prod.snd he
          exact (e ▸ o3.pre).trans (addR_pre R1 l F))
        have HEN : Hid ((F, R1) = ((Fk ++ [((idxR R2' l2 F2 : Nat) : Int)]) ++ (sgH R2 (addR R2' l2 F2)).1, (sgH R2 (addR R2' l2 F2)).2)) := Lib.hid (by
          rw [he]
          simp)
        have hqi := idxR_le R2' l2 F2
        have HQ1 : Hid (R2'.length ≤ Dk.length + K2.size ∧ (addR R2' l2 F2).length ≤ R2'.length + 1) := Lib.hid ⟨by rw [List.length_map] at o2s; exact o2s, addR_len _ _ _⟩
        have hszs : K2.size < N ∧ Dk.length + K2.size + 1 ≤ 300 ∧ R2.size ≤ K.size ∧ Dk.length + (K2.size + R2.size + 1) ≤ D.length + K.size := by
          have h1 := HRS.out
          have h3 := HDL.out
          simp only [Hg.size] at h1 h3
          omega
        have c0 : wk.cell? ⟨cb, 0, none⟩ = some (sgF cb mb rb) := by rw [HWk.out.c.cell]; rfl
        have cl := HWk.out.c.lt
        unfold sgF at c0
        unfold maxLen at hk2
        clear r1 r2 r4 hk3 hR HROW hfa2 h2 o2 o2i o2t o2l o2s i2' o3 he
        subst hp
        have hbl := World.block_lt_of_cell? _ _ q0
        simp only at hbl
        have hk1i : (k : Int) < (K.len : Int) := by omega
        obtain ⟨wa, hwa⟩ : ∃ wa, wa = wk.alloc (.cells #[.int .i64 l2, .slice pk K2.len ck] 43) := ⟨_, rfl⟩
        have HKA : Hid (Kp (fun _ => True) wk wa) := Lib.hid (hwa ▸ (Kp.refl _ wk).alloc _)
        have HWa := Lib.hid (HWk.out.kp HKA.out)
        have HNa : Hid (Blk wa (W.heap.size + 1) 3 (intV (Fk ++ List.replicate (R2.len + 1) 0)).toArray) := Lib.hid (HNk.out.kp HKA.out trivial)
        have HXa : Hid (Blk wa W.heap.size 43 #[.int .i64 l, .slice (some ⟨b, o, none⟩) K.len c]) := Lib.hid (HXk.out.kp HKA.out trivial)
        have HBa : Hid (Below wB.heap.size wB wa) := Lib.hid (HBk.out.trans (HKA.out.below HBk.out.size (fun _ _ => trivial)))
        have hnal := HNa.out.lt
        have hska := HKA.out.size
        have HCALL := Lib.hid (HIH.out (fun b => S b ∧ b ≠ W.heap.size + 1) l2 K2 (.slice pk K2.len ck) wa Dk rk fk F2 R2' hszs.1 HIk.out HF2.out.1 HF2.out.2.1 hszs.2.1 HS2.out (fun r hr => HK2.out r (HPR.out.subset hr)) HKK2.out HBa.out (fun b hb => ⟨HSS.out b (by omega), by omega⟩) HWa.out)
        have HWA := Lib.hid hwa
        rw [hwa] at HCALL
        clear hwa
        go_wp2_with fail
        refine HCALL.out.mono ?_
        rintro e w3 ⟨rfl, ⟨D2, rk2, f2, hW3, hD2, hO2⟩, hK3⟩
        rw [← HWA.out] at hO2 hK3
        have ha := HWa.out.apart HNa.out
        have HN3 : Hid (Blk w3 (W.heap.size + 1) 3 (intV (Fk ++ List.replicate (R2.len + 1) 0)).toArray) := Lib.hid (HNa.out.kp hK3 ⟨ha.2.2.1, ha.2.2.2.1, ha.2.2.2.2⟩)
        have HX3 : Hid (Blk w3 W.heap.size 43 #[.int .i64 l, .slice (some ⟨b, o, none⟩) K.len c]) := Lib.hid (HXa.out.kp hK3 ⟨HWa.out.mp.ne_blk HXa.out, HXa.out.ne_ HWa.out.r (by decide), fun e => by
          obtain ⟨cur, hc, _⟩ := own_cells HWa.out.own e
          exact HXa.out.ne_ hc (by decide) rfl⟩)
        have HK3 : Hid (Kp (fun c => c < W.heap.size ∧ c ≠ M ∧ c ≠ rb ∧ rv.ownBlock ≠ some c) W w3) := Lib.hid ((HKk.out.trans (HKA.out.mono (fun _ _ _ => trivial))).trans (hK3.mono (fun c _ hc => ⟨hc.2.1, hc.2.2.1, fun e => by
          rcases HOk.out c e with g | g
          · exact hc.2.2.2 g
          · have := hc.1; omega⟩)))
        have HO3 : Hid (∀ c, rk2.ownBlock = some c → rv.ownBlock = some c ∨ W.heap.size ≤ c) := Lib.hid (fun c e => by
          rcases hO2 c e with g | g
          · exact HOk.out c g
          · exact .inr (by omega))
        have HW3 := Lib.hid hW3
        have HD2 := Lib.hid hD2
        have hfk := HFK.out
        have n0 : w3.cell? ⟨W.heap.size + 1, k, none⟩ = some (.int .i64 0) := by
          rw [HN3.out.cell]
          have h1 : (Fk ++ List.replicate (R2.len + 1) (0 : Int))[k]? = some 0 := by
            rw [List.getElem?_append_right (by omega), hfk, Nat.sub_self]
            rfl
          have h2 : (intV (Fk ++ List.replicate (R2.len + 1) (0 : Int)))[k]? = some (.int .i64 0) := by
            unfold intV
            rw [List.getElem?_map, h1]
            rfl
          rw [List.getElem?_toArray]
          exact h2
        have nf := HN3.out.frozen k
        have nl := HN3.out.lt
        have HN5 : Hid (Blk (w3.setCell ⟨W.heap.size + 1, k, none⟩ (.int .i64 ((idxR R2' l2 F2 : Nat) : Int))) (W.heap.size + 1) 3 (intV ((Fk ++ [((idxR R2' l2 F2 : Nat) : Int)]) ++ List.replicate R2.len 0)).toArray) := Lib.hid (by
          have h := HN3.out.set_ k (.int .i64 ((idxR R2' l2 F2 : Nat) : Int))
          rw [List.setIfInBounds_toArray] at h
          rw [← intV_put, hfk]
          exact h)
        have HW5 : Hid (SgW wB.heap.size (fun b => S b ∧ b ≠ W.heap.size + 1) ks cb mb rb M (w3.setCell ⟨W.heap.size + 1, k, none⟩ (.int .i64 ((idxR R2' l2 F2 : Nat) : Int))) D2 rk2 f2) := Lib.hid (HW3.out.setI HN3.out (fun h => h.2 rfl) k _)
        have HK5 : Hid (Kp (fun c => c < W.heap.size ∧ c ≠ M ∧ c ≠ rb ∧ rv.ownBlock ≠ some c) W (w3.setCell ⟨W.heap.size + 1, k, none⟩ (.int .i64 ((idxR R2' l2 F2 : Nat) : Int)))) := Lib.hid (HK3.out.setCell (p := ⟨W.heap.size + 1, k, none⟩) (fun h => absurd h.1 (by simp)) _)
        have HX5 : Hid (Blk (w3.setCell ⟨W.heap.size + 1, k, none⟩ (.int .i64 ((idxR R2' l2 F2 : Nat) : Int))) W.heap.size 43 #[.int .i64 l, .slice (some ⟨b, o, none⟩) K.len c]) := Lib.hid (HX3.out.kp ((Kp.refl (fun c => c ≠ W.heap.size + 1) w3).setCell (p := ⟨W.heap.size + 1, k, none⟩) (fun h => absurd rfl h) _) (by omega))
        have HEM : Hid ((F, R1) = ((Fk ++ [((idxR R2' l2 F2 : Nat) : Int)]) ++ (sgH R2 (D2.map Prod.fst)).1, (sgH R2 (D2.map Prod.fst)).2)) := Lib.hid (by rw [hD2]; exact HEN.out)
        have HIM : Hid (SgI al (D2.map Prod.fst)) := Lib.hid (by rw [hD2]; exact HIN.out)
        have HDM : Hid (D2.length + R2.size ≤ D.length + K.size) := Lib.hid (by
          have h1 : (D2.map Prod.fst).length = D2.length := List.length_map _
          rw [hD2] at h1
          have := HQ1.out
          omega)
        obtain ⟨qv, hqv⟩ : ∃ qv : Nat, qv = idxR R2' l2 F2 := ⟨_, rfl⟩
        rw [← hqv] at HN5 HW5 HK5 HX5 HEM
        simp only [← hqv]
        have HFN : Hid ((Fk ++ [(qv : Int)]).length = k + 1) := Lib.hid (by simp [hfk])
        have HKN : Hid (k + 1 + R2.len = K.len) := Lib.hid (by have := hk.out; simp only [Hg.len] at this; omega)
        have HRN : Hid (R2.size ≤ K.size) := Lib.hid hszs.2.2.1
        have HFAN := Lib.hid HF2.out.2.2
        clear hW3 hD2 hO2 hK3 ha q0 q1 c0 cl hqv hfk hbl
        go_wp2_with fail
        go_roundw
        case rel => exact ⟨k + 1, R2, Fk ++ [(qv : Int)], D2, rk2, f2, by go_num, HKN, HFN, HIM, HEM, HFAN, HDM, HRN, Lib.hid (fun _ => ⟨b, o, rfl, HR2.out⟩), HW5, HN5, HK5, HO3, HX5⟩
        case measure => simp [intOf]; omega

end Go.Proofs.YtedfldbknjcnlaaDoor
