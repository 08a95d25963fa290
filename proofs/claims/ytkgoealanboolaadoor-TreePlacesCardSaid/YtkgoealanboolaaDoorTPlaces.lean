/- ref01.Places, ref01.Positions. -/
import Derived.Test.YtkgoealanboolaaDoorTPosOk
import Derived.Test.YtkgoealanboolaaDoorRTValid
namespace Go.Proofs.YtkgoealanboolaaDoor
open Go.RowKit Go.Shelf

/-- A list of lists of numbers whose blocks lie in a set. -/
def IsLLS (S : Nat → Prop) (w : World) (v : Value) (L : List (List Int)) : Prop :=
  ∃ p c, v = .slice p L.length c ∧ L.length ≤ c ∧ c ≤ maxLen ∧ (L ≠ [] → ∃ b o, p = some ⟨b, o, none⟩ ∧ S b ∧ ∀ (i : Nat) (x : List Int), L[i]? = some x → ∃ u, w.cell? ⟨b, o + i, none⟩ = some u ∧ IsIntsS S w u x)
theorem IsLLS.isLL {S : Nat → Prop} {w : World} {v : Value} {L : List (List Int)} (h : IsLLS S w v L) : IsLL w v L := by
  obtain ⟨p, c, e, h1, h2, h3⟩ := h
  refine ⟨p, c, e, h1, h2, fun hne => ?_⟩
  obtain ⟨b, o, e, _, hc⟩ := h3 hne
  refine ⟨b, o, e, fun i x hx => ?_⟩
  obtain ⟨u, h4, h5⟩ := hc i x hx
  exact ⟨u, h4, h5.isInts⟩
theorem IsLLS.kp {S : Nat → Prop} {w w' : World} {v : Value} {L : List (List Int)} (h : IsLLS S w v L) (hk : Kp S w w') : IsLLS S w' v L := by
  obtain ⟨p, c, e, h1, h2, h3⟩ := h
  refine ⟨p, c, e, h1, h2, fun hne => ?_⟩
  obtain ⟨b, o, e, hb, hc⟩ := h3 hne
  refine ⟨b, o, e, hb, fun i x hx => ?_⟩
  obtain ⟨u, h4, h5⟩ := hc i x hx
  exact ⟨u, hk.cell h4 hb, h5.kp hk⟩
theorem IsLLS.mono {S S' : Nat → Prop} {w : World} {v : Value} {L : List (List Int)} (h : IsLLS S w v L) (hS : ∀ c, c < w.heap.size → S c → S' c) : IsLLS S' w v L := by
  obtain ⟨p, c, e, h1, h2, h3⟩ := h
  refine ⟨p, c, e, h1, h2, fun hne => ?_⟩
  obtain ⟨b, o, e, hb, hc⟩ := h3 hne
  refine ⟨b, o, e, ?_, fun i x hx => ?_⟩
  · cases L with
    | nil => exact absurd rfl hne
    | cons x L =>
      obtain ⟨u, h4, _⟩ := hc 0 x rfl
      exact hS b (World.block_lt_of_cell? _ _ h4) hb
  · obtain ⟨u, h4, h5⟩ := hc i x hx
    exact ⟨u, h4, h5.mono hS⟩
def numsV (l : List Int) : List Value := l.map (fun x => Value.int .i64 x)
theorem IsIntsS.of_ownI {S : Nat → Prop} {W : World} {base : Nat} {v : Value} {l : List Int} (h : W.ownsRow base 3 1 v l.length (numsV l)) (hS : ∀ g, base ≤ g → S g) : IsIntsS S W v l := by
  rcases h.2 with ⟨rfl, hl⟩ | ⟨g, cap', cur, rfl, hb, _, h1, h2, _⟩
  · have : l = [] := List.eq_nil_of_length_eq_zero hl
    subst this
    exact ⟨_, _, rfl, Nat.le_refl _, by decide, fun hne => absurd rfl hne⟩
  · refine ⟨_, _, rfl, h1, h2, fun _ => ⟨g, 0, rfl, hS g hb, fun i x hx => ?_⟩⟩
    have hi := (List.getElem?_eq_some_iff.1 hx).1
    rw [Nat.zero_add, h.cellAt i (by omega)]
    simp [numsV, hx]
/-- The lists under way, read as one list. -/
theorem lls_own {W : World} {base : Nat} {v : Value} {D : PL} (h : W.ownsRow base 22 1 v D.length (D.map (·.2))) (hk : ∀ x ∈ D, IsIntsS (fun c => base ≤ c) W x.2 x.1) : IsLLS (fun c => base ≤ c) W v (D.map (·.1)) := by
  rcases h.2 with ⟨rfl, hn⟩ | ⟨g, cap, cur, rfl, hb, _, h1, h2, _⟩
  · have : D = [] := List.eq_nil_of_length_eq_zero hn
    subst this
    exact ⟨none, 0, rfl, Nat.le_refl _, by decide, fun h => absurd rfl h⟩
  · refine ⟨some ⟨g, 0, none⟩, cap, by rw [List.length_map], by rw [List.length_map]; exact h1, h2, fun _ => ⟨g, 0, rfl, hb, fun i x hx => ?_⟩⟩
    have hi : i < D.length := by have := (List.getElem?_eq_some_iff.1 hx).1; rwa [List.length_map] at this
    rw [List.getElem?_map, Option.map_eq_some_iff] at hx
    obtain ⟨y, hy, rfl⟩ := hx
    refine ⟨y.2, ?_, hk y (List.mem_of_getElem? hy)⟩
    rw [Nat.zero_add, h.cellAt i (by omega), List.getElem?_map, hy]; rfl

/-- append([]int{j}, p...) -/
theorem wpList_cons_ints {ops : Array Oper} {rest : List Oper} {o : Oper} {a : Act} {Q : Exit → Act → World → Prop} {w : World} (hgd : o.guard = none) (s x : Operand)
    (ho : o.op = .call { callee := .builtin .append, args := #[s, x], argTypes := #[22, 22] })
    (g : Nat) (j : Int) (hs : a.eval s = .slice (some ⟨g, 0, none⟩) 1 1) (hB : Blk w g 3 #[.int .i64 j]) (u : Value) (L : List Int) (hx : a.eval x = u) (hu : IsInts w u L) (hL : L.length ≤ 1000000)
    (h : ∀ v' w', IsIntsS (fun c => g ≤ c) w' v' (j :: L) → Kp (fun c => c ≠ g) w w' → v'.oneCell' = true → wpList Tryd.prog ops Q rest (a.put o.dst v') w') :
    wpList Tryd.prog ops Q (o :: rest) a w := by
  obtain ⟨i0, hi, hz0, hz1, hz2⟩ := info_parts Tryd.infoInt
  obtain ⟨p, c, rfl, hc1, hc2, hrow⟩ := hu
  cases L with
  | nil =>
    refine wpList_plain hgd fun K hK => ?_
    have hr := run_append_empty 22 o.type 3 i0 Tryd.underlying22 hi w ⟨g, 0, none⟩ p c
    unfold Oper.wp execOp
    simp only [ho, resolve, invoke, builtin, Sem.run_bind, Sem.run_pure, Result.andThen_ok, List.map_toArray, List.map_cons, List.map_nil, hs, hx, List.length_nil, hr]
    refine hK _ _ (h _ _ ?_ (Kp.refl _ _) rfl)
    exact ⟨some ⟨g, 0, none⟩, 1, rfl, Nat.le_refl _, by decide, fun _ => ⟨g, 0, rfl, Nat.le_refl _, fun i y hy => by
      match i, hy with
      | 0, hy => simp at hy; subst hy; rw [hB.cell]; rfl
      | i + 1, hy => simp at hy⟩⟩
  | cons y L =>
    obtain ⟨b, q, rfl, hcell⟩ := hrow (by simp)
    refine wpList_append_own_at w hgd s x 22 ho g 3 i0 _ 1 8 Tryd.underlying22 hi hz0 hz1 hz2 rfl (by decide) (.slice (some ⟨g, 0, none⟩) 1 1) 1 [.int .i64 j] hs ⟨rfl, .inr ⟨g, 1, _, rfl, Nat.le_refl _, hB, Nat.le_refl _, by decide, rfl, rfl⟩⟩
      ⟨b, q, none⟩ (y :: L).length c (numsV (y :: L)) hx (by simp [numsV]) (fun i u hu => ?_) (fun u hu => ?_) (by simp only [maxLen]; omega) (by omega) (Nat.le_of_lt hB.lt) ?_
    · simp only [numsV, List.getElem?_map, Option.map_eq_some_iff] at hu
      obtain ⟨z, hz, rfl⟩ := hu
      have e : ((⟨b, q, none⟩ : Addr).add i) = ⟨b, q + i, none⟩ := by unfold Addr.add; split <;> simp_all
      rw [e]; exact hcell i z hz
    · simp only [numsV, List.mem_map] at hu
      obtain ⟨z, _, rfl⟩ := hu
      rfl
    · intro v' w' hown hgr _ _
      refine h v' w' ?_ ((Kp.refl _ w).grown hgr (fun k e hs => by simp [Value.ownBlock] at e; exact absurd e.symm hs)) ?_
      · refine IsIntsS.of_ownI (base := g) (l := j :: y :: L) ?_ (fun _ h => h)
        rw [show (j :: y :: L).length = 1 + (y :: L).length by simp; omega]
        exact hown
      · obtain ⟨_, _, rfl⟩ := ownsRow_shape hown
        rfl

theorem ownsRow_below {w w' : World} {base : Nat} {e : TypeId} {size n : Nat} {v : Value} {xs : List Value} (h : w.ownsRow base e size v n xs) (hb : Below w.heap.size w w') : w'.ownsRow base e size v n xs :=
  ownsRow_heap h (fun g hg => hb.block g (h.lt g hg).2)

theorem placesH_short : ∀ (h : Hg) (i : Nat), ∀ x ∈ placesH h i, x.length ≤ h.size
  | .nil, i => by simp [placesH]
  | .cons l k r, i => by
    intro x hx
    simp only [placesH, List.map_cons, List.mem_append, List.mem_cons, List.mem_map] at hx
    simp only [Hg.size]
    rcases hx with (rfl | ⟨y, hy, rfl⟩) | hx
    · simp only [List.length_cons, List.length_nil]; omega
    · have := placesH_short k 0 y hy
      simp only [List.length_cons]; omega
    · have := placesH_short r (i + 1) x hx
      omega
theorem placesT_short (t : Int × Hg) : ∀ x ∈ placesT t, x.length ≤ t.2.size := by
  intro x hx
  simp only [placesT, List.mem_cons] at hx
  rcases hx with rfl | hx
  · simp
  · exact placesH_short _ _ x hx

set_option maxRecDepth 100000 in
set_option maxHeartbeats 2000000 in
theorem places_any (N : Nat) : ∀ (s : Int) (K : Hg) (vk : Value) (w : World), K.size < N → K.size ≤ 1000 → IsH w vk K →
    Calls Tryd.prog 53 #[.agg #[.int .i64 s, vk]] w fun e w' => ∃ v, e = .returned v ∧ IsLLS (fun c => w.heap.size ≤ c) w' v ((placesT (s, K)).map toI) ∧ Below w.heap.size w w' := by
  induction N with
  | zero => intro s K vk w hN; omega
  | succ N ih =>
    intro s K vk w hN hsz hv
    obtain ⟨i1, hi1, hz0, hz1, hz2⟩ := info_parts Tryd.infoInts
    have HI := Lib.hid ih
    have HI1 := Lib.hid hi1
    obtain ⟨p, c, rfl, hc1, hc2, hrow⟩ := hv
    unfold maxLen at hc2
    have HR := Lib.hid hrow
    have hb0 : Below w.heap.size w ((w.alloc (.cells #[.int .i64 s, .slice p K.len c] 27)).alloc (.cells #[.slice none 0 0] 22)) := ((Below.refl _ w).alloc (Nat.le_refl _) _).alloc (by simp) _
    have hL0 : Blk ((w.alloc (.cells #[.int .i64 s, .slice p K.len c] 27)).alloc (.cells #[.slice none 0 0] 22)) (w.heap.size + 1) 22 #[.slice none 0 0] := by
      have := Blk.new (w.alloc (.cells #[.int .i64 s, .slice p K.len c] 27)) 22 #[.slice none 0 0]
      rwa [World.size_alloc] at this
    have HB0 := Lib.hid hb0
    have HL0 := Lib.hid hL0
    have hlenK := Hg.len_le_size K
    clear ih hrow hi1 hb0 hL0
    go_enter Tryd.func53, Tryd.ntmps53
    go_wp2_with fail
    go_loopw [3, 12] (fun out i wr => ∃ (j : Nat) (R : Hg) (D : PL), i = .int .i64 j ∧ Hid (j + R.len = K.len) ∧ Hid (R.size ≤ K.size) ∧ Hid (D.map (·.1) ++ (placesH R j).map toI = (placesT (s, K)).map toI) ∧ Hid (wr.ownsRow (w.heap.size + 1) 22 1 out D.length (D.map (·.2))) ∧ Hid (∀ x ∈ D, IsIntsS (fun c => w.heap.size + 1 ≤ c ∧ out.ownBlock ≠ some c) wr x.2 x.1) ∧ Hid (Below w.heap.size w wr) ∧ Hid (w.heap.size + 1 ≤ wr.heap.size) ∧ (R ≠ .nil → ∃ b o, p = some ⟨b, o, none⟩ ∧ Row w R b (o + j * 2)))
      (fun _ i _ => K.len - (intOf i).toNat)
    case atStart =>
      refine ⟨0, K, [([], .slice none 0 0)], rfl, Lib.hid (by simp), Lib.hid (Nat.le_refl _), Lib.hid rfl, Lib.hid ⟨rfl, .inr ⟨w.heap.size + 1, 1, _, rfl, Nat.le_refl _, HL0.out, Nat.le_refl _, by decide, rfl, rfl⟩⟩, Lib.hid (fun x hx => ?_), HB0, Lib.hid (by simp), by simpa using HR.out⟩
      rw [List.mem_singleton] at hx
      subst hx
      exact ⟨none, 0, rfl, Nat.le_refl _, by decide, fun h => absurd rfl h⟩
    case round =>
      rename World => wr
      obtain ⟨j, R, D, rfl, hj, hrs, hpl, hown, hkid, hB, hbs, hR⟩ := hrel
      cases R with
      | nil =>
        have hge : K.len ≤ j := by have := hj.out; simp only [Hg.len] at this; omega
        have hfin := lls_own hown.out (fun x hx => (hkid.out x hx).mono (fun c _ h => h.1))
        rw [show D.map (·.1) = (placesT (s, K)).map toI by have := hpl.out; simpa [placesH] using this] at hfin
        have HF := Lib.hid (hfin.mono (S' := fun c => w.heap.size ≤ c) (fun c _ h => by omega))
        obtain ⟨A, cap, rfl⟩ := ownsRow_shape hown.out
        clear hfin hj hrs hpl hown hkid hR HR
        go_wp2_with fail
        go_ret
        exact ⟨_, rfl, HF.out, hB.out⟩
      | cons l k R =>
        obtain ⟨b, o, rfl, hr⟩ := hR (by simp)
        rw [Row.cons_iff] at hr
        obtain ⟨c1, hl, ⟨kv, c2, hkv⟩, hr⟩ := hr
        have hsk : k.size < N ∧ k.size ≤ 1000 := by have := hrs.out; simp only [Hg.size] at this; omega
        have hlt : j < K.len := by have := hj.out; simp only [Hg.len] at this; omega
        have HC := Lib.hid (HI.out l k kv (wr.alloc (.cells #[.int .i64 l, kv] 27)) hsk.1 hsk.2 (hkv.below (hB.out.alloc hB.out.size _)))
        obtain ⟨pk, ck, rfl, _, _, _⟩ := hkv
        have c1 := cell_later hB.out c1
        have c2 := cell_later hB.out c2
        have hbl := World.block_lt_of_cell? _ _ c1
        simp only at hbl
        obtain ⟨A, cap, rfl⟩ := ownsRow_shape hown.out
        have HRR := Lib.hid hr
        clear hr hR HR
        go_wp2_with fail
        refine HC.out.mono ?_
        rintro e w5 ⟨v5, rfl, hv5, hb5⟩
        have hb5' : Below wr.heap.size wr w5 := ((Below.refl wr.heap.size wr).alloc (Nat.le_refl _) _).trans (hb5.mono (by simp))
        have HV5 := Lib.hid (hv5.mono (S' := fun c => wr.heap.size ≤ c ∧ c < w5.heap.size) (fun c hc h => ⟨by simp at h; omega, hc⟩))
        have hlen5 : ((placesT (l, k)).map toI).length ≤ 1001 := by simp [placesT, placesH_len]; omega
        have hstep : Hid (∀ L', L' = (placesT (l, k)).map toI → D.map (·.1) ++ (L'.map (fun x => (j : Int) :: x) ++ (placesH R (j + 1)).map toI) = (placesT (s, K)).map toI) := Lib.hid (fun L' e => by
          have := hpl.out
          simp only [placesH, List.map_append, List.map_map] at this
          rw [e, ← this]
          simp [placesT, toI, Function.comp_def])
        have hlenx : ∀ x ∈ (placesT (l, k)).map toI, x.length ≤ 1000 := fun x hx => by
          rw [List.mem_map] at hx
          obtain ⟨y, hy, rfl⟩ := hx
          have := placesT_short (l, k) y hy
          simp only [toI, List.length_map] at this ⊢; omega
        have hlenD : D.length + ((placesT (l, k)).map toI).length ≤ 1001 := by
          have h1 := congrArg List.length (hstep.out _ rfl)
          simp only [List.length_append, List.length_map] at h1 ⊢
          have h2 : (placesT (s, K)).length = K.size + 1 := by simp [placesT, placesH_len]
          omega
        have hfull := Lib.hid (hstep.out _ rfl)
        clear hstep
        generalize (placesT (l, k)).map toI = L at HV5 hlen5 hfull hv5 hlenx hlenD
        obtain ⟨q5, d5, rfl, _, _, _⟩ := hv5
        have HO5 := Lib.hid (ownsRow_below hown.out hb5')
        have HK5 := Lib.hid (fun x hx => ((hkid.out x hx).mono (S' := fun c => (w.heap.size + 1 ≤ c ∧ (Value.slice A D.length cap).ownBlock ≠ some c) ∧ c < wr.heap.size) (fun c hc h => ⟨h, hc⟩)).kp (Kp.of_below hb5' (fun c _ h => h.2)))
        have HOB : Hid (∀ g, (Value.slice A D.length cap).ownBlock = some g → g < wr.heap.size ∨ w5.heap.size ≤ g) := Lib.hid (fun g hg => .inl (hown.out.lt g hg).2)
        have hz5 := hb5'.size
        have HB5 := Lib.hid (hB.out.trans (hb5'.mono hB.out.size))
        clear hb5 hb5' HC hown hkid hB
        go_wp2_with fail
        go_loopw [3, 20] (fun out2 i2 wi => ∃ (n : Nat) (D2 : PL), i2 = .int .i64 n ∧ n ≤ L.length ∧ Hid (D2.map (·.1) = D.map (·.1) ++ (L.take n).map (fun x => (j : Int) :: x)) ∧ Hid (wi.ownsRow (w.heap.size + 1) 22 1 out2 D2.length (D2.map (·.2))) ∧ Hid (∀ x ∈ D2, IsIntsS (fun c => w.heap.size + 1 ≤ c ∧ out2.ownBlock ≠ some c) wi x.2 x.1) ∧ Hid (Kp (fun c => wr.heap.size ≤ c ∧ c < w5.heap.size) w5 wi) ∧ Hid (Below w.heap.size w wi) ∧ Hid (∀ g, out2.ownBlock = some g → g < wr.heap.size ∨ w5.heap.size ≤ g))
          (fun _ i2 _ => L.length - (intOf i2).toNat)
        case atStart => exact ⟨0, D, rfl, by omega, Lib.hid (by simp), HO5, Lib.hid (fun x hx => (HK5.out x hx).mono (fun c _ h => h.1)), Lib.hid (Kp.refl _ _), HB5, HOB⟩
        case round =>
          rename World => wi
          obtain ⟨n, D2, rfl, hn, hmap, hown2, hkid2, hkp2, hB2, hob2⟩ := hrel
          have hzw : w5.heap.size ≤ wi.heap.size := hkp2.out.size
          have hlen2 : Hid (D2.length = D.length + n) := Lib.hid (by
            have h1 := congrArg List.length hmap.out
            simp only [List.length_append, List.length_map, List.length_take] at h1
            omega)
          by_cases hnl : n < L.length
          · obtain ⟨x, hx⟩ : ∃ x, L[n]? = some x := ⟨L[n], List.getElem?_eq_getElem hnl⟩
            obtain ⟨q5', d5', e5, _, _, hq5⟩ := HV5.out.kp hkp2.out
            obtain ⟨qb, qo, rfl, hqs, hqc⟩ := hq5 (by intro h; subst h; simp at hnl)
            cases e5
            obtain ⟨u, hcu, hu⟩ := hqc n x hx
            have hxl := hlenx x (List.mem_of_getElem? hx)
            have hob := hown2.out.lt
            have hout2 := ownsRow_shape hown2.out
            have HU := Lib.hid hu
            obtain ⟨pu, cu, rfl, _, _, _⟩ := hu
            obtain ⟨A2, cap2, rfl⟩ := hout2
            go_wp2_with (at_builtin; refine wpList_cons_ints rfl _ _ rfl wi.heap.size j rfl (Blk.new wi _ _) _ x rfl (HU.out.isInts.below (Below.alloc (Below.refl wi.heap.size wi) (Nat.le_refl _) _)) (by omega) ?_)
            intro v28 w7 hv28 hk7 hone
            have hz7 : wi.heap.size + 1 ≤ w7.heap.size := by have := hk7.size; simpa using this
            have HV28 := Lib.hid hv28
            have HK7 := Lib.hid hk7
            obtain ⟨p28, c28, rfl, _, _, _⟩ := hv28
            have hownw7 : w7.ownsRow (w.heap.size + 1) 22 1 (.slice A2 D2.length cap2) D2.length (D2.map (·.2)) := by
              refine ownsRow_heap (hown2.out.alloc (.cells #[.int .i64 j] 3)) (fun g hg => ?_)
              have h1 := (hob g hg).2
              exact hk7.block g (by simp; omega) (fun h => by omega)
            have HO7 := Lib.hid hownw7
            clear hownw7
            go_wp2_with (at_builtin; go_loud (refine wpList_append_own_at _ rfl _ _ 38 rfl (w.heap.size + 1) 22 i1 _ 1 24 Tryd.underlying38 HI1.out hz0 hz1 hz2 rfl (by decide) _ _ _ rfl (HO7.out.alloc _) ⟨w7.heap.size, 0, none⟩ 1 1 [.slice p28 ((j : Int) :: x).length c28] rfl rfl ?c1 ?c2 ?c3 ?c4 ?c5 ?_))
            case c2 => exact hone
            case c3 => have := hlen2.out; simp only [maxLen]; omega
            case c4 => have := hlen2.out; omega
            case c5 => have := hbs.out; first | omega | (simp; omega)
            intro v' w8 hown8 hgr8 _ hob8
            have hz8 := hgr8.size
            simp only [World.size_alloc] at hz8 hob8
            have hnew : ∀ c, c < wi.heap.size → (Value.slice A2 D2.length cap2).ownBlock ≠ some c → v'.ownBlock ≠ some c := by
              intro c hc h1 h2
              rcases hob8 with h | h
              · exact h1 (by rw [← h, h2])
              · rw [h2, Option.some.injEq] at h; omega
            have hkA : Kp (fun c => c < wi.heap.size ∧ (Value.slice A2 D2.length cap2).ownBlock ≠ some c) wi w8 := by
              refine ((((Kp.refl _ wi).alloc _).trans (HK7.out.mono (fun k _ h => by have := h.1; omega))).alloc _).grown hgr8 (fun k e h => ?_)
              exact absurd e h.2
            have hrel' : Hid (∀ x' ∈ D2 ++ [(((j : Int) :: x), Value.slice p28 (((j : Int) :: x)).length c28)], IsIntsS (fun c => w.heap.size + 1 ≤ c ∧ v'.ownBlock ≠ some c) w8 x'.2 x'.1) := Lib.hid (by
              intro y hy
              rw [List.mem_append, List.mem_singleton] at hy
              rcases hy with hy | rfl
              · refine ((((hkid2.out y hy).mono (S' := fun c => (w.heap.size + 1 ≤ c ∧ (Value.slice A2 D2.length cap2).ownBlock ≠ some c) ∧ c < wi.heap.size) (fun c hc h => ⟨h, hc⟩)).kp (hkA.mono (fun k _ h => ⟨h.2, h.1.2⟩))).mono (fun c _ h => ⟨h.1.1, hnew c h.2 h.1.2⟩))
              · have hoff : ∀ c, wi.heap.size ≤ c → c < w7.heap.size → v'.ownBlock ≠ some c := by
                  intro c h1 h2 h3
                  rcases hob8 with h | h
                  · have := (hob c (by rw [← h, h3])).2; omega
                  · rw [h3, Option.some.injEq] at h; omega
                refine ((HV28.out.mono (S' := fun c => wi.heap.size ≤ c ∧ c < w7.heap.size) (fun c hc h => ⟨h, hc⟩)).kp (((Kp.refl _ w7).alloc _).grown hgr8 (fun k e h => by have := (hob k e).2; omega))).mono (fun c _ h => ⟨by have := hbs.out; omega, hoff c h.1 h.2⟩))
            have hmap' : Hid ((D2 ++ [(((j : Int) :: x), Value.slice p28 (((j : Int) :: x)).length c28)]).map (·.1) = D.map (·.1) ++ (L.take (n + 1)).map (fun x => (j : Int) :: x)) := Lib.hid (by
              rw [List.map_append, hmap.out, List.take_add_one, hx]; simp)
            have hown' : Hid (w8.ownsRow (w.heap.size + 1) 22 1 v' (D2 ++ [(((j : Int) :: x), Value.slice p28 (((j : Int) :: x)).length c28)]).length ((D2 ++ [(((j : Int) :: x), Value.slice p28 (((j : Int) :: x)).length c28)]).map (·.2))) := Lib.hid (by
              rw [List.length_append, List.map_append]; exact hown8)
            have hkp' : Hid (Kp (fun c => wr.heap.size ≤ c ∧ c < w5.heap.size) w5 w8) := Lib.hid (hkp2.out.trans (hkA.mono (fun k _ h => ⟨by omega, fun h2 => by rcases hob2.out k h2 with h3 | h3 <;> omega⟩)))
            have hB' : Hid (Below w.heap.size w w8) := Lib.hid (hB2.out.trans (hkA.below hB2.out.size (fun k hk => ⟨by have := hB2.out.size; omega, fun h => by have := (hob k h).1; omega⟩)))
            have hob' : Hid (∀ g, v'.ownBlock = some g → g < wr.heap.size ∨ w5.heap.size ≤ g) := Lib.hid (fun g hg => by
              rcases hob8 with h | h
              · exact hob2.out g (by rw [← h, hg])
              · rw [hg, Option.some.injEq] at h; omega)
            clear hown8 hgr8 hob8 hkA hnew
            go_wp2_with fail
            go_roundw
            case rel => exact ⟨n + 1, _, by go_num, by omega, hmap', hown', hrel', hkp', hB', hob'⟩
            case measure => simp [intOf]; omega
          · have hfin : Hid (D2.map (·.1) ++ (placesH R (j + 1)).map toI = (placesT (s, K)).map toI) := Lib.hid (by
              rw [hmap.out, List.take_of_length_le (by omega), List.append_assoc]
              exact hfull.out)
            obtain ⟨A2, cap2, rfl⟩ := ownsRow_shape hown2.out
            go_wp2_with fail
            go_roundw
            case rel => exact ⟨j + 1, R, D2, by go_num, Lib.hid (by have := hj.out; simp only [Hg.len] at this; omega), Lib.hid (by have := hrs.out; simp only [Hg.size] at this; omega), hfin, hown2, hkid2, hB2, Lib.hid (by have := hB2.out.size; have := hbs.out; omega), fun h => ⟨b, o, rfl, by have := HRR.out; rwa [show o + j * 2 + 2 = o + (j + 1) * 2 by omega] at this⟩⟩
            case measure => simp [intOf]; omega

set_option maxRecDepth 100000 in
set_option maxHeartbeats 2000000 in
theorem rpositions_ok (al : List Int) (av : Value) (s : Int) (vk : Value) (K : Hg) (w : World) (ha : IsInts w av al) (hv : IsH w vk K) :
    Calls Tryd.prog 25 #[.agg #[av], .agg #[.int .i64 s, vk]] w fun e w' => ∃ vr, e = .returned (.tuple #[vr, .int .i64 (posE al s K)]) ∧ IsLL w' vr (posL al s K) ∧ Below w.heap.size w w' := by
  have hbw : Below w.heap.size w ((w.alloc (.cells #[av] 24)).alloc (.cells #[.int .i64 s, vk] 27)) := ((Below.refl _ w).alloc (Nat.le_refl _) _).alloc (by simp) _
  have HV := Lib.hid (rtvalid_ok al av s vk K _ (ha.below hbw) (hv.below hbw))
  have HB1 := Lib.hid (show Blk ((w.alloc (.cells #[av] 24)).alloc (.cells #[.int .i64 s, vk] 27)) (w.heap.size + 1) 27 #[.int .i64 s, vk] by have := Blk.new (w.alloc (.cells #[av] 24)) 27 #[.int .i64 s, vk]; rwa [World.size_alloc] at this)
  have HH := Lib.hid hv
  have HBW := Lib.hid hbw
  obtain ⟨pa, ca, rfl, ha1, ha2, haa⟩ := ha
  obtain ⟨p, c, rfl, hc1, hc2, hrow⟩ := hv
  clear hrow haa hbw
  go_enter Tryd.func25, Tryd.ntmps25
  go_wp2_with fail
  refine HV.out.mono ?_
  rintro e w1 ⟨rfl, hb1⟩
  have hsz1 : w.heap.size + 1 + 1 ≤ w1.heap.size := by have := hb1.size; simpa using this
  have hb1' : Below w.heap.size w w1 := HBW.out.trans (hb1.mono (by simp; omega))
  have hT1 : Blk w1 (w.heap.size + 1) 27 #[.int .i64 s, .slice p K.len c] := HB1.out.below hb1 (by simp)
  have z1 : w1.cell? ⟨w.heap.size + 1, 0, none⟩ = some (.int .i64 s) := by rw [hT1.cell]; rfl
  have z2 : w1.cell? ⟨w.heap.size + 1, 1, none⟩ = some (.slice p K.len c) := by rw [hT1.cell]; rfl
  have z5 : w.heap.size + 1 < w1.heap.size := by omega
  have HW1 := Lib.hid hb1'
  clear hb1 hb1' hT1 HB1 HBW HV
  cases hva : tvalid al s K with
  | false =>
    have HE := Lib.hid (show posE al s K = 1 by simp [posE, hva])
    have HL := Lib.hid (show posL al s K = [] by simp [posL, hva])
    clear hva
    go_wp2_with fail
    go_ret2
    refine ⟨_, by rw [HE.out]; rfl, ?_, HW1.out⟩
    rw [HL.out]
    exact ⟨none, 0, rfl, Nat.le_refl _, by decide, fun h => absurd rfl h⟩
  | true =>
    have HE := Lib.hid (show posE al s K = 0 by simp [posE, hva])
    have HL := Lib.hid (show posL al s K = (placesT (s, K)).map toI by simp [posL, hva])
    have hsz300 : K.size + 1 ≤ 300 := by
      simp only [tvalid, Bool.and_eq_true, decide_eq_true_eq] at hva
      exact hva.2.1
    have HPL := Lib.hid (places_any (K.size + 1) s K (.slice p K.len c) w1 (by omega) (by omega) (HH.out.below HW1.out))
    clear hva hsz300
    go_wp2_with fail
    refine HPL.out.mono ?_
    rintro e w2 ⟨v2, rfl, hv2, hb2⟩
    have HV2 := Lib.hid hv2
    have HW2 := Lib.hid (HW1.out.trans (hb2.mono HW1.out.size))
    obtain ⟨p2, c2, rfl, _, _, _⟩ := hv2
    clear hb2 HPL
    go_wp2_with fail
    go_ret2
    refine ⟨_, by rw [HE.out]; rfl, ?_, HW2.out⟩
    rw [HL.out]
    show IsLL w2 (.slice p2 (placesT (s, K)).length c2) _
    have := HV2.out.isLL
    rwa [List.length_map] at this

end Go.Proofs.YtkgoealanboolaaDoor
