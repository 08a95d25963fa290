/- ref03.Of, Has. -/
import Derived.Test.YtopineheelkcmaaDoorStep
import Derived.OwnWalk
namespace Go.Proofs.YtopineheelkcmaaDoor
open Go.RowKit Go.Shelf

/-- The states at the roots of a list of trees. -/
def ofL (R : List Ru) : Hg → List (List Int)
  | .nil => []
  | .cons l k r => stepL R l (ofL R k) [] :: ofL R r
theorem ofL_len (R : List Ru) (h : Hg) : (ofL R h).length = h.len := by
  induction h with
  | nil => rfl
  | cons l k r _ ih => simp [ofL, Hg.len, ih]
/-- Rules have as many states as nodes with their symbol have subtrees, at least. -/
def OkH (R : List Ru) : Hg → Prop
  | .nil => True
  | .cons l k r => (∀ x ∈ R, x.sym = l → k.len ≤ x.fr.length) ∧ OkH R k ∧ OkH R r

theorem ownsRow_below {w w' : World} {base : Nat} {e : TypeId} {size n : Nat} {v : Value} {xs : List Value} (h : w.ownsRow base e size v n xs) (hb : Below w.heap.size w w') : w'.ownsRow base e size v n xs := by
  refine ⟨h.1, ?_⟩
  rcases h.2 with hn | ⟨g, cap, cur, rfl, hbg, hg, rest⟩
  · exact .inl hn
  · exact .inr ⟨g, cap, cur, rfl, hbg, (hb.block g (Array.getElem?_eq_some_iff.1 hg).1).trans hg, rest⟩

/-- A list of lists of numbers under way. -/
structure OS (N1 : Nat) (P : List (List Int)) (W : World) (D : List (List Int × Value)) (va : Value) : Prop where
  eq : D.map (·.1) = P
  own : W.ownsRow N1 22 1 va D.length (D.map (·.2))
  kids : ∀ x ∈ D, IsIntsS (fun c => N1 ≤ c ∧ va.ownBlock ≠ some c) W x.2 x.1
theorem OS.below {N1 : Nat} {P : List (List Int)} {W W' : World} {D : List (List Int × Value)} {va : Value} (h : OS N1 P W D va) (hb : Below W.heap.size W W') : OS N1 P W' D va :=
  ⟨h.eq, ownsRow_below h.own hb, fun x hx => (h.kids x hx).below hb⟩
theorem OS.step {N1 : Nat} {P : List (List Int)} {W W' : World} {D : List (List Int × Value)} {va v' u : Value} {l : List Int} (h : OS N1 P W D va) (hu : IsIntsS (fun c => N1 ≤ c ∧ va.ownBlock ≠ some c) W u l)
    (hg : W.grownBy W' va.ownBlock) (hat : v'.ownBlock = va.ownBlock ∨ v'.ownBlock = some W.heap.size) (hown : W'.ownsRow N1 22 1 v' (D.length + 1) (D.map (·.2) ++ [u])) :
    OS N1 (P ++ [l]) W' (D ++ [(l, u)]) v' := by
  have hk : Kp (fun c => va.ownBlock ≠ some c) W W' := (Kp.refl _ _).grown hg (fun k e hs => absurd e hs)
  have hmv : ∀ {x y}, IsIntsS (fun c => N1 ≤ c ∧ va.ownBlock ≠ some c) W x y → IsIntsS (fun c => N1 ≤ c ∧ v'.ownBlock ≠ some c) W' x y := fun hx =>
    ((hx.mono (S' := fun c => (N1 ≤ c ∧ va.ownBlock ≠ some c) ∧ v'.ownBlock ≠ some c) (fun c hc h => ⟨h, by
      rcases hat with e | e
      · rw [e]; exact h.2
      · rw [e]; intro e2; cases e2; omega⟩)).kp (hk.mono fun c _ g => g.1.2)).mono (fun c _ g => ⟨g.1.1, g.2⟩)
  refine ⟨by rw [List.map_append, h.eq]; rfl, by rw [List.map_append, List.length_append]; exact hown, fun x hx => ?_⟩
  rcases List.mem_append.1 hx with hx | hx
  · exact hmv (h.kids x hx)
  · rw [List.mem_singleton] at hx; subst hx; exact hmv hu
theorem OS.isLs {N1 : Nat} {P : List (List Int)} {W : World} {D : List (List Int × Value)} {va : Value} (h : OS N1 P W D va) : IsLs W va P := by
  have hl : P.length = D.length := by rw [← h.eq, List.length_map]
  rcases h.own.2 with ⟨e, hn⟩ | ⟨g, cap, cur, e, hg, _, h1, h2, _⟩
  · have hnil : P = [] := List.eq_nil_of_length_eq_zero (by omega)
    rw [hnil, e]
    exact ⟨none, 0, rfl, Nat.le_refl _, by decide, fun h => absurd rfl h⟩
  · rw [e]
    refine ⟨some ⟨g, 0, none⟩, cap, by rw [hl], by omega, h2, fun _ => ⟨g, 0, rfl, fun i x hx => ?_⟩⟩
    have hi : i < D.length := by rw [← hl]; exact (List.getElem?_eq_some_iff.1 hx).1
    rw [← h.eq, List.getElem?_map, Option.map_eq_some_iff] at hx
    obtain ⟨y, hy, rfl⟩ := hx
    have hown := h.own
    rw [e] at hown
    exact ⟨y.2, by rw [Nat.zero_add, hown.cellAt i (by omega), List.getElem?_map, hy]; rfl, (h.kids y (List.mem_of_getElem? hy)).isInts⟩

theorem Tryd.infoInts : (Tryd.prog.info? 22).map (fun i => (i.zero, i.size, i.bytes)) = some (some (.slice none 0 0), 1, 24) := by kernel_rfl

set_option maxRecDepth 100000 in
set_option maxHeartbeats 2000000 in
theorem of_ok (A : Au) (hlen : A.ru.length ≤ 100) : ∀ (N : Nat) (l : Int) (K : Hg) (v vk : Value) (w : World), K.size < N → K.size ≤ 2000 → IsAu w v A → IsH w vk K → (∀ x ∈ A.ru, x.sym = l → K.len ≤ x.fr.length) → OkH A.ru K →
    Calls Tryd.prog 66 #[v, .agg #[.int .i64 l, vk]] w fun e w' => (∃ u, e = .returned u ∧ IsIntsS (fun c => w.heap.size ≤ c) w' u (stepL A.ru l (ofL A.ru K) []) ∧ (stepL A.ru l (ofL A.ru K) [] = [] → u = .slice none 0 0)) ∧ Below w.heap.size w w' := by
  intro N
  induction N with
  | zero => intro l K v vk w h; omega
  | succ N ih =>
    intro l K v vk w hN h2000 hA hK hfit hok
    obtain ⟨i0, hi, hz0, hz1, hz2⟩ := info_parts Tryd.infoInts
    have HIH := Lib.hid ih
    have HA := Lib.hid hA
    have HK := Lib.hid hK
    have HFIT := Lib.hid hfit
    have HI := Lib.hid hi
    obtain ⟨fv, rv, rfl, hf, hr⟩ := hA
    have hbw : Below w.heap.size w ((w.alloc (.cells #[.int .i64 A.st, fv, rv] 27)).alloc (.cells #[.int .i64 l, vk] 43)) := ((Below.refl _ w).alloc (Nat.le_refl _) _).alloc (by simp) _
    have HX0 := Lib.hid ((Blk.new w 27 #[.int .i64 A.st, fv, rv]).alloc (.cells #[.int .i64 l, vk] 43))
    have HX1 : Hid (Blk ((w.alloc (.cells #[.int .i64 A.st, fv, rv] 27)).alloc (.cells #[.int .i64 l, vk] 43)) (w.heap.size + 1) 43 #[.int .i64 l, vk]) := Lib.hid (by simpa using Blk.new (w.alloc (.cells #[.int .i64 A.st, fv, rv] 27)) 43 #[.int .i64 l, vk])
    have HB := Lib.hid hbw
    obtain ⟨p1, c1, rfl, _⟩ := hf
    obtain ⟨p2, c2, rfl, _, hr4, _⟩ := hr
    obtain ⟨p, c, rfl, hc1, hc2, hrow⟩ := hK
    unfold maxLen at hc2 hr4
    have HROW := Lib.hid hrow
    have HOK0 := Lib.hid hok
    clear ih hfit hi hbw hrow hok
    go_enter Tryd.func66, Tryd.ntmps66
    go_wp2_with fail
    go_loopw [5, 11] (fun ov iv wr => ∃ (k : Nat) (R : Hg) (P : List (List Int)) (D : List (List Int × Value)), iv = .int .i64 (k : Nat) ∧ Hid (k + R.len = K.len) ∧ Hid (P ++ ofL A.ru R = ofL A.ru K) ∧ Hid (OkH A.ru R) ∧ Hid (R.size ≤ K.size) ∧ Hid (D.length = k) ∧
        Hid (R ≠ .nil → ∃ b o, p = some ⟨b, o, none⟩ ∧ Row w R b (o + k * 2)) ∧ Hid (OS (w.heap.size + 2) P wr D ov) ∧ Hid (Below w.heap.size w wr) ∧ Hid (Blk wr w.heap.size 27 #[.int .i64 A.st, .slice p1 A.fin.length c1, .slice p2 A.ru.length c2]) ∧ Hid (Blk wr (w.heap.size + 1) 43 #[.int .i64 l, .slice p K.len c]))
      (fun _ iv _ => K.len - (intOf iv).toNat)
    case atStart => exact ⟨0, K, [], [], rfl, Lib.hid (by simp), Lib.hid rfl, HOK0, Lib.hid (Nat.le_refl _), Lib.hid rfl, Lib.hid (by simpa using HROW.out), Lib.hid ⟨rfl, World.ownsRow_nil _ _ _ _, fun x hx => by cases hx⟩, HB, HX0, HX1⟩
    case round =>
      rename World => wr
      obtain ⟨k, R, P, D, rfl, hk, HE, HOKR, HSZ, HDL, hR, HO, HBr, HX0r, HX1r⟩ := hrel
      have hs1 := HX1r.out.lt
      have hs0 : w.heap.size < wr.heap.size := by omega
      have x0 : wr.cell? ⟨w.heap.size, 0, none⟩ = some (.int .i64 A.st) := by rw [HX0r.out.cell]; rfl
      have x1 : wr.cell? ⟨w.heap.size, 1, none⟩ = some (.slice p1 A.fin.length c1) := by rw [HX0r.out.cell]; rfl
      have x2 : wr.cell? ⟨w.heap.size, 2, none⟩ = some (.slice p2 A.ru.length c2) := by rw [HX0r.out.cell]; rfl
      have y0 : wr.cell? ⟨w.heap.size + 1, 0, none⟩ = some (.int .i64 l) := by rw [HX1r.out.cell]; rfl
      cases R with
      | nil =>
        have hge : K.len ≤ k := by have := hk.out; simp only [Hg.len] at this; omega
        have HP : Hid (P = ofL A.ru K) := Lib.hid (by have := HE.out; rwa [ofL, List.append_nil] at this)
        have hL := HO.out.isLs
        rw [HP.out] at hL
        have HST := Lib.hid (step_ok A _ u5 l (ofL A.ru K) wr (HA.out.below HBr.out) hL (by rw [ofL_len]; exact HFIT.out) hlen)
        obtain ⟨ps, cs, rfl, _⟩ := hL
        clear hR HROW
        go_wp2_with fail
        refine HST.out.mono ?_
        rintro e w3 ⟨⟨u3, rfl, hu3, hn3⟩, hb3⟩
        have HU3 := Lib.hid hu3
        have HN3 := Lib.hid hn3
        have HB3 := Lib.hid (HBr.out.trans (hb3.mono HBr.out.size))
        clear hu3 hn3 hb3
        go_wp2_with fail
        go_ret
        exact ⟨⟨u3, rfl, HU3.out.mono (fun c _ h => by have := HBr.out.size; omega), HN3.out⟩, HB3.out⟩
      | cons l2 K2 R2 =>
        obtain ⟨b, o, hp, hrw⟩ := hR.out (by simp)
        obtain ⟨r1, _, ⟨pk, ck, r2, hk1, hk2, hk3⟩, r4⟩ := hrw
        have hlt : k < K.len := by have := hk.out; simp only [Hg.len] at this; omega
        have q0 : wr.cell? ⟨b, o + k * 2, none⟩ = some (.int .i64 l2) := cell_later HBr.out r1
        have q1 : wr.cell? ⟨b, o + k * 2 + 1, none⟩ = some (.slice pk K2.len ck) := cell_later HBr.out r2
        have HK2 : Hid (IsH w (.slice pk K2.len ck) K2) := Lib.hid ⟨pk, ck, rfl, hk1, hk2, hk3⟩
        have HR2 : Hid (Row w R2 b (o + (k + 1) * 2)) := Lib.hid (by rw [show o + (k + 1) * 2 = o + k * 2 + 2 by omega]; exact r4)
        have HFK := Lib.hid HOKR.out.1
        have HOK2 := Lib.hid HOKR.out.2.1
        have HOKR2 := Lib.hid HOKR.out.2.2
        have HSK : Hid (K2.size < N ∧ K2.size ≤ 2000 ∧ R2.size ≤ K.size ∧ K.size ≤ 2000) := Lib.hid (by have := HSZ.out; simp only [Hg.size] at this; omega)
        have hkb : k < 9223372036854775807 := by omega
        unfold maxLen at hk2
        clear r1 r2 r4 hk3 hR HSZ HROW HOKR
        subst hp
        go_wp2_with fail
        have hHK : IsH (wr.alloc (.cells #[.int .i64 l2, .slice pk K2.len ck] 43)) (.slice pk K2.len ck) K2 := (HK2.out.below HBr.out).below ((Below.refl _ wr).alloc (Nat.le_refl _) _)
        have hAA : IsAu (wr.alloc (.cells #[.int .i64 l2, .slice pk K2.len ck] 43)) (.agg #[.int .i64 A.st, .slice p1 A.fin.length c1, .slice p2 A.ru.length c2]) A := (HA.out.below HBr.out).below ((Below.refl _ wr).alloc (Nat.le_refl _) _)
        have hsk := HSK.out
        refine (HIH.out l2 K2 _ _ _ hsk.1 hsk.2.1 hAA hHK HFK.out HOK2.out).mono ?_
        rintro e w2 ⟨⟨u, rfl, hu, _⟩, hb2⟩
        have hbr2 : Below wr.heap.size wr w2 := ((Below.refl _ wr).alloc (Nat.le_refl _) _).trans (hb2.mono (by simp))
        have hsz2 := hbr2.size
        have hu' : IsIntsS (fun c => w.heap.size + 2 ≤ c ∧ u5.ownBlock ≠ some c) w2 u (stepL A.ru l2 (ofL A.ru K2) []) := hu.mono (fun c _ h => by
          have h2 : wr.heap.size ≤ c := by simp at h; omega
          refine ⟨by omega, fun e => ?_⟩
          rcases HO.out.own.2 with ⟨e2, _⟩ | ⟨g, cap, cur, e2, _, hg, _⟩
          · rw [e2] at e; simp [Value.ownBlock] at e
          · rw [e2] at e
            simp only [Value.ownBlock, Option.some.injEq] at e
            have := (Array.getElem?_eq_some_iff.1 hg).1
            omega)
        generalize hgL : stepL A.ru l2 (ofL A.ru K2) [] = L at hu hu'
        have HLE := Lib.hid hgL
        clear hgL
        obtain ⟨pu, cu, rfl, _⟩ := id hu
        have HU := Lib.hid (hu'.kp ((Kp.refl _ w2).alloc (.cells #[.slice pu L.length cu] 22)))
        have HO2 := Lib.hid ((HO.out.below (hbr2.mono (Nat.le_refl _))).below ((Below.refl _ w2).alloc (by omega) (.cells #[.slice pu L.length cu] 22)))
        have HX0' := Lib.hid (HX0r.out.below hbr2 hs0)
        have HX1' := Lib.hid (HX1r.out.below hbr2 hs1)
        have HB2 := Lib.hid (HBr.out.trans (hbr2.mono HBr.out.size))
        have HN3 := Lib.hid (Blk.new w2 22 #[.slice pu L.length cu])
        have hdl := HDL.out
        clear hu hu' hHK hAA hb2 hbr2
        go_wp2_with (at_builtin; go_loud (refine wpList_append_own_at _ rfl (.tmp 15) (.tmp 19) 114 rfl (w.heap.size + 2) 22 i0 _ 1 24 Tryd.underlying114 HI.out hz0 hz1 hz2 rfl (by decide) u5 D.length (D.map (·.2)) rfl HO2.out.own ⟨w2.heap.size, 0, none⟩ 1 1 [.slice pu L.length cu] rfl rfl ?c1 ?c2 ?c3 ?c4 ?c5 ?_))
        case c1 =>
          intro a x hx
          rw [show ((⟨w2.heap.size, 0, none⟩ : Addr).add a) = ⟨w2.heap.size, a, none⟩ by unfold Addr.add; split <;> simp_all, HN3.out.cell]
          simpa using hx
        case c2 =>
          intro x hx
          simp only [List.mem_cons, List.not_mem_nil, or_false] at hx
          rcases hx with rfl; rfl
        case c3 => have := K.len_le_size; simp only [maxLen]; omega
        case c4 => have := K.len_le_size; omega
        case c5 => have := HB2.out.size; simp; omega
        intro v' w4 hown hgr _ hat'
        have hat2 : v'.ownBlock = u5.ownBlock ∨ v'.ownBlock = some (w2.alloc (.cells #[.slice pu L.length cu] 22)).heap.size := by simpa using hat'
        rw [← hdl] at hown
        have HO4 := Lib.hid (HO2.out.step HU.out hgr hat2 hown)
        have hown5 : ∀ q, u5.ownBlock = some q → w.heap.size + 2 ≤ q := fun q e => by
          rcases HO2.out.own.2 with ⟨e2, _⟩ | ⟨g, cap, cur, e2, hbg, _⟩
          · rw [e2] at e; simp [Value.ownBlock] at e
          · rw [e2] at e
            simp only [Value.ownBlock, Option.some.injEq] at e
            omega
        have HB4 : Hid (Below w.heap.size w w4) := Lib.hid ((HB2.out.alloc HB2.out.size _).grown hgr (by have := HB2.out.size; simp; omega) (fun q e => by have := hown5 q e; omega))
        have hk4 : Kp (fun c => u5.ownBlock ≠ some c) (w2.alloc (.cells #[.slice pu L.length cu] 22)) w4 := (Kp.refl _ _).grown hgr (fun k e hs => absurd e hs)
        have HX04 := Lib.hid ((HX0'.out.alloc _).kp hk4 (fun e => by have := hown5 _ e; omega))
        have HX14 := Lib.hid ((HX1'.out.alloc _).kp hk4 (fun e => by have := hown5 _ e; omega))
        have HE2 : Hid ((P ++ [L]) ++ ofL A.ru R2 = ofL A.ru K) := Lib.hid (by rw [← HE.out, ofL, HLE.out]; simp)
        clear hown hgr hat' hat2 hown5 hk4 HO HO2 HU HX0' HX1' HX0r HX1r HBr HB2 HN3 HE HLE
        go_wp2_with fail
        refine ⟨⟨k + 1, R2, P ++ [L], D ++ [(L, .slice pu L.length cu)], by go_num, Lib.hid (by have := hk.out; simp only [Hg.len] at this; omega), HE2, HOKR2, Lib.hid HSK.out.2.2.1, Lib.hid (by simp [hdl]), Lib.hid (fun _ => ⟨b, o, rfl, HR2.out⟩), HO4, HB4, HX04, HX14⟩, ?_⟩
        simp [intOf]; omega

end Go.Proofs.YtopineheelkcmaaDoor
