/- law01.awake, law01.few. -/
import Derived.Test.YthhliogcafmnfaaDoorTPosOk
import Derived.Test.YthhliogcafmnfaaDoorTLists
import Derived.Test.YthhliogcafmnfaaDoorAllOk
import Derived.Test.YthhliogcafmnfaaDoorTCmp
import Derived.Test.YthhliogcafmnfaaDoorTAt
import Derived.Test.YthhliogcafmnfaaDoorCount01
import Derived.Test.YthhliogcafmnfaaDoorTHold
namespace Go.Proofs.YthhliogcafmnfaaDoor
open Go.RowKit Go.Shelf

theorem isH_nil (w : World) : IsH w (.slice none 0 0) .nil := ⟨none, 0, rfl, Nat.le_refl _, by decide, fun h => absurd rfl h⟩
theorem isH_two {w : World} {g : Nat} {t : TypeId} {l l2 : Int} {v v2 : Value} {k k2 : Hg} (hb : Blk w g t #[.int .i64 l, v, .int .i64 l2, v2]) (hl : (Lit.int .i64 l).wf = true) (hk : IsH w v k) (hl2 : (Lit.int .i64 l2).wf = true) (hk2 : IsH w v2 k2) :
    IsH w (.slice (some ⟨g, 0, none⟩) 2 2) (.cons l k (.cons l2 k2 .nil)) := by
  refine ⟨_, _, rfl, by simp [Hg.len], by decide, fun _ => ⟨_, _, rfl, ?_⟩⟩
  rw [Row.cons_iff]
  refine ⟨by rw [hb.cell]; rfl, hl, ⟨v, by rw [hb.cell]; rfl, hk⟩, ?_⟩
  rw [Row.cons_iff]
  exact ⟨by rw [hb.cell]; rfl, hl2, ⟨v2, by rw [hb.cell]; rfl, hk2⟩, trivial⟩
theorem isH_three {w : World} {g : Nat} {t : TypeId} {l l2 l3 : Int} {v v2 v3 : Value} {k k2 k3 : Hg} (hb : Blk w g t #[.int .i64 l, v, .int .i64 l2, v2, .int .i64 l3, v3]) (hl : (Lit.int .i64 l).wf = true) (hk : IsH w v k) (hl2 : (Lit.int .i64 l2).wf = true) (hk2 : IsH w v2 k2) (hl3 : (Lit.int .i64 l3).wf = true) (hk3 : IsH w v3 k3) :
    IsH w (.slice (some ⟨g, 0, none⟩) 3 3) (.cons l k (.cons l2 k2 (.cons l3 k3 .nil))) := by
  refine ⟨_, _, rfl, by simp [Hg.len], by decide, fun _ => ⟨_, _, rfl, ?_⟩⟩
  rw [Row.cons_iff]
  refine ⟨by rw [hb.cell]; rfl, hl, ⟨v, by rw [hb.cell]; rfl, hk⟩, ?_⟩
  rw [Row.cons_iff]
  refine ⟨by rw [hb.cell]; rfl, hl2, ⟨v2, by rw [hb.cell]; rfl, hk2⟩, ?_⟩
  rw [Row.cons_iff]
  exact ⟨by rw [hb.cell]; rfl, hl3, ⟨v3, by rw [hb.cell]; rfl, hk3⟩, trivial⟩
theorem isInts_blk {w : World} {g : Nat} {t : TypeId} (l : List Int) (hb : Blk w g t (l.map (fun x => Value.int .i64 x)).toArray) (hl : l.length ≤ maxLen) : IsInts w (.slice (some ⟨g, 0, none⟩) l.length l.length) l :=
  ⟨_, _, rfl, Nat.le_refl _, hl, fun _ => ⟨g, 0, rfl, fun i x hx => by rw [hb.cell]; simp [hx]⟩⟩
theorem isLL_blk {w : World} {g : Nat} {t : TypeId} (cs : List Value) (L : List (List Int)) (hb : Blk w g t cs.toArray) (hl : L.length ≤ maxLen) (h : ∀ (i : Nat) (x : List Int), L[i]? = some x → ∃ u, cs[i]? = some u ∧ IsInts w u x) : IsLL w (.slice (some ⟨g, 0, none⟩) L.length L.length) L :=
  ⟨_, _, rfl, Nat.le_refl _, hl, fun _ => ⟨g, 0, rfl, fun i x hx => by
    obtain ⟨u, h1, h2⟩ := h i x hx
    exact ⟨u, by rw [hb.cell]; simpa using h1, h2⟩⟩⟩

theorem leaf_ok (w : World) : Calls Tryd.prog 57 #[] w fun e w' => e = .returned (.agg #[.int .i64 0, .slice none 0 0]) ∧ Below w.heap.size w w' := by
  have hX := Blk.new w 27 #[.int .i64 0, .slice none 0 0]
  have HX := Lib.hid hX
  have z1 := hX.frozen 0
  have z2 := hX.frozen 1
  clear hX
  go_enter Tryd.func57, Tryd.ntmps57
  go_wp2_with fail
  exact bodyPost_ret (v := .agg #[.int .i64 0, .slice none 0 0]) (results_cell_row rfl _ _ w.heap.size 27 _ (0, 0) _ rfl HX.out Tryd.underlying27 rfl Tryd.infoTreeS) rfl ⟨rfl, (Below.refl _ w).alloc (Nat.le_refl _) _⟩

set_option maxRecDepth 100000 in
set_option maxHeartbeats 1000000 in
theorem f_ok (x y : Int × Hg) (vx vy : Value) (w : World) (hx : IsT w vx x) (hy : IsT w vy y) :
    Calls Tryd.prog 56 #[vx, vy] w fun e w' => (∃ r, e = .returned r ∧ IsT w' r (1, .cons x.1 x.2 (.cons y.1 y.2 .nil))) ∧ Below w.heap.size w w' := by
  obtain ⟨kx, rfl, hwx, hkx⟩ := hx
  obtain ⟨ky, rfl, hwy, hky⟩ := hy
  have HX := Lib.hid hkx
  have HY := Lib.hid hky
  obtain ⟨px, cx, rfl, hcx1, hcx2, _⟩ := hkx
  obtain ⟨py, cy, rfl, hcy1, hcy2, _⟩ := hky
  have HWX := Lib.hid hwx
  have HWY := Lib.hid hwy
  clear hwx hwy
  go_enter Tryd.func56, Tryd.ntmps56
  go_wp2_with fail
  obtain ⟨_, b2, b3, _⟩ := blk4 w 27 27 27 27 #[.int .i64 x.1, .slice px x.2.len cx] #[.int .i64 y.1, .slice py y.2.len cy] #[.int .i64 1, .slice (some ⟨w.heap.size + 1 + 1 + 1, 0, none⟩) 2 2] #[.int .i64 x.1, .slice px x.2.len cx, .int .i64 y.1, .slice py y.2.len cy]
  have hb : Below w.heap.size w ((((w.alloc (.cells #[.int .i64 x.1, .slice px x.2.len cx] 27)).alloc (.cells #[.int .i64 y.1, .slice py y.2.len cy] 27)).alloc (.cells #[.int .i64 1, .slice (some ⟨w.heap.size + 1 + 1 + 1, 0, none⟩) 2 2] 27)).alloc (.cells #[.int .i64 x.1, .slice px x.2.len cx, .int .i64 y.1, .slice py y.2.len cy] 27)) :=
    ((((Below.refl _ w).alloc (Nat.le_refl _) _).alloc (by simp) _).alloc (by simp; omega) _).alloc (by simp; omega) _
  exact bodyPost_ret (results_cell_row rfl _ _ (w.heap.size + 1 + 1) 27 _ (0, 0) _ rfl b2 Tryd.underlying27 rfl Tryd.infoTreeS) rfl ⟨⟨_, rfl, _, rfl, (show (Lit.int .i64 1).wf = true by decide), isH_two b3 HWX.out (HX.out.below hb) HWY.out (HY.out.below hb)⟩, hb⟩

/-- law01.few. -/
def fewH : Hg → Bool
  | .nil => true
  | .cons _ k r => decide ((k.size : Int) + 1 ≤ 2000) && fewH r
theorem fewH_cons (l : Int) (K R : Hg) : fewH (.cons l K R) = (decide ((K.size : Int) + 1 ≤ 2000) && fewH R) := rfl

set_option maxRecDepth 100000 in
set_option maxHeartbeats 1000000 in
theorem few_ok (al : List Int) (av : Value) (H : Hg) (v : Value) (w : World) (ha : IsInts w av al) (hv : IsH w v H) :
    Calls Tryd.prog 10 #[.agg #[av], v] w fun e w' => e = .returned (.bool (fewH H && decide ((al.length : Int) ≤ 40))) ∧ Below w.heap.size w w' := by
  obtain ⟨pa, ca, rfl, ha1, ha2, _⟩ := ha
  obtain ⟨p, c, rfl, hc1, hc2, hrow⟩ := hv
  unfold maxLen at hc2
  have hb0 := (Below.refl w.heap.size w).alloc (Nat.le_refl _) (.cells #[.slice pa al.length ca] 24)
  have HX := Lib.hid (Blk.new w 24 #[.slice pa al.length ca])
  have HR := Lib.hid hrow
  have HB0 := Lib.hid hb0
  clear hrow hb0
  go_enter Tryd.func10, Tryd.ntmps10
  go_wp2_with fail
  go_loopw [9] (fun i wr => ∃ (k : Nat) (R : Hg), i = .int .i64 k ∧ Hid (k + R.len = H.len) ∧ Hid (fewH H = fewH R) ∧ Hid (Below w.heap.size w wr) ∧ Hid (Blk wr w.heap.size 24 #[.slice pa al.length ca]) ∧ Hid (R ≠ .nil → ∃ b o, p = some ⟨b, o, none⟩ ∧ Row w R b (o + k * 2)))
    (fun i _ => H.len - (intOf i).toNat)
  case atStart => exact ⟨0, H, rfl, Lib.hid (by simp), Lib.hid rfl, HB0, HX, Lib.hid (by simpa using HR.out)⟩
  case round =>
    obtain ⟨k, R, rfl, hk, hf, hB, hX, hR⟩ := hrel
    have x0 : wr.cell? ⟨w.heap.size, 0, none⟩ = some (.slice pa al.length ca) := by rw [hX.out.cell]; rfl
    have x1 := hX.out.lt
    cases R with
    | nil =>
      have hge : H.len ≤ k := by have := hk.out; simp only [Hg.len] at this; omega
      have hres : Hid ((fewH H && decide ((al.length : Int) ≤ 40)) = decide ((al.length : Int) ≤ 40)) := Lib.hid (by rw [hf.out]; rfl)
      clear hk hR HR hf
      go_wp2_with fail
      go_ret
      exact ⟨by rw [hres.out] <;> rfl, hB.out⟩
    | cons l K R =>
      obtain ⟨b, o, rfl, hr⟩ := hR.out (by simp)
      rw [Row.cons_iff] at hr
      obtain ⟨c1, hl, ⟨vk, c2, hvk⟩, hr⟩ := hr
      have hlt : k < H.len := by have := hk.out; simp only [Hg.len] at this; omega
      have c1 := cell_later hB.out c1
      have c2 := cell_later hB.out c2
      have hbl := World.block_lt_of_cell? _ _ c1
      simp only at hbl
      have hba : Below w.heap.size w (wr.alloc (.cells #[.int .i64 l, vk] 27)) := hB.out.alloc hB.out.size _
      have HFW := Lib.hid (few01_ok l K vk 2000 _ (hvk.below hba) (by omega) (by omega))
      obtain ⟨pk, ck, rfl, _, _, _⟩ := hvk
      have HBA := Lib.hid hba
      have HXA := Lib.hid (hX.out.alloc (.cells #[.int .i64 l, .slice pk K.len ck] 27))
      have HRR := Lib.hid hr
      clear hR HR hr hba
      by_cases h2 : (K.size : Int) + 1 ≤ 2000
      · have hd : decide ((K.size : Int) + 1 ≤ 2000) = true := decide_eq_true h2
        have hf2 : Hid (fewH H = fewH R) := Lib.hid (by rw [hf.out, fewH_cons, hd, Bool.true_and])
        rw [hd] at HFW
        clear h2 hf hd
        go_wp2_with fail
        refine HFW.out.mono ?_
        rintro e w1 ⟨rfl, hb1⟩
        have HB1 := Lib.hid hb1
        clear hb1
        go_wp2_with fail
        go_roundw
        case rel =>
          refine ⟨k + 1, R, by go_num, Lib.hid (by have := hk.out; simp only [Hg.len] at this; omega), hf2, Lib.hid (HBA.out.trans (HB1.out.mono HBA.out.size)), Lib.hid (HXA.out.below HB1.out (by simp; omega)), Lib.hid (fun _ => ⟨b, o, rfl, ?_⟩)⟩
          rw [show o + (k + 1) * 2 = o + k * 2 + 2 from by omega]; exact HRR.out
        case measure => simp [intOf]; omega
      · have hd : decide ((K.size : Int) + 1 ≤ 2000) = false := decide_eq_false h2
        have hf2 : Hid ((fewH H && decide ((al.length : Int) ≤ 40)) = false) := Lib.hid (by rw [hf.out, fewH_cons, hd, Bool.false_and, Bool.false_and])
        rw [hd] at HFW
        clear h2 hf hd
        go_wp2_with fail
        refine HFW.out.mono ?_
        rintro e w1 ⟨rfl, hb1⟩
        have HB1 := Lib.hid hb1
        clear hb1
        go_wp2_with fail
        go_ret
        exact ⟨by rw [hf2.out] <;> rfl, HBA.out.trans (HB1.out.mono HBA.out.size)⟩

end Go.Proofs.YthhliogcafmnfaaDoor
