/- ref01.List, SameLists and SameTrees of lists that are equal. -/
import Derived.Test.YthhliogcafmnfaaDoorTLL
import Derived.Test.YthhliogcafmnfaaDoorTSame
namespace Go.Proofs.YthhliogcafmnfaaDoor
open Go.RowKit Go.Shelf

set_option maxRecDepth 100000 in
set_option maxHeartbeats 1000000 in
theorem list_ok (l : List Int) (v v' : Value) (w : World) (hv : IsInts w v l) (hv' : IsInts w v' l) :
    Calls Tryd.prog 75 #[v, v'] w fun e w' => e = .returned (.bool true) ∧ Below w.heap.size w w' := by
  obtain ⟨p, c, rfl, hc1, hc2, hcell⟩ := hv
  obtain ⟨p', c', rfl, hc1', hc2', hcell'⟩ := hv'
  unfold maxLen at hc2 hc2'
  have HC := Lib.hid hcell
  have HC' := Lib.hid hcell'
  clear hcell hcell'
  go_enter Tryd.func75, Tryd.ntmps75
  go_wp2_with fail
  go_loopw [13] (fun i wr => ∃ k : Nat, i = .int .i64 k ∧ k ≤ l.length ∧ Hid (Below w.heap.size w wr)) (fun i _ => l.length - (intOf i).toNat)
  case atStart => exact ⟨0, rfl, by omega, Lib.hid (Below.refl _ _)⟩
  case round =>
    obtain ⟨k, rfl, hk, HB⟩ := hrel
    by_cases hlt : k < l.length
    · obtain ⟨b, o, rfl, hcl⟩ := HC.out (fun h => by simp [h] at hlt)
      obtain ⟨b', o', rfl, hcl'⟩ := HC'.out (fun h => by simp [h] at hlt)
      have c1 := cell_later HB.out (hcl k l[k] (List.getElem?_eq_getElem hlt))
      have c2 := cell_later HB.out (hcl' k l[k] (List.getElem?_eq_getElem hlt))
      have b1 := World.block_lt_of_cell? _ _ c1
      have b2 := World.block_lt_of_cell? _ _ c2
      simp only at b1 b2
      have hk0 : (0 : Int) ≤ (k : Int) := by omega
      have hk1 : (k : Int) < (l.length : Int) := by omega
      clear hcl hcl'
      generalize l[k] = x at c1 c2
      go_wp2_with fail
      go_quiet (fail)
      go_wp2_with fail
      go_roundw
      case rel => exact ⟨k + 1, by go_num, by omega, Lib.hid (HB.out.trans (below_drewN (Below.refl _ _) _))⟩
      case measure => simp [intOf]; omega
    · have hge : l.length ≤ k := by omega
      clear hlt
      go_wp2_with fail
      go_ret
      exact ⟨rfl, HB.out⟩

set_option maxRecDepth 100000 in
set_option maxHeartbeats 1000000 in
theorem sameLists_ok (L : List (List Int)) (v v' : Value) (w : World) (hv : IsLL w v L) (hv' : IsLL w v' L) :
    Calls Tryd.prog 31 #[v, v'] w fun e w' => e = .returned (.bool true) ∧ Below w.heap.size w w' := by
  obtain ⟨p, c, rfl, hc1, hc2, hcell⟩ := hv
  obtain ⟨p', c', rfl, hc1', hc2', hcell'⟩ := hv'
  unfold maxLen at hc2 hc2'
  have HC := Lib.hid hcell
  have HC' := Lib.hid hcell'
  clear hcell hcell'
  go_enter Tryd.func31, Tryd.ntmps31
  go_wp2_with fail
  go_loopw [13] (fun i wr => ∃ k : Nat, i = .int .i64 k ∧ k ≤ L.length ∧ Hid (Below w.heap.size w wr)) (fun i _ => L.length - (intOf i).toNat)
  case atStart => exact ⟨0, rfl, by omega, Lib.hid (Below.refl _ _)⟩
  case round =>
    obtain ⟨k, rfl, hk, HB⟩ := hrel
    by_cases hlt : k < L.length
    · obtain ⟨b, o, rfl, hcl⟩ := HC.out (fun h => by simp [h] at hlt)
      obtain ⟨b', o', rfl, hcl'⟩ := HC'.out (fun h => by simp [h] at hlt)
      obtain ⟨u, c1, hu⟩ := hcl k L[k] (List.getElem?_eq_getElem hlt)
      obtain ⟨u', c2, hu'⟩ := hcl' k L[k] (List.getElem?_eq_getElem hlt)
      have c1 := cell_later HB.out c1
      have c2 := cell_later HB.out c2
      have HU := Lib.hid hu
      have HU' := Lib.hid hu'
      have HL := Lib.hid (list_ok L[k] u u' wr.drew (hu.below (HB.out.trans (Below.refl _ _).drew)) (hu'.below (HB.out.trans (Below.refl _ _).drew)))
      obtain ⟨q, d, rfl, _⟩ := hu
      obtain ⟨q', d', rfl, _⟩ := hu'
      have b1 := World.block_lt_of_cell? _ _ c1
      have b2 := World.block_lt_of_cell? _ _ c2
      simp only at b1 b2
      have hk0 : (0 : Int) ≤ (k : Int) := by omega
      have hk1 : (k : Int) < (L.length : Int) := by omega
      have hst : ∀ W, Below wr.heap.size wr W → W.cell? ⟨b, o + k, none⟩ = some (.slice q L[k].length d) ∧ W.cell? ⟨b', o' + k, none⟩ = some (.slice q' L[k].length d') := fun W hW => ⟨cell_later hW c1, cell_later hW c2⟩
      have HST := Lib.hid hst
      clear hcl hcl' hst HU HU'
      generalize L[k].length = nk at *
      go_wp2_with fail
      go_region_held3 (fun W => W.cell? ⟨b, o + k, none⟩ = some (.slice q nk d) ∧ W.cell? ⟨b', o' + k, none⟩ = some (.slice q' nk d'))
        (first | exact HST.out _ (Below.refl _ _).drew | exact HST.out _ HB1.out)
        (first
          | (go_at_call 75; refine HL.out.mono ?_; rintro e w1 ⟨rfl, hb1⟩; have HB1 : Hid (Below wr.heap.size wr w1) := Lib.hid ((Below.refl _ _).drew.trans hb1); clear hb1))
      all_goals
        go_wp2_with fail
        go_roundw
        case rel => exact ⟨k + 1, by go_num, by omega, Lib.hid (HB.out.trans (HB1.out.mono HB.out.size))⟩
        case measure => simp [intOf]; omega
    · have hge : L.length ≤ k := by omega
      clear hlt
      go_wp2_with fail
      go_ret
      exact ⟨rfl, HB.out⟩

set_option maxRecDepth 100000 in
set_option maxHeartbeats 1000000 in
theorem sameTrees_ok (H : Hg) (v v' : Value) (w : World) (hv : IsH w v H) (hv' : IsH w v' H) :
    Calls Tryd.prog 34 #[v, v'] w fun e w' => e = .returned (.bool true) ∧ Below w.heap.size w w' := by
  obtain ⟨p, c, rfl, hc1, hc2, hrow⟩ := hv
  obtain ⟨p', c', rfl, hc1', hc2', hrow'⟩ := hv'
  unfold maxLen at hc2 hc2'
  have HR := Lib.hid hrow
  have HR' := Lib.hid hrow'
  clear hrow hrow'
  go_enter Tryd.func34, Tryd.ntmps34
  go_wp2_with fail
  go_loopw [13] (fun i wr => ∃ (k : Nat) (R : Hg), i = .int .i64 k ∧ Hid (k + R.len = H.len) ∧ Hid (Below w.heap.size w wr) ∧ (R ≠ .nil → ∃ b o, p = some ⟨b, o, none⟩ ∧ Row w R b (o + k * 2)) ∧ (R ≠ .nil → ∃ b o, p' = some ⟨b, o, none⟩ ∧ Row w R b (o + k * 2))) (fun i _ => H.len - (intOf i).toNat)
  case atStart => exact ⟨0, H, rfl, Lib.hid (by simp), Lib.hid (Below.refl _ _), by simpa using HR.out, by simpa using HR'.out⟩
  case round =>
    obtain ⟨k, R, rfl, hk, HB, hR, hR'⟩ := hrel
    cases R with
    | nil =>
      have hge : H.len ≤ k := by have := hk.out; simp only [Hg.len] at this; omega
      clear hk hR HR hR' HR'
      go_wp2_with fail
      go_ret
      exact ⟨rfl, HB.out⟩
    | cons l K R =>
      obtain ⟨b, o, rfl, hr⟩ := hR (by simp)
      obtain ⟨b', o', rfl, hr'⟩ := hR' (by simp)
      rw [Row.cons_iff] at hr hr'
      obtain ⟨c1, hl, ⟨vk, c2, hvk⟩, hr⟩ := hr
      obtain ⟨c1', hl', ⟨vk', c2', hvk'⟩, hr'⟩ := hr'
      have HC := Lib.hid (same_eq (l, K) (.agg #[.int .i64 l, vk]) (.agg #[.int .i64 l, vk']) wr.drew ⟨vk, rfl, hl, hvk.below (HB.out.trans (Below.refl _ _).drew)⟩ ⟨vk', rfl, hl, hvk'.below (HB.out.trans (Below.refl _ _).drew)⟩)
      obtain ⟨pk, ck, rfl, _, _, _⟩ := hvk
      obtain ⟨pk', ck', rfl, _, _, _⟩ := hvk'
      have hlt : k < H.len := by have := hk.out; simp only [Hg.len] at this; omega
      have hlt1 : (k : Int) < (H.len : Int) := by omega
      have hk0 : (0 : Int) ≤ (k : Int) := by omega
      have c1 := cell_later HB.out c1
      have c2 := cell_later HB.out c2
      have c1' := cell_later HB.out c1'
      have c2' := cell_later HB.out c2'
      have hbl := World.block_lt_of_cell? _ _ c1
      have hbl' := World.block_lt_of_cell? _ _ c1'
      simp only at hbl hbl'
      have hst : ∀ W, Below wr.heap.size wr W → W.cell? ⟨b, o + k * 2, none⟩ = some (.int .i64 l) ∧ W.cell? ⟨b, o + k * 2 + 1, none⟩ = some (.slice pk K.len ck) ∧ W.cell? ⟨b', o' + k * 2, none⟩ = some (.int .i64 l) ∧ W.cell? ⟨b', o' + k * 2 + 1, none⟩ = some (.slice pk' K.len ck') := fun W hW =>
        ⟨cell_later hW c1, cell_later hW c2, cell_later hW c1', cell_later hW c2'⟩
      have HST := Lib.hid hst
      have HRR := Lib.hid hr
      have HRR' := Lib.hid hr'
      clear hR HR hR' HR' hr hr' hst
      go_wp2_with fail
      go_region_held3 (fun W => W.cell? ⟨b, o + k * 2, none⟩ = some (.int .i64 l) ∧ W.cell? ⟨b, o + k * 2 + 1, none⟩ = some (.slice pk K.len ck) ∧ W.cell? ⟨b', o' + k * 2, none⟩ = some (.int .i64 l) ∧ W.cell? ⟨b', o' + k * 2 + 1, none⟩ = some (.slice pk' K.len ck'))
        (first | exact HST.out _ (Below.refl _ _).drew | exact HST.out _ HB1.out)
        (first
          | (go_at_call 22; refine HC.out.mono ?_; rintro e w1 ⟨rfl, hb1⟩; have HB1 : Hid (Below wr.heap.size wr w1) := Lib.hid ((Below.refl _ _).drew.trans hb1); clear hb1))
      all_goals
        go_wp2_with fail
        go_roundw
        case rel =>
          refine ⟨k + 1, R, by go_num, Lib.hid (by have := hk.out; simp only [Hg.len] at this; omega), Lib.hid (HB.out.trans (HB1.out.mono HB.out.size)), fun _ => ⟨b, o, rfl, ?_⟩, fun _ => ⟨b', o', rfl, ?_⟩⟩
          · rw [show o + (k + 1) * 2 = o + k * 2 + 2 from by omega]; exact HRR.out
          · rw [show o' + (k + 1) * 2 = o' + k * 2 + 2 from by omega]; exact HRR'.out
        case measure => simp [intOf]; omega

end Go.Proofs.YthhliogcafmnfaaDoor
