/- ref03.key. copy at structs; rows of rules that the call owns. Rules with their memory as data. -/
import Derived.Test.YtedfldbknjcnlaaDoorFG13
import Derived.Test.YtedfldbknjcnlaaDoorFG18
import Derived.Laws.CopyRow
namespace Go.Proofs.YtedfldbknjcnlaaDoor
section
open Go.RowKit Go.Shelf Go.Maps Go.WideElems

theorem own_one {W : World} {B g : Nat} {x : Int} (hb : Blk W g 3 #[.int .i64 x]) (h : B ≤ g) : W.ownsRow B 3 1 (.slice (some ⟨g, 0, none⟩) 1 1) 1 [.int .i64 x] := ⟨rfl, .inr ⟨g, 1, #[.int .i64 x], rfl, h, hb, Nat.le_refl _, by decide, rfl, rfl⟩⟩
theorem one_cells {W : World} {g : Nat} {x : Int} (hb : Blk W g 3 #[.int .i64 x]) : [x] ≠ [] → ∃ b o, (some ⟨g, 0, none⟩ : Option Addr) = some ⟨b, o, none⟩ ∧ ∀ (i : Nat) (y : Int), [x][i]? = some y → W.cell? ⟨b, o + i, none⟩ = some (.int .i64 y) := fun _ => ⟨g, 0, rfl, fun i y hy => by
  rw [hb.cell]
  cases i with
  | zero => simp at hy; subst hy; rfl
  | succ i => simp at hy⟩
theorem lt_own {W : World} {B n : Nat} {e : TypeId} {v : Value} {xs : List Value} {j : Nat} (h : W.ownsRow B e 1 v n xs) (hj : v.ownBlock = some j) : B ≤ j := (own_cells h hj).choose_spec.2
theorem key_shape {W : World} {B n : Nat} {v : Value} {l : List Int} (h : W.ownsRow B 3 1 v n (intV l)) : IsInts W v l := by
  have hn : n = l.length := by have := h.1; rw [intV_len] at this; omega
  subst hn
  rcases h.2 with ⟨rfl, h0⟩ | ⟨g, cap, cur, rfl, _, hg, h1, h2, _, ht⟩
  · have := List.eq_nil_of_length_eq_zero h0
    subst this
    exact ⟨none, 0, rfl, Nat.le_refl _, Nat.zero_le _, fun h => absurd rfl h⟩
  · refine ⟨_, _, rfl, h1, h2, fun _ => ⟨g, 0, rfl, fun i x hx => ?_⟩⟩
    rw [cell_of_row W g (0 + i) cur _ (0, 0) hg, Nat.zero_add]
    have h2 : (intV l)[i]? = some (.int .i64 x) := by unfold intV; rw [List.getElem?_map, hx]; rfl
    rw [← ht, List.getElem?_take] at h2
    split at h2
    · simpa using h2
    · cases h2

set_option maxRecDepth 100000 in
set_option maxHeartbeats 4000000 in
theorem key_ok (r : Ru) (hl : r.fr.length ≤ 100000) (u : Value) (w : World) (hu : IsInts w u r.fr) :
    Calls Tryd.prog 112 #[.agg #[.int .i64 r.sym, u, .int .i64 r.to]] w fun e w' => (∃ v, e = .returned v ∧ IsInts w' v (keyL r)) ∧ Below w.heap.size w w' := by
  obtain ⟨pu, cu, rfl, hu1, hu2, huc⟩ := hu
  unfold maxLen at hu2
  have HUC := Lib.hid huc
  obtain ⟨i1, hi1, hy0, hy1, hy2⟩ := info_parts Tryd.infoInt
  have HI1 := Lib.hid hi1
  have HX := Lib.hid (Blk.new w 70 #[.int .i64 r.sym, .slice pu r.fr.length cu, .int .i64 r.to])
  obtain ⟨X, hX⟩ : ∃ X, X = w.alloc (.cells #[.int .i64 r.sym, .slice pu r.fr.length cu, .int .i64 r.to] 70) := ⟨_, rfl⟩
  have HXX : Hid (Blk X w.heap.size 70 #[.int .i64 r.sym, .slice pu r.fr.length cu, .int .i64 r.to]) := Lib.hid (hX ▸ HX.out)
  have HB : Hid (Below w.heap.size w X) := Lib.hid (hX ▸ (Below.refl _ w).alloc (Nat.le_refl _) _)
  have hsX : X.heap.size = w.heap.size + 1 := by rw [hX]; simp
  have HS : Hid (∀ W : World, Below (w.heap.size + 1) X W → W.cell? ⟨w.heap.size, 0, none⟩ = some (.int .i64 r.sym) ∧ W.cell? ⟨w.heap.size, 1, none⟩ = some (.slice pu r.fr.length cu) ∧ W.cell? ⟨w.heap.size, 2, none⟩ = some (.int .i64 r.to)) := Lib.hid (fun W hW => by
    have h := HXX.out.below hW (by omega)
    exact ⟨by rw [h.cell]; rfl, by rw [h.cell]; rfl, by rw [h.cell]; rfl⟩)
  have HFC : Hid (∀ W : World, Below (w.heap.size + 1) X W → r.fr ≠ [] → ∃ b o, pu = some ⟨b, o, none⟩ ∧ ∀ (i : Nat) (x : Int), r.fr[i]? = some x → W.cell? ⟨b, o + i, none⟩ = some (.int .i64 x)) := Lib.hid (fun W hW hne => by
    obtain ⟨b, o, e, hc⟩ := HUC.out hne
    exact ⟨b, o, e, fun i x hx => cell_later (HB.out.trans (hW.mono (by omega))) (hc i x hx)⟩)
  have HA1 : Hid (∀ o : Obj, Below (w.heap.size + 1) X (X.alloc o).drew) := Lib.hid (fun o => ((Below.refl _ X).alloc (by omega) o).drew)
  have HA2 : Hid (∀ o o' : Obj, Below (w.heap.size + 1) X ((X.alloc o).alloc o').drew) := Lib.hid (fun o o' => (((Below.refl _ X).alloc (by omega) o).alloc (by simp; omega) o').drew)
  have HS1 : Hid ((X.alloc (.cells #[.int .i64 r.sym] 3)).drew.ownsRow (w.heap.size + 1) 3 1 (.slice (some ⟨X.heap.size, 0, none⟩) 1 1) 1 [.int .i64 r.sym]) := Lib.hid (own_one (Blk.new X _ _) (by omega))
  have HS2 : Hid (∀ o, ((X.alloc (.cells #[.int .i64 r.sym] 3)).alloc o).drew.ownsRow (w.heap.size + 1) 3 1 (.slice (some ⟨X.heap.size, 0, none⟩) 1 1) 1 [.int .i64 r.sym]) := Lib.hid (fun o => own_one ((Blk.new X _ _).alloc o) (by omega))
  have HS3 : Hid (∀ o, ((X.alloc o).alloc (.cells #[.int .i64 r.sym] 3)).drew.ownsRow (w.heap.size + 1) 3 1 (.slice (some ⟨X.heap.size + 1, 0, none⟩) 1 1) 1 [.int .i64 r.sym]) := Lib.hid (fun o => own_one (show Blk ((X.alloc o).alloc (.cells #[.int .i64 r.sym] 3)) (X.heap.size + 1) 3 #[.int .i64 r.sym] by simpa using Blk.new (X.alloc o) 3 #[.int .i64 r.sym]) (by omega))
  have HT2 : Hid (∀ o, Blk ((X.alloc o).alloc (.cells #[.int .i64 r.to] 3)).drew (X.heap.size + 1) 3 #[.int .i64 r.to]) := Lib.hid (fun o => show Blk ((X.alloc o).alloc (.cells #[.int .i64 r.to] 3)) (X.heap.size + 1) 3 #[.int .i64 r.to] by simpa using Blk.new (X.alloc o) 3 #[.int .i64 r.to])
  have HT3 : Hid (∀ o, Blk ((X.alloc (.cells #[.int .i64 r.to] 3)).alloc o).drew X.heap.size 3 #[.int .i64 r.to]) := Lib.hid (fun o => (Blk.new X 3 #[.int .i64 r.to]).alloc o)
  have HM1 : Hid (1 + r.fr.length ≤ maxLen) := Lib.hid (by unfold maxLen; omega)
  have HM2 : Hid ((1 + r.fr.length) * 8 ≤ 140737488355328) := Lib.hid (by omega)
  have HM3 : Hid (1 + r.fr.length + [r.to].length ≤ maxLen) := Lib.hid (by unfold maxLen; simp; omega)
  have HM4 : Hid ((1 + r.fr.length + [r.to].length) * 8 ≤ 140737488355328) := Lib.hid (by simp; omega)
  have z0 := (HS.out X (Below.refl _ _)).1
  have z1 := (HS.out X (Below.refl _ _)).2.1
  have z2 := (HS.out X (Below.refl _ _)).2.2
  have HSX := Lib.hid hsX
  have xl := HXX.out.lt
  rw [hX] at z0 z1 z2 xl
  have HWX := Lib.hid hX
  clear huc hX hsX
  go_enter Tryd.func112, Tryd.ntmps112
  go_wp2_with fail
  have hX := HWX.out
  simp only [← hX] at *
  clear hX HWX z0 z1 z2
  refine wp_region_held_drew (S := (fun W => W.cell? ⟨w.heap.size, 0, none⟩ = some (.int .i64 r.sym) ∧ W.cell? ⟨w.heap.size, 1, none⟩ = some (.slice pu r.fr.length cu) ∧ W.cell? ⟨w.heap.size, 2, none⟩ = some (.int .i64 r.to))) (by kernel_rfl) (by (try dsimp only); first | exact HS.out _ (Below.refl _ _).drew | exact HS.out _ (HA1.out _) | exact HS.out _ (HA2.out _ _) | exact HS.out _ HB5.out | exact HS.out _ (HB6.out _) | exact HS.out _ HB9.out) (fun hHeld => ?_)
  refine wpAnyH_take (i := 0) (v := ?v0) rfl (by kernel_rfl) (by kernel_rfl) (by kernel_rfl) (fun _ _ _ h => h) (Or.inl ⟨by rfl, ?y0⟩) (by assumption) ?r0
  case y0 => (intro w hSw; (try dsimp only at hSw); go_simp); (try with_reducible rfl)
  (try simp only [Act.put, List.setIfInBounds_toArray, List.set_cons_zero, List.set_cons_succ])
  refine wpAnyH_take (i := 1) (v := ?v1) rfl (by kernel_rfl) (by kernel_rfl) (by kernel_rfl) (fun _ _ _ h => h) (Or.inl ⟨by rfl, ?y1⟩) (by assumption) ?r1
  case y1 => (intro w hSw; (try dsimp only at hSw); go_simp); (try with_reducible rfl)
  (try simp only [Act.put, List.setIfInBounds_toArray, List.set_cons_zero, List.set_cons_succ])
  refine wpAnyH_take (i := 3) (v := ?v3) rfl (by kernel_rfl) (by kernel_rfl) (by kernel_rfl) (fun _ _ _ h => h) (Or.inl ⟨by rfl, ?y3⟩) (by assumption) ?r3
  case y3 => (intro w hSw; (try dsimp only at hSw); go_simp); (try with_reducible rfl)
  (try simp only [Act.put, List.setIfInBounds_toArray, List.set_cons_zero, List.set_cons_succ])
  refine wpAnyH_take (i := 4) (v := ?v4) rfl (by kernel_rfl) (by kernel_rfl) (by kernel_rfl) (fun _ _ _ h => h) (Or.inl ⟨by rfl, ?y4⟩) (by assumption) ?r4
  case y4 => (intro w hSw; (try dsimp only at hSw); go_simp); (try with_reducible rfl)
  (try simp only [Act.put, List.setIfInBounds_toArray, List.set_cons_zero, List.set_cons_succ])
  refine wpAnyH_take (i := 6) (v := ?v6) rfl (by kernel_rfl) (by kernel_rfl) (by kernel_rfl) (fun _ _ _ h => h) (Or.inl ⟨by rfl, ?y6⟩) (by assumption) ?r6
  case y6 => (intro w hSw; (try dsimp only at hSw); go_simp); (try with_reducible rfl)
  (try simp only [Act.put, List.setIfInBounds_toArray, List.set_cons_zero, List.set_cons_succ])
  refine wpAnyH_take (i := 7) (v := ?v7) rfl (by kernel_rfl) (by kernel_rfl) (by kernel_rfl) (fun _ _ _ h => h) (Or.inl ⟨by rfl, ?y7⟩) (by assumption) ?r7
  case y7 => (intro w hSw; (try dsimp only at hSw); go_simp); (try with_reducible rfl)
  (try simp only [Act.put, List.setIfInBounds_toArray, List.set_cons_zero, List.set_cons_succ])
  refine wpAnyH_ready (rs := [2, 8]) (by kernel_rfl) (by simp) ?_
  refine AllReadyH.cons rfl (fun K hK => ?_) (AllReadyH.cons rfl (fun K hK => ?_) AllReadyH.nil)
  · skip
    go_simp
    refine hK.out _ _ (by (try dsimp only); first | exact HS.out _ (Below.refl _ _).drew | exact HS.out _ (HA1.out _) | exact HS.out _ (HA2.out _ _) | exact HS.out _ HB5.out | exact HS.out _ (HB6.out _) | exact HS.out _ HB9.out) (fun hHeld => ?_)
    clear hK K
    (try simp only [Act.put, List.setIfInBounds_toArray, List.set_cons_zero, List.set_cons_succ])
    refine wpAnyH_ready (rs := [5, 8]) (by kernel_rfl) (by simp) ?_
    refine AllReadyH.cons rfl (fun K hK => ?_) (AllReadyH.cons rfl (fun K hK => ?_) AllReadyH.nil)
    · skip
      refine step_append_ints _ rfl (.tmp 5) (.tmp 7) 22 rfl (w.heap.size + 1) 3 i1 _ 8 Tryd.underlying22 HI1.out hy0 hy1 hy2 rfl (.slice (some ⟨X.heap.size, 0, none⟩) 1 1) 1 [.int .i64 r.sym] rfl HS1.out pu r.fr cu rfl (HFC.out _ (HA1.out _)) HM1.out HM2.out (Nat.le_trans (Nat.le_of_eq HSX.out.symm) (HA1.out _).size) ?_
      intro v5 w5 ho5 hg5 hat5
      obtain ⟨a5, m5, k5, rfl⟩ := own_slice ho5
      have HO5 := Lib.hid ho5
      have HB5 : Hid (Below (w.heap.size + 1) X w5) := Lib.hid ((HA1.out _).grown hg5 (Nat.le_trans (Nat.le_of_eq HSX.out.symm) (HA1.out _).size) (fun j e => by simp [Value.ownBlock] at e; have := HSX.out; omega))
      have HB6 : Hid (∀ o : Obj, Below (w.heap.size + 1) X (w5.alloc o)) := Lib.hid (fun o => HB5.out.alloc (by have := HB5.out.size; have := HSX.out; omega) o)
      have HO6 : Hid ((w5.alloc (.cells #[.int .i64 r.to] 3)).ownsRow (w.heap.size + 1) 3 1 (.slice a5 m5 k5) (1 + r.fr.length) ([.int .i64 r.sym] ++ intV r.fr)) := Lib.hid (ownsRow_kp HO5.out ((Kp.refl (fun _ => True) w5).alloc _) (fun _ _ => trivial))
      have HT5 : Hid (Blk (w5.alloc (.cells #[.int .i64 r.to] 3)) w5.heap.size 3 #[.int .i64 r.to]) := Lib.hid (Blk.new w5 _ _)
      clear ho5 hg5 hat5
      refine hK.out _ _ (by (try dsimp only); first | exact HS.out _ (Below.refl _ _).drew | exact HS.out _ (HA1.out _) | exact HS.out _ (HA2.out _ _) | exact HS.out _ HB5.out | exact HS.out _ (HB6.out _) | exact HS.out _ HB9.out) (fun hHeld => ?_)
      clear hK K
      (try simp only [Act.put, List.setIfInBounds_toArray, List.set_cons_zero, List.set_cons_succ])
      refine wpAnyH_ready (rs := [8]) (by kernel_rfl) (by simp) ?_
      refine AllReadyH.cons rfl (fun K hK => ?_) AllReadyH.nil
      go_simp
      refine hK.out _ _ (by (try dsimp only); first | exact HS.out _ (Below.refl _ _).drew | exact HS.out _ (HA1.out _) | exact HS.out _ (HA2.out _ _) | exact HS.out _ HB5.out | exact HS.out _ (HB6.out _) | exact HS.out _ HB9.out) (fun hHeld => ?_)
      clear hK K
      (try simp only [Act.put, List.setIfInBounds_toArray, List.set_cons_zero, List.set_cons_succ])
      refine wpAnyH_ready (rs := [9]) (by kernel_rfl) (by simp) ?_
      refine AllReadyH.cons rfl (fun K hK => ?_) AllReadyH.nil
      refine step_append_ints _ rfl (.tmp 8) (.tmp 11) 22 rfl (w.heap.size + 1) 3 i1 _ 8 Tryd.underlying22 HI1.out hy0 hy1 hy2 rfl (.slice a5 m5 k5) (1 + r.fr.length) ([.int .i64 r.sym] ++ intV r.fr) rfl HO6.out _ [r.to] 1 rfl (one_cells HT5.out) HM3.out HM4.out (Nat.le_trans (Nat.le_of_eq HSX.out.symm) (HB6.out _).size) ?_
      intro v9 w9 ho9 hg9 hat9
      obtain ⟨a9, m9, k9, rfl⟩ := own_slice ho9
      have HO9 := Lib.hid ho9
      have HB9 : Hid (Below (w.heap.size + 1) X w9) := Lib.hid ((HB6.out _).grown hg9 (Nat.le_trans (Nat.le_of_eq HSX.out.symm) (HB6.out _).size) (fun j e => lt_own HO5.out e))
      clear ho9 hg9 hat9
      refine hK.out _ _ (by (try dsimp only); first | exact HS.out _ (Below.refl _ _).drew | exact HS.out _ (HA1.out _) | exact HS.out _ (HA2.out _ _) | exact HS.out _ HB5.out | exact HS.out _ (HB6.out _) | exact HS.out _ HB9.out) (fun hHeld => ?_)
      clear hK K
      (try simp only [Act.put, List.setIfInBounds_toArray, List.set_cons_zero, List.set_cons_succ])
      refine wpAnyH_ready (rs := [10]) (by kernel_rfl) (by simp) ?_
      refine AllReadyH.cons rfl (fun K hK => ?_) AllReadyH.nil
      go_simp
      refine hK.out _ _ (by (try dsimp only); first | exact HS.out _ (Below.refl _ _).drew | exact HS.out _ (HA1.out _) | exact HS.out _ (HA2.out _ _) | exact HS.out _ HB5.out | exact HS.out _ (HB6.out _) | exact HS.out _ HB9.out) (fun hHeld => ?_)
      clear hK K
      (try simp only [Act.put, List.setIfInBounds_toArray, List.set_cons_zero, List.set_cons_succ])
      refine wpAnyH_done (by kernel_rfl) ?_ _
      go_wp2_with fail
      go_ret
      exact ⟨⟨.slice a9 m9 k9, rfl, key_shape (B := w.heap.size + 1) (n := 1 + r.fr.length + [r.to].length) (l := keyL r) (by
        have e : intV (keyL r) = [.int .i64 r.sym] ++ intV r.fr ++ intV [r.to] := by simp [keyL, intV]
        rw [e]
        exact HO9.out)⟩, HB.out.trans (HB9.out.mono (by omega))⟩
    · skip
      go_simp
      refine hK.out _ _ (by (try dsimp only); first | exact HS.out _ (Below.refl _ _).drew | exact HS.out _ (HA1.out _) | exact HS.out _ (HA2.out _ _) | exact HS.out _ HB5.out | exact HS.out _ (HB6.out _) | exact HS.out _ HB9.out) (fun hHeld => ?_)
      clear hK K
      (try simp only [Act.put, List.setIfInBounds_toArray, List.set_cons_zero, List.set_cons_succ])
      refine wpAnyH_ready (rs := [5]) (by kernel_rfl) (by simp) ?_
      refine AllReadyH.cons rfl (fun K hK => ?_) AllReadyH.nil
      refine step_append_ints _ rfl (.tmp 5) (.tmp 7) 22 rfl (w.heap.size + 1) 3 i1 _ 8 Tryd.underlying22 HI1.out hy0 hy1 hy2 rfl (.slice (some ⟨X.heap.size, 0, none⟩) 1 1) 1 [.int .i64 r.sym] rfl (HS2.out _) pu r.fr cu rfl (HFC.out _ (HA2.out _ _)) HM1.out HM2.out (Nat.le_trans (Nat.le_of_eq HSX.out.symm) (HA2.out _ _).size) ?_
      intro v5 w5 ho5 hg5 hat5
      obtain ⟨a5, m5, k5, rfl⟩ := own_slice ho5
      have HO5 := Lib.hid ho5
      have HB5 : Hid (Below (w.heap.size + 1) X w5) := Lib.hid ((HA2.out _ _).grown hg5 (Nat.le_trans (Nat.le_of_eq HSX.out.symm) (HA2.out _ _).size) (fun j e => by simp [Value.ownBlock] at e; have := HSX.out; omega))
      have HT5 : Hid (Blk w5 (X.heap.size + 1) 3 #[.int .i64 r.to]) := Lib.hid ((hg5.block _ ((HT2.out _)).lt (fun e => by simp [Value.ownBlock] at e)).trans (HT2.out _))
      clear ho5 hg5 hat5
      refine hK.out _ _ (by (try dsimp only); first | exact HS.out _ (Below.refl _ _).drew | exact HS.out _ (HA1.out _) | exact HS.out _ (HA2.out _ _) | exact HS.out _ HB5.out | exact HS.out _ (HB6.out _) | exact HS.out _ HB9.out) (fun hHeld => ?_)
      clear hK K
      (try simp only [Act.put, List.setIfInBounds_toArray, List.set_cons_zero, List.set_cons_succ])
      refine wpAnyH_ready (rs := [9]) (by kernel_rfl) (by simp) ?_
      refine AllReadyH.cons rfl (fun K hK => ?_) AllReadyH.nil
      refine step_append_ints _ rfl (.tmp 8) (.tmp 11) 22 rfl (w.heap.size + 1) 3 i1 _ 8 Tryd.underlying22 HI1.out hy0 hy1 hy2 rfl (.slice a5 m5 k5) (1 + r.fr.length) ([.int .i64 r.sym] ++ intV r.fr) rfl HO5.out _ [r.to] 1 rfl (one_cells HT5.out) HM3.out HM4.out (Nat.le_trans (Nat.le_of_eq HSX.out.symm) HB5.out.size) ?_
      intro v9 w9 ho9 hg9 hat9
      obtain ⟨a9, m9, k9, rfl⟩ := own_slice ho9
      have HO9 := Lib.hid ho9
      have HB9 : Hid (Below (w.heap.size + 1) X w9) := Lib.hid (HB5.out.grown hg9 (Nat.le_trans (Nat.le_of_eq HSX.out.symm) HB5.out.size) (fun j e => lt_own HO5.out e))
      clear ho9 hg9 hat9
      refine hK.out _ _ (by (try dsimp only); first | exact HS.out _ (Below.refl _ _).drew | exact HS.out _ (HA1.out _) | exact HS.out _ (HA2.out _ _) | exact HS.out _ HB5.out | exact HS.out _ (HB6.out _) | exact HS.out _ HB9.out) (fun hHeld => ?_)
      clear hK K
      (try simp only [Act.put, List.setIfInBounds_toArray, List.set_cons_zero, List.set_cons_succ])
      refine wpAnyH_ready (rs := [10]) (by kernel_rfl) (by simp) ?_
      refine AllReadyH.cons rfl (fun K hK => ?_) AllReadyH.nil
      go_simp
      refine hK.out _ _ (by (try dsimp only); first | exact HS.out _ (Below.refl _ _).drew | exact HS.out _ (HA1.out _) | exact HS.out _ (HA2.out _ _) | exact HS.out _ HB5.out | exact HS.out _ (HB6.out _) | exact HS.out _ HB9.out) (fun hHeld => ?_)
      clear hK K
      (try simp only [Act.put, List.setIfInBounds_toArray, List.set_cons_zero, List.set_cons_succ])
      refine wpAnyH_done (by kernel_rfl) ?_ _
      go_wp2_with fail
      go_ret
      exact ⟨⟨.slice a9 m9 k9, rfl, key_shape (B := w.heap.size + 1) (n := 1 + r.fr.length + [r.to].length) (l := keyL r) (by
        have e : intV (keyL r) = [.int .i64 r.sym] ++ intV r.fr ++ intV [r.to] := by simp [keyL, intV]
        rw [e]
        exact HO9.out)⟩, HB.out.trans (HB9.out.mono (by omega))⟩
  · skip
    go_simp
    refine hK.out _ _ (by (try dsimp only); first | exact HS.out _ (Below.refl _ _).drew | exact HS.out _ (HA1.out _) | exact HS.out _ (HA2.out _ _) | exact HS.out _ HB5.out | exact HS.out _ (HB6.out _) | exact HS.out _ HB9.out) (fun hHeld => ?_)
    clear hK K
    (try simp only [Act.put, List.setIfInBounds_toArray, List.set_cons_zero, List.set_cons_succ])
    refine wpAnyH_ready (rs := [2]) (by kernel_rfl) (by simp) ?_
    refine AllReadyH.cons rfl (fun K hK => ?_) AllReadyH.nil
    go_simp
    refine hK.out _ _ (by (try dsimp only); first | exact HS.out _ (Below.refl _ _).drew | exact HS.out _ (HA1.out _) | exact HS.out _ (HA2.out _ _) | exact HS.out _ HB5.out | exact HS.out _ (HB6.out _) | exact HS.out _ HB9.out) (fun hHeld => ?_)
    clear hK K
    (try simp only [Act.put, List.setIfInBounds_toArray, List.set_cons_zero, List.set_cons_succ])
    refine wpAnyH_ready (rs := [5]) (by kernel_rfl) (by simp) ?_
    refine AllReadyH.cons rfl (fun K hK => ?_) AllReadyH.nil
    refine step_append_ints _ rfl (.tmp 5) (.tmp 7) 22 rfl (w.heap.size + 1) 3 i1 _ 8 Tryd.underlying22 HI1.out hy0 hy1 hy2 rfl (.slice (some ⟨X.heap.size + 1, 0, none⟩) 1 1) 1 [.int .i64 r.sym] rfl (HS3.out _) pu r.fr cu rfl (HFC.out _ (HA2.out _ _)) HM1.out HM2.out (Nat.le_trans (Nat.le_of_eq HSX.out.symm) (HA2.out _ _).size) ?_
    intro v5 w5 ho5 hg5 hat5
    obtain ⟨a5, m5, k5, rfl⟩ := own_slice ho5
    have HO5 := Lib.hid ho5
    have HB5 : Hid (Below (w.heap.size + 1) X w5) := Lib.hid ((HA2.out _ _).grown hg5 (Nat.le_trans (Nat.le_of_eq HSX.out.symm) (HA2.out _ _).size) (fun j e => by simp [Value.ownBlock] at e; have := HSX.out; omega))
    have HT5 : Hid (Blk w5 (X.heap.size) 3 #[.int .i64 r.to]) := Lib.hid ((hg5.block _ ((HT3.out _)).lt (fun e => by simp [Value.ownBlock] at e)).trans (HT3.out _))
    clear ho5 hg5 hat5
    refine hK.out _ _ (by (try dsimp only); first | exact HS.out _ (Below.refl _ _).drew | exact HS.out _ (HA1.out _) | exact HS.out _ (HA2.out _ _) | exact HS.out _ HB5.out | exact HS.out _ (HB6.out _) | exact HS.out _ HB9.out) (fun hHeld => ?_)
    clear hK K
    (try simp only [Act.put, List.setIfInBounds_toArray, List.set_cons_zero, List.set_cons_succ])
    refine wpAnyH_ready (rs := [9]) (by kernel_rfl) (by simp) ?_
    refine AllReadyH.cons rfl (fun K hK => ?_) AllReadyH.nil
    refine step_append_ints _ rfl (.tmp 8) (.tmp 11) 22 rfl (w.heap.size + 1) 3 i1 _ 8 Tryd.underlying22 HI1.out hy0 hy1 hy2 rfl (.slice a5 m5 k5) (1 + r.fr.length) ([.int .i64 r.sym] ++ intV r.fr) rfl HO5.out _ [r.to] 1 rfl (one_cells HT5.out) HM3.out HM4.out (Nat.le_trans (Nat.le_of_eq HSX.out.symm) HB5.out.size) ?_
    intro v9 w9 ho9 hg9 hat9
    obtain ⟨a9, m9, k9, rfl⟩ := own_slice ho9
    have HO9 := Lib.hid ho9
    have HB9 : Hid (Below (w.heap.size + 1) X w9) := Lib.hid (HB5.out.grown hg9 (Nat.le_trans (Nat.le_of_eq HSX.out.symm) HB5.out.size) (fun j e => lt_own HO5.out e))
    clear ho9 hg9 hat9
    refine hK.out _ _ (by (try dsimp only); first | exact HS.out _ (Below.refl _ _).drew | exact HS.out _ (HA1.out _) | exact HS.out _ (HA2.out _ _) | exact HS.out _ HB5.out | exact HS.out _ (HB6.out _) | exact HS.out _ HB9.out) (fun hHeld => ?_)
    clear hK K
    (try simp only [Act.put, List.setIfInBounds_toArray, List.set_cons_zero, List.set_cons_succ])
    refine wpAnyH_ready (rs := [10]) (by kernel_rfl) (by simp) ?_
    refine AllReadyH.cons rfl (fun K hK => ?_) AllReadyH.nil
    go_simp
    refine hK.out _ _ (by (try dsimp only); first | exact HS.out _ (Below.refl _ _).drew | exact HS.out _ (HA1.out _) | exact HS.out _ (HA2.out _ _) | exact HS.out _ HB5.out | exact HS.out _ (HB6.out _) | exact HS.out _ HB9.out) (fun hHeld => ?_)
    clear hK K
    (try simp only [Act.put, List.setIfInBounds_toArray, List.set_cons_zero, List.set_cons_succ])
    refine wpAnyH_done (by kernel_rfl) ?_ _
    go_wp2_with fail
    go_ret
    exact ⟨⟨.slice a9 m9 k9, rfl, key_shape (B := w.heap.size + 1) (n := 1 + r.fr.length + [r.to].length) (l := keyL r) (by
      have e : intV (keyL r) = [.int .i64 r.sym] ++ intV r.fr ++ intV [r.to] := by simp [keyL, intV]
      rw [e]
      exact HO9.out)⟩, HB.out.trans (HB9.out.mono (by omega))⟩
end

section
open Go.RowKit Go.Shelf Go.Maps Go.WideElems

theorem run_copy_row_k {P : Program} (w : World) (dT sT ty elem : TypeId) (k g o dLen dCap : Nat) (a : Addr) (sLen sCap : Nat) (cur : Array Value) (t : TypeId) (cs : List Value)
    (hu : P.underlying dT = some (.slice elem)) (hs : (P.info? elem).map (·.size) = some k)
    (hg : w.heap[g]? = some (.cells cur t (0, 0))) (hn : cs.length = Nat.min sLen dLen * k)
    (hsrc : ∀ j v, cs[j]? = some v → w.cell? (a.add j) = some v) (hfit : o + cs.length ≤ cur.size) (h1 : ∀ v ∈ cs, v.oneCell' = true) :
    (Builtin.copy_ #[dT, sT] ty #[.slice (some ⟨g, o, none⟩) dLen dCap, .slice (some a) sLen sCap]).run P w =
      .ok (goInt (Nat.min sLen dLen)) (w.setRow g (cur.toList.take o ++ cs ++ cur.toList.drop (o + cs.length)).toArray) := by
  have hl := run_loadCells_list (P := P) w a cs hsrc
  have hst := run_storeCells_at P g o t cs 0 cur w hg (by simpa using hfit) h1
  cases hq : P.info? elem with
  | none => simp [hq] at hs
  | some i =>
    have hi : i.size = k := by simpa [hq] using hs
    simp [Builtin.copy_, run_underlying hu, Builtin.lenOf, Builtin.firstCells, sizeOf, typeInfo, hq, hi, ← hn, hl, hst]
theorem run_copy_zero {P : Program} (w : World) (dT sT ty elem : TypeId) (k : Nat) (dp sp : Option Addr) (dLen dCap sLen sCap : Nat)
    (hu : P.underlying dT = some (.slice elem)) (hs : (P.info? elem).map (·.size) = some k) (hn : Nat.min sLen dLen = 0) :
    (Builtin.copy_ #[dT, sT] ty #[.slice dp dLen dCap, .slice sp sLen sCap]).run P w = .ok (goInt 0) w := by
  cases hq : P.info? elem with
  | none => simp [hq] at hs
  | some i =>
    cases dp <;> cases sp <;> simp [Builtin.copy_, run_underlying hu, Builtin.lenOf, Builtin.firstCells, sizeOf, typeInfo, hq, hn, loadCells, loadCellsFrom, storeCells]

theorem step_copy_k {P : Program} {ops : Array Oper} {o : Oper} {a : Act} {w : World} {K : Act → World → Prop} {Q : Exit → Act → World → Prop} {E : Prop} (hgd : o.guard = none) (d s : Operand) (dT sT : TypeId)
    (ho : o.op = .call { callee := .builtin .copy, args := #[d, s], argTypes := #[dT, sT] }) (elem : TypeId) (k : Nat) (hu : P.underlying dT = some (.slice elem)) (hsz : (P.info? elem).map (·.size) = some k)
    (dp sp : Option Addr) (dLen dCap sLen sCap : Nat) (hd : a.eval d = .slice dp dLen dCap) (hs : a.eval s = .slice sp sLen sCap)
    (g off : Nat) (cur : Array Value) (t : TypeId) (hg : w.heap[g]? = some (.cells cur t (0, 0))) (cs : List Value) (hn : cs.length = Nat.min sLen dLen * k) (hk : 0 < k)
    (hpos : 0 < Nat.min sLen dLen → dp = some ⟨g, off, none⟩ ∧ ∃ ad, sp = some ad ∧ ∀ j v, cs[j]? = some v → w.cell? (ad.add j) = some v)
    (hfit : off + cs.length ≤ cur.size) (h1 : ∀ v ∈ cs, v.oneCell' = true)
    (h : ∀ u, K (a.put o.dst u) (w.setRow g (cur.toList.take off ++ (cs ++ cur.toList.drop (off + cs.length))).toArray)) :
    if Region.wanted o (yielded ops a.tmps) = true then Oper.wp P o a w K Q else E := by
  have hw : Region.wanted o (yielded ops a.tmps) = true := by simp [Region.wanted, hgd]
  rw [if_pos hw]
  by_cases h0 : Nat.min sLen dLen = 0
  · have hcs : cs = [] := List.eq_nil_of_length_eq_zero (by rw [hn, h0, Nat.zero_mul])
    subst hcs
    have hrun := run_copy_zero (P := P) w dT sT o.type elem k dp sp dLen dCap sLen sCap hu hsz h0
    have e : w.setRow g (cur.toList.take off ++ ([] ++ cur.toList.drop (off + ([] : List Value).length))).toArray = w := by
      simp only [List.nil_append, List.length_nil, Nat.add_zero, List.take_append_drop]
      exact setRow_self w g cur t (0, 0) hg
    have h2 := h (goInt 0)
    rw [e] at h2
    unfold Oper.wp
    simp [execOp, ho, resolve, invoke, builtin, hd, hs, hrun, Result.andThen]
    exact h2
  · obtain ⟨rfl, ad, rfl, hsrc⟩ := hpos (by omega)
    have hrun := run_copy_row_k (P := P) w dT sT o.type elem k g off dLen dCap ad sLen sCap cur t cs hu hsz hg hn hsrc hfit h1
    unfold Oper.wp
    simp [execOp, ho, resolve, invoke, builtin, hd, hs, hrun, Result.andThen]
    exact h _

/-- Cells written into a row of the call's own. -/
theorem own_write {w : World} {B g n cap size : Nat} {e : TypeId} {xs cs : List Value} {o : Nat} {cur : Array Value} (h : w.ownsRow B e size (.slice (some ⟨g, 0, none⟩) n cap) n xs) (hg : w.heap[g]? = some (.cells cur e (0, 0))) (ho : o + cs.length ≤ n * size) :
    (w.setRow g (cur.toList.take o ++ (cs ++ cur.toList.drop (o + cs.length))).toArray).ownsRow B e size (.slice (some ⟨g, 0, none⟩) n cap) n (xs.take o ++ (cs ++ xs.drop (o + cs.length))) := by
  have hl := h.1
  rcases h.2 with ⟨e2, _⟩ | ⟨g', cap', cur', e2, hB, hg', hc1, hc2, hc3, ht⟩
  · cases e2
  · simp only [Value.slice.injEq, Option.some.injEq, Addr.mk.injEq] at e2
    obtain ⟨⟨rfl, _⟩, _, rfl⟩ := e2
    rw [hg] at hg'
    simp only [Option.some.injEq, Obj.cells.injEq] at hg'
    obtain ⟨rfl, _⟩ := hg'
    have hcs : n * size ≤ cur.size := by rw [hc3]; exact Nat.mul_le_mul_right size hc1
    refine ⟨?_, .inr ⟨g, cap, _, rfl, hB, setRow_heap w g cur _ e (0, 0) hg, hc1, hc2, ?_, ?_⟩⟩
    · simp only [List.length_append, List.length_take, List.length_drop]
      omega
    · simp only [List.size_toArray, List.length_append, List.length_take, List.length_drop, Array.length_toList]
      omega
    · show (cur.toList.take o ++ (cs ++ cur.toList.drop (o + cs.length))).take (n * size) = _
      rw [List.take_append, List.take_append, List.length_take, Array.length_toList, List.take_take, ← ht, List.take_take, Nat.min_eq_left (by omega : o ≤ cur.size), Nat.min_eq_right (by omega : o ≤ n * size), Nat.min_eq_left (by omega : o ≤ n * size), List.take_of_length_le (by omega : cs.length ≤ n * size - o), List.drop_take]
      congr 3
      omega
end

section
open Go.RowKit Go.Shelf Go.Maps Go.WideElems

/-- The three cells of a rule whose From lies in a value. -/
def rcell (x : Ru × Value) : List Value := [.int .i64 x.1.sym, x.2, .int .i64 x.1.to]
def rcells (D : List (Ru × Value)) : List Value := D.flatMap rcell
theorem rcells_cons (x : Ru × Value) (D : List (Ru × Value)) : rcells (x :: D) = rcell x ++ rcells D := rfl
theorem rcells_app (D E : List (Ru × Value)) : rcells (D ++ E) = rcells D ++ rcells E := List.flatMap_append
theorem rcells_len : ∀ D : List (Ru × Value), (rcells D).length = D.length * 3
  | [] => rfl
  | x :: D => by rw [rcells_cons, List.length_append, rcells_len D, List.length_cons]; show 3 + _ = _; omega
theorem rcells_at : ∀ {D : List (Ru × Value)} {i : Nat} {x : Ru × Value}, D[i]? = some x → (rcells D)[i * 3]? = some (.int .i64 x.1.sym) ∧ (rcells D)[i * 3 + 1]? = some x.2 ∧ (rcells D)[i * 3 + 2]? = some (.int .i64 x.1.to)
  | [], _, _, h => by cases h
  | y :: D, 0, x, h => by simp at h; subst h; exact ⟨rfl, rfl, rfl⟩
  | y :: D, i + 1, x, h => by
    have ih := rcells_at (D := D) (i := i) (x := x) (by simpa using h)
    have e : ∀ j, (rcells (y :: D))[(i + 1) * 3 + j]? = (rcells D)[i * 3 + j]? := fun j => by
      rw [rcells_cons, List.getElem?_append_right (by show 3 ≤ _; omega)]
      congr 1
      show (i + 1) * 3 + j - 3 = _
      omega
    exact ⟨(e 0).trans ih.1, (e 1).trans ih.2.1, (e 2).trans ih.2.2⟩
theorem rcells_one (D : List (Ru × Value)) (h : ∀ x ∈ D, x.2.oneCell' = true) : ∀ u ∈ rcells D, u.oneCell' = true := fun u hu => by
  obtain ⟨x, hx, hu2⟩ := List.mem_flatMap.1 hu
  unfold rcell at hu2
  simp only [List.mem_cons, List.not_mem_nil, or_false] at hu2
  rcases hu2 with rfl | rfl | rfl
  · rfl
  · exact h x hx
  · rfl
theorem take_three : ∀ (l : List Value), 3 ≤ l.length → ∃ a b c, l.take 3 = [a, b, c]
  | [], h => by simp at h
  | [_], h => by simp at h
  | [_, _], h => by simp at h
  | a :: b :: c :: _, _ => ⟨a, b, c, rfl⟩
/-- A rule is laid at its place: the later ones were moved on. -/
theorem ins_cells (D : List (Ru × Value)) (x : Ru × Value) (p : Nat) (hp : p ≤ D.length) (Z : List Value) (hZ : Z.length = 3) :
    (((((rcells D ++ Z).take ((p + 1) * 3) ++ (rcells (D.drop p) ++ (rcells D ++ Z).drop ((p + 1) * 3 + (rcells (D.drop p)).length))).set (p * 3) (.int .i64 x.1.sym)).set (p * 3 + 1) x.2).set (p * 3 + 2) (.int .i64 x.1.to)) = rcells (D.take p ++ x :: D.drop p) := by
  have hl := rcells_len D
  have hl1 : (rcells (D.take p)).length = p * 3 := by rw [rcells_len, List.length_take, Nat.min_eq_left hp]
  have hl2 : (rcells (D.drop p)).length = (D.length - p) * 3 := by rw [rcells_len, List.length_drop]
  have e0 : rcells D ++ Z = rcells (D.take p) ++ (rcells (D.drop p) ++ Z) := by rw [← List.append_assoc, ← rcells_app, List.take_append_drop]
  have hd : (rcells D ++ Z).drop ((p + 1) * 3 + (rcells (D.drop p)).length) = [] := List.drop_of_length_le (by rw [List.length_append, hl, hl2, hZ]; omega)
  obtain ⟨a, b, c, h3⟩ := take_three (rcells (D.drop p) ++ Z) (by rw [List.length_append, hZ]; omega)
  have ht : (rcells D ++ Z).take ((p + 1) * 3) = rcells (D.take p) ++ [a, b, c] := by
    rw [e0, List.take_append, List.take_of_length_le (by rw [hl1]; omega), hl1, show (p + 1) * 3 - p * 3 = 3 by omega, h3]
  rw [ht, hd, List.append_nil, List.append_assoc, List.set_append_right _ _ (by rw [hl1]; omega), List.set_append_right _ _ (by rw [hl1]; omega), List.set_append_right _ _ (by rw [hl1]; omega), hl1]
  rw [show p * 3 - p * 3 = 0 by omega, show p * 3 + 1 - p * 3 = 1 by omega, show p * 3 + 2 - p * 3 = 2 by omega, rcells_app, rcells_cons]
  rfl
/-- A row of rules of the call's own is a list of rules. -/
theorem isRus_of {w0 w : World} {B : Nat} {v : Value} {D : List (Ru × Value)} (h : w.ownsRow B 70 3 v D.length (rcells D)) (hD : ∀ x ∈ D, IsInts w0 x.2 x.1.fr) (hb : Below w0.heap.size w0 w) : IsRus w v (D.map Prod.fst) := by
  have hlen : (D.map Prod.fst).length = D.length := List.length_map _
  rcases h.2 with ⟨rfl, h0⟩ | ⟨g, cap, cur, rfl, _, hg, h1, h2, _, ht⟩
  · have := List.eq_nil_of_length_eq_zero h0
    subst this
    exact ⟨none, 0, rfl, Nat.le_refl _, Nat.zero_le _, fun h => absurd rfl h⟩
  · refine ⟨some ⟨g, 0, none⟩, cap, by rw [hlen], by rw [hlen]; exact h1, h2, fun _ => ⟨g, 0, rfl, fun i r hr => ?_⟩⟩
    rw [List.getElem?_map] at hr
    cases hx : D[i]? with
    | none => rw [hx] at hr; cases hr
    | some x =>
      rw [hx] at hr
      simp only [Option.map_some, Option.some.injEq] at hr
      subst hr
      obtain ⟨h3, h4, h5⟩ := rcells_at hx
      have hc : ∀ j u, (rcells D)[j]? = some u → w.cell? ⟨g, j, none⟩ = some u := fun j u hu => by
        rw [cell_of_row w g j cur _ (0, 0) hg]
        rw [← ht, List.getElem?_take] at hu
        split at hu
        · simpa using hu
        · cases hu
      refine ⟨?_, ⟨x.2, ?_, (hD x (List.mem_of_getElem? hx)).below hb⟩, ?_⟩
      · rw [Nat.zero_add]; exact hc _ _ h3
      · rw [Nat.zero_add]; exact hc _ _ h4
      · rw [Nat.zero_add]; exact hc _ _ h5
theorem row3_cell {w : World} {B g n cap : Nat} {e : TypeId} {xs : List Value} (h : w.ownsRow B e 3 (.slice (some ⟨g, 0, none⟩) n cap) n xs) : ∀ j u, xs[j]? = some u → w.cell? ⟨g, j, none⟩ = some u := fun j u hu => by
  rcases h.2 with ⟨e2, _⟩ | ⟨g', cap', cur, e2, _, hg, _, _, _, ht⟩
  · cases e2
  · simp only [Value.slice.injEq, Option.some.injEq, Addr.mk.injEq] at e2
    obtain ⟨⟨rfl, _⟩, _, rfl⟩ := e2
    rw [cell_of_row w g j cur _ (0, 0) hg]
    rw [← ht, List.getElem?_take] at hu
    split at hu
    · simpa using hu
    · cases hu
theorem row3_shape {w : World} {B n : Nat} {e : TypeId} {v : Value} {xs : List Value} (h : w.ownsRow B e 3 v n xs) (hn : 0 < n) : ∃ g cap, v = .slice (some ⟨g, 0, none⟩) n cap ∧ B ≤ g ∧ n ≤ cap ∧ cap ≤ maxLen ∧ g < w.heap.size ∧ ∃ cur, Blk w g e cur ∧ cur.size = cap * 3 := by
  rcases h.2 with ⟨_, h0⟩ | ⟨g, cap, cur, e2, hB, hg, h1, h2, h3, _⟩
  · omega
  · exact ⟨g, cap, e2, hB, h1, h2, Blk.lt (show Blk w g e cur from hg), cur, hg, h3⟩
end

end Go.Proofs.YtedfldbknjcnlaaDoor
