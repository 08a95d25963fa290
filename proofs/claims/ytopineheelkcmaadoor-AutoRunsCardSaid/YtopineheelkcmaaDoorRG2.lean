/- ref01.Size. tree.Size, by the iterator. slices.Index, slices.Contains at integers. -/
import Derived.Test.YtopineheelkcmaaDoorRows
import Derived.Test.YtopineheelkcmaaDoorHgS
import Derived.Test.YtopineheelkcmaaDoorTValid
import Derived.Shelf.Abstract
import Derived.Deep.RegionHeld3
import Derived.Test.YtopineheelkcmaaDoorRefS
import Derived.Test.YtopineheelkcmaaDoorRTValid
namespace Go.Proofs.YtopineheelkcmaaDoor
section
open Go.RowKit

set_option maxHeartbeats 400000 in
theorem size01_any (N : Nat) : ∀ (s : Int) (H : Hg) (v : Value) (w : World), H.size < N → H.size ≤ 1000000 → IsH w v H →
    Calls Tryd.prog 40 #[.agg #[.int .i64 s, v]] w fun e w' => e = .returned (.int .i64 ((H.size : Int) + 1)) ∧ Below w.heap.size w w' := by
  induction N with
  | zero => intro s H v w hN; omega
  | succ N ih =>
    intro s H v w hN hmax hv
    obtain ⟨p, c, rfl, hc1, hc2, hrow⟩ := hv
    unfold maxLen at hc2
    have HI := Lib.hid ih
    have HR := Lib.hid hrow
    clear ih hrow
    go_enter Tryd.func40, Tryd.ntmps40
    go_wp2
    go_loopw [3, 9] (fun n i wr => ∃ (k d : Nat) (R : Hg), i = .int .i64 k ∧ n = .int .i64 ((d : Int) + 1) ∧ Hid (k + R.len = H.len) ∧ Hid (d + R.size = H.size) ∧ Below w.heap.size w wr ∧ (R ≠ .nil → ∃ b o, p = some ⟨b, o, none⟩ ∧ Row wr R b (o + k * 2)))
      (fun _ i _ => H.len - (intOf i).toNat)
    case atStart =>
      refine ⟨0, 0, H, rfl, by simp, Lib.hid (by simp), Lib.hid (by simp), (Below.refl _ _).alloc (Nat.le_refl _) _, fun hne => ?_⟩
      obtain ⟨b, o, e, hr⟩ := HR.out hne
      exact ⟨b, o, e, by simpa using hr.below ((Below.refl _ _).alloc (Nat.le_refl _) _)⟩
    case round =>
      obtain ⟨k, d, R, rfl, rfl, hk, hd, hb, hR⟩ := hrel
      cases R with
      | nil =>
        have hge : H.len ≤ k := by have := hk.out; simp only [Hg.len] at this; omega
        have HD : Hid (d = H.size) := Lib.hid (by have := hd.out; simpa [Hg.size] using this)
        clear hk hd hR HR
        go_wp2
        go_ret
        exact ⟨by rw [← HD.out]; rfl, hb⟩
      | cons l K R =>
        obtain ⟨b, o, rfl, hr⟩ := hR (by simp)
        rw [Row.cons_iff] at hr
        obtain ⟨c1, hl, ⟨vk, c2, hvk⟩, hr⟩ := hr
        have hvk' := hvk
        obtain ⟨p', c', rfl, hc1', hc2', _⟩ := hvk'
        have hlt : k < H.len := by have := hk.out; simp only [Hg.len] at this; omega
        have hds : d + (K.size + R.size + 1) ≤ H.size := by have := hd.out; simp only [Hg.size] at this; omega
        have hbl := World.block_lt_of_cell? _ _ c1
        simp only at hbl
        have hba := (Below.refl wr.heap.size wr).alloc (Nat.le_refl _) (.cells #[.int .i64 l, .slice p' K.len c'] 43)
        have HW := Lib.hid (And.intro (hb.alloc hb.size (.cells #[.int .i64 l, .slice p' K.len c'] 43)) (And.intro (hr.below hba) (hvk.below hba)))
        have hsz := hb.size
        clear hR HR hr hvk hba hb
        go_wp2_with fail
        refine (HI.out l K _ _ (by omega) (by omega) HW.out.2.2).mono ?_
        rintro e w1 ⟨rfl, hb1⟩
        have HB1 := Lib.hid hb1
        clear hb1
        go_wp2_with fail
        go_roundw
        case rel =>
          refine ⟨k + 1, d + (K.size + 1), R, by go_num, by go_num, Lib.hid (by have := hk.out; simp only [Hg.len] at this; omega), Lib.hid (by have := hd.out; simp only [Hg.size] at this; omega), HW.out.1.trans (HB1.out.mono (by simp; omega)), fun _ => ⟨b, o, rfl, ?_⟩⟩
          rw [show o + (k + 1) * 2 = o + k * 2 + 2 from by omega]; exact HW.out.2.1.below HB1.out
        case measure => simp [intOf]; omega

theorem size01_ok (s : Int) (H : Hg) (v : Value) (w : World) (hs : H.size ≤ 1000000) (hv : IsH w v H) :
    Calls Tryd.prog 40 #[.agg #[.int .i64 s, v]] w fun e w' => e = .returned (.int .i64 ((H.size : Int) + 1)) ∧ Below w.heap.size w w' :=
  size01_any _ s H v w (Nat.lt_succ_self _) hs hv
end

section
open Go.RowKit Go.Shelf
attribute [local go_sem] Oper.semAt_some fwd fwf

theorem subs_path : ∀ (h : Hg) (path : List Nat) (i : Nat) (x : List Nat × Int × Hg), x ∈ h.subs path i → x.1.length ≤ path.length + h.size
  | .nil, _, _, _, hx => by simp [Hg.subs] at hx
  | .cons l k r, path, i, x, hx => by
    simp only [Hg.subs, List.mem_cons, List.mem_append] at hx
    rcases hx with rfl | hx | hx
    · simp [Hg.size]
    · have := subs_path k _ _ x hx
      simp only [List.length_append, List.length_cons, List.length_nil] at this
      simp only [Hg.size]; omega
    · have := subs_path r _ _ x hx
      simp only [Hg.size]; omega
theorem tsubs_path (s : Int) (K : Hg) (x : List Nat × Int × Hg) (hx : x ∈ tsubs s K) : x.1.length ≤ K.size := by
  simp only [tsubs, List.mem_cons] at hx
  rcases hx with rfl | hx
  · simp
  · have := subs_path K [] 0 x hx
    simpa using this
set_option maxRecDepth 100000 in
set_option maxHeartbeats 2000000 in
theorem tsize_ok (s : Int) (vk : Value) (K : Hg) (w : World) (hwf : (Lit.int .i64 s).wf = true) (hv : IsH w vk K) (hs : K.size ≤ 1000000) :
    Calls Tryd.prog 68 #[.agg #[.int .i64 s, vk]] w fun e w' => e = .returned (.int .i64 ((K.size : Int) + 1)) ∧ Below w.heap.size w w' := by
  have hbw : Below w.heap.size w ((w.alloc (.cells #[.int .i64 s, vk] 43)).alloc (.cells #[.int .i64 0] 3)) := ((Below.refl _ w).alloc (Nat.le_refl _) _).alloc (by simp) _
  have hB0 : Blk ((w.alloc (.cells #[.int .i64 s, vk] 43)).alloc (.cells #[.int .i64 0] 3)) w.heap.size 43 #[.int .i64 s, vk] := (Blk.new w _ _).alloc _
  have hBN : Blk ((w.alloc (.cells #[.int .i64 s, vk] 43)).alloc (.cells #[.int .i64 0] 3)) (w.heap.size + 1) 3 #[.int .i64 0] := by
    have := Blk.new (w.alloc (.cells #[.int .i64 s, vk] 43)) 3 #[.int .i64 0]
    rwa [World.size_alloc] at this
  have HN := Lib.hid (subtrees_any s vk K _ (hv.below hbw))
  have hIt := subs_iter s K vk (w.heap.size + 1 + 1) w (fun c => c = w.heap.size + 1) (((w.alloc (.cells #[.int .i64 s, vk] 43)).alloc (.cells #[.int .i64 0] 3)).alloc (.cells #[.int .i64 s, vk] 43)) hwf hv
    (hbw.alloc (by simp; omega) _) (fun c hc => by omega) (by have := Blk.new ((w.alloc (.cells #[.int .i64 s, vk] 43)).alloc (.cells #[.int .i64 0] 3)) 43 #[.int .i64 s, vk]; rwa [World.size_alloc, World.size_alloc] at this) hs
  have HIt := Lib.hid hIt
  have HBN := Lib.hid (hBN.alloc (.cells #[.int .i64 s, vk] 43))
  have HBL := Lib.hid (hbw.alloc (by simp; omega) (.cells #[.int .i64 s, vk] 43))
  have HTL := Lib.hid (tsubs_length s K)
  obtain ⟨p, c, rfl, hc1, hc2, hrow⟩ := hv
  clear hrow hbw hB0 hBN hIt
  refine Calls.of_callsIn (ro := none) (m := 0) ?_
  refine callsIn_of_wp_marks Tryd.func68 rfl trivial ?_ rfl
  simp only [Tryd.ntmps68, List.size_toArray, List.length_cons, List.length_nil, Nat.reduceAdd, Nat.reduceSub, Array.replicate_succ, Array.replicate_zero, List.push_toArray, List.append_toArray, List.nil_append, List.cons_append]
  gi_wp2_with fail
  refine (CallsIn.of_calls HN.out).mono ?_
  rintro e w1 ⟨rfl, rfl⟩
  gi_wp2_with fail
  refine rf_outer (gf := 108) (lb := #[.pointer (some ⟨w.heap.size + 1 + 1, 0, none⟩)]) (Enc := TEnc w) rfl (enters_of Tryd.func108 (by kernel_rfl) rfl) ?_ (tsubs s K) (fun c => c = w.heap.size + 1) ?_
    (fun k C W => C (w.heap.size + 1) ∧ Blk W (w.heap.size + 1) 3 #[.int .i64 (k : Int)]) (fun _ _ _ => False)
    (fun k a' C W => C (w.heap.size + 1) ∧ Blk W (w.heap.size + 1) 3 #[.int .i64 (k : Int)] ∧ ∃ (x : List Nat × Int × Hg) (pa : Option Addr) (pc : Nat) (u7 : Value), (tsubs s K)[k]? = some x ∧
      a' = { tmps := #[.agg #[.int .i64 s, .slice p K.len c], .pointer (some ⟨w.heap.size, 0, none⟩), .int .i64 0, .pointer (some ⟨w.heap.size + 1, 0, none⟩), .agg #[.int .i64 s, .slice p K.len c], .func (.func 108) #[] #[.pointer (some ⟨w.heap.size + 1 + 1, 0, none⟩)], .slice pa x.1.length pc, u7, undef, undef, undef], defers := [] })
    (fun k C W W' h hk => ⟨h.1, h.2.kp hk h.1⟩) (fun c C W W' h _ => h)
    (fun L k a' C W W' hL hn h hk => ⟨h.1, h.2.1.kp hk (fun e => hn (e ▸ h.1)), h.2.2⟩)
    HIt.out ⟨rfl, HBN.out⟩ ?_ ?_ ?_ ?_
  · rintro k x vals W ⟨pv, vk, rfl, _⟩
    rfl
  · intro c hc
    subst hc
    simp
  · rintro L k x vals C W K' hx ⟨pv, vk2, rfl, hwf2, hvk2, _, hpos⟩ hj hg hn hr hK
    obtain ⟨pa, pc, rfl, _⟩ := hpos
    have HJ := Lib.hid hj
    have HG := Lib.hid hg
    have HK := Lib.hid hK
    have HX := Lib.hid hx
    clear hj hg hK hx hvk2
    gi_wp2
    exact HK.out _ C W (Grow.refl HG.out.lt) ⟨HJ.out.1, HJ.out.2, x, pa, pc, .agg #[.int .i64 x.2.1, vk2], HX.out, by simp⟩
  · rintro L k a' C W hlt ⟨hC, hb, x, pa, pc, u7, hx, rfl⟩ hg hn hr
    have x1 : W.cell? ⟨w.heap.size + 1, 0, none⟩ = some (.int .i64 (k : Int)) := by rw [hb.cell]; rfl
    have x2 := hb.frozen 0
    have l1 := hb.lt
    rw [tsubs_length] at hlt
    have hxp := tsubs_path s K x (List.mem_of_getElem? hx)
    gi_wp2_with fail
    refine ⟨C, (Grow.refl hg.lt).setCell (p := ⟨w.heap.size + 1, 0, none⟩) hC _, hC, ?_⟩
    have := hb.set_ 0 (.int .i64 ((k : Int) + 1))
    simpa using this
  · rintro D C W hg ⟨hC, hb⟩ hD hDC hDs
    have x1 : W.cell? ⟨w.heap.size + 1, 0, none⟩ = some (.int .i64 ((K.size : Int) + 1)) := by rw [hb.cell, HTL.out]; simp
    have HD := Lib.hid hD
    have HG := Lib.hid hg
    clear hD hg hb
    gi_wp2_with fail
    refine ⟨by simp, .inl ⟨_, _, rfl, run_takeDeferred HD.out, ?_⟩⟩
    refine ⟨_, results_tmp rfl _ _ _, by simp, ?_⟩
    refine HBL.out.trans ((HG.out.below (by simp; omega) (fun c hc => by omega)).trans ?_)
    exact ((Kp.refl (fun k => k < w.heap.size) W).putObj (fun h => by simp at hDs; omega) _).below (by have := HG.out.kp.size; simp at this; omega) (fun k hk => hk)
  · rintro D c' C W hg h
    exact h.elim
end

section
open Go.RowKit Go.Shelf

/-- Where an integer stands first, or -1. -/
def idxI : List Int → Int → Int
  | [], _ => -1
  | x :: l, n => if n = x then 0 else (if idxI l n = -1 then -1 else idxI l n + 1)
theorem idxI_ge (l : List Int) (n : Int) : -1 ≤ idxI l n ∧ (idxI l n = -1 ↔ n ∉ l) := by
  induction l with
  | nil => simp [idxI]
  | cons x l ih =>
    unfold idxI
    split
    · rename_i h; subst h; simp
    · rename_i h
      split
      · rename_i h2; simp only [List.mem_cons, not_or]; exact ⟨by omega, fun _ => ⟨h, ih.2.1 h2⟩, fun _ => trivial⟩
      · rename_i h2
        refine ⟨by omega, fun h3 => by omega, fun h3 => ?_⟩
        simp only [List.mem_cons, not_or] at h3
        exact absurd (ih.2.2 h3.2) h2
theorem idxI_hit : ∀ {l : List Int} {n : Int} {k : Nat}, l[k]? = some n → (∀ j, j < k → l[j]? ≠ some n) → idxI l n = (k : Int)
  | [], n, k, h, _ => by simp at h
  | x :: l, n, 0, h, _ => by
    simp at h; subst h; simp [idxI]
  | x :: l, n, k + 1, h, ha => by
    have h0 : n ≠ x := fun e => ha 0 (by omega) (by simp [e])
    have ih := idxI_hit (l := l) (n := n) (k := k) (by simpa using h) (fun j hj => by have := ha (j + 1) (by omega); simpa using this)
    unfold idxI
    rw [if_neg h0, if_neg (by omega), ih]; simp
theorem idxI_none {l : List Int} {n : Int} (h : ∀ j, j < l.length → l[j]? ≠ some n) : idxI l n = -1 :=
  (idxI_ge l n).2.2 (fun hm => by
    obtain ⟨j, hj, e⟩ := List.getElem_of_mem hm
    exact h j hj (by rw [List.getElem?_eq_getElem hj, e]))

set_option maxRecDepth 100000 in
set_option maxHeartbeats 1000000 in
theorem indexI_ok (l : List Int) (n : Int) (v : Value) (w : World) (hv : IsInts w v l) :
    Calls Tryd.prog 98 #[v, .int .i64 n] w fun e w' => e = .returned (.int .i64 (idxI l n)) ∧ Below w.heap.size w w' := by
  obtain ⟨p, c, rfl, hc1, hc2, hcell⟩ := hv
  unfold maxLen at hc2
  have HC := Lib.hid hcell
  clear hcell
  go_enter Tryd.func98, Tryd.ntmps98
  go_wp2_with fail
  go_loopw [8] (fun iv wr => ∃ k : Nat, iv = .int .i64 (k : Nat) ∧ k ≤ l.length ∧ Hid (∀ j, j < k → l[j]? ≠ some n) ∧ Hid (Below w.heap.size w wr)) (fun iv _ => l.length - (intOf iv).toNat)
  case atStart => exact ⟨0, rfl, by omega, Lib.hid (fun j hj => by omega), Lib.hid (Below.refl _ _)⟩
  case round =>
    rename World => wr
    obtain ⟨k, rfl, hk, HA, HB⟩ := hrel
    by_cases hlt : k < l.length
    · obtain ⟨r, hr⟩ : ∃ r, l[k]? = some r := ⟨_, List.getElem?_eq_getElem hlt⟩
      obtain ⟨b, o, rfl, hcl⟩ := HC.out (fun h => by simp [h] at hlt)
      have c1 := cell_later HB.out (hcl k r hr)
      have hbl := World.block_lt_of_cell? _ _ c1
      simp only at hbl
      have hlt1 : (k : Int) < (l.length : Int) := by omega
      have HR := Lib.hid hr
      clear hr hcl
      by_cases hx : n = r
      · subst hx
        have e1 : (n == n) = true := by simp
        have HI : Hid (idxI l n = (k : Int)) := Lib.hid (idxI_hit HR.out HA.out)
        go_wp2_with fail
        (try go_quiet (fail))
        (try go_wp2_with fail)
        go_ret
        exact ⟨by rw [HI.out] <;> rfl, by first | exact HB.out | exact below_drewN HB.out _⟩
      · have e1 : (n == r) = false := by simpa using hx
        have HA2 : Hid (∀ j, j < k + 1 → l[j]? ≠ some n) := Lib.hid (fun j hj => by
          rcases Nat.lt_or_ge j k with h | h
          · exact HA.out j h
          · have : j = k := by omega
            subst this
            rw [HR.out]
            intro e
            exact hx (Option.some.inj e).symm)
        clear hx
        go_wp2_with fail
        (try go_quiet (fail))
        (try go_wp2_with fail)
        go_roundw
        case rel => exact ⟨k + 1, by go_num, by omega, HA2, Lib.hid (by first | exact HB.out | exact below_drewN HB.out _)⟩
        case measure => simp [intOf]; omega
    · have hge : l.length ≤ k := by omega
      have HI : Hid (idxI l n = -1) := Lib.hid (idxI_none (fun j hj => HA.out j (by omega)))
      clear hlt
      go_wp2_with fail
      go_ret
      exact ⟨by rw [HI.out] <;> rfl, HB.out⟩

theorem idx_inB (l : List Int) (n : Int) : decide (0 ≤ idxI l n) = inB l n := by
  rw [Bool.eq_iff_iff, decide_eq_true_eq, inB_iff]
  have h := idxI_ge l n
  constructor
  · intro h1
    exact Classical.byContradiction fun hn => by have := h.2.2 hn; omega
  · intro hm
    have : idxI l n ≠ -1 := fun e => h.2.1 e hm
    omega

set_option maxRecDepth 100000 in
theorem containsI_ok (l : List Int) (n : Int) (v : Value) (w : World) (hv : IsInts w v l) :
    Calls Tryd.prog 69 #[v, .int .i64 n] w fun e w' => e = .returned (.bool (inB l n)) ∧ Below w.heap.size w w' := by
  have HX := Lib.hid (indexI_ok l n v w hv)
  obtain ⟨p, c, rfl, _⟩ := hv
  go_enter Tryd.func69, Tryd.ntmps69
  go_wp2_with fail
  generalize hi : idxI l n = z at HX
  have HZ := Lib.hid hi
  clear hi
  refine HX.out.mono ?_
  rintro e w1 ⟨rfl, hb⟩
  go_wp2_with fail
  go_ret
  exact ⟨ret_bool (by rw [← idx_inB, HZ.out]), hb⟩
end

end Go.Proofs.YtopineheelkcmaaDoor
