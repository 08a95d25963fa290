/- ref01.Replace. -/
import Derived.Test.YtopineheelkcmaaDoorMFind
namespace Go.Proofs.YtopineheelkcmaaDoor
open Go.RowKit Go.Shelf

theorem cl_set2 (D D' : DL) (l l' : Int) (K K' : Hg) (kv v : Value) : ((dcells (D ++ (l, K, kv) :: D')).set (D.length * 2) (.int .i64 l')).set (D.length * 2 + 1) v = dcells (D ++ (l', K', v) :: D') := by
  have e : ∀ x : Int × Hg × Value, dcells (D ++ x :: D') = dcells D ++ (.int .i64 x.1 :: x.2.2 :: dcells D') := fun x => by simp [dcells]
  rw [e, e, List.set_append_right _ _ (by rw [dcells_length]; omega), dcells_length, Nat.sub_self, List.set_append_right _ _ (by rw [dcells_length]; omega), dcells_length, show D.length * 2 + 1 - D.length * 2 = 1 by omega]
  rfl
theorem dl_at (D D' : DL) (l : Int) (K : Hg) (kv : Value) : (dcells (D ++ (l, K, kv) :: D'))[D.length * 2]? = some (.int .i64 l) ∧ (dcells (D ++ (l, K, kv) :: D'))[D.length * 2 + 1]? = some kv := by
  have e : dcells (D ++ (l, K, kv) :: D') = dcells D ++ (.int .i64 l :: kv :: dcells D') := by simp [dcells]
  rw [e]
  constructor
  · rw [List.getElem?_append_right (by rw [dcells_length]; omega), dcells_length, Nat.sub_self]; rfl
  · rw [List.getElem?_append_right (by rw [dcells_length]; omega), dcells_length, show D.length * 2 + 1 - D.length * 2 = 1 by omega]; rfl
theorem dl_split : ∀ (D : DL) (i : Nat) (k : Int × Hg), (dapp D .nil).nth i = some k → ∃ D1 kv D2, D = D1 ++ (k.1, k.2, kv) :: D2 ∧ D1.length = i
  | [], _, _, h => by simp [dapp, Hg.nth] at h
  | (l, K, kv) :: D, 0, k, h => by
    simp only [dapp, Hg.nth, Option.some.injEq] at h
    subst h
    exact ⟨[], kv, D, rfl, rfl⟩
  | x :: D, i + 1, k, h => by
    obtain ⟨D1, kv, D2, e1, e2⟩ := dl_split D i k h
    exact ⟨x :: D1, kv, D2, by rw [e1]; rfl, by simp [e2]⟩
theorem dapp_upd : ∀ (D1 D2 : DL) (x y : Int × Hg × Value), dapp (D1 ++ y :: D2) .nil = (dapp (D1 ++ x :: D2) .nil).upd D1.length (y.1, y.2.1)
  | [], _, _, _ => rfl
  | z :: D1, D2, x, y => by
    simp only [List.cons_append, dapp, List.length_cons, Hg.upd]
    rw [dapp_upd D1 D2 x y]
theorem below_alx {w : World} (o : Obj) : Below w.heap.size w (w.alloc o) := (Below.refl _ w).alloc (Nat.le_refl _) _
theorem isInts_tail {w : World} {b o : Nat} {c : Nat} {x : Int} {l : List Int} (h : IsInts w (.slice (some ⟨b, o, none⟩) (l.length + 1) c) (x :: l)) : IsInts w (.slice (if c = 1 then some ⟨b, o, none⟩ else some ⟨b, o + 1, none⟩) l.length (c - 1)) l := by
  obtain ⟨p, c', e, h1, h2, h3⟩ := h
  simp only [List.length_cons, Value.slice.injEq] at e
  obtain ⟨rfl, _, rfl⟩ := e
  obtain ⟨b', o', e, hc⟩ := h3 (by simp)
  simp only [Option.some.injEq, Addr.mk.injEq, and_true] at e
  obtain ⟨rfl, rfl⟩ := e
  simp only [List.length_cons] at h1
  refine ⟨_, c - 1, rfl, by omega, by omega, fun hne => ⟨b, o + 1, ?_, fun i y hy => ?_⟩⟩
  · rw [if_neg]
    intro h
    have : l = [] := List.eq_nil_of_length_eq_zero (by omega)
    exact hne this
  · have := hc (i + 1) y (by simpa using hy)
    rw [show o + 1 + i = o + (i + 1) by omega]; exact this

set_option maxRecDepth 100000 in
set_option maxHeartbeats 8000000 in
theorem replace_any (N : Nat) : ∀ (pos : List Int) (pv : Value) (s : Int) (K : Hg) (vk : Value) (xs : Int) (X : Hg) (vx : Value) (y : Int × Hg) (wB w : World), Below wB.heap.size wB w → pos.length < N → IsInts w pv pos → (Lit.int .i64 s).wf = true → IsH wB vk K → K.size ≤ 1000000 → (Lit.int .i64 xs).wf = true → IsH wB vx X →
    getT pos (s, K) = some y →
    Calls Tryd.prog 44 #[.agg #[.int .i64 s, vk], pv, .agg #[.int .i64 xs, vx]] w fun e w' => ∃ r, e = .returned r ∧ IsTS (fun c => c < wB.heap.size ∨ w.heap.size ≤ c) w' r (putT pos (s, K) (xs, X)) ∧ Below w.heap.size w w' := by
  induction N with
  | zero => intro pos pv s K vk xs X vx y wB w _ hN; omega
  | succ N ih =>
    intro pos pv s K vk xs X vx y wB w hbB hN hp hwf hv hsz hwx hx hg
    have hbw : Below w.heap.size w (((w.alloc (.cells #[.int .i64 s, vk] 43)).alloc (.cells #[.int .i64 xs, vx] 43)).alloc (.cells #[.int .i64 0, .slice none 0 0] 43)) := (((Below.refl _ w).alloc (Nat.le_refl _) _).alloc (by simp) _).alloc (by simp; omega) _
    have hBz := hbB.size
    have HX := Lib.hid hx
    have HH := Lib.hid hv
    have HBW := Lib.hid hbw
    have HBB := Lib.hid hbB
    have HB0 := Lib.hid (blk_0 w 43 #[.int .i64 s, vk] (.cells #[.int .i64 xs, vx] 43) (.cells #[.int .i64 0, .slice none 0 0] 43))
    have HB1 := Lib.hid (blk_1 w 43 (.cells #[.int .i64 s, vk] 43) #[.int .i64 xs, vx] (.cells #[.int .i64 0, .slice none 0 0] 43))
    have HB2 := Lib.hid (blk3_2 w (.cells #[.int .i64 s, vk] 43) (.cells #[.int .i64 xs, vx] 43) 43 #[.int .i64 0, .slice none 0 0])
    have HI := Lib.hid ih
    have HP := Lib.hid hp
    have HWF := Lib.hid hwf
    have HWX := Lib.hid hwx
    obtain ⟨px, cx, rfl, hx1, hx2, _⟩ := hx
    obtain ⟨pp, pc, rfl, hp1, hp2, hpc⟩ := hp
    have hv' := hv
    obtain ⟨p, c, rfl, hc1, hc2, hrow⟩ := hv'
    have r0 := HB2.out.frozen 0
    have r1 := HB2.out.frozen 1
    cases pos with
    | nil =>
      clear hg ih hrow hpc hbw hwf hwx hv hbB
      go_enter Tryd.func44, Tryd.ntmps44
      go_wp2_with fail
      have hbf : Below w.heap.size w (((w.alloc (.cells #[.int .i64 s, .slice p K.len c] 43)).alloc (.cells #[.int .i64 xs, .slice px X.len cx] 43)).alloc (.cells #[.int .i64 xs, .slice px X.len cx] 43)) := (((Below.refl _ w).alloc (Nat.le_refl _) _).alloc (by simp) _).alloc (by simp; omega) _
      refine bodyPost_ret (v := .agg #[.int .i64 xs, .slice px X.len cx]) (results_cell_row rfl _ _ (w.heap.size + 1 + 1) 43 _ (0, 0) _ rfl (blk3_2 w _ _ _ _) Tryd.underlying43 rfl Tryd.infoTreeS) rfl ⟨_, rfl, ⟨_, rfl, HWX.out, ?_⟩, hbf⟩
      exact (HX.out.isHS.kp (Kp.of_below (HBB.out.trans (hbf.mono hBz)) (fun c _ h => h))).mono (fun c _ h => .inl h)
    | cons i ps =>
      obtain ⟨hi0, k, e1, e2⟩ := getT_step hg
      obtain ⟨n, rfl⟩ : ∃ n : Nat, i = (n : Int) := ⟨i.toNat, by omega⟩
      simp only [Int.toNat_natCast] at e1
      have hnK := Hg.nth_lt e1
      have hlenK := Hg.len_le_size K
      have hks := Hg.nth_size e1
      obtain ⟨p', c', epc, _, _, hrowS⟩ := hv.isHS
      cases epc
      obtain ⟨b, o, rfl, hrS⟩ := hrowS (fun h => by rw [h] at e1; cases e1)
      obtain ⟨D, eD, lD, iD, cD, oD⟩ := hg_list K o hrS
      rw [← eD] at e1
      obtain ⟨D1, kv, D2, rfl, hD1⟩ := dl_split D n k e1
      subst hD1
      obtain ⟨hwk, hkv⟩ := iD (k.1, k.2, kv) (by simp)
      simp only at hwk hkv
      have hbl : b < wB.heap.size := by
        cases K with
        | nil => simp [Hg.len] at hnK
        | cons a b c => rw [RowS.cons_iff] at hrS; exact hrS.1
      have hnews : ∀ j u, (dcells (D1 ++ (k.1, k.2, kv) :: D2))[j]? = some u → ((((w.alloc (.cells #[.int .i64 s, .slice (some ⟨b, o, none⟩) K.len c] 43)).alloc (.cells #[.int .i64 xs, .slice px X.len cx] 43)).alloc (.cells #[.int .i64 0, .slice none 0 0] 43)).alloc (.cells #[] 43)).cell? ((⟨b, o, none⟩ : Addr).add j) = some u := fun j u hu => by
        have e : ((⟨b, o, none⟩ : Addr).add j) = ⟨b, o + j, none⟩ := by unfold Addr.add; split <;> simp_all
        rw [e]
        exact cell_later (hbB.trans ((hbw.alloc (by simp; omega) _).mono hBz)) (cD j u hu)
      have HNW := Lib.hid hnews
      obtain ⟨i0, hi, hz0, hz1, hz2⟩ := info_parts Tryd.infoTree
      have HIN := Lib.hid hi
      obtain ⟨bp, op, rfl, hcp⟩ := hpc (by simp)
      have HCP := Lib.hid (hcp 0 (D1.length : Int) rfl)
      have HID := Lib.hid iD
      have HOD := Lib.hid oD
      have HED := Lib.hid eD
      have HE2 := Lib.hid e2
      have HPT := Lib.hid (show putT ((D1.length : Int) :: ps) (s, K) (xs, X) = (s, K.upd D1.length (putT ps k (xs, X))) by
        simp only [putT, Int.toNat_natCast]; rw [← eD, e1])
      clear ih hrow hpc hcp hbw hwf hwx hbB hnews hi hrowS hrS cD iD oD eD e1 hg hi0 e2
      go_enter Tryd.func44, Tryd.ntmps44
      go_wp2_with (at_builtin; refine wpList_append_own_at _ rfl (.tmp 12) (.tmp 14) 41 rfl (w.heap.size + 1 + 1 + 1) 43 i0 _ 2 32 Tryd.underlying41 HIN.out hz0 hz1 hz2 rfl (by decide) (.slice (some ⟨w.heap.size + 1 + 1 + 1, 0, none⟩) 0 0) 0 [] rfl ⟨rfl, .inr ⟨w.heap.size + 1 + 1 + 1, 0, #[], rfl, Nat.le_refl _, ?q1, Nat.le_refl _, by simp [maxLen], rfl, rfl⟩⟩ ⟨b, o, none⟩ K.len c (dcells (D1 ++ (k.1, k.2, kv) :: D2)) rfl (by rw [dcells_length, lD]) HNW.out HOD.out (by simp only [maxLen]; omega) (by omega) (by simp) ?_)
      case q1 =>
        have := World.alloc_heap_new (((w.alloc (.cells #[.int .i64 s, .slice (some ⟨b, o, none⟩) K.len c] 43)).alloc (.cells #[.int .i64 xs, .slice px X.len cx] 43)).alloc (.cells #[.int .i64 0, .slice none 0 0] 43)) (.cells #[] 43)
        simp only [World.size_alloc] at this
        exact this
      intro v' w2 hown2 hgr2 _ _
      have hown2 : w2.ownsRow (w.heap.size + 1 + 1 + 1) 43 2 v' K.len (dcells (D1 ++ (k.1, k.2, kv) :: D2)) := by
        first
          | exact hown2
          | (rw [Nat.zero_add] at hown2; exact hown2)
          | (rw [List.nil_append] at hown2; exact hown2)
      have hb2 : Below w.heap.size w w2 := (HBW.out.alloc (by simp; omega) _).grown hgr2 (by simp; omega) (fun j e => by simp [Value.ownBlock] at e; omega)
      have hkp2 : Kp (fun c => c ≠ w.heap.size + 1 + 1 + 1) ((((w.alloc (.cells #[.int .i64 s, .slice (some ⟨b, o, none⟩) K.len c] 43)).alloc (.cells #[.int .i64 xs, .slice px X.len cx] 43)).alloc (.cells #[.int .i64 0, .slice none 0 0] 43)).alloc (.cells #[] 43)) w2 := (Kp.refl _ _).grown hgr2 (fun k e h => by simp [Value.ownBlock] at e; exact absurd e.symm h)
      have hz2 : w.heap.size + 1 + 1 + 1 + 1 ≤ w2.heap.size := by have := hkp2.size; simpa using this
      have hA := (HB0.out.alloc (.cells #[] 43)).kp hkp2 (by omega)
      have hB := (HB1.out.alloc (.cells #[] 43)).kp hkp2 (by omega)
      have hC := (HB2.out.alloc (.cells #[] 43)).kp hkp2 (by omega)
      have HO2 := Lib.hid hown2
      rcases hown2.2 with ⟨rfl, hn0⟩ | ⟨g, cap, cur, rfl, hbg, _, hcap, hmax, _, _⟩
      · omega
      have hgl := (hown2.lt g rfl).2
      have hI := isInts_tail (HP.out.below hb2)
      obtain ⟨q, d, hI2, hcase⟩ : ∃ q d, IsInts w2 (.slice q ps.length d) ps ∧ ((pc = 1 ∧ q = some ⟨bp, op, none⟩ ∧ d = 0 ∧ ps = []) ∨ (¬ pc = 1 ∧ q = some ⟨bp, op + 1, none⟩ ∧ d = pc - 1)) := by
        by_cases h : pc = 1
        · subst h
          exact ⟨_, _, hI, .inl ⟨rfl, by simp, rfl, List.eq_nil_of_length_eq_zero (by simp only [List.length_cons] at hp1; omega)⟩⟩
        · exact ⟨_, _, hI, .inr ⟨h, by simp [h], rfl⟩⟩
      have HCALL := Lib.hid (HI.out ps (.slice q ps.length d) k.1 k.2 kv xs X (.slice px X.len cx) y wB w2.drew (HBB.out.trans (hb2.mono hBz)).drew (by simp only [List.length_cons] at hN; omega) (hI2.below (Below.refl _ _).drew) hwk hkv.isH (by omega) HWX.out HX.out HE2.out)
      generalize putT ps k (xs, X) = Z at HPT HCALL
      have HKV := Lib.hid hkv
      obtain ⟨pk, ck, rfl, _, _, _⟩ := hkv
      have a0 : w2.cell? ⟨w.heap.size + 1, 0, none⟩ = some (.int .i64 xs) := by rw [hB.cell]; rfl
      have a1 : w2.cell? ⟨w.heap.size + 1, 1, none⟩ = some (.slice px X.len cx) := by rw [hB.cell]; rfl
      have a2 : w2.cell? ⟨bp, op, none⟩ = some (.int .i64 (D1.length : Int)) := by have := cell_later hb2 HCP.out; simpa using this
      have a3 : w2.cell? ⟨g, D1.length * 2, none⟩ = some (.int .i64 k.1) := by rw [hown2.cellAt _ (by omega)]; exact (dl_at D1 D2 k.1 k.2 _).1
      have a4 : w2.cell? ⟨g, D1.length * 2 + 1, none⟩ = some (.slice pk k.2.len ck) := by rw [hown2.cellAt _ (by omega)]; exact (dl_at D1 D2 k.1 k.2 _).2
      have hgb : bp < w.heap.size := World.block_lt_of_cell? _ _ HCP.out
      have hbpl := World.block_lt_of_cell? _ _ a2
      simp only at hbpl
      have n0 : ¬ g = w.heap.size := by omega
      have n1 : ¬ w.heap.size = g := by omega
      have n2 : ¬ g = w.heap.size + 1 + 1 := by omega
      have n3 : ¬ w.heap.size + 1 + 1 = g := by omega
      have n4 : (D1.length : Int) < (K.len : Int) := by omega
      have n5 : (0 : Int) ≤ (D1.length : Int) := by omega
      have HA := Lib.hid hA
      have HC := Lib.hid hC
      have HB2' := Lib.hid hb2
      clear hA hB hC hb2 hkp2 hgr2 hown2 hI
      have hp3 : ps.length + 1 ≤ pc := by simpa using hp1
      have n6 : (1 : Int) ≤ (ps.length : Int) + 1 := by omega
      have n7 : (ps.length : Int) + 1 ≤ (pc : Int) := by omega
      have n8 : 1 ≤ ps.length + 1 := by omega
      have n9 : (1 : Int) ≤ ((ps.length + 1 : Nat) : Int) := by omega
      have hbg : ¬ bp = g := fun h => by subst h; exact absurd hgb (by omega)
      have hs0 : ∀ W, Below w2.heap.size w2 W → W.cell? ⟨bp, op, none⟩ = some (.int .i64 (D1.length : Int)) ∧ W.cell? ⟨w.heap.size + 1, 0, none⟩ = some (.int .i64 xs) ∧ W.cell? ⟨w.heap.size + 1, 1, none⟩ = some (.slice px X.len cx) := fun W hW => ⟨cell_later hW a2, cell_later hW a0, cell_later hW a1⟩
      have hs1 : ∀ W, Below w2.heap.size w2 W → ∀ u v, ((W.setCell ⟨g, D1.length * 2, none⟩ u).setCell ⟨g, D1.length * 2 + 1, none⟩ v).cell? ⟨bp, op, none⟩ = some (.int .i64 (D1.length : Int)) ∧ ((W.setCell ⟨g, D1.length * 2, none⟩ u).setCell ⟨g, D1.length * 2 + 1, none⟩ v).cell? ⟨w.heap.size + 1, 0, none⟩ = some (.int .i64 xs) ∧ ((W.setCell ⟨g, D1.length * 2, none⟩ u).setCell ⟨g, D1.length * 2 + 1, none⟩ v).cell? ⟨w.heap.size + 1, 1, none⟩ = some (.slice px X.len cx) := fun W hW u v => by
        obtain ⟨x1, x2, x3⟩ := hs0 W hW
        have hk : Kp (fun c => c ≠ g) W ((W.setCell ⟨g, D1.length * 2, none⟩ u).setCell ⟨g, D1.length * 2 + 1, none⟩ v) := ((Kp.refl _ _).setCell (p := ⟨g, D1.length * 2, none⟩) (fun h => absurd rfl h) u).setCell (p := ⟨g, D1.length * 2 + 1, none⟩) (fun h => absurd rfl h) v
        exact ⟨hk.cell x1 hbg, hk.cell x2 (fun h => by simp at h; omega), hk.cell x3 (fun h => by simp at h; omega)⟩
      have HS0 := Lib.hid hs0
      have HS1 := Lib.hid hs1
      have HPO := Lib.hid hbpl
      clear hs0 hs1
      have HTAIL := Lib.hid (show ∀ (w3 : World) (p3 : Option Addr) (c3 : Nat), Below w2.heap.size w2 w3 → (Lit.int .i64 Z.1).wf = true → IsHS (fun c => c < wB.heap.size ∨ w2.heap.size ≤ c) w3 (.slice p3 Z.2.len c3) Z.2 →
          (Blk ((w3.setCell ⟨g, D1.length * 2, none⟩ (.int .i64 Z.1)).setCell ⟨g, D1.length * 2 + 1, none⟩ (.slice p3 Z.2.len c3)) w.heap.size 43 #[.int .i64 s, .slice (some ⟨b, o, none⟩) K.len c] ∧
          Blk ((w3.setCell ⟨g, D1.length * 2, none⟩ (.int .i64 Z.1)).setCell ⟨g, D1.length * 2 + 1, none⟩ (.slice p3 Z.2.len c3)) (w.heap.size + 1 + 1) 43 #[.int .i64 0, .slice none 0 0]) ∧
          Below w.heap.size w ((w3.setCell ⟨g, D1.length * 2, none⟩ (.int .i64 Z.1)).setCell ⟨g, D1.length * 2 + 1, none⟩ (.slice p3 Z.2.len c3)) ∧
          IsHS (fun c => c < wB.heap.size ∨ w.heap.size + 1 + 1 + 1 ≤ c) ((w3.setCell ⟨g, D1.length * 2, none⟩ (.int .i64 Z.1)).setCell ⟨g, D1.length * 2 + 1, none⟩ (.slice p3 Z.2.len c3)) (.slice (some ⟨g, 0, none⟩) K.len cap) (K.upd D1.length Z) from fun w3 p3 c3 hb3 hwz hqz => by
        have ho3 := ownsRow_heap HO2.out (fun j hj => hb3.block j (HO2.out.lt j hj).2)
        have hst := (((ho3.stored (D1.length * 2) (.int .i64 Z.1)).1).stored (D1.length * 2 + 1) (.slice p3 Z.2.len c3)).1
        rw [cl_set2] at hst
        have hk : Kp (fun c => c ≠ g) w3 ((w3.setCell ⟨g, D1.length * 2, none⟩ (.int .i64 Z.1)).setCell ⟨g, D1.length * 2 + 1, none⟩ (.slice p3 Z.2.len c3)) := ((Kp.refl _ _).setCell (p := ⟨g, D1.length * 2, none⟩) (fun h => absurd rfl h) _).setCell (p := ⟨g, D1.length * 2 + 1, none⟩) (fun h => absurd rfl h) _
        have hz3 := hb3.size
        have hbA : Below w.heap.size w w3 := HB2'.out.trans (hb3.mono (by omega))
        refine ⟨⟨(HA.out.below hb3 (by omega)).kp hk n1, (HC.out.below hb3 (by omega)).kp hk n3⟩, (hbA.setCell (p := ⟨g, D1.length * 2, none⟩) (by simp; omega) _).setCell (p := ⟨g, D1.length * 2 + 1, none⟩) (by simp; omega) _, ?_⟩
        have hold : ∀ x ∈ D1 ++ (k.1, k.2, Value.slice pk k.2.len ck) :: D2, (Lit.int .i64 x.1).wf = true ∧ IsHS (fun c => c < wB.heap.size ∨ w.heap.size + 1 + 1 + 1 ≤ c) ((w3.setCell ⟨g, D1.length * 2, none⟩ (.int .i64 Z.1)).setCell ⟨g, D1.length * 2 + 1, none⟩ (.slice p3 Z.2.len c3)) x.2.2 x.2.1 := fun x hx =>
          ⟨(HID.out x hx).1, (((HID.out x hx).2.kp (Kp.of_below (HBB.out.trans (hbA.mono hBz)) (fun c _ h => h))).kp (hk.mono (fun c _ h => by omega))).mono (fun c _ h => .inl h)⟩
        have hdin : DIn (fun c => c < wB.heap.size ∨ w.heap.size + 1 + 1 + 1 ≤ c) ((w3.setCell ⟨g, D1.length * 2, none⟩ (.int .i64 Z.1)).setCell ⟨g, D1.length * 2 + 1, none⟩ (.slice p3 Z.2.len c3)) (D1 ++ (Z.1, Z.2, Value.slice p3 Z.2.len c3) :: D2) := fun x hx => by
          rcases List.mem_append.1 hx with h | h
          · exact hold x (List.mem_append.2 (.inl h))
          · rcases List.mem_cons.1 h with rfl | h
            · exact ⟨hwz, (hqz.kp (hk.mono (fun c _ h => by rcases h with h | h <;> omega))).mono (fun c _ h => by rcases h with h | h <;> first | exact .inl h | exact .inr (by omega))⟩
            · exact hold x (List.mem_append.2 (.inr (List.mem_cons_of_mem _ h)))
        have hlen : (D1 ++ (Z.1, Z.2, Value.slice p3 Z.2.len c3) :: D2).length = K.len := by
          rw [← lD]; simp
        have hup : dapp (D1 ++ (Z.1, Z.2, Value.slice p3 Z.2.len c3) :: D2) .nil = K.upd D1.length Z := by
          rw [dapp_upd D1 D2 (k.1, k.2, Value.slice pk k.2.len ck) (Z.1, Z.2, Value.slice p3 Z.2.len c3), HED.out]
        rw [← hup, ← hlen]
        rw [← hlen] at hst
        exact hdin.isHS hst (fun c _ h => h) (fun c h => .inr h))
      clear hI2
      rcases hcase with ⟨rfl, rfl, rfl, rfl⟩ | ⟨hpc1, rfl, rfl⟩
      all_goals
        go_wp2_with fail
        go_region_with (first
            | (go_at_call 44; refine HCALL.out.mono ?_; rintro e w3 ⟨r3, rfl, ⟨v3, rfl, hw3, hq3⟩, hb3⟩; have HQ3 := Lib.hid hq3; have HW3 := Lib.hid hw3; obtain ⟨p3, c3, rfl, _, _, _⟩ := hq3; have HB3 : Hid (Below w2.heap.size w2 w3) := Lib.hid ((Below.refl _ _).drew.trans (hb3.mono (Nat.le_refl _))); have ho3 := ownsRow_heap HO2.out (fun j hj => HB3.out.block j (HO2.out.lt j hj).2); have hz3 := HB3.out.size; have d0 : w3.cell? ⟨g, D1.length * 2, none⟩ = some (.int .i64 k.1) := (by rw [ho3.cellAt _ (by omega)]; exact (dl_at D1 D2 k.1 k.2 _).1); have d1 : w3.cell? ⟨g, D1.length * 2 + 1, none⟩ = some (.slice pk k.2.len ck) := (by rw [ho3.cellAt _ (by omega)]; exact (dl_at D1 D2 k.1 k.2 _).2); have d2 := ho3.frozenAt (D1.length * 2); have d3 := ho3.frozenAt (D1.length * 2 + 1); have d4 : g < w3.heap.size := (by omega); have d5 : w3.cell? ⟨bp, op, none⟩ = some (.int .i64 (D1.length : Int)) := cell_later HB3.out a2; have HO3 := Lib.hid ho3; clear ho3 hb3))
        all_goals
          obtain ⟨⟨t0, t1⟩, t2, t3⟩ := HTAIL.out w3 p3 c3 HB3.out HW3.out HQ3.out
          have HT1 := Lib.hid t1
          have HT2 := Lib.hid t2
          have HT3 := Lib.hid t3
          have x0 := t0.cell 0
          have x1 := t1.cell 0
          have x2 := t1.cell 1
          have x3 := t1.frozen 0
          have x4 := t1.frozen 1
          have x5 := t0.lt
          have x6 := t1.lt
          simp only [List.getElem?_toArray, List.getElem?_cons_zero, List.getElem?_cons_succ] at x0 x1 x2
          generalize ((w3.setCell ⟨g, D1.length * 2, none⟩ (.int .i64 Z.1)).setCell ⟨g, D1.length * 2 + 1, none⟩ (.slice p3 Z.2.len c3)) = W5 at *
          clear t0 t1 t2 t3 HCALL HTAIL HQ3 d0 d1 d2 d3 d5 a0 a1 a2 a3 a4
          go_wp2_with fail
          refine bodyPost_ret (v := .agg #[.int .i64 s, .slice (some ⟨g, 0, none⟩) K.len cap]) (results_cell_row rfl _ _ (w.heap.size + 1 + 1) 43 _ (0, 0) _ rfl ((HT1.out.set_ 0 _).set_ 1 _) Tryd.underlying43 rfl Tryd.infoTreeS) rfl ⟨_, rfl, ?_, (HT2.out.setCell (p := ⟨w.heap.size + 1 + 1, 0, none⟩) (by simp; omega) _).setCell (p := ⟨w.heap.size + 1 + 1, 1, none⟩) (by simp; omega) _⟩
          rw [HPT.out]
          refine ⟨_, rfl, HWF.out, ?_⟩
          have hlu : (K.upd D1.length Z).len = K.len := Hg.upd_len _ _ _
          exact (HT3.out.kp (((Kp.refl _ _).setCell (p := ⟨w.heap.size + 1 + 1, 0, none⟩) (fun h => by simp at h; omega) _).setCell (p := ⟨w.heap.size + 1 + 1, 1, none⟩) (fun h => by simp at h; omega) _)).mono (fun c _ h => by rcases h with h | h <;> first | exact .inl h | exact .inr (by omega))

end Go.Proofs.YtopineheelkcmaaDoor
