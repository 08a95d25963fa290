/- hedge.decode. -/
import Derived.Test.YthdaeblfehclcabEncodeTop
import Derived.Test.YthdaeblfehclcabSubs
import Derived.Maps.AppendAt
namespace Go.Proofs.Ythdaeblfehclcab
open Go.RowKit Go.Shelf

/-- No node has the label n. -/
def Hg.no (n : Int) : Hg → Prop
  | .nil => True
  | .cons l k r => l ≠ n ∧ k.no n ∧ r.no n

theorem ownsRow_heap {w w' : World} {base : Nat} {e : TypeId} {size : Nat} {v : Value} {n : Nat} {xs : List Value} (h : w.ownsRow base e size v n xs) (hh : ∀ g, v.ownBlock = some g → w'.heap[g]? = w.heap[g]?) : w'.ownsRow base e size v n xs := by
  refine ⟨h.1, ?_⟩
  rcases h.2 with hn | ⟨g, cap, cur, rfl, hb, hg, rest⟩
  · exact .inl hn
  · exact .inr ⟨g, cap, cur, rfl, hb, (hh g rfl).trans hg, rest⟩

/-- A list of nodes under way: label, kids, the kids' value. -/
abbrev DL := List (Int × Hg × Value)
def dcells (D : DL) : List Value := D.flatMap fun x => [.int .i64 x.1, x.2.2]
def dapp : DL → Hg → Hg
  | [], R => R
  | x :: D, R => .cons x.1 x.2.1 (dapp D R)
theorem dapp_snoc (D : DL) (x : Int × Hg × Value) (R : Hg) : dapp (D ++ [x]) R = dapp D (.cons x.1 x.2.1 R) := by
  induction D with
  | nil => rfl
  | cons y D ih => simp only [List.cons_append, dapp, ih]
theorem dapp_len (D : DL) (R : Hg) : (dapp D R).len = D.length + R.len := by
  induction D with
  | nil => simp [dapp]
  | cons y D ih => simp only [dapp, Hg.len, ih, List.length_cons]; omega
theorem dapp_no {n : Int} {D : DL} {R : Hg} (h : (dapp D R).no n) : R.no n := by
  induction D with
  | nil => exact h
  | cons y D ih => exact ih h.2.2
theorem dapp_size (D : DL) (R : Hg) : R.size + D.length ≤ (dapp D R).size := by
  induction D with
  | nil => simp [dapp]
  | cons y D ih => simp only [dapp, Hg.size, List.length_cons]; omega
theorem dcells_snoc (D : DL) (x : Int × Hg × Value) : dcells (D ++ [x]) = dcells D ++ [.int .i64 x.1, x.2.2] := by simp [dcells]
theorem dcells_length (D : DL) : (dcells D).length = D.length * 2 := by
  induction D with
  | nil => rfl
  | cons x D ih => simp only [dcells, List.flatMap_cons, List.length_append, List.length_cons, List.length_nil] at *; omega

/-- The kids of a list of nodes under way lie in S. -/
def DIn (S : Nat → Prop) (w : World) (D : DL) : Prop := ∀ x ∈ D, (Lit.int .i64 x.1).wf = true ∧ IsHS S w x.2.2 x.2.1
theorem DIn.kp {S : Nat → Prop} {w w' : World} {D : DL} (h : DIn S w D) (hk : Kp S w w') : DIn S w' D := fun x hx => ⟨(h x hx).1, (h x hx).2.kp hk⟩
theorem DIn.mono {S S' : Nat → Prop} {w : World} {D : DL} (h : DIn S w D) (hS : ∀ b, b < w.heap.size → S b → S' b) : DIn S' w D := fun x hx => ⟨(h x hx).1, (h x hx).2.mono hS⟩
theorem DIn.snoc {S : Nat → Prop} {w : World} {D : DL} {x : Int × Hg × Value} (h : DIn S w D) (hx : (Lit.int .i64 x.1).wf = true ∧ IsHS S w x.2.2 x.2.1) : DIn S w (D ++ [x]) := fun y hy => by
  rcases List.mem_append.1 hy with hy | hy
  · exact h y hy
  · rw [List.mem_singleton] at hy; subst hy; exact hx

theorem DIn.row {S S' : Nat → Prop} {w : World} {g : Nat} (hg : S' g) (hS : ∀ c, c < w.heap.size → S c → S' c) : ∀ (D : DL) (o : Nat), DIn S w D → (∀ i u, (dcells D)[i]? = some u → w.cell? ⟨g, o + i, none⟩ = some u) → RowS S' w (dapp D .nil) g o
  | [], _, _, _ => trivial
  | (l, K, kv) :: D, o, h, hc => by
    have h0 := h _ (List.mem_cons_self ..)
    rw [dapp, RowS.cons_iff]
    refine ⟨hg, ?_, h0.1, ⟨kv, ?_, h0.2.mono hS⟩, ?_⟩
    · simpa using hc 0 (.int .i64 l) (by simp [dcells])
    · exact hc 1 kv (by simp [dcells])
    · refine DIn.row hg hS D (o + 2) (fun x hx => h x (List.mem_cons_of_mem _ hx)) (fun i u hu => ?_)
      have := hc (2 + i) u (by simpa [dcells, List.getElem?_cons, Nat.add_comm 2 i] using hu)
      rw [show o + 2 + i = o + (2 + i) by omega]; exact this

theorem DIn.isHS {S S' : Nat → Prop} {w : World} {base : Nat} {t : TypeId} {v : Value} {D : DL} (h : DIn S w D) (ho : w.ownsRow base t 2 v D.length (dcells D)) (hS : ∀ c, c < w.heap.size → S c → S' c) (hb : ∀ c, base ≤ c → S' c) : IsHS S' w v (dapp D .nil) := by
  have ho' := ho
  rcases ho.2 with ⟨rfl, hn⟩ | ⟨g, cap, cur, rfl, hbg, hg, hcap, hmax, _, _⟩
  · have : D = [] := List.eq_nil_of_length_eq_zero hn
    subst this
    exact ⟨none, 0, rfl, by simp [dapp, Hg.len], by simp [maxLen], fun h => absurd rfl h⟩
  · refine ⟨some ⟨g, 0, none⟩, cap, by rw [dapp_len]; rfl, by rw [dapp_len]; simpa [Hg.len] using hcap, hmax, fun _ => ⟨g, 0, rfl, ?_⟩⟩
    refine DIn.row (hb g hbg) hS D 0 h (fun i u hu => ?_)
    have hi : i < D.length * 2 := by
      have := (List.getElem?_eq_some_iff.1 hu).1
      rwa [dcells_length] at this
    rw [Nat.zero_add, ho'.cellAt i hi, hu]

theorem two_c1 (W : World) (x y : Value) (t : TypeId) (B : Nat) (hB : B = W.heap.size) : ∀ j u, [x, y][j]? = some u → (W.alloc (.cells #[x, y] t)).cell? ((⟨B, 0, none⟩ : Addr).add j) = some u := by
  subst hB
  intro j u hu
  have hr := World.alloc_heap_new W (.cells #[x, y] t)
  have : ((⟨W.heap.size, 0, none⟩ : Addr).add j) = ⟨W.heap.size, j, none⟩ := by
    unfold Addr.add; split <;> simp_all
  rw [this, cell_of_row _ _ _ _ _ _ hr]
  simpa using hu

theorem Try.infoNode : (Try.prog.info? 24).map (fun i => (i.zero, i.size, i.bytes)) = some (some (.agg #[.int .i64 0, .slice none 0 0]), 2, 32) := by kernel_rfl

def lenOf : Value → Nat
  | .slice _ n _ => n
  | _ => 0

set_option maxRecDepth 100000 in
set_option maxHeartbeats 1000000 in
theorem decode_any (n : Int) (N : Nat) : ∀ (H : Hg) (vk : Value) (w : World), H.size < N → H.size ≤ 1000000 → (Lit.int .i64 (H.enc n).1).wf = true → H.no n → IsH w vk (H.enc n).2 →
    Calls Try.prog 48 #[.int .i64 n, .agg #[.int .i64 (H.enc n).1, vk]] w fun e w' => ∃ r, e = .returned r ∧ IsHS (fun c => w.heap.size ≤ c) w' r H ∧ Below w.heap.size w w' := by
  induction N with
  | zero => intro H vk w hN; omega
  | succ N ih =>
    intro H vk w hN hmax hwf hno hv
    have HV := Lib.hid hv
    obtain ⟨p, c, rfl, hc1, hc2, hrow⟩ := hv
    obtain ⟨i0, hi, hz0, hz1, hz2⟩ := info_parts Try.infoNode
    have HI := Lib.hid ih
    have HNO := Lib.hid hno
    have HWF := Lib.hid hwf
    clear ih hrow hno hwf
    go_enter Try.func48, Try.ntmps48
    go_wp2_with fail
    go_loopw [5] (fun ov wr => ∃ (D : DL) (R : Hg) (A : Option Addr) (cap : Nat) (pr : Option Addr) (cr : Nat), ov = .slice A D.length cap ∧ Hid (dapp D R = H) ∧ Hid (wr.ownsRow (w.heap.size + 1) 24 2 (.slice A D.length cap) D.length (dcells D)) ∧
        Hid (DIn (fun c => w.heap.size + 1 ≤ c ∧ ¬ (Value.slice A D.length cap).ownBlock = some c) wr D) ∧ Hid (Blk wr w.heap.size 41 #[.int .i64 (R.enc n).1, .slice pr (R.enc n).2.len cr]) ∧ Hid (IsH w (.slice pr (R.enc n).2.len cr) (R.enc n).2) ∧ Hid (Lit.wf (.int .i64 (R.enc n).1) = true) ∧ Hid (Below w.heap.size w wr))
      (fun ov _ => H.len - lenOf ov)
    case atStart =>
      exact ⟨[], H, none, 0, p, c, rfl, Lib.hid rfl, Lib.hid (World.ownsRow_nil _ _ _ _), Lib.hid (fun x hx => by cases hx), Lib.hid (Blk.new w _ _), HV, HWF, Lib.hid ((Below.refl _ w).alloc (Nat.le_refl _) _)⟩
    case round =>
      obtain ⟨D, R, A, cap, pr, cr, rfl, hD, HO, HDI, HBX, HVR, HWR, HBW⟩ := hrel
      cases R with
      | nil =>
        have z0 : wr.cell? ⟨w.heap.size, 0, none⟩ = some (.int .i64 n) := by rw [HBX.out.cell]; rfl
        have z7 : w.heap.size < wr.heap.size := HBX.out.lt
        clear HV HI HNO HWF
        go_wp2_with fail
        go_ret
        refine ⟨_, rfl, ?_, HBW.out⟩
        rw [← hD.out]
        exact HDI.out.isHS HO.out (fun c _ h => by omega) (fun c h => by omega)
      | cons l K R =>
        have hnoR : (Hg.cons l K R).no n := dapp_no (D := D) (by rw [hD.out]; exact HNO.out)
        have hln : ¬ l = n := hnoR.1
        have hlen : D.length + (R.len + 1) = H.len := by rw [← hD.out, dapp_len]; rfl
        have hsz : K.size + R.size + 1 + D.length ≤ H.size := by rw [← hD.out]; exact dapp_size D (.cons l K R)
        obtain ⟨p2, c2, e2, hl2, hm2, hrr⟩ := HVR.out
        simp only [Value.slice.injEq] at e2
        obtain ⟨rfl, _, rfl⟩ := e2
        obtain ⟨b, o, rfl, hr⟩ := hrr (by simp [Hg.enc])
        simp only [Hg.enc] at hr
        rw [Row.cons_iff] at hr
        obtain ⟨a1, hwa, ⟨va, a2, hva⟩, hr⟩ := hr
        rw [Row.cons_iff] at hr
        obtain ⟨b1, hwb, ⟨vb, b2, hvb⟩, _⟩ := hr
        have HVA := Lib.hid hva
        have HVB := Lib.hid hvb
        have HWB := Lib.hid hwb
        obtain ⟨pa, ca, rfl, _, _, _⟩ := hva
        obtain ⟨pb, cb, rfl, _, _, _⟩ := hvb
        have hbl := World.block_lt_of_cell? _ _ a1
        simp only at hbl
        have hcell : ∀ W, Below w.heap.size w W → W.cell? ⟨b, o, none⟩ = some (.int .i64 (K.enc n).1) ∧ W.cell? ⟨b, o + 1, none⟩ = some (.slice pa (K.enc n).2.len ca) ∧ W.cell? ⟨b, o + 2, none⟩ = some (.int .i64 (R.enc n).1) ∧ W.cell? ⟨b, o + 2 + 1, none⟩ = some (.slice pb (R.enc n).2.len cb) ∧ b < W.heap.size := fun W hW =>
          ⟨(hW.cell (p := ⟨b, o, none⟩) hbl).trans a1, (hW.cell (p := ⟨b, o + 1, none⟩) hbl).trans a2, (hW.cell (p := ⟨b, o + 2, none⟩) hbl).trans b1, (hW.cell (p := ⟨b, o + 2 + 1, none⟩) hbl).trans b2, Nat.lt_of_lt_of_le hbl hW.size⟩
        have HCell := Lib.hid hcell
        have hbx : Blk wr w.heap.size 41 #[.int .i64 l, .slice (some ⟨b, o, none⟩) 2 cr] := HBX.out
        have HBX := Lib.hid hbx
        have z0 : wr.cell? ⟨w.heap.size, 0, none⟩ = some (.int .i64 l) := by rw [hbx.cell]; rfl
        have z1 : wr.cell? ⟨w.heap.size, 1, none⟩ = some (.slice (some ⟨b, o, none⟩) 2 cr) := by rw [hbx.cell]; rfl
        have z7 : w.heap.size < wr.heap.size := hbx.lt
        obtain ⟨y1, y2, y3, y4, y5⟩ := hcell wr HBW.out
        have hl2' : 2 ≤ cr := by simpa [Hg.enc, Hg.len] using hl2
        have hwl : (Lit.int .i64 l).wf = true := HWR.out
        have HWL := Lib.hid hwl
        have HC := Lib.hid (HI.out K _ wr (by omega) (by omega) hwa hnoR.2.1 (HVA.out.below HBW.out))
        clear HV HI HNO HWF HVR HWR hnoR hrr hl2 hm2 a1 a2 b1 b2 hwa hwb hcell hbx hwl
        go_wp2_with fail
        refine HC.out.mono ?_
        rintro e w1 ⟨kv, rfl, hkv, hb1⟩
        have HKV := Lib.hid hkv
        obtain ⟨p1, c1, rfl, _, _, _⟩ := hkv
        have hbw1 : Below w.heap.size w w1 := HBW.out.trans (hb1.mono (by omega))
        have hx1 : Blk w1 w.heap.size 41 #[.int .i64 l, .slice (some ⟨b, o, none⟩) 2 cr] := HBX.out.below hb1 z7
        have x0 : w1.cell? ⟨w.heap.size, 0, none⟩ = some (.int .i64 l) := by rw [hx1.cell]; rfl
        have x1 : w1.cell? ⟨w.heap.size, 1, none⟩ = some (.slice (some ⟨b, o, none⟩) 2 cr) := by rw [hx1.cell]; rfl
        have x7 : w.heap.size < w1.heap.size := hx1.lt
        have hsz1 := hb1.size
        have hown1 : w1.ownsRow (w.heap.size + 1) 24 2 (.slice A D.length cap) D.length (dcells D) := ownsRow_heap HO.out (fun g hg => hb1.block g (HO.out.lt g hg).2)
        have hlt1 := hown1.lt
        have HO1 := Lib.hid hown1
        have HLT := Lib.hid hlt1
        have HB1 := Lib.hid hb1
        have HBW1 := Lib.hid hbw1
        have HX1 := Lib.hid hx1
        clear hb1 hbw1 hx1 hown1 hlt1 z0 z1 y1 y2 y3 y4
        go_wp2_with (at_builtin; refine wpList_append_own_at _ rfl _ _ 22 rfl (w.heap.size + 1) 24 i0 _ 2 32 Try.underlying22 hi hz0 hz1 hz2 rfl (by decide) _ _ _ rfl (HO1.out.alloc _) ⟨w1.heap.size, 0, none⟩ 1 1 [.int .i64 l, .slice p1 K.len c1] rfl rfl ?c1 ?c2 ?c3 ?c4 ?c5 ?_)
        case c1 => exact two_c1 _ _ _ _ _ rfl
        case c2 => simp [Value.oneCell']
        case c3 => simp only [maxLen]; omega
        case c4 => omega
        case c5 => simp; omega
        intro v' w2 hown2 hgrow _ hat
        obtain ⟨g', cap', rfl⟩ := ownsRow_succ hown2
        have hxb : Blk w2 w.heap.size 41 #[.int .i64 l, .slice (some ⟨b, o, none⟩) 2 cr] :=
          (hgrow.block w.heap.size (by simp; omega) (fun e => by have := HLT.out _ e.symm; omega)).trans (HX1.out.alloc _)
        have u0 : w2.cell? ⟨w.heap.size, 0, none⟩ = some (.int .i64 l) := by rw [hxb.cell]; rfl
        have u1 : w2.cell? ⟨w.heap.size, 1, none⟩ = some (.slice (some ⟨b, o, none⟩) 2 cr) := by rw [hxb.cell]; rfl
        have u2 := hxb.frozen 0
        have u3 := hxb.frozen 1
        have u7 : w.heap.size < w2.heap.size := hxb.lt
        have hbw2 : Below w.heap.size w w2 := (HBW1.out.alloc (by omega) _).grown hgrow (by simp; omega) (fun j e => by have := (HLT.out _ e).1; omega)
        obtain ⟨y1, y2, y3, y4, y5⟩ := HCell.out w2 hbw2
        have hne : ¬ b = w.heap.size := by omega
        have hne2 : ¬ w.heap.size = b := by omega
        have hsz2 : w1.heap.size + 1 ≤ w2.heap.size := by simpa using hgrow.size
        have hO2 : w2.ownsRow (w.heap.size + 1) 24 2 (.slice (some ⟨g', 0, none⟩) (D.length + 1) cap') (D.length + 1) (dcells (D ++ [(l, K, .slice p1 K.len c1)])) := by rw [dcells_snoc]; exact hown2
        have hg' := (hO2.lt g' rfl)
        have hkeep : Kp (fun c => w.heap.size + 1 ≤ c ∧ ¬ (Value.slice A D.length cap).ownBlock = some c ∧ c < w1.heap.size) w1 w2 := ((Kp.refl _ w1).alloc _).grown hgrow (fun k e hS => absurd e hS.2.1)
        have hD1 : DIn (fun c => w.heap.size + 1 ≤ c ∧ ¬ (Value.slice A D.length cap).ownBlock = some c ∧ c < w1.heap.size) w1 (D ++ [(l, K, .slice p1 K.len c1)]) :=
          ((HDI.out.kp (Kp.of_below HB1.out (fun c hc _ => hc))).mono (fun c hc h => ⟨h.1, h.2, hc⟩)).snoc ⟨HWL.out, HKV.out.mono (fun c hc h => ⟨by omega, fun e => by have := (HO.out.lt c e).2; omega, hc⟩)⟩
        have hD2 : DIn (fun c => w.heap.size + 1 ≤ c ∧ ¬ (Value.slice (some ⟨g', 0, none⟩) (D.length + 1) cap').ownBlock = some c) w2 (D ++ [(l, K, .slice p1 K.len c1)]) :=
          (hD1.kp hkeep).mono (fun c hc h => ⟨h.1, fun e => by
            rcases hat with hat | hat
            · rw [hat] at e; exact h.2.1 e
            · rw [hat] at e; simp at e; omega⟩)
        have HO2 := Lib.hid hO2
        have HD2 := Lib.hid hD2
        have HBW2 := Lib.hid hbw2
        have HXB := Lib.hid hxb
        clear hown2 hgrow hat hO2 hD2 hbw2 hxb hkeep hD1 HO1 HX1 HBW1 HB1
        go_wp2_with fail
        go_roundw
        case rel =>
          refine ⟨D ++ [(l, K, .slice p1 K.len c1)], R, some ⟨g', 0, none⟩, cap', pb, cb, by simp, Lib.hid (by rw [dapp_snoc]; exact hD.out), Lib.hid ?_, Lib.hid ?_, Lib.hid ?_, HVB, HWB, Lib.hid ?_⟩
          · rw [show (D ++ [(l, K, Value.slice p1 K.len c1)]).length = D.length + 1 by simp]
            exact ownsRow_heap HO2.out (fun g hg => by
              simp only [Value.ownBlock, Option.some.injEq] at hg
              subst hg
              exact (Below.heap_setCell _ _ _ _ (by simp; omega)).trans (Below.heap_setCell _ _ _ _ (by simp; omega)))
          · rw [show (D ++ [(l, K, Value.slice p1 K.len c1)]).length = D.length + 1 by simp]
            exact HD2.out.kp (((Kp.refl _ _).setCell (p := ⟨w.heap.size, 0, none⟩) (fun h => by simp at h; omega) _).setCell (p := ⟨w.heap.size, 1, none⟩) (fun h => by simp at h; omega) _)
          · exact (HXB.out.set_ 0 _).set_ 1 _
          · exact (HBW2.out.setCell (p := ⟨w.heap.size, 0, none⟩) (Nat.le_refl _) _).setCell (p := ⟨w.heap.size, 1, none⟩) (Nat.le_refl _) _
        case measure => simp [lenOf]; omega

end Go.Proofs.Ythdaeblfehclcab
