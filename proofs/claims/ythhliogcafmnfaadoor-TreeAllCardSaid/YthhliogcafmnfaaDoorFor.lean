/- The iterators over trees and lists of trees: forests, out of split. -/
import Derived.Test.YthhliogcafmnfaaDoorIter
import Derived.Sort.QuietIn
namespace Go.Proofs.YthhliogcafmnfaaDoor
open Go.RowKit Go.Shelf
attribute [local go_sem] Oper.semAt_some fwd fwf

/-- The lists whose first tree has the size s. -/
def segL (ranks : List Nat) (k n s : Nat) : List Hg := (TT ranks s).flatMap fun t => (LL ranks k (n - s)).map fun r => Hg.cons t.1 t.2 r
/-- split gives these lists to yield, from place base on. -/
def Splits (wB : World) (ranks : List Nat) (b k n s : Nat) : Prop :=
  ∀ (L : Nat) (xs : List Hg) (J : Nat → (Nat → Prop) → World → Prop) (Jx : (Nat → Prop) → World → Prop) (C1 : Nat → Prop) (W1 : World), Below wB.heap.size wB W1 → (∀ c, C1 c → wB.heap.size ≤ c) →
    (∀ k C W W', J k C W → Kp C W W' → J k C W') → (∀ C W W', Jx C W → Kp C W W' → Jx C W') →
    (∀ k x vals C W, xs[k]? = some x → FEnc k x vals C W → Grow C1 W1 C W → J k C W →
      Yields Tryd.prog L vals W fun e W' => ∃ C', Grow C W C' W' ∧ ((e = .returned (.bool true) ∧ J (k + 1) C' W') ∨ (e = .returned (.bool false) ∧ Jx C' W'))) →
    ∀ (base : Nat) (C : Nat → Prop) (W : World), Grow C1 W1 C W → J base C W → (∀ i x, (segL ranks (k - 1) n s)[i]? = some x → xs[base + i]? = some x) →
      Calls Tryd.prog 147 #[.pointer (some ⟨b, 0, none⟩), .int .i64 (k : Nat), .int .i64 (n : Nat), .int .i64 (s : Nat), .func (.yield L) #[] #[]] W fun e W' =>
        ∃ C', Grow C1 W1 C' W' ∧ ((e = .returned (.bool true) ∧ J (base + (segL ranks (k - 1) n s).length) C' W') ∨ (e = .returned (.bool false) ∧ Jx C' W'))

def offL (ranks : List Nat) (k n i : Nat) : Nat := ((List.range i).flatMap fun i => segL ranks k n (i + 1)).length
theorem LL_seg {ranks : List Nat} (hr : ∀ r ∈ ranks, r ≤ 3) (k n : Nat) : LL ranks (k + 1) n = (List.range n).flatMap fun i => segL ranks k n (i + 1) := LL_succ hr k n
theorem LL_at {ranks : List Nat} (hr : ∀ r ∈ ranks, r ≤ 3) (k n i j : Nat) (x : Hg) (hi : i < n) (hx : (segL ranks k n (i + 1))[j]? = some x) : (LL ranks (k + 1) n)[offL ranks k n i + j]? = some x := by
  have hr2 : List.range n = List.range i ++ (i :: (List.range n).drop (i + 1)) := by
    have h1 := List.take_append_drop i (List.range n)
    rw [List.take_range, Nat.min_eq_left (by omega)] at h1
    have h2 : (List.range n).drop i = i :: (List.range n).drop (i + 1) := by
      rw [List.drop_eq_getElem_cons (by simpa using hi)]; simp
    rw [← h2, h1]
  have hj := (List.getElem?_eq_some_iff.1 hx).1
  rw [LL_seg hr, hr2, List.flatMap_append, List.flatMap_cons, List.getElem?_append_right (by unfold offL; omega), show offL ranks k n i + j - ((List.range i).flatMap fun i => segL ranks k n (i + 1)).length = j by unfold offL; omega, List.getElem?_append_left hj, hx]
theorem offL_succ (ranks : List Nat) (k n i : Nat) : offL ranks k n (i + 1) = offL ranks k n i + (segL ranks k n (i + 1)).length := by
  unfold offL
  rw [List.range_succ, List.flatMap_append]
  simp
theorem offL_end {ranks : List Nat} (hr : ∀ r ∈ ranks, r ≤ 3) (k n : Nat) : offL ranks k n n = (LL ranks (k + 1) n).length := by
  rw [LL_seg hr]; rfl
theorem tgt_nil {ranks : List Nat} {k n : Nat} (h : tgt ranks k n = 0) : LL ranks k n = [] := List.eq_nil_of_length_eq_zero (cap_zero h)
theorem seg_nil {ranks : List Nat} {k n s : Nat} (h : tgt ranks k (n - s) = 0) : segL ranks k n s = [] := by
  unfold segL
  rw [tgt_nil h]
  simp

set_option maxRecDepth 100000 in
set_option maxHeartbeats 4000000 in
theorem forests_iter (wB : World) (b : Nat) (rv : Value) (ranks : List Nat) (hB : Cens wB b rv ranks) (k n : Nat) (hk3 : k ≤ 3) (hn12 : n ≤ 12) (hS : ∀ s, 1 ≤ k → 1 ≤ s → s ≤ n → Splits wB ranks b k n s) : FIter wB ranks b k n := by
  intro B1 B2 B3 C0 w0 hw0 hC0 hC0' hb1 hb2 hb3 hn1 hn2 hn3 L J Jx C1 W1 hC1 hlt hkp hJ hJx hY h0
  have hw1 : Below wB.heap.size wB W1 := hw0.trans (hkp.below hw0.size (fun _ _ => trivial))
  have hC1' : ∀ c, C1 c → wB.heap.size ≤ c := fun c hc => (hC1 c hc).elim (hC0 c) (fun h => Nat.le_trans hw0.size h)
  have hb1' := hkp.boxed hb1 trivial
  have hb2' := hkp.boxed hb2 trivial
  have hb3' := hkp.boxed hb3 trivial
  have hn1' : ¬ C1 B1 := fun h => (hC1 _ h).elim hn1 (fun g => by have := hb1.lt; omega)
  have hn2' : ¬ C1 B2 := fun h => (hC1 _ h).elim hn2 (fun g => by have := hb2.lt; omega)
  have hn3' : ¬ C1 B3 := fun h => (hC1 _ h).elim hn3 (fun g => by have := hb3.lt; omega)
  have hcn1 := hB.cn.below hw1 hB.cn.lt
  have x1 := hb1'.cell
  have x2 := hb2'.cell
  have x3 := hb3'.cell
  have x4 := hcn1.cell (k := k) (n := n) (by omega) (by omega)
  have l1 := hb1'.lt
  have l2 := hb2'.lt
  have l3 := hb3'.lt
  have l4 := hcn1.lt
  have HBB := Lib.hid hB
  have HW1 := Lib.hid hw1
  have HY := Lib.hid hY
  have HJ := Lib.hid hJ
  have HJX := Lib.hid hJx
  have HB1 := Lib.hid hb1'
  have HB2 := Lib.hid hb2'
  have HB3 := Lib.hid hb3'
  have HC1 := Lib.hid hC1'
  have HLT := Lib.hid hlt
  have H0 := Lib.hid h0
  have HS := Lib.hid hS
  clear hY hJ hJx hw1 hb1' hb2' hb3' hC1' hlt h0 hw0 hC0 hC0' hb1 hb2 hb3 hn1 hn2 hn3 hC1 hB hcn1 hkp hS
  have e1 : (0 : Int) ≤ (k : Int) := by omega
  have e2 : (k : Int) < 4 := by omega
  have e3 : (0 : Int) ≤ (n : Int) := by omega
  have e4 : (n : Int) < 13 := by omega
  have e5 : k < 4 := by omega
  have e6 : n < 13 := by omega
  by_cases ht : tgt ranks k n = 0
  · have HE := Lib.hid (tgt_nil ht)
    have hti : ((tgt ranks k n : Nat) : Int) = 0 := by omega
    have htb : (((tgt ranks k n : Nat) : Int) == 0) = true := by simp [ht]
    have htn : (tgt ranks k n == 0) = true := by simp [ht]
    clear ht
    go_enter Tryd.func146, Tryd.ntmps146
    go_wp2_with fail
    go_quiet (fail)
    go_wp2_with fail
    refine bodyPost_ret (results_none rfl _ _ _) rfl ?_
    exact ⟨⟨_, rfl⟩, C1, (Grow.refl HLT.out).own ((Kp.refl _ _).drewN _), .inl (by rw [HE.out]; exact HJ.out _ _ _ _ H0.out ((Kp.refl _ _).drewN _))⟩
  · have hti : ¬ ((tgt ranks k n : Nat) : Int) = 0 := by omega
    have htb : (((tgt ranks k n : Nat) : Int) == 0) = false := by simpa using ht
    have htn : (tgt ranks k n == 0) = false := by simpa using ht
    rcases Nat.eq_zero_or_pos k with hk0 | hk1
    · subst hk0
      have hn0 : n = 0 := by
        rcases Nat.eq_zero_or_pos n with h | h
        · exact h
        · exfalso
          obtain ⟨n', rfl⟩ : ∃ n', n = n' + 1 := ⟨n - 1, by omega⟩
          exact ht (tgt_zero ranks n')
      subst hn0
      have hl0 : LL ranks 0 0 = [.nil] := rfl
      have HYY := Lib.hid (fun (W : World) (hg : Grow C1 W1 C1 W) (hj : J 0 C1 W) => HY.out 0 .nil #[.slice none 0 0] C1 W (by rw [hl0]; rfl) ⟨_, rfl, none, 0, rfl, by simp [Hg.len], by simp [maxLen], fun h => absurd rfl h⟩ hg hj)
      have HL0 := Lib.hid hl0
      clear ht hl0
      refine Calls.of_callsIn (ro := none) (m := 0) ?_
      refine callsIn_of_wp Tryd.func146 rfl trivial ?_ rfl
      simp only [Tryd.ntmps146, List.size_toArray, List.length_cons, List.length_nil, Nat.reduceAdd, Nat.reduceSub, Array.replicate_succ, Array.replicate_zero, List.push_toArray, List.append_toArray, List.nil_append, List.cons_append]
      gi_wp2_with fail
      gi_quiet (fail)
      obtain ⟨fn, tmps, assign, body, hy, hRd⟩ := HYY.out (W1.drewN nq) ((Grow.refl HLT.out).own ((Kp.refl _ _).drewN _)) (HJ.out _ _ _ _ H0.out ((Kp.refl _ _).drewN _))
      have HRd := Lib.hid hRd
      clear hRd
      gi_wp2
      refine (RoundIn.anyDepth HRd.out).mono ?_
      have HGq : Hid (Grow C1 W1 C1 (W1.drewN nq)) := Lib.hid ((Grow.refl HLT.out).own ((Kp.refl _ _).drewN _))
      rintro e W3 ⟨C3, hg3, ⟨rfl, hj3⟩ | ⟨rfl, hx3⟩⟩
      · have HZ := Lib.hid hg3
        clear hg3
        gi_wp2
        refine bodyPost_ret (results_none rfl _ _ _) rfl ?_
        exact ⟨⟨_, rfl⟩, C3, HGq.out.trans HZ.out, .inl (by rw [HL0.out]; exact hj3)⟩
      · have HZ := Lib.hid hg3
        clear hg3
        gi_wp2
        refine bodyPost_ret (results_none rfl _ _ _) rfl ?_
        exact ⟨⟨_, rfl⟩, C3, HGq.out.trans HZ.out, .inr hx3⟩
    · have hkk : ((k : Int) == 0) = false := by simp; omega
      have hkn : (k == 0) = false := by simp; omega
      have hki : ¬ (k : Int) = 0 := by omega
      clear ht
      go_enter Tryd.func146, Tryd.ntmps146
      go_wp2_with fail
      go_quiet (fail)
      have HKq : Hid (Grow C1 W1 C1 (W1.drewN nq)) := Lib.hid ((Grow.refl HLT.out).own ((Kp.refl _ _).drewN _))
      have HJq := Lib.hid (HJ.out _ _ _ _ H0.out ((Kp.refl C1 W1).drewN nq))
      go_wp2_with fail
      generalize W1.drewN nq = w0q at HKq HJq ⊢
      clear x1 x2 x3 x4
      go_loopw [5] (fun sv wr => ∃ (i : Nat) (C : Nat → Prop), sv = .int .i64 ((i : Int) + 1) ∧ i ≤ n ∧ Hid (Grow C1 W1 C wr) ∧ Hid (J (offL ranks (k - 1) n i) C wr))
        (fun sv _ => n + 1 - (intOf sv).toNat)
      case atStart => exact ⟨0, C1, rfl, by omega, HKq, HJq⟩
      case round =>
        obtain ⟨i, C, rfl, hi, HG, HJi⟩ := hrel
        have HST : Hid (∀ W C', Grow C1 W1 C' W → W.cell? ⟨B1, 0, none⟩ = some (.pointer (some ⟨b, 0, none⟩)) ∧ W.cell? ⟨B2, 0, none⟩ = some (.int .i64 (k : Nat)) ∧ W.cell? ⟨B3, 0, none⟩ = some (.int .i64 (n : Nat)) ∧ Cn W b rv (tgt ranks) ∧ B1 < W.heap.size ∧ B2 < W.heap.size ∧ B3 < W.heap.size) := Lib.hid (fun W C' hg =>
          ⟨(hg.kp.boxed HB1.out hn1').cell, (hg.kp.boxed HB2.out hn2').cell, (hg.kp.boxed HB3.out hn3').cell, HBB.out.cn.below (HW1.out.trans (hg.below HW1.out.size HC1.out)) HBB.out.cn.lt, (hg.kp.boxed HB1.out hn1').lt, (hg.kp.boxed HB2.out hn2').lt, (hg.kp.boxed HB3.out hn3').lt⟩)
        obtain ⟨y1, y2, y3, hcr, y5, y6, y7⟩ := HST.out wr C HG.out
        by_cases hlt : i < n
        · have y4 := hcr.cell (k := k - 1) (n := n - (i + 1)) (by omega) (by omega)
          have y8 := hcr.lt
          have hle : (i : Int) + 1 ≤ (n : Int) := by omega
          have hled : decide ((i : Int) + 1 ≤ (n : Int)) = true := decide_eq_true hle
          have q1 : (0 : Int) ≤ (k : Int) - 1 := by omega
          have q2 : (k : Int) - 1 < 4 := by omega
          have q3 : (0 : Int) ≤ (n : Int) - ((i : Int) + 1) := by omega
          have q4 : (n : Int) - ((i : Int) + 1) < 13 := by omega
          have q7 : (1 : Int) ≤ (k : Int) := by omega
          have q8 : (k : Int) < 5 := by omega
          have q9 : (k : Int) < 4 + 1 := by omega
          have q10 : (n : Int) < 13 + ((i : Int) + 1) := by omega
          have q11 : (0 : Int) < (k : Int) := by omega
          have q12 : 1 ≤ k := by omega
          have q13 : IntKind.i64.wrap ((k : Int) - 1) = (k : Int) - 1 := IntWalk.i64_in _ (by omega)
          have q14 : IntKind.i64.wrap ((n : Int) - ((i : Int) + 1)) = (n : Int) - ((i : Int) + 1) := IntWalk.i64_in _ (by omega)
          have q5 : ((k : Int) - 1).toNat = k - 1 := by omega
          have q6 : ((n : Int) - ((i : Int) + 1)).toNat = n - (i + 1) := by omega
          clear hcr
          by_cases hz : tgt ranks (k - 1) (n - (i + 1)) = 0
          · have HO : Hid (offL ranks (k - 1) n (i + 1) = offL ranks (k - 1) n i) := Lib.hid (by rw [offL_succ, seg_nil hz]; rfl)
            rw [hz] at y4
            have y4 : wr.cell? ⟨b, 1 + (k - 1) * 13 + (n - (i + 1)), none⟩ = some (.int .i64 0) := y4
            clear hz
            go_wp2_with fail
            go_quiet (fail)
            go_wp2_with fail
            go_roundw
            case rel => exact ⟨i + 1, C, by push_cast; rfl, by omega, Lib.hid (HG.out.own ((Kp.refl _ _).drewN _)), Lib.hid (by rw [HO.out]; exact HJ.out _ _ _ _ HJi.out ((Kp.refl _ _).drewN _))⟩
            case measure => simp [intOf]; omega
          · have hzi : (0 : Int) < ((tgt ranks (k - 1) (n - (i + 1)) : Nat) : Int) := by omega
            have hzn : 0 < tgt ranks (k - 1) (n - (i + 1)) := by omega
            have hzd : decide ((0 : Int) < ((tgt ranks (k - 1) (n - (i + 1)) : Nat) : Int)) = true := decide_eq_true hzi
            have HSp : Hid (∀ W, Kp (fun _ => True) wr W → Calls Tryd.prog 147 #[.pointer (some ⟨b, 0, none⟩), .int .i64 (k : Nat), .int .i64 (n : Nat), .int .i64 ((i : Int) + 1), .func (.yield L) #[] #[]] W fun e W' =>
                ∃ tb : Bool, e = .returned (.bool tb) ∧ ∃ C', Grow C1 W1 C' W' ∧ (if tb = true then J (offL ranks (k - 1) n (i + 1)) C' W' else Jx C' W')) := Lib.hid (fun W hkW => by
              have h := HS.out (i + 1) hk1 (by omega) (by omega) L (LL ranks k n) J Jx C1 W1 HW1.out HC1.out HJ.out HJX.out HY.out (offL ranks (k - 1) n i) C W (HG.out.own (hkW.mono fun _ _ _ => trivial)) (HJ.out _ _ _ _ HJi.out (hkW.mono fun _ _ _ => trivial))
                (fun j x hx => by have := LL_at HBB.out.le (k - 1) n i j x hlt hx; rwa [show k - 1 + 1 = k by omega] at this)
              rw [show ((i + 1 : Nat) : Int) = (i : Int) + 1 by omega] at h
              refine h.mono ?_
              rintro e W' ⟨C', hg', ⟨rfl, hj'⟩ | ⟨rfl, hx'⟩⟩
              · exact ⟨true, rfl, C', hg', by rw [if_pos rfl, offL_succ]; exact hj'⟩
              · exact ⟨false, rfl, C', hg', by rw [if_neg (by decide)]; exact hx'⟩)
            have hnot : ∀ (x : Bool) (w : World), (Op.unary .not (.bool x)).run Tryd.prog w = .ok (.bool (!x)) w := fun _ _ => rfl
            have HKK := Lib.hid (fun q => (Kp.refl (fun _ => True) wr).drewN q)
            go_wp2_with fail
            go_region_held3 (fun W => W.cell? ⟨B1, 0, none⟩ = some (.pointer (some ⟨b, 0, none⟩)) ∧ W.cell? ⟨B2, 0, none⟩ = some (.int .i64 (k : Nat)) ∧ W.cell? ⟨B3, 0, none⟩ = some (.int .i64 (n : Nat)) ∧ W.cell? ⟨b, 1 + (k - 1) * 13 + (n - (i + 1)), none⟩ = some (.int .i64 (tgt ranks (k - 1) (n - (i + 1)) : Nat)))
              (first | go_keep | exact ⟨y1', y2', y3', y4'⟩)
              (first
                | (go_at_call 147; refine (HSp.out _ (Kp.refl _ _).drew).mono ?_; rintro e w1 ⟨tb, rfl, C2, hg2, hif⟩; have HG2 := Lib.hid hg2; have HIF := Lib.hid hif; obtain ⟨y1', y2', y3', hcr', _⟩ := HST.out w1 C2 hg2; have y4' := hcr'.cell (k := k - 1) (n := n - (i + 1)) (by omega) (by omega); clear hg2 hif hcr'))
            all_goals
              cases tb with
              | true =>
                have hj2 := HIF.out
                rw [if_pos rfl] at hj2
                have HJ2 := Lib.hid hj2
                clear hj2
                go_wp2_with fail
                go_roundw
                case rel => exact ⟨i + 1, C2, by push_cast; rfl, by omega, HG2, HJ2⟩
                case measure => simp [intOf]; omega
              | false =>
                have hx2 := HIF.out
                rw [if_neg (by decide)] at hx2
                have HX2 := Lib.hid hx2
                clear hx2
                go_wp2_with fail
                refine bodyPost_ret (results_none rfl _ _ _) rfl ?_
                exact ⟨⟨_, rfl⟩, C2, HG2.out, .inr HX2.out⟩
        · have hle : ¬ (i : Int) + 1 ≤ (n : Int) := by omega
          have hled : decide ((i : Int) + 1 ≤ (n : Int)) = false := decide_eq_false hle
          have hin : i = n := by omega
          have HF : Hid (J (LL ranks k n).length C wr) := Lib.hid (by
            have := HJi.out
            rw [hin, offL_end HBB.out.le] at this
            rwa [show k - 1 + 1 = k by omega] at this)
          clear hin hcr
          go_wp2_with fail
          go_end0
          exact ⟨⟨_, rfl⟩, C, HG.out, .inl HF.out⟩

end Go.Proofs.YthhliogcafmnfaaDoor
