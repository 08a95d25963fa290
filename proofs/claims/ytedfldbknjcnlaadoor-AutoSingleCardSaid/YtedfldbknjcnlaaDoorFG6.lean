/- ref03.walk. node.admits. -/
import Derived.Test.YtedfldbknjcnlaaDoorFG5
import Derived.Test.YtedfldbknjcnlaaDoorFG1
import Derived.OwnWalk
import Derived.Test.YtedfldbknjcnlaaDoorNewT
namespace Go.Proofs.YtedfldbknjcnlaaDoor
section
open Go.RowKit Go.Shelf

theorem isInts_tail {w : World} {b o : Nat} {c : Nat} {x : Int} {l : List Int} (h : IsInts w (.slice (some ⟨b, o, none⟩) (l.length + 1) c) (x :: l)) : IsInts w (.slice (if c = 1 then some ⟨b, o, none⟩ else some ⟨b, o + 1, none⟩) l.length (c - 1)) l := by
  obtain ⟨p, c', e, h1, h2, h3⟩ := h
  simp only [List.length_cons, Value.slice.injEq] at e
  obtain ⟨rfl, _, rfl⟩ := e
  obtain ⟨b', o', e, hc⟩ := h3 (by simp)
  simp only [Option.some.injEq, Addr.mk.injEq, and_true] at e
  obtain ⟨rfl, rfl⟩ := e
  simp only [List.length_cons] at h1
  refine ⟨_, c - 1, rfl, by omega, by omega, fun hne => ⟨b, o + 1, ?_, fun i y hy => ?_⟩⟩
  · rw [if_neg]
    intro h
    have : l = [] := List.eq_nil_of_length_eq_zero (by omega)
    exact hne this
  · have := hc (i + 1) y (by simpa using hy)
    rw [show o + 1 + i = o + (i + 1) by omega]; exact this
theorem ruHas_take {R : List Ru} {l to : Int} {fr : List Int} {k : Nat} {r : Ru} (hr : R[k]? = some r) (h : ruIs l to fr r = true) : ruHas R l to fr = true :=
  List.any_eq_true.2 ⟨r, List.mem_of_getElem? hr, h⟩
theorem ruHas_snoc {R : List Ru} {l to : Int} {fr : List Int} {k : Nat} {r : Ru} (hr : R[k]? = some r) (h0 : ruHas (R.take k) l to fr = false) (h : ruIs l to fr r = false) : ruHas (R.take (k + 1)) l to fr = false := by
  unfold ruHas at h0 ⊢
  rw [List.take_add_one, hr, List.any_append, h0]
  simp [h]

theorem ownsRow_ints {w : World} {B : Nat} {t : TypeId} {v : Value} {l : List Int} (h : w.ownsRow B t 1 v l.length (l.map (Value.int .i64))) : IsInts w v l := by
  rcases h.2 with ⟨e, hn⟩ | ⟨g, cap, cur, e, hg, _, h1, h2, _⟩
  · have hnil : l = [] := List.eq_nil_of_length_eq_zero (by omega)
    rw [hnil, e]
    exact ⟨none, 0, rfl, Nat.le_refl _, by decide, fun h => absurd rfl h⟩
  · rw [e]
    refine ⟨some ⟨g, 0, none⟩, cap, rfl, by omega, h2, fun _ => ⟨g, 0, rfl, fun i x hx => ?_⟩⟩
    have hi : i < l.length := (List.getElem?_eq_some_iff.1 hx).1
    rw [e] at h
    rw [Nat.zero_add, h.cellAt i (by omega), List.getElem?_map, hx]; rfl

set_option maxRecDepth 100000 in
set_option maxHeartbeats 4000000 in
theorem walk_ok (A : Au) (hlen : A.ru.length ≤ 100) : ∀ (N : Nat) (l : Int) (K : Hg) (v vk rv : Value) (run : List Int) (wB w : World), Below wB.heap.size wB w → K.size < N → K.size ≤ 2000 → K.size + 1 ≤ run.length → IsAu w v A → IsH w vk K → IsInts wB rv run →
    Calls Tryd.prog 74 #[v, .agg #[.int .i64 l, vk], rv] w fun e w' => (∃ u, e = .returned (.tuple #[u, .bool (wkT A.ru l K run).isSome]) ∧ IsInts wB u ((wkT A.ru l K run).getD [])) ∧ Below w.heap.size w w' := by
  intro N
  induction N with
  | zero => intro l K v vk rv run wB w _ h; omega
  | succ N ih =>
    intro l K v vk rv run wB w hbB hN h2000 hrl hA hK hR0
    cases run with
    | nil => simp at hrl
    | cons to run =>
    obtain ⟨i0, hi, hz0, hz1, hz2⟩ := info_parts Tryd.infoInt
    have HI := Lib.hid hi
    have HIH := Lib.hid ih
    have HA := Lib.hid hA
    have HBB := Lib.hid hbB
    have HRL := Lib.hid hrl
    obtain ⟨fv, uv, rfl, hf, hr⟩ := hA
    have hbw : Below w.heap.size w ((w.alloc (.cells #[.int .i64 A.st, fv, uv] 27)).alloc (.cells #[.int .i64 l, vk] 43)) := ((Below.refl _ w).alloc (Nat.le_refl _) _).alloc (by simp) _
    have HX0 := Lib.hid ((Blk.new w 27 #[.int .i64 A.st, fv, uv]).alloc (.cells #[.int .i64 l, vk] 43))
    have HX1 : Hid (Blk ((w.alloc (.cells #[.int .i64 A.st, fv, uv] 27)).alloc (.cells #[.int .i64 l, vk] 43)) (w.heap.size + 1) 43 #[.int .i64 l, vk]) := Lib.hid (by simpa using Blk.new (w.alloc (.cells #[.int .i64 A.st, fv, uv] 27)) 43 #[.int .i64 l, vk])
    have HB := Lib.hid hbw
    obtain ⟨p1, c1, rfl, _⟩ := hf
    obtain ⟨p2, c2, rfl, hr3, hr4, _⟩ := id hr
    have HRU := Lib.hid hr
    obtain ⟨p, c, rfl, hc1, hc2, hrow⟩ := hK
    obtain ⟨pr, cr, rfl, hq1, hq2, hq3⟩ := id hR0
    obtain ⟨br, or, rfl, hcell⟩ := hq3 (by simp)
    have d0 : ((w.alloc (.cells #[.int .i64 A.st, .slice p1 A.fin.length c1, .slice p2 A.ru.length c2] 27)).alloc (.cells #[.int .i64 l, .slice p K.len c] 43)).cell? ⟨br, or, none⟩ = some (.int .i64 to) := cell_later (hbB.trans (hbw.mono hbB.size)) (by simpa using hcell 0 to rfl)
    have dl := World.block_lt_of_cell? _ _ d0
    simp only at dl
    have hT := isInts_tail hR0
    simp only [List.length_cons] at hq1
    unfold maxLen at hc2 hr4 hq2
    have HROW := Lib.hid hrow
    have hcr1 : 1 ≤ cr := by omega
    obtain ⟨oq, cq, hoq, HT⟩ : ∃ oq cq, ((cr = 1 ∧ oq = or ∧ cq = 0) ∨ (¬ cr = 1 ∧ oq = or + 1 ∧ cq = cr - 1)) ∧ Hid (IsInts wB (.slice (some ⟨br, oq, none⟩) run.length cq) run) := by
      by_cases h : cr = 1
      · subst h
        exact ⟨or, 0, .inl ⟨rfl, rfl, rfl⟩, Lib.hid (by simpa using hT)⟩
      · exact ⟨or + 1, cr - 1, .inr ⟨h, rfl, rfl⟩, Lib.hid (by simpa [h] using hT)⟩
    have hkl := K.len_le_size
    clear ih hr hbw hrow hq3 hcell hR0 hT hi hbB
    simp only [List.length_cons] at *
    go_enter Tryd.func74, Tryd.ntmps74
    have HQ1 := Lib.hid hq1
    rcases hoq with ⟨rfl, rfl, rfl⟩ | ⟨hcr, rfl, rfl⟩
    all_goals
      go_wp2_with fail
      clear hq1 hrl
      go_loopw [2, 9, 23] (fun rv fv iv wr => ∃ (k : Nat) (R : Hg) (fs runR : List Int), iv = .int .i64 (k : Nat) ∧ Hid (k + R.len = K.len) ∧ Hid (addF fs (wkH A.ru R runR) = wkH A.ru K run) ∧ Hid (fs.length = k) ∧ Hid (R.size ≤ K.size) ∧ Hid (R.size ≤ runR.length) ∧ Hid (IsInts wB rv runR) ∧
          Hid (R ≠ .nil → ∃ b o, p = some ⟨b, o, none⟩ ∧ Row w R b (o + k * 2)) ∧ Hid (wr.ownsRow (w.heap.size + 2) 3 1 fv fs.length (fs.map (Value.int .i64))) ∧ Hid (Below w.heap.size w wr) ∧ Hid (Blk wr w.heap.size 27 #[.int .i64 A.st, .slice p1 A.fin.length c1, .slice p2 A.ru.length c2]) ∧ Hid (Blk wr (w.heap.size + 1) 43 #[.int .i64 l, .slice p K.len c]))
        (fun _ _ iv _ => K.len - (intOf iv).toNat)
      case atStart => exact ⟨0, K, [], run, rfl, Lib.hid (by simp), Lib.hid (addF_nil _), Lib.hid rfl, Lib.hid (Nat.le_refl _), Lib.hid (by have := HRL.out; omega), (by first | exact HT | exact Lib.hid (by have h0 : run.length = 0 := (by have := HQ1.out; omega); have h1 := HT.out; rwa [h0] at h1)), Lib.hid (by simpa using HROW.out), Lib.hid (World.ownsRow_nil _ _ _ _), HB, HX0, HX1⟩
      case round =>
        rename World => wr
        obtain ⟨k, R, fs, runR, rfl, hk, HE, HFL, HSZ, HRR, HRV, hR, HO, HBr, HX0r, HX1r⟩ := hrel
        have hs1 := HX1r.out.lt
        have hs0 : w.heap.size < wr.heap.size := by omega
        have x0 : wr.cell? ⟨w.heap.size, 0, none⟩ = some (.int .i64 A.st) := by rw [HX0r.out.cell]; rfl
        have x1 : wr.cell? ⟨w.heap.size, 1, none⟩ = some (.slice p1 A.fin.length c1) := by rw [HX0r.out.cell]; rfl
        have x2 : wr.cell? ⟨w.heap.size, 2, none⟩ = some (.slice p2 A.ru.length c2) := by rw [HX0r.out.cell]; rfl
        have y0 : wr.cell? ⟨w.heap.size + 1, 0, none⟩ = some (.int .i64 l) := by rw [HX1r.out.cell]; rfl
        cases R with
        | nil =>
          have hge : K.len ≤ k := by have := hk.out; simp only [Hg.len] at this; omega
          have HWK : Hid (wkH A.ru K run = some (fs, runR)) := Lib.hid (by have := HE.out; simp only [wkH, addF, List.append_nil] at this; exact this.symm)
          have HWT : Hid (wkT A.ru l K (to :: run) = if ruHas A.ru l to fs = true then some runR else none) := Lib.hid (by simp only [wkT, HWK.out])
          have hIF : IsInts wr u9 fs := ownsRow_ints HO.out
          have HIF := Lib.hid hIF
          obtain ⟨pf, cf, rfl, _⟩ := hIF
          have hrv := HRV.out
          obtain ⟨pv, cv, rfl, _⟩ := hrv
          have hkd : decide (k < K.len) = false := decide_eq_false (by omega)
          have hkd2 : decide ((k : Int) < (K.len : Int)) = false := decide_eq_false (by omega)
          clear hR HROW HE HO hk HWK
          go_wp2_with fail
          go_loopw [46] (fun iv wq => ∃ q : Nat, iv = .int .i64 (q : Nat) ∧ q ≤ A.ru.length ∧ Hid (ruHas (A.ru.take q) l to fs = false) ∧ Hid (Below wr.heap.size wr wq))
            (fun iv _ => A.ru.length - (intOf iv).toNat)
          case atStart => exact ⟨0, rfl, by omega, Lib.hid rfl, Lib.hid (Below.refl _ _)⟩
          case round =>
            rename World => wq
            obtain ⟨q, rfl, hq, HN, HBq⟩ := hrel
            have HBW := Lib.hid (HBr.out.trans (HBq.out.mono HBr.out.size))
            have z0 : wq.cell? ⟨w.heap.size + 1, 0, none⟩ = some (.int .i64 l) := cell_later HBq.out y0
            have zl : w.heap.size + 1 < wq.heap.size := by have := HBq.out.size; omega
            by_cases hlt : q < A.ru.length
            · obtain ⟨r, hrk⟩ : ∃ r, A.ru[q]? = some r := ⟨_, List.getElem?_eq_getElem hlt⟩
              obtain ⟨pr', cr', e1, -, -, hcl⟩ := HRU.out
              simp only [Value.slice.injEq] at e1
              obtain ⟨rfl, -, rfl⟩ := e1
              obtain ⟨b, o, e2, hcl2⟩ := hcl (fun h => by simp [h] at hlt)
              subst e2
              obtain ⟨q0, ⟨u, q1, hu⟩, q2⟩ := (hcl2 q r hrk).below HBW.out
              have HU := Lib.hid hu
              obtain ⟨pu, cu, rfl, hu3, hu4, _⟩ := hu
              have HRK := Lib.hid hrk
              obtain ⟨rs, fr, rt⟩ := r
              simp only at q0 q1 q2 hu3 HU
              have hbl := World.block_lt_of_cell? _ _ q0
              simp only at hbl
              have hlt1 : (q : Int) < (A.ru.length : Int) := by omega
              have HBA := Lib.hid ((Below.refl _ wq).alloc (Nat.le_refl _) (.cells #[.int .i64 rs, .slice pu fr.length cu, .int .i64 rt] 70))
              have HLE := Lib.hid (listE_ok fr fs (.slice pu fr.length cu) (.slice pf fs.length cf) (wq.alloc (.cells #[.int .i64 rs, .slice pu fr.length cu, .int .i64 rt] 70)) (HU.out.below HBA.out) ((HIF.out.below HBq.out).below HBA.out))
              clear hrk hcl hcl2
              by_cases h1 : rs = l
              · by_cases h2 : rt = to
                · subst h1
                  subst h2
                  have e1 : (rs == rs) = true := by simp
                  have e2 : (rt == rt) = true := by simp
                  go_wp2_with fail
                  refine HLE.out.mono ?_
                  rintro e w6 ⟨rfl, hb6⟩
                  have HB6 := Lib.hid (HBq.out.trans ((HBA.out.trans (hb6.mono HBA.out.size)).mono HBq.out.size))
                  clear hb6
                  cases heq : eqL fr fs with
                  | true =>
                    have HRH : Hid (ruHas A.ru rs rt fs = true) := Lib.hid (ruHas_take HRK.out (by unfold eqL at heq; simp only [ruIs, Bool.and_eq_true, beq_self_eq_true, true_and]; exact heq))
                    clear heq
                    go_wp2_with fail
                    go_ret2
                    exact ⟨⟨_, by rw [HWT.out, HRH.out]; rfl, by rw [HWT.out, HRH.out]; exact HRV.out⟩, HBr.out.trans (HB6.out.mono HBr.out.size)⟩
                  | false =>
                    have HRH : Hid (ruHas (A.ru.take (q + 1)) rs rt fs = false) := Lib.hid (ruHas_snoc HRK.out HN.out (by unfold eqL at heq; simp only [ruIs, beq_self_eq_true, Bool.true_and]; exact heq))
                    clear heq
                    go_wp2_with fail
                    go_roundw
                    case rel => exact ⟨q + 1, by go_num, by omega, HRH, HB6⟩
                    case measure => simp [intOf]; omega
                · have e1 : (rs == l) = true := by simpa using h1
                  have e2 : (rt == to) = false := by simpa using h2
                  have HRH : Hid (ruHas (A.ru.take (q + 1)) l to fs = false) := Lib.hid (ruHas_snoc HRK.out HN.out (by simp [ruIs, e2]))
                  have HB6 := Lib.hid (HBq.out.trans (HBA.out.mono HBq.out.size))
                  subst h1
                  clear h2 HLE
                  go_wp2_with fail
                  go_roundw
                  case rel => exact ⟨q + 1, by go_num, by omega, HRH, HB6⟩
                  case measure => simp [intOf]; omega
              · have e1 : (rs == l) = false := by simpa using h1
                have HRH : Hid (ruHas (A.ru.take (q + 1)) l to fs = false) := Lib.hid (ruHas_snoc HRK.out HN.out (by simp [ruIs, e1]))
                have HB6 := Lib.hid (HBq.out.trans (HBA.out.mono HBq.out.size))
                clear h1 HLE
                go_wp2_with fail
                go_roundw
                case rel => exact ⟨q + 1, by go_num, by omega, HRH, HB6⟩
                case measure => simp [intOf]; omega
            · have hge2 : A.ru.length ≤ q := by omega
              have HRH : Hid (ruHas A.ru l to fs = false) := Lib.hid (by have := HN.out; rwa [List.take_of_length_le hge2] at this)
              clear hlt
              go_wp2_with fail
              go_ret2
              exact ⟨⟨_, by rw [HWT.out, HRH.out]; rfl, by rw [HWT.out, HRH.out]; exact ⟨none, 0, rfl, Nat.le_refl _, by decide, fun h => absurd rfl h⟩⟩, HBW.out⟩
        | cons l2 K2 R2 =>
          obtain ⟨b, o, hp, hrw⟩ := hR.out (by simp)
          obtain ⟨r1, _, ⟨pk, ck, r2, hk1, hk2, hk3⟩, r4⟩ := hrw
          have hlt : k < K.len := by have := hk.out; simp only [Hg.len] at this; omega
          have q0 : wr.cell? ⟨b, o + k * 2, none⟩ = some (.int .i64 l2) := cell_later HBr.out r1
          have q1 : wr.cell? ⟨b, o + k * 2 + 1, none⟩ = some (.slice pk K2.len ck) := cell_later HBr.out r2
          have HK2 : Hid (IsH w (.slice pk K2.len ck) K2) := Lib.hid ⟨pk, ck, rfl, hk1, hk2, hk3⟩
          have HR2 : Hid (Row w R2 b (o + (k + 1) * 2)) := Lib.hid (by rw [show o + (k + 1) * 2 = o + k * 2 + 2 by omega]; exact r4)
          have HSK : Hid (K2.size < N ∧ K2.size ≤ 2000 ∧ R2.size ≤ K.size ∧ K2.size + 1 + R2.size ≤ runR.length) := Lib.hid (by have h1 := HSZ.out; have h2 := HRR.out; simp only [Hg.size] at h1 h2; omega)
          have hkb : k < 9223372036854775807 := by omega
          unfold maxLen at hk2
          clear r1 r2 r4 hk3 hR HSZ HROW HRR
          subst hp
          cases runR with
          | nil => exact absurd HSK.out.2.2.2 (by simp)
          | cons t0 run2 =>
          have hrv := HRV.out
          obtain ⟨pv, cv, rfl, hv1, hv2, hv3⟩ := hrv
          obtain ⟨bv, ov, rfl, hvc⟩ := hv3 (by simp)
          have v0 : wr.cell? ⟨bv, ov, none⟩ = some (.int .i64 t0) := cell_later (HBB.out.trans (HBr.out.mono HBB.out.size)) (by simpa using hvc 0 t0 rfl)
          have vl := World.block_lt_of_cell? _ _ v0
          simp only at vl
          have hvn : (0 : Int) < ((t0 :: run2).length : Int) := by simp <;> omega
          have hdl := HFL.out
          have hba : Below wr.heap.size wr ((wr.alloc (.cells #[.int .i64 l2, .slice pk K2.len ck] 43)).alloc (.cells #[.int .i64 t0] 3)) := ((Below.refl _ wr).alloc (Nat.le_refl _) _).alloc (by simp) _
          have HBA := Lib.hid hba
          have HNK := Lib.hid ((Blk.new wr 43 #[.int .i64 l2, .slice pk K2.len ck]).alloc (.cells #[.int .i64 t0] 3))
          have HNT : Hid (Blk ((wr.alloc (.cells #[.int .i64 l2, .slice pk K2.len ck] 43)).alloc (.cells #[.int .i64 t0] 3)) (wr.heap.size + 1) 3 #[.int .i64 t0]) := Lib.hid (by simpa using Blk.new (wr.alloc (.cells #[.int .i64 l2, .slice pk K2.len ck] 43)) 3 #[.int .i64 t0])
          have HO2 := Lib.hid (ownsRow_below HO.out hba)
          have hownlt : ∀ q, u9.ownBlock = some q → q < wr.heap.size ∧ w.heap.size + 2 ≤ q := fun q e => by
            rcases HO.out.2 with ⟨e2, _⟩ | ⟨g, cap, cur, e2, hbg, hg, _⟩
            · rw [e2] at e; simp [Value.ownBlock] at e
            · rw [e2] at e
              simp only [Value.ownBlock, Option.some.injEq] at e
              have := (Array.getElem?_eq_some_iff.1 hg).1
              omega
          have HOL := Lib.hid hownlt
          clear hba hv3 hvc hownlt
          go_wp2_with (at_builtin; go_loud (refine wpList_append_own_at _ rfl (.tmp 27) (.tmp 31) 22 rfl (w.heap.size + 2) 3 i0 _ 1 8 Tryd.underlying22 HI.out hz0 hz1 hz2 rfl (by decide) u9 fs.length (fs.map (Value.int .i64)) rfl HO2.out ⟨wr.heap.size + 1, 0, none⟩ 1 1 [.int .i64 t0] rfl rfl (fun a x hx => by rw [show ((⟨wr.heap.size + 1, 0, none⟩ : Addr).add a) = ⟨wr.heap.size + 1, a, none⟩ by (unfold Addr.add; split <;> simp_all), HNT.out.cell]; simpa using hx) (fun x hx => by simp only [List.mem_cons, List.not_mem_nil, or_false] at hx; (rcases hx with rfl); rfl) (by simp only [maxLen]; omega) (by omega) (by have := HBr.out.size; simp; omega) ?_))
          intro v' w4 hown hgr _ hat'
          have hat2 : v'.ownBlock = u9.ownBlock ∨ v'.ownBlock = some ((wr.alloc (.cells #[.int .i64 l2, .slice pk K2.len ck] 43)).alloc (.cells #[.int .i64 t0] 3)).heap.size := by simpa using hat'
          have hk4 : Kp (fun c => u9.ownBlock ≠ some c) ((wr.alloc (.cells #[.int .i64 l2, .slice pk K2.len ck] 43)).alloc (.cells #[.int .i64 t0] 3)) w4 := (Kp.refl _ _).grown hgr (fun k e hs => absurd e hs)
          have HO4 : Hid (w4.ownsRow (w.heap.size + 2) 3 1 v' (fs ++ [t0]).length ((fs ++ [t0]).map (Value.int .i64))) := Lib.hid (by rw [List.length_append, List.map_append, hdl]; exact hown)
          have HB4 : Hid (Below w.heap.size w w4) := Lib.hid ((HBr.out.trans (HBA.out.mono HBr.out.size)).grown hgr (by have := HBr.out.size; simp; omega) (fun q e => by have := HOL.out q e; omega))
          have HX04 := Lib.hid ((HX0r.out.below HBA.out hs0).kp hk4 (fun e => by have := HOL.out _ e; omega))
          have HX14 := Lib.hid ((HX1r.out.below HBA.out hs1).kp hk4 (fun e => by have := HOL.out _ e; omega))
          have HNK4 := Lib.hid (HNK.out.kp hk4 (fun e => by have := HOL.out _ e; omega))
          have a0 : w4.cell? ⟨w.heap.size, 0, none⟩ = some (.int .i64 A.st) := by rw [HX04.out.cell]; rfl
          have a1 : w4.cell? ⟨w.heap.size, 1, none⟩ = some (.slice p1 A.fin.length c1) := by rw [HX04.out.cell]; rfl
          have a2 : w4.cell? ⟨w.heap.size, 2, none⟩ = some (.slice p2 A.ru.length c2) := by rw [HX04.out.cell]; rfl
          have b0 : w4.cell? ⟨wr.heap.size, 0, none⟩ = some (.int .i64 l2) := by rw [HNK4.out.cell]; rfl
          have b1 : w4.cell? ⟨wr.heap.size, 1, none⟩ = some (.slice pk K2.len ck) := by rw [HNK4.out.cell]; rfl
          have hb1 := HNK4.out.lt
          have hsk := HSK.out
          have HC := Lib.hid (HIH.out l2 K2 _ _ _ (t0 :: run2) wB w4 (HBB.out.trans (HB4.out.mono HBB.out.size)) hsk.1 hsk.2.1 (by omega) (HA.out.below HB4.out) (HK2.out.below HB4.out) HRV.out)
          clear hown hgr hat' hat2 hk4 HO HO2 HX0r HX1r HBr HBA HNK HNT HNK4 hsk x0 x1 x2 y0 q0 q1 v0
          go_wp2_with fail
          refine HC.out.mono ?_
          rintro e w5 ⟨⟨u, rfl, hu⟩, hb5⟩
          have HB5 := Lib.hid (HB4.out.trans (hb5.mono HB4.out.size))
          cases hwt : wkT A.ru l2 K2 (t0 :: run2) with
          | none =>
            have HWT : Hid (wkT A.ru l K (to :: run) = none) := Lib.hid (by simp only [wkT]; rw [← HE.out, addF_none _ hwt])
            clear hu hwt HE HC
            go_wp2_with fail
            go_ret2
            exact ⟨⟨_, by rw [HWT.out]; rfl, by rw [HWT.out]; exact ⟨none, 0, rfl, Nat.le_refl _, by decide, fun h => absurd rfl h⟩⟩, HB5.out⟩
          | some rest =>
            rw [hwt] at hu
            have HU : Hid (IsInts wB u rest) := Lib.hid hu
            have HE2 : Hid (addF (fs ++ [t0]) (wkH A.ru R2 rest) = wkH A.ru K run) := Lib.hid (by rw [← HE.out, addF_some _ hwt])
            have HRL2 : Hid (R2.size ≤ rest.length) := Lib.hid (by have h1 := wkT_len _ hwt; have h2 := HSK.out.2.2.2; omega)
            have HX05 := Lib.hid (HX04.out.below hb5 (by have := HX14.out.lt; omega))
            have HX15 := Lib.hid (HX14.out.below hb5 HX14.out.lt)
            have HO5 := Lib.hid (ownsRow_below HO4.out hb5)
            clear hu hwt HE HC HX04 HX14 HO4 hb5
            go_wp2_with fail
            refine ⟨⟨k + 1, R2, fs ++ [t0], rest, by go_num, Lib.hid (by have := hk.out; simp only [Hg.len] at this; omega), HE2, Lib.hid (by simp [hdl]), Lib.hid HSK.out.2.2.1, HRL2, HU, Lib.hid (fun _ => ⟨b, o, rfl, HR2.out⟩), HO5, HB5, HX05, HX15⟩, ?_⟩
            simp [intOf]; omega
end

section
open Go.RowKit Go.Shelf

/-- Nodes' sets in a row. -/
def IsKs (w : World) (v : Value) (KS : List (Nat → Nat)) : Prop :=
  ∃ p c, v = .slice p KS.length c ∧ KS.length ≤ c ∧ c ≤ maxLen ∧ (KS ≠ [] → ∃ b o, p = some ⟨b, o, none⟩ ∧ ∀ (i : Nat) (W : Nat → Nat), KS[i]? = some W → SetAt w b (o + i * 7 + 1) W ∧ W64 W)
theorem SetAt.below {w w' : World} {b o : Nat} {W : Nat → Nat} (h : SetAt w b o W) (hb : Below w.heap.size w w') : SetAt w' b o W := fun i hi => cell_later hb (h i hi)
theorem IsKs.below {w w' : World} {v : Value} {KS : List (Nat → Nat)} (h : IsKs w v KS) (hb : Below w.heap.size w w') : IsKs w' v KS := by
  obtain ⟨p, c, e, h1, h2, h3⟩ := h
  refine ⟨p, c, e, h1, h2, fun hne => ?_⟩
  obtain ⟨b, o, e2, hc⟩ := h3 hne
  exact ⟨b, o, e2, fun i W hi => ⟨(hc i W hi).1.below hb, (hc i W hi).2⟩⟩

/-- Each set has the state that the group asks for. -/
def admB : List (Nat → Nat) → List Nat → Bool
  | [], _ => true
  | _ :: _, [] => true
  | W :: KS, q :: l => mem W q && admB KS l
theorem admB_drop {KS : List (Nat → Nat)} {l : List Nat} {k q : Nat} {W : Nat → Nat} (hW : KS[k]? = some W) (hq : l[k]? = some q) : admB (KS.drop k) (l.drop k) = (mem W q && admB (KS.drop (k + 1)) (l.drop (k + 1))) := by
  obtain ⟨h1, h2⟩ := List.getElem?_eq_some_iff.1 hW
  obtain ⟨h3, h4⟩ := List.getElem?_eq_some_iff.1 hq
  rw [List.drop_eq_getElem_cons h1, List.drop_eq_getElem_cons h3, h2, h4]
  rfl

set_option maxRecDepth 100000 in
set_option maxHeartbeats 1000000 in
theorem admits_ok (w : World) (bx : Nat) (vk : Value) (KS : List (Nat → Nat)) (g : Nat) (s : Int) (l : List Nat) (W : Nat → Nat) (hl3 : l.length = 3) (hk3 : KS.length ≤ 3) (hlt : ∀ q ∈ l, q < 320)
    (hx : w.cell? ⟨bx, 6, none⟩ = some vk) (hks : IsKs w vk KS) (hg : ∀ (i : Nat) (q : Nat), l[i]? = some q → w.cell? ⟨g, 1 + i, none⟩ = some (.int .i64 (q : Int))) :
    Calls Tryd.prog 93 #[.pointer (some ⟨bx, 0, none⟩), .pointer (some ⟨g, 0, none⟩)] w fun e w' => e = .returned (.bool (admB KS l)) ∧ Below w.heap.size w w' := by
  have HKS := Lib.hid hks
  have HG := Lib.hid hg
  have HLT := Lib.hid hlt
  obtain ⟨p, c, rfl, hc1, hc2, hcl⟩ := hks
  unfold maxLen at hc2
  have HCL := Lib.hid hcl
  have hbx := World.block_lt_of_cell? _ _ hx
  simp only at hbx
  clear hcl hg hlt
  go_enter Tryd.func93, Tryd.ntmps93
  go_wp2_with fail
  go_loopw [11] (fun iv wr => ∃ k : Nat, iv = .int .i64 (k : Nat) ∧ k ≤ KS.length ∧ Hid (admB KS l = admB (KS.drop k) (l.drop k)) ∧ Hid (Below w.heap.size w wr)) (fun iv _ => KS.length - (intOf iv).toNat)
  case atStart => exact ⟨0, rfl, by omega, Lib.hid rfl, Lib.hid (Below.refl _ _)⟩
  case round =>
    rename World => wr
    obtain ⟨k, rfl, hk, HE, HBr⟩ := hrel
    by_cases hlt : k < KS.length
    · obtain ⟨V, hV⟩ : ∃ V, KS[k]? = some V := ⟨_, List.getElem?_eq_getElem hlt⟩
      obtain ⟨q, hq⟩ : ∃ q, l[k]? = some q := ⟨_, List.getElem?_eq_getElem (by omega)⟩
      obtain ⟨b, o, rfl, hcl⟩ := HCL.out (fun h => by simp [h] at hlt)
      have hq320 := HLT.out q (List.mem_of_getElem? hq)
      have hD := Lib.hid (admB_drop hV hq)
      have x0 := cell_later HBr.out hx
      have y0 := cell_later HBr.out (HG.out k q hq)
      have hxl := World.block_lt_of_cell? _ _ x0
      have hyl := World.block_lt_of_cell? _ _ y0
      simp only at hxl hyl
      have hk3' : k < 3 := by omega
      have hlt1 : (k : Int) < (KS.length : Int) := by omega
      have hk3i : (k : Int) < 3 := by omega
      have HH := Lib.hid (has_ok wr.drew b (o + k * 7 + 1) V q (q : Int) rfl hq320 (((hcl k V hV).1.below HBr.out).below (Below.refl _ _).drew) (hcl k V hV).2)
      clear hV hq hcl hlt
      have HST : Hid (∀ W : World, W.heap = wr.heap → W.cell? ⟨bx, 6, none⟩ = some (.slice (some ⟨b, o, none⟩) KS.length c) ∧ W.cell? ⟨g, 1 + k, none⟩ = some (.int .i64 (q : Int))) := Lib.hid (fun W hW => by
        unfold World.cell? at x0 y0 ⊢
        rw [hW]
        exact ⟨x0, y0⟩)
      cases hm : mem V q with
      | true =>
        have HM := Lib.hid hm
        rw [hm] at HH
        clear hm
        go_wp2_with fail
        go_region_held3 (fun W => W.cell? ⟨bx, 6, none⟩ = some (.slice (some ⟨b, o, none⟩) KS.length c) ∧ W.cell? ⟨g, 1 + k, none⟩ = some (.int .i64 (q : Int)))
          (first | exact HST.out _ rfl)
          (first
            | (go_at_call 97; refine HH.out.mono ?_; rintro e w9 ⟨rfl, nn, rfl⟩))
        go_wp2_with fail
        go_roundw
        case rel => exact ⟨k + 1, by go_num, by omega, Lib.hid (by rw [HE.out, hD.out, HM.out]; rfl), Lib.hid (below_drewN HBr.out _)⟩
        case measure => simp [intOf]; omega
      | false =>
        have HM := Lib.hid hm
        rw [hm] at HH
        clear hm
        go_wp2_with fail
        go_region_held3 (fun W => W.cell? ⟨bx, 6, none⟩ = some (.slice (some ⟨b, o, none⟩) KS.length c) ∧ W.cell? ⟨g, 1 + k, none⟩ = some (.int .i64 (q : Int)))
          (first | exact HST.out _ rfl)
          (first
            | (go_at_call 97; refine HH.out.mono ?_; rintro e w9 ⟨rfl, nn, rfl⟩))
        go_wp2_with fail
        go_ret
        exact ⟨ret_bool (by rw [HE.out, hD.out, HM.out]; rfl), below_drewN HBr.out _⟩
    · have hge : KS.length ≤ k := by omega
      have HD : Hid (KS.drop k = []) := Lib.hid (List.drop_eq_nil_iff.2 hge)
      clear hlt
      go_wp2_with fail
      go_ret
      exact ⟨ret_bool (by rw [HE.out, HD.out]; rfl), HBr.out⟩
end

end Go.Proofs.YtedfldbknjcnlaaDoor
