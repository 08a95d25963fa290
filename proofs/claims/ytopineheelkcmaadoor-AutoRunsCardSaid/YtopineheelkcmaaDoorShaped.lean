/- ref01.ValidAlphabet, shaped, Valid. -/
import Derived.Test.YtopineheelkcmaaDoorTValid
import Derived.Test.YtopineheelkcmaaDoorCount01
import Derived.Deep.QuietTactic
import Derived.BigQuiet
namespace Go.Proofs.YtopineheelkcmaaDoor
open Go.RowKit Go.Shelf

set_option maxRecDepth 100000 in
set_option maxHeartbeats 1000000 in
theorem rvalidAlphabet_ok (l : List Int) (v : Value) (w : World) (hv : IsInts w v l) :
    Calls Tryd.prog 52 #[.agg #[v]] w fun e w' => e = .returned (.bool (validAl l)) ∧ Below w.heap.size w w' := by
  obtain ⟨p, c, rfl, hc1, hc2, hcell⟩ := hv
  unfold maxLen at hc2
  have HC := Lib.hid hcell
  clear hcell
  by_cases h12 : l.length ≤ 12
  · go_enter Tryd.func52, Tryd.ntmps52
    go_wp2
    go_loop [12] (fun i => ∃ k : Nat, i = .int .i64 k ∧ k ≤ l.length ∧ Hid ((l.take k).all rok = true)) (fun i => l.length - (intOf i).toNat)
    case atStart => exact ⟨0, rfl, by omega, Lib.hid (by simp)⟩
    case round =>
      obtain ⟨k, rfl, hk, ha⟩ := hrel
      by_cases hlt : k < l.length
      · obtain ⟨r, hr⟩ : ∃ r, l[k]? = some r := ⟨_, List.getElem?_eq_getElem hlt⟩
        obtain ⟨b, o, rfl, hcl⟩ := HC.out (fun h => by simp [h] at hlt)
        have c1 := hcl k r hr
        have hbl := World.block_lt_of_cell? _ _ c1
        simp only at hbl
        have hst : Hid ((l.take (k + 1)).all rok = rok r) := Lib.hid (by rw [List.take_add_one, hr]; simp [ha.out])
        have hmem : Hid (r ∈ l) := Lib.hid (List.mem_of_getElem? hr)
        clear hr hcl
        by_cases h1 : 0 ≤ r
        · by_cases h2 : r ≤ 3
          · go_wp2_with fail
            go_round
            case rel => exact ⟨k + 1, by go_num, by omega, Lib.hid (by rw [hst.out]; simp [rok, h1, h2])⟩
            case measure => simp [intOf]; omega
          · have h2' : 3 < r := by omega
            clear h2
            go_wp2_with fail
            go_ret
            exact ⟨ret_bool (by
              have := hmem.out
              simp only [validAl, Bool.false_eq, Bool.and_eq_false_iff]
              right
              rw [List.all_eq_false]
              exact ⟨r, this, by simp [rok]; omega⟩), (Below.refl _ _).alloc (Nat.le_refl _) _⟩
        · have h1' : r < 0 := by omega
          clear h1
          go_wp2_with fail
          go_ret
          exact ⟨ret_bool (by
            have := hmem.out
            simp only [validAl, Bool.false_eq, Bool.and_eq_false_iff]
            right
            rw [List.all_eq_false]
            exact ⟨r, this, by simp [rok]; omega⟩), (Below.refl _ _).alloc (Nat.le_refl _) _⟩
      · have hge : l.length ≤ k := by omega
        have ha2 : Hid (l.all rok = true) := Lib.hid (by have := ha.out; rwa [List.take_of_length_le hge] at this)
        clear hlt
        go_wp2_with fail
        go_ret
        exact ⟨ret_bool (by simp [validAl, h12, ha2.out]), (Below.refl _ _).alloc (Nat.le_refl _) _⟩
  · have h12' : 12 < l.length := by omega
    clear h12
    go_enter Tryd.func52, Tryd.ntmps52
    go_wp2
    go_ret
    exact ⟨ret_bool (by simp [validAl]; omega), (Below.refl _ _).alloc (Nat.le_refl _) _⟩

theorem Blk.drewN_ {w : World} {g : Nat} {t : TypeId} {cs : Array Value} (h : Blk w g t cs) (n : Nat) : Blk (w.drewN n) g t cs := h

/-- All nodes fit the alphabet. -/
def shape (al : List Int) (s : Int) (K : Hg) : Bool := fit al s K.len && K.fitAll al

set_option maxRecDepth 100000 in
set_option maxHeartbeats 1000000 in
theorem shaped_any (al : List Int) (N : Nat) : ∀ (av : Value) (s : Int) (vk : Value) (H : Hg) (w : World), H.size < N → IsInts w av al → IsH w vk H →
    Calls Tryd.prog 78 #[.agg #[av], .agg #[.int .i64 s, vk]] w fun e w' => e = .returned (.bool (shape al s H)) ∧ Below w.heap.size w w' := by
  induction N with
  | zero => intro av s vk H w hN; omega
  | succ N ih =>
    intro av s vk H w hN ha hv
    have HA := Lib.hid ha
    obtain ⟨pa, ca, rfl, ha1, ha2, haa⟩ := ha
    obtain ⟨p, c, rfl, hc1, hc2, hrow⟩ := hv
    unfold maxLen at ha2 hc2
    have hba : ∀ o1 o2 q, Below w.heap.size w (((w.alloc o1).alloc o2).drewN q) := fun o1 o2 q => below_drewN (((Below.refl _ w).alloc (Nat.le_refl _) o1).alloc (by simp) o2) q
    have HI := Lib.hid ih
    have HR := Lib.hid hrow
    have HC := Lib.hid haa
    have HBA := Lib.hid hba
    clear ih hrow haa hba
    by_cases h1 : s < 0
    · have hfit : Hid (shape al s H = false) := Lib.hid (by
        have : ¬ 0 ≤ s := by omega
        simp [shape, fit, this])
      go_enter Tryd.func78, Tryd.ntmps78
      go_wp2_with fail
      go_quiet (fail)
      go_wp2_with fail
      go_ret
      exact ⟨ret_bool (by rw [hfit.out]), HBA.out _ _ _⟩
    · have hd1 : decide (s < 0) = false := decide_eq_false h1
      have h1' : 0 ≤ s := by omega
      clear h1
      by_cases h2 : (al.length : Int) ≤ s
      · have hfit : Hid (shape al s H = false) := Lib.hid (by
          have : ¬ s < al.length := by omega
          simp [shape, fit, this])
        go_enter Tryd.func78, Tryd.ntmps78
        go_wp2_with fail
        go_quiet (fail)
        go_wp2_with fail
        go_ret
        exact ⟨ret_bool (by rw [hfit.out]), HBA.out _ _ _⟩
      · have hd2 : decide ((al.length : Int) ≤ s) = false := decide_eq_false h2
        obtain ⟨k, rfl⟩ := Int.eq_ofNat_of_zero_le h1'
        have hk : k < al.length := by omega
        have hd4 : decide (al.length ≤ k) = false := by simp; omega
        obtain ⟨r, hr⟩ : ∃ r, al[k]? = some r := ⟨_, List.getElem?_eq_getElem hk⟩
        obtain ⟨b, o, rfl, hcl⟩ := HC.out (fun h => by simp [h] at hk)
        have c1 := hcl k r hr
        have hbl := World.block_lt_of_cell? _ _ c1
        simp only at hbl
        have hbl2 : b < w.heap.size + 1 := by omega
        have hfit : Hid (fit al k H.len = ((H.len : Int) == r)) := Lib.hid (by
          have : (k : Int) < al.length := by omega
          simp [fit, this, hr])
        clear hr hcl h2
        by_cases h3 : (H.len : Int) = r
        · subst h3
          have hft : Hid (fit al k H.len = true) := Lib.hid (by rw [hfit.out]; simp)
          clear hfit
          go_enter Tryd.func78, Tryd.ntmps78
          go_wp2_with fail
          go_quiet (fail)
          go_wp2_with fail
          go_loopw [33] (fun i wr => ∃ (n d : Nat) (R : Hg), i = .int .i64 n ∧ Hid (n + R.len = H.len) ∧ Hid (d + R.size = H.size) ∧ Hid (H.fitAll al = R.fitAll al) ∧ Below (w.heap.size + 1 + 1) (((w.alloc (.cells #[.slice (some ⟨b, o, none⟩) al.length ca] 24)).alloc (.cells #[.int .i64 (k : Int), .slice p H.len c] 43)).drewN nq) wr ∧ (R ≠ .nil → ∃ b o, p = some ⟨b, o, none⟩ ∧ Row wr R b (o + n * 2)))
            (fun i _ => H.len - (intOf i).toNat)
          case atStart =>
            refine ⟨0, 0, H, rfl, Lib.hid (by simp), Lib.hid (by simp), Lib.hid rfl, Below.refl _ _, fun hne => ?_⟩
            obtain ⟨b', o', e, hr⟩ := HR.out hne
            exact ⟨b', o', e, by simpa using hr.below (HBA.out _ _ _)⟩
          case round =>
            obtain ⟨n, d, R, rfl, hkk, hd, hfa, hb, hR⟩ := hrel
            have hbA : Blk wr w.heap.size 24 #[.slice (some ⟨b, o, none⟩) al.length ca] := Blk.below (Blk.drewN_ ((Blk.new w _ _).alloc _) _) hb (by omega)
            have hbT : Blk wr (w.heap.size + 1) 43 #[.int .i64 (k : Int), .slice p H.len c] := Blk.below (Blk.drewN_ (by have := Blk.new (w.alloc (.cells #[.slice (some ⟨b, o, none⟩) al.length ca] 24)) 43 #[.int .i64 (k : Int), .slice p H.len c]; rwa [World.size_alloc] at this) _) hb (by omega)
            have hbw : Below w.heap.size w wr := (HBA.out _ _ _).trans (hb.mono (by omega))
            have y1 : wr.cell? ⟨w.heap.size, 0, none⟩ = some (.slice (some ⟨b, o, none⟩) al.length ca) := by rw [hbA.cell]; rfl
            have y2 := hbA.lt
            have HBW := Lib.hid hbw
            have hsz : w.heap.size + 1 + 1 ≤ wr.heap.size := by
              have h2 : ((w.alloc (.cells #[.slice (some ⟨b, o, none⟩) al.length ca] 24)).alloc (.cells #[.int .i64 (k : Int), .slice p H.len c] 43)).heap.size ≤ wr.heap.size := hb.size
              simpa using h2
            cases R with
            | nil =>
              have hge : H.len ≤ n := by have := hkk.out; simp only [Hg.len] at this; omega
              clear hkk hd hR HR hb hbA hbT hbw
              go_wp2
              go_ret
              exact ⟨ret_bool (by simp only [shape, hft.out, hfa.out]; rfl), HBW.out⟩
            | cons l K R =>
              obtain ⟨b', o', rfl, hr⟩ := hR (by simp)
              rw [Row.cons_iff] at hr
              obtain ⟨c1', hl, ⟨vk, c2', hvk⟩, hr⟩ := hr
              have hvk' := hvk
              obtain ⟨p', c', rfl, hc1', hc2', _⟩ := hvk'
              have hlt : n < H.len := by have := hkk.out; simp only [Hg.len] at this; omega
              have hds : d + (K.size + R.size + 1) ≤ H.size := by have := hd.out; simp only [Hg.size] at this; omega
              have hbl' := World.block_lt_of_cell? _ _ c1'
              simp only at hbl'
              have hba := (Below.refl wr.heap.size wr).alloc (Nat.le_refl _) (.cells #[.int .i64 l, .slice p' K.len c'] 43)
              have HW := Lib.hid (And.intro (hb.alloc hsz (.cells #[.int .i64 l, .slice p' K.len c'] 43)) (And.intro (hr.below hba) (hvk.below hba)))
              have HCall := Lib.hid (HI.out _ l _ K (wr.alloc (.cells #[.int .i64 l, .slice p' K.len c'] 43)) (by omega) (HA.out.below (hbw.alloc (by omega) _)) HW.out.2.2)
              have hfa2 : Hid (H.fitAll al = (shape al l K && R.fitAll al)) := Lib.hid (by rw [hfa.out]; simp [Hg.fitAll, shape, Bool.and_assoc])
              clear hR HR hr hvk hba hb hbA hbT hbw hfa
              cases hs : shape al l K with
              | true =>
                have HS := Lib.hid hs
                rw [hs] at HCall
                clear hs
                go_wp2_with fail
                refine HCall.out.mono ?_
                rintro e w1 ⟨rfl, hb1⟩
                have HB1 := Lib.hid hb1
                clear hb1
                go_wp2_with fail
                go_roundw
                case rel =>
                  refine ⟨n + 1, d + (K.size + 1), R, by go_num, Lib.hid (by have := hkk.out; simp only [Hg.len] at this; omega), Lib.hid (by have := hd.out; simp only [Hg.size] at this; omega), Lib.hid (by rw [hfa2.out, HS.out]; simp), HW.out.1.trans (HB1.out.mono (by have := HW.out.1.size; simpa using this)), fun _ => ⟨b', o', rfl, ?_⟩⟩
                  rw [show o' + (n + 1) * 2 = o' + n * 2 + 2 from by omega]; exact HW.out.2.1.below HB1.out
                case measure => simp [intOf]; omega
              | false =>
                have HS := Lib.hid hs
                rw [hs] at HCall
                clear hs
                go_wp2_with fail
                refine HCall.out.mono ?_
                rintro e w1 ⟨rfl, hb1⟩
                have HB1 := Lib.hid hb1
                clear hb1
                go_wp2_with fail
                go_ret
                exact ⟨ret_bool (by simp only [shape, hft.out]; rw [hfa2.out, HS.out]; simp), (HBW.out.alloc (by omega) _).trans (HB1.out.mono (by simp; omega))⟩
        · have hd3 : ((H.len : Int) != r) = true := by simpa using h3
          have hft : Hid (shape al k H = false) := Lib.hid (by
            have : ((H.len : Int) == r) = false := by simpa using h3
            simp [shape, hfit.out, this])
          clear hfit
          go_enter Tryd.func78, Tryd.ntmps78
          go_wp2_with fail
          go_quiet (fail)
          go_wp2_with fail
          go_ret
          exact ⟨ret_bool (by rw [hft.out]), HBA.out _ _ _⟩

end Go.Proofs.YtopineheelkcmaaDoor
