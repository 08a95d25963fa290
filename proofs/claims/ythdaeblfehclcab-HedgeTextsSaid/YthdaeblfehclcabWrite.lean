/- ref02.Write and Print. -/
import Derived.Test.YthdaeblfehclcabIndex
import Derived.Test.YthdaeblfehclcabLabelled
import Derived.Laws.Concat
namespace Go.Proofs.Ythdaeblfehclcab
open Go.RowKit Go.Shelf

/-- The printed form of a hedge; sp: a blank comes first. -/
def Hg.tx (f : Int → List UInt8) : Hg → Bool → List UInt8
  | .nil, _ => []
  | .cons l k r, sp => (if sp = true then [32] else []) ++ f l ++ (if k.len = 0 then [] else 40 :: (k.tx f false ++ [41])) ++ r.tx f true
theorem Hg.tx_length {f : Int → List UInt8} (hf : ∀ l, (f l).length ≤ 12) : ∀ (h : Hg) (sp : Bool), (h.tx f sp).length ≤ 15 * h.size := by
  intro h
  induction h with
  | nil => intro sp; simp [Hg.tx, Hg.size]
  | cons l k r hk hr =>
    intro sp
    have h1 := hf l
    have h2 := hk false
    have h3 := hr true
    have h4 : (if sp = true then [(32 : UInt8)] else []).length ≤ 1 := by split <;> simp
    have h5 : (if k.len = 0 then [] else (40 : UInt8) :: (k.tx f false ++ [41])).length ≤ 2 + (k.tx f false).length := by split <;> simp <;> omega
    simp only [Hg.tx, Hg.size, List.length_append]
    omega
def nmOf (names : List ByteArray) (l : Int) : List UInt8 := (names[l.toNat]?.getD (ByteArray.mk #[])).data.toList
theorem nmOf_length {names : List ByteArray} (h : ∀ x ∈ names, x.size ≤ 12) (l : Int) : (nmOf names l).length ≤ 12 := by
  unfold nmOf
  cases hx : names[l.toNat]? with
  | none => simp
  | some x => have := h x (List.mem_of_getElem? hx); simpa using this

set_option maxRecDepth 100000 in
set_option maxHeartbeats 2000000 in
theorem rwrite_any (names : List ByteArray) (vn : Value) (w0 : World) (hn0 : IsStrs w0 vn names) (h12 : ∀ x ∈ names, x.size ≤ 12) (N : Nat) : ∀ (H : Hg) (v : Value) (w : World), H.size < N → H.size ≤ 1000 → Below w0.heap.size w0 w → IsH w v H → H.flat.all (lok names.length) = true →
    Calls Try.prog 57 #[vn, v] w fun e w' => ∃ s : ByteArray, e = .returned (.string s) ∧ s.data.toList = H.tx (nmOf names) false ∧ Below w.heap.size w w' := by
  obtain ⟨pn, cn, rfl, hn1, hn2, hn3, _⟩ := hn0
  unfold maxLen at hn2
  have HN := Lib.hid hn3
  have HF := Lib.hid (nmOf_length h12)
  have H12 := Lib.hid h12
  clear hn3 h12
  induction N with
  | zero => intro H v w hN; omega
  | succ N ih =>
    intro H v w hN hmax hb0 hv hlab
    obtain ⟨p, c, rfl, hc1, hc2, hrow⟩ := hv
    unfold maxLen at hc2
    have hlen := Hg.len_le_size H
    have HI := Lib.hid ih
    have HR := Lib.hid hrow
    have HB0 := Lib.hid hb0
    have HLB := Lib.hid hlab
    clear ih hrow hb0 hlab
    go_enter Try.func57, Try.ntmps57
    go_wp2_with fail
    go_loopw [5, 10] (fun out i wr => ∃ (acc : ByteArray) (k : Nat) (R : Hg), out = .string acc ∧ i = .int .i64 k ∧ Hid (k + R.len = H.len) ∧ Hid (R.size ≤ H.size) ∧ Hid (R.flat.all (lok names.length) = true) ∧ Hid (acc.data.toList ++ R.tx (nmOf names) (decide (0 < k)) = H.tx (nmOf names) false) ∧ Hid (Below w.heap.size w wr) ∧ Hid (R ≠ .nil → ∃ b o, p = some ⟨b, o, none⟩ ∧ Row w R b (o + k * 2)))
      (fun _ i _ => H.len - (intOf i).toNat)
    case atStart =>
      exact ⟨⟨#[]⟩, 0, H, rfl, rfl, Lib.hid (by simp), Lib.hid (Nat.le_refl _), HLB, Lib.hid (by simp), Lib.hid (Below.refl _ _), Lib.hid (by simpa using HR.out)⟩
    case round =>
      obtain ⟨acc, k, R, rfl, rfl, hk, hsz, hlb, hacc, HB, hR⟩ := hrel
      have hal : acc.size ≤ 15000 := by
        have h1 := congrArg List.length hacc.out
        have h2 := Hg.tx_length HF.out H false
        rw [List.length_append] at h1
        have h3 : acc.data.toList.length = acc.size := by simp
        omega
      cases R with
      | nil =>
        have hge : H.len ≤ k := by have := hk.out; simp only [Hg.len] at this; omega
        have HA : Hid (acc.data.toList = H.tx (nmOf names) false) := Lib.hid (by have := hacc.out; simpa [Hg.tx] using this)
        clear hk hsz hlb hacc hR HR
        go_wp2_with fail
        go_ret
        exact ⟨acc, rfl, HA.out, HB.out⟩
      | cons l K R =>
        obtain ⟨b, o, rfl, hr⟩ := hR.out (by simp)
        rw [Row.cons_iff] at hr
        obtain ⟨c1, hl, ⟨vk, c2, hvk⟩, hr⟩ := hr
        have HVK := Lib.hid hvk
        obtain ⟨p', c', rfl, _, _, _⟩ := hvk
        have hlt : k < H.len := by have := hk.out; simp only [Hg.len] at this; omega
        have hszs : K.size < N ∧ K.size ≤ 1000 ∧ R.size ≤ H.size := by have := hsz.out; simp only [Hg.size] at this; omega
        have hlbs : lok names.length (l, K) = true ∧ K.flat.all (lok names.length) = true ∧ R.flat.all (lok names.length) = true := by
          have := hlb.out
          rw [flat_all_cons] at this
          simpa only [Bool.and_eq_true] using this
        have hl01 : 0 ≤ l ∧ l < names.length := by have := hlbs.1; simpa [lok] using this
        obtain ⟨hl0, hl1⟩ := hl01
        obtain ⟨m, rfl⟩ := Int.eq_ofNat_of_zero_le hl0
        have hm : m < names.length := by omega
        obtain ⟨x, hx⟩ : ∃ x, names[m]? = some x := ⟨_, List.getElem?_eq_getElem hm⟩
        obtain ⟨bn, on, rfl, hcn⟩ := HN.out (fun h => by simp [h] at hm)
        have hx12 : x.size ≤ 12 := H12.out x (List.mem_of_getElem? hx)
        have hbw0 : Below w0.heap.size w0 wr := HB0.out.trans (HB.out.mono HB0.out.size)
        have cx := cell_later hbw0 (hcn m x hx)
        have c1 := cell_later HB.out c1
        have c2 := cell_later HB.out c2
        have hbl := World.block_lt_of_cell? _ _ c1
        have hbln := World.block_lt_of_cell? _ _ cx
        simp only at hbl hbln
        have hbln2 : bn < wr.heap.size + 1 := by omega
        have hsz2 := HB.out.size
        have hbwk := HB.out.alloc hsz2 (.cells #[.int .i64 (m : Int), .slice p' K.len c'] 24)
        have HC := Lib.hid (HI.out K (.slice p' K.len c') (wr.alloc (.cells #[.int .i64 (m : Int), .slice p' K.len c'] 24)) hszs.1 hszs.2.1 (hbw0.alloc hbw0.size _) (HVK.out.below hbwk) hlbs.2.1)
        have HBK := Lib.hid hbwk
        have HRR := Lib.hid hr
        have HLR := Lib.hid hlbs.2.2
        have HSR := Lib.hid hszs.2.2
        have hnm : Hid (nmOf names (m : Int) = x.data.toList) := Lib.hid (by simp [nmOf, hx])
        have hkl : Hid ((K.tx (nmOf names) false).length ≤ 15 * K.size) := Lib.hid (Hg.tx_length HF.out K false)
        have hKs := hszs.2.1
        clear hR hr hcn hx hszs hlbs HR
        by_cases hk0 : 0 < k
        · have hkd : decide (0 < k) = true := decide_eq_true hk0
          by_cases hK : K.len = 0
          · have hK1 : Hid (acc.data.toList ++ ([32] ++ x.data.toList ++ R.tx (nmOf names) true) = H.tx (nmOf names) false) := Lib.hid (by
              have := hacc.out
              rw [hkd] at this
              simp only [Hg.tx, hK, if_true, hnm.out, List.append_nil, if_false, Bool.false_eq_true, List.nil_append] at this
              simpa using this)
            go_wp2_with fail
            go_roundw
            case rel =>
              refine ⟨_, k + 1, R, rfl, by go_num, Lib.hid (by have := hk.out; simp only [Hg.len] at this; omega), HSR, HLR, Lib.hid ?_, (by have h := HBK; rw [hK] at h; exact h), Lib.hid (fun _ => ⟨b, o, rfl, ?_⟩)⟩
              · rw [show decide (0 < k + 1) = true by simp, ← hK1.out]
                simp
              · rw [show o + (k + 1) * 2 = o + k * 2 + 2 from by omega]; exact HRR.out
            case measure => simp [intOf]; omega
          · have hK0 : 0 < K.len := by omega
            have hK1 : Hid (acc.data.toList ++ ([32] ++ x.data.toList ++ (40 :: (K.tx (nmOf names) false ++ [41])) ++ R.tx (nmOf names) true) = H.tx (nmOf names) false) := Lib.hid (by
              have := hacc.out
              rw [hkd] at this; simp only [Hg.tx, hK, if_true, if_false, hnm.out, Bool.false_eq_true, List.nil_append] at this
              simpa using this)
            clear hK
            go_wp2_with fail
            refine HC.out.mono ?_
            rintro e w1 ⟨s1, rfl, hs1, hb1⟩
            have hs1l : s1.size ≤ 15000 := by
              have h1 := congrArg List.length hs1
              have h2 := hkl.out
              have h3 : s1.data.toList.length = s1.size := by simp
              omega
            have HS1 := Lib.hid hs1
            have HB1 := Lib.hid (HBK.out.trans (hb1.mono HBK.out.size))
            clear hs1 hb1
            go_wp2_with fail
            go_roundw
            case rel =>
              refine ⟨_, k + 1, R, rfl, by go_num, Lib.hid (by have := hk.out; simp only [Hg.len] at this; omega), HSR, HLR, Lib.hid ?_, HB1, Lib.hid (fun _ => ⟨b, o, rfl, ?_⟩)⟩
              · rw [show decide (0 < k + 1) = true by simp, ← hK1.out, ← HS1.out]
                simp
              · rw [show o + (k + 1) * 2 = o + k * 2 + 2 from by omega]; exact HRR.out
            case measure => simp [intOf]; omega
        · have hk00 : k = 0 := by omega
          have hkd : decide (0 < k) = false := decide_eq_false hk0
          clear hk0
          subst hk00
          simp only [Nat.zero_mul, Nat.add_zero] at c1 c2
          by_cases hK : K.len = 0
          · have hK1 : Hid (acc.data.toList ++ (x.data.toList ++ R.tx (nmOf names) true) = H.tx (nmOf names) false) := Lib.hid (by
              have := hacc.out
              rw [hkd] at this
              simp only [Hg.tx, hK, if_true, hnm.out, List.append_nil, if_false, Bool.false_eq_true, List.nil_append] at this
              simpa using this)
            go_wp2_with fail
            go_roundw
            case rel =>
              refine ⟨_, 0 + 1, R, rfl, by go_num, Lib.hid (by have := hk.out; simp only [Hg.len] at this; omega), HSR, HLR, Lib.hid ?_, (by have h := HBK; rw [hK] at h; exact h), Lib.hid (fun _ => ⟨b, o, rfl, ?_⟩)⟩
              · rw [show decide (0 < 0 + 1) = true by simp, ← hK1.out]
                simp
              · rw [show o + (0 + 1) * 2 = o + 0 * 2 + 2 from by omega]; exact HRR.out
            case measure => simp [intOf]; omega
          · have hK0 : 0 < K.len := by omega
            have hK1 : Hid (acc.data.toList ++ (x.data.toList ++ (40 :: (K.tx (nmOf names) false ++ [41])) ++ R.tx (nmOf names) true) = H.tx (nmOf names) false) := Lib.hid (by
              have := hacc.out
              rw [hkd] at this; simp only [Hg.tx, hK, if_true, if_false, hnm.out, Bool.false_eq_true, List.nil_append] at this
              simpa using this)
            clear hK
            go_wp2_with fail
            refine HC.out.mono ?_
            rintro e w1 ⟨s1, rfl, hs1, hb1⟩
            have hs1l : s1.size ≤ 15000 := by
              have h1 := congrArg List.length hs1
              have h2 := hkl.out
              have h3 : s1.data.toList.length = s1.size := by simp
              omega
            have HS1 := Lib.hid hs1
            have HB1 := Lib.hid (HBK.out.trans (hb1.mono HBK.out.size))
            clear hs1 hb1
            go_wp2_with fail
            go_roundw
            case rel =>
              refine ⟨_, 0 + 1, R, rfl, by go_num, Lib.hid (by have := hk.out; simp only [Hg.len] at this; omega), HSR, HLR, Lib.hid ?_, HB1, Lib.hid (fun _ => ⟨b, o, rfl, ?_⟩)⟩
              · rw [show decide (0 < 0 + 1) = true by simp, ← hK1.out, ← HS1.out]
                simp
              · rw [show o + (0 + 1) * 2 = o + 0 * 2 + 2 from by omega]; exact HRR.out
            case measure => simp [intOf]; omega

end Go.Proofs.Ythdaeblfehclcab
