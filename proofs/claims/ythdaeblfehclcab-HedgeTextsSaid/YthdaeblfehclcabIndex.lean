/- slices.Index and Contains at strings, ref01.Place; the names. -/
import Derived.Test.YthdaeblfehclcabNames
namespace Go.Proofs.Ythdaeblfehclcab
open Go.RowKit Go.Shelf

def IsStrs (w : World) (v : Value) (l : List ByteArray) : Prop :=
  ∃ p c, v = .slice p l.length c ∧ l.length ≤ c ∧ c ≤ maxLen ∧ (l ≠ [] → ∃ b o, p = some ⟨b, o, none⟩ ∧ ∀ (i : Nat) (x : ByteArray), l[i]? = some x → w.cell? ⟨b, o + i, none⟩ = some (.string x)) ∧ (∀ x ∈ l, x.size ≤ 9223372036854775807)
theorem IsStrs.below {w w' : World} {v : Value} {l : List ByteArray} (h : IsStrs w v l) (hb : Below w.heap.size w w') : IsStrs w' v l := by
  obtain ⟨p, c, e, h1, h2, h3, h4⟩ := h
  refine ⟨p, c, e, h1, h2, fun hne => ?_, h4⟩
  obtain ⟨b, o, e, hc⟩ := h3 hne
  exact ⟨b, o, e, fun i x hx => cell_later hb (hc i x hx)⟩
theorem IsStrs.take {w : World} {p : Option Addr} {n c : Nat} {l : List ByteArray} (h : IsStrs w (.slice p n c) l) (k : Nat) (hk : k ≤ n) : IsStrs w (.slice p k c) (l.take k) := by
  obtain ⟨q, d, e, h1, h2, h3, h4⟩ := h
  simp only [Value.slice.injEq] at e
  obtain ⟨rfl, rfl, rfl⟩ := e
  have hl : (l.take k).length = k := by simp; omega
  refine ⟨p, c, by rw [hl], by omega, h2, fun hne => ?_, fun x hx => h4 x (List.mem_of_mem_take hx)⟩
  obtain ⟨b, o, e, hc⟩ := h3 (fun h => hne (by simp [h]))
  refine ⟨b, o, e, fun i x hx => hc i x ?_⟩
  have hi : i < k := by
    have := (List.getElem?_eq_some_iff.1 hx).1
    omega
  rwa [List.getElem?_take_of_lt hi] at hx

def seq (s t : ByteArray) : Bool := s.toList == t.toList
def idxS (l : List ByteArray) (s : ByteArray) : Int := match l.findIdx? (seq s) with
  | some i => i
  | none => -1
theorem idxS_hit {l : List ByteArray} {s : ByteArray} {k : Nat} (hk : k < l.length) (ha : ∀ j (h : j < l.length), j < k → seq s l[j] = false) (he : seq s l[k] = true) : idxS l s = k := by
  have : l.findIdx? (seq s) = some k := by
    rw [List.findIdx?_eq_some_iff_getElem]
    exact ⟨hk, he, fun j hj => by simp [ha j (by omega) hj]⟩
  simp [idxS, this]
theorem idxS_none {l : List ByteArray} {s : ByteArray} (ha : ∀ j (h : j < l.length), seq s l[j] = false) : idxS l s = -1 := by
  have : l.findIdx? (seq s) = none := by
    rw [List.findIdx?_eq_none_iff]
    intro x hx
    obtain ⟨j, hj, rfl⟩ := List.getElem_of_mem hx
    exact ha j hj
  simp [idxS, this]

set_option maxRecDepth 100000 in
set_option maxHeartbeats 1000000 in
theorem index_ok (l : List ByteArray) (s : ByteArray) (v : Value) (w : World) (hv : IsStrs w v l) :
    Calls Try.prog 91 #[v, .string s] w fun e w' => e = .returned (.int .i64 (idxS l s)) ∧ w = w' := by
  obtain ⟨p, c, rfl, hc1, hc2, hcell, _⟩ := hv
  unfold maxLen at hc2
  have HC := Lib.hid hcell
  clear hcell
  go_enter Try.func91, Try.ntmps91
  go_wp2_with fail
  go_loop [8] (fun i => ∃ k : Nat, i = .int .i64 k ∧ k ≤ l.length ∧ Hid (∀ j (h : j < l.length), j < k → seq s l[j] = false)) (fun i => l.length - (intOf i).toNat)
  case atStart => exact ⟨0, rfl, by omega, Lib.hid (fun j _ h => by omega)⟩
  case round =>
    obtain ⟨k, rfl, hk, HA⟩ := hrel
    by_cases hlt : k < l.length
    · obtain ⟨b, o, rfl, hcl⟩ := HC.out (fun h => by simp [h] at hlt)
      have c1 := hcl k l[k] (List.getElem?_eq_getElem hlt)
      have hbl := World.block_lt_of_cell? _ _ c1
      simp only at hbl
      clear hcl
      cases he : seq s l[k] with
      | true =>
        have hd : (s.toList == l[k].toList) = true := by exact he
        have HR : Hid (idxS l s = k) := Lib.hid (idxS_hit hlt HA.out he)
        clear he HA
        go_wp2_with fail
        go_ret
        exact ⟨by rw [HR.out]; rfl, rfl⟩
      | false =>
        have hd : (s.toList == l[k].toList) = false := by exact he
        have HN : Hid (∀ j (h : j < l.length), j < k + 1 → seq s l[j] = false) := Lib.hid (fun j h hj => by
          by_cases e : j = k
          · subst e; exact he
          · exact HA.out j h (by omega))
        clear he HA
        go_wp2_with fail
        go_round
        case rel => exact ⟨k + 1, by go_num, by omega, HN⟩
        case measure => simp [intOf]; omega
    · have hge : l.length ≤ k := by omega
      have HR : Hid (idxS l s = -1) := Lib.hid (idxS_none (fun j h => HA.out j h (by omega)))
      clear hlt HA
      go_wp2_with fail
      go_ret
      exact ⟨by rw [HR.out]; rfl, rfl⟩

set_option maxRecDepth 100000 in
set_option maxHeartbeats 1000000 in
theorem place_ok (l : List ByteArray) (s : ByteArray) (v : Value) (w : World) (hv : IsStrs w v l) :
    Calls Try.prog 81 #[v, .string s] w fun e w' => e = .returned (.int .i64 (idxS l s)) ∧ w = w' := by
  obtain ⟨p, c, rfl, hc1, hc2, hcell, _⟩ := hv
  unfold maxLen at hc2
  have HC := Lib.hid hcell
  clear hcell
  go_enter Try.func81, Try.ntmps81
  go_wp2_with fail
  go_loop [9] (fun i => ∃ k : Nat, i = .int .i64 k ∧ k ≤ l.length ∧ Hid (∀ j (h : j < l.length), j < k → seq s l[j] = false)) (fun i => l.length - (intOf i).toNat)
  case atStart => exact ⟨0, rfl, by omega, Lib.hid (fun j _ h => by omega)⟩
  case round =>
    obtain ⟨k, rfl, hk, HA⟩ := hrel
    by_cases hlt : k < l.length
    · obtain ⟨b, o, rfl, hcl⟩ := HC.out (fun h => by simp [h] at hlt)
      have c1 := hcl k l[k] (List.getElem?_eq_getElem hlt)
      have hbl := World.block_lt_of_cell? _ _ c1
      simp only at hbl
      clear hcl
      cases he : seq s l[k] with
      | true =>
        have hd : (l[k].toList == s.toList) = true := by rw [Bool.beq_comm]; exact he
        have HR : Hid (idxS l s = k) := Lib.hid (idxS_hit hlt HA.out he)
        clear he HA
        go_wp2_with fail
        go_ret
        exact ⟨by rw [HR.out]; rfl, rfl⟩
      | false =>
        have hd : (l[k].toList == s.toList) = false := by rw [Bool.beq_comm]; exact he
        have HN : Hid (∀ j (h : j < l.length), j < k + 1 → seq s l[j] = false) := Lib.hid (fun j h hj => by
          by_cases e : j = k
          · subst e; exact he
          · exact HA.out j h (by omega))
        clear he HA
        go_wp2_with fail
        go_round
        case rel => exact ⟨k + 1, by go_num, by omega, HN⟩
        case measure => simp [intOf]; omega
    · have hge : l.length ≤ k := by omega
      have HR : Hid (idxS l s = -1) := Lib.hid (idxS_none (fun j h => HA.out j h (by omega)))
      clear hlt HA
      go_wp2_with fail
      go_ret
      exact ⟨by rw [HR.out]; rfl, rfl⟩

theorem contains_ok (l : List ByteArray) (s : ByteArray) (v : Value) (w : World) (hv : IsStrs w v l) :
    Calls Try.prog 78 #[v, .string s] w fun e w' => e = .returned (.bool (decide (0 ≤ idxS l s))) ∧ w = w' := by
  have HI := Lib.hid (index_ok l s v w hv)
  obtain ⟨p, c, rfl, _, _, _, _⟩ := hv
  go_enter Try.func78, Try.ntmps78
  go_wp2_with fail
  refine HI.out.mono ?_
  rintro e w1 ⟨rfl, rfl⟩
  go_wp2_with fail
  go_ret
  exact ⟨rfl, rfl⟩

def nm (l : List ByteArray) (k : Nat) : Bool := match l[k]? with
  | some s => nameB s && decide (idxS (l.take k) s < 0)
  | none => true
def nmAll (l : List ByteArray) : Nat → Bool
  | 0 => true
  | k + 1 => nmAll l k && nm l k
/-- n different names. -/
def namesB (l : List ByteArray) (n : Int) : Bool := decide ((l.length : Int) = n) && nmAll l l.length
theorem nmAll_false {l : List ByteArray} {k : Nat} (h : nm l k = false) : ∀ n, k < n → nmAll l n = false := by
  intro n
  induction n with
  | zero => intro h; omega
  | succ n ih =>
    intro hk
    by_cases e : k = n
    · subst e; rw [nmAll, h]; simp
    · rw [nmAll, ih (by omega)]; rfl
theorem namesB_false {l : List ByteArray} {k : Nat} (hk : k < l.length) (h : nm l k = false) : namesB l l.length = false := by
  rw [namesB, nmAll_false h _ hk]; simp

set_option maxRecDepth 100000 in
set_option maxHeartbeats 1000000 in
theorem names_ok (l : List ByteArray) (n : Int) (v : Value) (w : World) (hv : IsStrs w v l) :
    Calls Try.prog 53 #[v, .int .i64 n] w fun e w' => e = .returned (.bool (namesB l n)) ∧ w = w' := by
  have HV := Lib.hid hv
  obtain ⟨p, c, rfl, hc1, hc2, hcell, hsize⟩ := hv
  unfold maxLen at hc2
  have HC := Lib.hid hcell
  have HSZ := Lib.hid hsize
  have HNM := Lib.hid (fun s w h => name_ok s w h)
  clear hcell hsize
  by_cases hn : (l.length : Int) = n
  rotate_left
  · have d0 : ((l.length : Int) != n) = true := by simpa using hn
    have HR : Hid (namesB l n = false) := Lib.hid (by rw [namesB, decide_eq_false hn]; rfl)
    clear hn
    go_enter Try.func53, Try.ntmps53
    go_wp2_with fail
    go_ret
    exact ⟨ret_bool (by rw [HR.out]), rfl⟩
  subst hn
  go_enter Try.func53, Try.ntmps53
  go_wp2_with fail
  go_loop [13] (fun i => ∃ k : Nat, i = .int .i64 k ∧ k ≤ l.length ∧ Hid (nmAll l k = true)) (fun i => l.length - (intOf i).toNat)
  case atStart => exact ⟨0, rfl, by omega, Lib.hid rfl⟩
  case round =>
    obtain ⟨k, rfl, hk, HA⟩ := hrel
    by_cases hlt : k < l.length
    · obtain ⟨b, o, rfl, hcl⟩ := HC.out (fun h => by simp [h] at hlt)
      have hx := List.getElem?_eq_getElem hlt
      obtain ⟨s, hs⟩ : ∃ s, s = l[k] := ⟨_, rfl⟩
      rw [← hs] at hx
      have c1 := hcl k s hx
      have hbl := World.block_lt_of_cell? _ _ c1
      simp only at hbl
      have HN := Lib.hid (fun w => HNM.out s w (HSZ.out s (by rw [hs]; exact List.getElem_mem hlt)))
      have HT := Lib.hid (HV.out.take k hk)
      have HX := Lib.hid hx
      clear hcl hx hs
      cases hnb : nameB s with
      | false =>
        have HR : Hid (namesB l l.length = false) := Lib.hid (namesB_false hlt (by rw [nm, HX.out]; simp [hnb]))
        rw [hnb] at HN
        clear hnb HA
        go_wp2_with fail
        refine (HN.out _).mono ?_
        rintro e w1 ⟨rfl, rfl⟩
        go_wp2_with fail
        go_ret
        exact ⟨ret_bool (by rw [HR.out]), rfl⟩
      | true =>
        rw [hnb] at HN
        by_cases hi : 0 ≤ idxS (l.take k) s
        · have HR : Hid (namesB l l.length = false) := Lib.hid (namesB_false hlt (by rw [nm, HX.out]; simp [hnb, hi]))
          have hdi : decide (0 ≤ idxS (l.take k) s) = true := decide_eq_true hi
          have HCC := Lib.hid (contains_ok (l.take k) s _ w HT.out)
          rw [hdi] at HCC
          clear hnb HA hdi
          go_wp2_with fail
          refine (HN.out _).mono ?_
          rintro e w1 ⟨rfl, rfl⟩
          go_wp2_with fail
          refine HCC.out.mono ?_
          rintro e w1 ⟨rfl, rfl⟩
          go_wp2_with fail
          go_ret
          exact ⟨ret_bool (by rw [HR.out]), rfl⟩
        · have HA2 : Hid (nmAll l (k + 1) = true) := Lib.hid (by rw [nmAll, HA.out, nm, HX.out]; simp [hnb]; omega)
          have hdi : decide (0 ≤ idxS (l.take k) s) = false := decide_eq_false hi
          have HCC := Lib.hid (contains_ok (l.take k) s _ w HT.out)
          rw [hdi] at HCC
          clear hnb HA hdi
          go_wp2_with fail
          refine (HN.out _).mono ?_
          rintro e w1 ⟨rfl, rfl⟩
          go_wp2_with fail
          refine HCC.out.mono ?_
          rintro e w1 ⟨rfl, rfl⟩
          go_wp2_with fail
          go_round
          case rel => exact ⟨k + 1, by go_num, by omega, HA2⟩
          case measure => simp [intOf]; omega
    · have hge : l.length ≤ k := by omega
      have HR : Hid (namesB l l.length = true) := Lib.hid (by
        have e : k = l.length := by omega
        rw [namesB, ← e, HA.out]; simp [e])
      clear hlt HA
      go_wp2_with fail
      go_ret
      exact ⟨ret_bool (by rw [HR.out]), rfl⟩

set_option maxRecDepth 100000 in
set_option maxHeartbeats 1000000 in
theorem rnames_ok (l : List ByteArray) (n : Int) (v : Value) (w : World) (hv : IsStrs w v l) :
    Calls Try.prog 56 #[v, .int .i64 n] w fun e w' => e = .returned (.bool (namesB l n)) ∧ w = w' := by
  have HV := Lib.hid hv
  obtain ⟨p, c, rfl, hc1, hc2, hcell, hsize⟩ := hv
  unfold maxLen at hc2
  have HC := Lib.hid hcell
  have HSZ := Lib.hid hsize
  have HNM := Lib.hid (fun s w h => rname_ok s w h)
  clear hcell hsize
  by_cases hn : (l.length : Int) = n
  rotate_left
  · have d0 : ((l.length : Int) != n) = true := by simpa using hn
    have HR : Hid (namesB l n = false) := Lib.hid (by rw [namesB, decide_eq_false hn]; rfl)
    clear hn
    go_enter Try.func56, Try.ntmps56
    go_wp2_with fail
    go_ret
    exact ⟨ret_bool (by rw [HR.out]), rfl⟩
  subst hn
  go_enter Try.func56, Try.ntmps56
  go_wp2_with fail
  go_loop [13] (fun i => ∃ k : Nat, i = .int .i64 k ∧ k ≤ l.length ∧ Hid (nmAll l k = true)) (fun i => l.length - (intOf i).toNat)
  case atStart => exact ⟨0, rfl, by omega, Lib.hid rfl⟩
  case round =>
    obtain ⟨k, rfl, hk, HA⟩ := hrel
    by_cases hlt : k < l.length
    · obtain ⟨b, o, rfl, hcl⟩ := HC.out (fun h => by simp [h] at hlt)
      have hx := List.getElem?_eq_getElem hlt
      obtain ⟨s, hs⟩ : ∃ s, s = l[k] := ⟨_, rfl⟩
      rw [← hs] at hx
      have c1 := hcl k s hx
      have hbl := World.block_lt_of_cell? _ _ c1
      simp only at hbl
      have HN := Lib.hid (fun w => HNM.out s w (HSZ.out s (by rw [hs]; exact List.getElem_mem hlt)))
      have HT := Lib.hid (HV.out.take k hk)
      have HX := Lib.hid hx
      clear hcl hx hs
      cases hnb : nameB s with
      | false =>
        have HR : Hid (namesB l l.length = false) := Lib.hid (namesB_false hlt (by rw [nm, HX.out]; simp [hnb]))
        rw [hnb] at HN
        clear hnb HA
        go_wp2_with fail
        refine (HN.out _).mono ?_
        rintro e w1 ⟨rfl, rfl⟩
        go_wp2_with fail
        go_ret
        exact ⟨ret_bool (by rw [HR.out]), rfl⟩
      | true =>
        rw [hnb] at HN
        by_cases hi : 0 ≤ idxS (l.take k) s
        · have HR : Hid (namesB l l.length = false) := Lib.hid (namesB_false hlt (by rw [nm, HX.out]; simp [hnb, hi]))
          have hdi : decide (0 ≤ idxS (l.take k) s) = true := decide_eq_true hi
          have HCC := Lib.hid (place_ok (l.take k) s _ w HT.out)
          skip
          clear hnb HA 
          go_wp2_with fail
          refine (HN.out _).mono ?_
          rintro e w1 ⟨rfl, rfl⟩
          go_wp2_with fail
          refine HCC.out.mono ?_
          rintro e w1 ⟨rfl, rfl⟩
          go_wp2_with fail
          go_ret
          exact ⟨ret_bool (by rw [HR.out]), rfl⟩
        · have HA2 : Hid (nmAll l (k + 1) = true) := Lib.hid (by rw [nmAll, HA.out, nm, HX.out]; simp [hnb]; omega)
          have hdi : decide (0 ≤ idxS (l.take k) s) = false := decide_eq_false hi
          have HCC := Lib.hid (place_ok (l.take k) s _ w HT.out)
          have hi2 : idxS (l.take k) s < 0 := by omega
          clear hnb HA 
          go_wp2_with fail
          refine (HN.out _).mono ?_
          rintro e w1 ⟨rfl, rfl⟩
          go_wp2_with fail
          refine HCC.out.mono ?_
          rintro e w1 ⟨rfl, rfl⟩
          go_wp2_with fail
          go_round
          case rel => exact ⟨k + 1, by go_num, by omega, HA2⟩
          case measure => simp [intOf]; omega
    · have hge : l.length ≤ k := by omega
      have HR : Hid (namesB l l.length = true) := Lib.hid (by
        have e : k = l.length := by omega
        rw [namesB, ← e, HA.out]; simp [e])
      clear hlt HA
      go_wp2_with fail
      go_ret
      exact ⟨ret_bool (by rw [HR.out]), rfl⟩

end Go.Proofs.Ythdaeblfehclcab
