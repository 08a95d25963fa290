/- ref03.Insert. -/
import Derived.Test.YtedfldbknjcnlaaDoorFG3
import Derived.Test.YtedfldbknjcnlaaDoorFG2
namespace Go.Proofs.YtedfldbknjcnlaaDoor
open Go.RowKit Go.Shelf

/-- An append to a list of the call's own, at a step of a region that draws its order. -/
theorem step_append_own {P : Program} {ops : Array Oper} {o : Oper} {a : Act} {K : Act → World → Prop} {Q : Exit → Act → World → Prop} {E : Prop} (w : World) (hgd : o.guard = none) (s x : Operand) (t : TypeId)
    (ho : o.op = .call { callee := .builtin .append, args := #[s, x], argTypes := #[t, t] })
    (base : Nat) (e : TypeId) (i : TypeInfo) (z : Value) (size bytes : Nat) (ht : P.underlying t = some (.slice e)) (hi : P.info? e = some i) (hz : i.zero = some z)
    (hsize : i.size = size) (hby : i.bytes = bytes) (hzs : z.cells.size = size) (hsz : 0 < size)
    (v : Value) (n : Nat) (xs : List Value) (hs : a.eval s = v) (hown : w.ownsRow base e size v n xs)
    (ad : Addr) (m c : Nat) (news : List Value) (hx : a.eval x = .slice (some ad) m c) (hl : news.length = m * size) (hnews : ∀ j u, news[j]? = some u → w.cell? (ad.add j) = some u) (h1 : ∀ u ∈ news, u.oneCell' = true)
    (h63 : n + m ≤ maxLen) (hbytes : (n + m) * bytes ≤ 140737488355328) (hbase : base ≤ w.heap.size)
    (h : ∀ v' w', w'.ownsRow base e size v' (n + m) (xs ++ news) → w.grownBy w' v.ownBlock → (v'.ownBlock = v.ownBlock ∨ v'.ownBlock = some w.heap.size) → K (a.put o.dst v') w') :
    if Region.wanted o (yielded ops a.tmps) = true then Oper.wp P o a w K Q else E := by
  have hw : Region.wanted o (yielded ops a.tmps) = true := by simp [Region.wanted, hgd]
  rw [if_pos hw]
  obtain ⟨v', w', hr, h2, h3, h4, h5⟩ := run_append_own_at (P := P) w base t o.type e i z size bytes ht hi hz hsize hby hzs hsz v n xs hown ad m c news hl hnews h1 h63 hbytes hbase
  unfold Oper.wp execOp
  simp only [ho, resolve, invoke, builtin, Sem.run_bind, Sem.run_pure, Result.andThen_ok, List.map_toArray, List.map_cons, List.map_nil, hs, hx, hr]
  exact h v' w' h2 h3 h5

theorem Tryd.infoInt : (Tryd.prog.info? 3).map (fun i => (i.zero, i.size, i.bytes)) = some (some (.int .i64 0), 1, 8) := by kernel_rfl

/-- How many elements come before n. -/
def befL (n : Int) : List Int → Nat
  | [] => 0
  | x :: l => if x < n then befL n l + 1 else 0
theorem befL_le (n : Int) (l : List Int) : befL n l ≤ l.length := by
  induction l with
  | nil => exact Nat.le_refl _
  | cons x l ih => unfold befL; split <;> simp; omega
theorem befL_lt {n : Int} : ∀ {l : List Int} {k : Nat} {x : Int}, k < befL n l → l[k]? = some x → x < n
  | [], _, _, h, _ => by simp [befL] at h
  | y :: l, k, x, h, hx => by
    unfold befL at h
    split at h
    · rename_i hy
      cases k with
      | zero => simp at hx; omega
      | succ k => exact befL_lt (l := l) (k := k) (by omega) (by simpa using hx)
    · omega
theorem befL_at {n : Int} : ∀ {l : List Int} {x : Int}, l[befL n l]? = some x → ¬ x < n
  | [], _, h => by simp at h
  | y :: l, x, h => by
    unfold befL at h
    split at h
    · exact befL_at (l := l) (by simpa using h)
    · rename_i hy; simp at h; omega
theorem insL_eq {n : Int} : ∀ {l : List Int}, insL n l = if l[befL n l]? = some n then l else l.take (befL n l) ++ n :: l.drop (befL n l)
  | [] => by simp [insL, befL]
  | y :: l => by
    unfold insL befL
    split
    · rw [insL_eq (l := l)]
      simp only [List.getElem?_cons_succ, List.take_succ_cons, List.drop_succ_cons]
      split <;> simp
    · split
      · rename_i h; subst h; simp
      · rename_i h1 h2; simp [h2]
theorem bef_unique {n : Int} {l : List Int} {k : Nat} (h1 : ∀ j x, j < k → l[j]? = some x → x < n) (h2 : ∀ x, l[k]? = some x → ¬ x < n) (hk : k ≤ l.length) : k = befL n l := by
  rcases Nat.lt_trichotomy k (befL n l) with h | h | h
  · have hl := befL_le n l
    obtain ⟨x, hx⟩ : ∃ x, l[k]? = some x := ⟨_, List.getElem?_eq_getElem (by omega)⟩
    exact absurd (befL_lt h hx) (h2 x hx)
  · exact h
  · obtain ⟨x, hx⟩ : ∃ x, l[befL n l]? = some x := ⟨_, List.getElem?_eq_getElem (by omega)⟩
    exact absurd (h1 _ x h hx) (befL_at hx)

/-- A list of numbers whose block lies in S. -/
def IsIntsS (S : Nat → Prop) (w : World) (v : Value) (l : List Int) : Prop :=
  ∃ p c, v = .slice p l.length c ∧ l.length ≤ c ∧ c ≤ maxLen ∧ (l ≠ [] → ∃ b o, p = some ⟨b, o, none⟩ ∧ S b ∧ ∀ (i : Nat) (x : Int), l[i]? = some x → w.cell? ⟨b, o + i, none⟩ = some (.int .i64 x))
theorem IsIntsS.isInts {S : Nat → Prop} {w : World} {v : Value} {l : List Int} (h : IsIntsS S w v l) : IsInts w v l := by
  obtain ⟨p, c, e, h1, h2, h3⟩ := h
  refine ⟨p, c, e, h1, h2, fun hne => ?_⟩
  obtain ⟨b, o, e, _, hc⟩ := h3 hne
  exact ⟨b, o, e, hc⟩
theorem IsIntsS.kp {S : Nat → Prop} {w w' : World} {v : Value} {l : List Int} (h : IsIntsS S w v l) (hk : Kp S w w') : IsIntsS S w' v l := by
  obtain ⟨p, c, e, h1, h2, h3⟩ := h
  refine ⟨p, c, e, h1, h2, fun hne => ?_⟩
  obtain ⟨b, o, e, hb, hc⟩ := h3 hne
  exact ⟨b, o, e, hb, fun i x hx => hk.cell (hc i x hx) hb⟩
theorem IsIntsS.below {S : Nat → Prop} {w w' : World} {v : Value} {l : List Int} (h : IsIntsS S w v l) (hb : Below w.heap.size w w') : IsIntsS S w' v l := h.kp (Kp.of_below hb (fun k hk _ => hk))
theorem IsIntsS.mono {S S' : Nat → Prop} {w : World} {v : Value} {l : List Int} (h : IsIntsS S w v l) (hS : ∀ c, c < w.heap.size → S c → S' c) : IsIntsS S' w v l := by
  obtain ⟨p, c, e, h1, h2, h3⟩ := h
  refine ⟨p, c, e, h1, h2, fun hne => ?_⟩
  obtain ⟨b, o, e, hb, hc⟩ := h3 hne
  refine ⟨b, o, e, hS b ?_ hb, hc⟩
  cases l with
  | nil => exact absurd rfl hne
  | cons x l => exact World.block_lt_of_cell? _ _ (hc 0 x rfl)
theorem isIntsS_of_own {w : World} {base : Nat} {v : Value} {l : List Int} {t : TypeId} (h : w.ownsRow base t 1 v l.length (l.map (Value.int .i64))) : IsIntsS (fun c => base ≤ c) w v l := by
  rcases h.2 with ⟨rfl, hn⟩ | ⟨g, cap, cur, rfl, hb, _, h1, h2, _⟩
  · have : l = [] := List.eq_nil_of_length_eq_zero hn
    subst this
    exact ⟨none, 0, rfl, Nat.le_refl _, by decide, fun h => absurd rfl h⟩
  · refine ⟨_, _, rfl, h1, h2, fun _ => ⟨g, 0, rfl, hb, fun i x hx => ?_⟩⟩
    have hi := (List.getElem?_eq_some_iff.1 hx).1
    rw [Nat.zero_add, h.cellAt i (by omega), List.getElem?_map, hx]; rfl
theorem isInts_of_own {w : World} {base : Nat} {v : Value} {l : List Int} {t : TypeId} (h : w.ownsRow base t 1 v l.length (l.map (Value.int .i64))) : IsInts w v l := by
  rcases h.2 with ⟨rfl, hn⟩ | ⟨g, cap, cur, rfl, _, _, h1, h2, _⟩
  · have : l = [] := List.eq_nil_of_length_eq_zero hn
    subst this
    exact ⟨none, 0, rfl, Nat.le_refl _, by decide, fun h => absurd rfl h⟩
  · refine ⟨_, _, rfl, h1, h2, fun _ => ⟨g, 0, rfl, fun i x hx => ?_⟩⟩
    have hi := (List.getElem?_eq_some_iff.1 hx).1
    rw [Nat.zero_add, h.cellAt i (by omega), List.getElem?_map, hx]; rfl

theorem drop_addr {w : World} {ad : Addr} {l : List Int} {k c : Nat} (hk : k ≤ l.length) (hc : l.length ≤ c) (hcell : ∀ j u, (l.map (Value.int .i64))[j]? = some u → w.cell? (ad.add j) = some u) :
    ∀ j u, ((l.drop k).map (Value.int .i64))[j]? = some u → w.cell? ((if c = k then ad else ad.add k).add j) = some u := by
  intro j u hu
  by_cases e : c = k
  · have : l.drop k = [] := List.drop_eq_nil_iff.2 (by omega)
    rw [this] at hu; simp at hu
  · rw [if_neg e, Addr.add_add]
    refine hcell (k + j) u ?_
    rw [List.map_drop, List.getElem?_drop] at hu
    exact hu
theorem take_addr {w : World} {ad : Addr} {l : List Int} {k : Nat} (hcell : ∀ j u, (l.map (Value.int .i64))[j]? = some u → w.cell? (ad.add j) = some u) :
    ∀ j u, ((l.take k).map (Value.int .i64))[j]? = some u → w.cell? (ad.add j) = some u := by
  intro j u hu
  refine hcell j u ?_
  rw [List.map_take, List.getElem?_take] at hu
  split at hu
  · exact hu
  · cases hu

theorem run_append_nil {P : Program} (t ty e : TypeId) (i : TypeInfo) (ht : P.underlying t = some (.slice e)) (hi : P.info? e = some i) (w : World) (ad : Addr) (n c c2 : Nat) (hn : n ≤ c) :
    (Builtin.append_ #[t, t] ty #[.slice (some ad) n c, .slice none 0 c2]).run P w = .ok (.slice (some ad) n c) w := by
  simp [Builtin.append_, run_underlying ht, sizeOf, typeInfo, hi, Builtin.lenOf, Builtin.firstCells, loadCells, loadCellsFrom, storeCells, hn]

/-- An append of nothing, at a step of a region that draws its order. -/
theorem step_append_nil {P : Program} {ops : Array Oper} {o : Oper} {a : Act} {K : Act → World → Prop} {Q : Exit → Act → World → Prop} {E : Prop} (w : World) (hgd : o.guard = none) (s x : Operand) (t : TypeId)
    (ho : o.op = .call { callee := .builtin .append, args := #[s, x], argTypes := #[t, t] })
    (e : TypeId) (i : TypeInfo) (ht : P.underlying t = some (.slice e)) (hi : P.info? e = some i)
    (base size : Nat) (v : Value) (n : Nat) (xs : List Value) (hs : a.eval s = v) (hown : w.ownsRow base e size v n xs) (hne : v ≠ .slice none 0 0) (c2 : Nat) (hx : a.eval x = .slice none 0 c2)
    (h : K (a.put o.dst v) w) :
    if Region.wanted o (yielded ops a.tmps) = true then Oper.wp P o a w K Q else E := by
  have hw : Region.wanted o (yielded ops a.tmps) = true := by simp [Region.wanted, hgd]
  rw [if_pos hw]
  rcases hown.2 with ⟨e1, _⟩ | ⟨g, cap, cur, e1, _, _, h1, _⟩
  · exact absurd e1 hne
  · have hr := run_append_nil (P := P) t o.type e i ht hi w ⟨g, 0, none⟩ n cap c2 h1
    rw [← e1] at hr
    unfold Oper.wp execOp
    simp only [ho, resolve, invoke, builtin, Sem.run_bind, Sem.run_pure, Result.andThen_ok, List.map_toArray, List.map_cons, List.map_nil, hs, hx, hr]
    exact h

theorem ownz {W : World} {base g : Nat} {t : TypeId} (hb : Blk W g t #[]) (h : base ≤ g) : W.ownsRow base t 1 (.slice (some ⟨g, 0, none⟩) 0 0) 0 [] := ⟨rfl, .inr ⟨g, 0, #[], rfl, h, hb, Nat.le_refl _, by decide, rfl, rfl⟩⟩
theorem one_int (l : List Int) : ∀ u ∈ l.map (Value.int .i64), u.oneCell' = true := fun u hu => by
  obtain ⟨x, _, rfl⟩ := List.mem_map.1 hu; rfl
theorem new_one {W : World} {g : Nat} {t : TypeId} {u : Value} (hb : Blk W g t #[u]) : ∀ j x, [u][j]? = some x → W.cell? ((⟨g, 0, none⟩ : Addr).add j) = some x := fun j x hx => by
  rw [show ((⟨g, 0, none⟩ : Addr).add j) = ⟨g, j, none⟩ by unfold Addr.add; split <;> simp_all, hb.cell]
  simpa using hx

theorem bl_1 (w : World) (o : Obj) : Below w.heap.size w (w.alloc o).drew := ((Below.refl _ w).alloc (Nat.le_refl _) o).drew
theorem bl_2 (w : World) (o o' : Obj) : Below w.heap.size w ((w.alloc o).alloc o').drew := (((Below.refl _ w).alloc (Nat.le_refl _) o).alloc (by simp) o').drew
theorem sz_1 (w : World) (o : Obj) : w.heap.size ≤ (w.alloc o).drew.heap.size := by show _ ≤ (w.alloc o).heap.size; simp
theorem sz_2 (w : World) (o o' : Obj) : w.heap.size ≤ ((w.alloc o).alloc o').drew.heap.size := by show _ ≤ ((w.alloc o).alloc o').heap.size; simp; omega
theorem bk_11 (w : World) (t : TypeId) (a : Array Value) : Blk (w.alloc (.cells a t)).drew w.heap.size t a := Blk.new w t a
theorem bk_21 (w : World) (t : TypeId) (a : Array Value) (o : Obj) : Blk ((w.alloc (.cells a t)).alloc o).drew w.heap.size t a := (Blk.new w t a).alloc o
theorem bk_22 (w : World) (t : TypeId) (a : Array Value) (o : Obj) : Blk ((w.alloc o).alloc (.cells a t)).drew (w.heap.size + 1) t a := by
  have := Blk.new (w.alloc o) t a
  rw [World.size_alloc] at this
  exact this
theorem own_ne {w : World} {base n : Nat} {e : TypeId} {v : Value} {xs : List Value} (h : w.ownsRow base e 1 v (n + 1) xs) : v ≠ .slice none 0 0 := fun e => by
  rcases h.2 with ⟨_, h⟩ | ⟨g, c, cur, e2, _⟩
  · omega
  · rw [e] at e2; cases e2
theorem bgr {B g : Nat} {w X W : World} {n c : Nat} (h : Below B w X) (hg : X.grownBy W (Value.slice (some ⟨g, 0, none⟩) n c).ownBlock) (hB : B ≤ X.heap.size) (hv : B ≤ g) : Below B w W :=
  h.grown hg hB (fun j e => by simp only [Value.ownBlock, Option.some.injEq] at e; omega)
theorem bkg {g g' : Nat} {X W : World} {n c : Nat} {t : TypeId} {a : Array Value} (hg : X.grownBy W (Value.slice (some ⟨g, 0, none⟩) n c).ownBlock) (hb : Blk X g' t a) (hne : g' ≠ g) : Blk W g' t a :=
  (hg.block g' hb.lt (fun e => hne (by simp only [Value.ownBlock, Option.some.injEq] at e; omega))).trans hb
theorem bgo {B : Nat} {w X W : World} {v : Value} {e : TypeId} {size n : Nat} {xs : List Value} (h : Below B w X) (hg : X.grownBy W v.ownBlock) (hB : B ≤ X.heap.size) (ho : X.ownsRow B e size v n xs) : Below B w W :=
  h.grown hg hB (fun j e => (ho.lt j e).1)

set_option maxRecDepth 100000 in
set_option maxHeartbeats 1000000 in
theorem insert_ok (S : Nat → Prop) (l : List Int) (v : Value) (n : Int) (w : World) (hv : IsIntsS S w v l) (hl : l.length ≤ 1000) (hnil : l = [] → v = .slice none 0 0) :
    Calls Tryd.prog 110 #[v, .int .i64 n] w fun e w' => (∃ u, e = .returned u ∧ IsIntsS (fun c => S c ∨ w.heap.size ≤ c) w' u (insL n l)) ∧ Below w.heap.size w w' := by
  obtain ⟨i0, hi, hz0, hz1, hz2⟩ := info_parts Tryd.infoInt
  have HV : Hid (IsIntsS (fun c => S c ∨ w.heap.size ≤ c) w v l) := Lib.hid (hv.mono (fun c _ h => .inl h))
  obtain ⟨p, c, rfl, hc1, hc2, hcell⟩ := hv.isInts
  clear hv
  unfold maxLen at hc2
  have HC := Lib.hid hcell
  have HI := Lib.hid hi
  clear hcell hi
  go_enter Tryd.func110, Tryd.ntmps110
  go_wp2_with fail
  go_loop [5] (fun iv => ∃ k : Nat, iv = .int .i64 (k : Nat) ∧ k ≤ l.length ∧ Hid (∀ j x, j < k → l[j]? = some x → x < n)) (fun iv => l.length - (intOf iv).toNat)
  case atStart => exact ⟨0, rfl, by omega, Lib.hid (fun j x h => by omega)⟩
  case round =>
    obtain ⟨k, rfl, hk, HE⟩ := hrel
    by_cases hlt : k < l.length
    · obtain ⟨x, hx⟩ : ∃ x, l[k]? = some x := ⟨_, List.getElem?_eq_getElem hlt⟩
      obtain ⟨b, o, rfl, hcl⟩ := HC.out (fun h => by simp [h] at hlt)
      have c1 := hcl k x hx
      have hbl := World.block_lt_of_cell? _ _ c1
      simp only at hbl
      have HXK := Lib.hid hx
      have hlt1 : (k : Int) < (l.length : Int) := by omega
      have hk0 : (0 : Int) ≤ (k : Int) := by omega
      have HCL := Lib.hid hcl
      clear hx hcl
      by_cases h : x < n
      · have d1 : decide (x < n) = true := decide_eq_true h
        have HXN := Lib.hid h
        go_wp2_with fail
        go_round
        case rel => exact ⟨k + 1, by go_num, by omega, Lib.hid (fun j y hj hy => by
          by_cases e : j = k
          · subst e; rw [HXK.out] at hy; cases hy; exact HXN.out
          · exact HE.out j y (by omega) hy)⟩
        case measure => simp [intOf]; omega
      · have d1 : decide (x < n) = false := decide_eq_false h
        have HK : Hid (k = befL n l) := Lib.hid (bef_unique HE.out (fun y hy => by rw [HXK.out] at hy; cases hy; exact h) hk)
        by_cases h2 : x = n
        · have d2 : (x == n) = true := by simpa using h2
          have H2 := Lib.hid h2
          clear h2
          go_wp2_with fail
          go_ret
          refine ⟨⟨_, rfl, ?_⟩, Below.refl _ _⟩
          rw [insL_eq, if_pos (by rw [← HK.out, HXK.out, H2.out])]
          exact HV.out
        · have d2 : (x == n) = false := by simpa using h2
          have H2 := Lib.hid h2
          clear h2
          have hcells : ∀ j u, (l.map (Value.int .i64))[j]? = some u → w.cell? ((⟨b, o, none⟩ : Addr).add j) = some u := fun j u hu => by
            rw [List.getElem?_map, Option.map_eq_some_iff] at hu
            obtain ⟨y, hy, rfl⟩ := hu
            rw [show ((⟨b, o, none⟩ : Addr).add j) = ⟨b, o + j, none⟩ by unfold Addr.add; split <;> simp_all]
            exact HCL.out j y hy
          have HTK := Lib.hid (take_addr (k := k) hcells)
          have HDR := Lib.hid (drop_addr (k := k) (c := c) hk hc1 hcells)
          have hkc : (k : Int) ≤ (c : Int) := by omega
          have hkc2 : k ≤ c := by omega
          have hkl : (k : Int) ≤ (l.length : Int) := by omega
          have hck : ¬ c = k := by omega
          have HADR : Hid ((if c = k then (⟨b, o, none⟩ : Addr) else (⟨b, o, none⟩ : Addr).add k) = (⟨b, o, none⟩ : Addr).add k) := Lib.hid (if_neg hck)
          have HRES : Hid (insL n l = l.take k ++ n :: l.drop k) := Lib.hid (by rw [insL_eq, ← HK.out, if_neg (by rw [HXK.out]; intro e; cases e; exact H2.out rfl)])
          have HLT := Lib.hid (show (l.take k).length = k by rw [List.length_take]; omega)
          have HLD := Lib.hid (show (l.drop k).length = l.length - k by rw [List.length_drop])
          have HDR2 : Hid (∀ j u, ((l.drop k).map (Value.int .i64))[j]? = some u → w.cell? ((⟨b, o + k, none⟩ : Addr).add j) = some u) := Lib.hid (fun j u hu => by
            have := HDR.out j u hu
            rw [HADR.out, show ((⟨b, o, none⟩ : Addr).add k) = ⟨b, o + k, none⟩ by unfold Addr.add; split <;> simp_all] at this
            exact this)
          have HLE0 := Lib.hid (Nat.le_refl w.heap.size)
          have HLE1 := Lib.hid (Nat.le_succ w.heap.size)
          have HLT1 : Hid (((l.take k).map (Value.int .i64)).length = k * 1) := Lib.hid (by rw [List.length_map, HLT.out, Nat.mul_one])
          have HLD1 : Hid (((l.drop k).map (Value.int .i64)).length = (l.length - k) * 1) := Lib.hid (by rw [List.length_map, HLD.out, Nat.mul_one])
          have HM1 : Hid (0 + k ≤ maxLen) := Lib.hid (by simp only [maxLen]; omega)
          have HM2 : Hid ((0 + k) * 8 ≤ 140737488355328) := Lib.hid (by omega)
          have HM3 : Hid (0 + k + 1 ≤ maxLen) := Lib.hid (by simp only [maxLen]; omega)
          have HM4 : Hid ((0 + k + 1) * 8 ≤ 140737488355328) := Lib.hid (by omega)
          have HM5 : Hid (0 + k + 1 + (l.length - k) ≤ maxLen) := Lib.hid (by simp only [maxLen]; omega)
          have HM6 : Hid ((0 + k + 1 + (l.length - k)) * 8 ≤ 140737488355328) := Lib.hid (by omega)
          have HONE : Hid (∀ u ∈ [Value.int .i64 n], u.oneCell' = true) := Lib.hid (fun u hu => by rw [List.mem_singleton] at hu; subst hu; rfl)
          clear hcells
          go_wp2_with fail
          go_region_held3 (fun _ => True) (exact trivial)
            (first
              | (refine step_append_own _ rfl (.tmp 33) (.tmp 36) 22 rfl w.heap.size 3 i0 _ 1 8 Tryd.underlying22 HI.out hz0 hz1 hz2 rfl (by decide) (.slice (some ⟨w.heap.size, 0, none⟩) 0 0) 0 [] rfl (ownz (bk_11 w _ _) HLE0.out) ⟨b, o, none⟩ k c ((l.take k).map (Value.int .i64)) rfl HLT1.out (fun j u hu => cell_later (bl_1 w _) (HTK.out j u hu)) (one_int _) HM1.out HM2.out (sz_1 w _) ?_; intro v1 W1 ho1 hg1 hat1; have HO1 := Lib.hid ho1; have HB1 : Hid (Below w.heap.size w W1) := Lib.hid (bgr (bl_1 w _) hg1 (sz_1 w _) HLE0.out); have HBG : Hid (∀ g' a, g' ≠ w.heap.size → Blk _ g' 3 a → Blk W1 g' 3 a) := Lib.hid (fun g' a hne hb => bkg hg1 hb hne); have hz1' := HB1.out.size; clear ho1 hg1 hat1)
              | (refine step_append_own _ rfl (.tmp 33) (.tmp 36) 22 rfl w.heap.size 3 i0 _ 1 8 Tryd.underlying22 HI.out hz0 hz1 hz2 rfl (by decide) (.slice (some ⟨w.heap.size, 0, none⟩) 0 0) 0 [] rfl (ownz (bk_21 w _ _ _) HLE0.out) ⟨b, o, none⟩ k c ((l.take k).map (Value.int .i64)) rfl HLT1.out (fun j u hu => cell_later (bl_2 w _ _) (HTK.out j u hu)) (one_int _) HM1.out HM2.out (sz_2 w _ _) ?_; intro v1 W1 ho1 hg1 hat1; have HO1 := Lib.hid ho1; have HB1 : Hid (Below w.heap.size w W1) := Lib.hid (bgr (bl_2 w _ _) hg1 (sz_2 w _ _) HLE0.out); have HBG : Hid (∀ g' a, g' ≠ w.heap.size → Blk _ g' 3 a → Blk W1 g' 3 a) := Lib.hid (fun g' a hne hb => bkg hg1 hb hne); have hz1' := HB1.out.size; clear ho1 hg1 hat1)
              | (refine step_append_own _ rfl (.tmp 33) (.tmp 36) 22 rfl w.heap.size 3 i0 _ 1 8 Tryd.underlying22 HI.out hz0 hz1 hz2 rfl (by decide) (.slice (some ⟨w.heap.size + 1, 0, none⟩) 0 0) 0 [] rfl (ownz (bk_22 w _ _ _) HLE1.out) ⟨b, o, none⟩ k c ((l.take k).map (Value.int .i64)) rfl HLT1.out (fun j u hu => cell_later (bl_2 w _ _) (HTK.out j u hu)) (one_int _) HM1.out HM2.out (sz_2 w _ _) ?_; intro v1 W1 ho1 hg1 hat1; have HO1 := Lib.hid ho1; have HB1 : Hid (Below w.heap.size w W1) := Lib.hid (bgr (bl_2 w _ _) hg1 (sz_2 w _ _) HLE1.out); have HBG : Hid (∀ g' a, g' ≠ w.heap.size + 1 → Blk _ g' 3 a → Blk W1 g' 3 a) := Lib.hid (fun g' a hne hb => bkg hg1 hb hne); have hz1' := HB1.out.size; clear ho1 hg1 hat1)
              | (refine step_append_own _ rfl (.tmp 37) (.tmp 39) 22 rfl w.heap.size 3 i0 _ 1 8 Tryd.underlying22 HI.out hz0 hz1 hz2 rfl (by decide) v1 (0 + k) ([] ++ (l.take k).map (Value.int .i64)) rfl (HO1.out.alloc _) _ 1 1 [.int .i64 n] rfl rfl (new_one (Blk.new W1 _ _)) HONE.out HM3.out HM4.out (Nat.le_trans HB1.out.size (Nat.le_of_lt (by rw [World.size_alloc]; exact Nat.lt_succ_self _))) ?_; intro v2 W2 ho2 hg2 hat2; have HO2 := Lib.hid ho2; have HB2 : Hid (Below w.heap.size w W2) := Lib.hid (bgo (HB1.out.alloc HB1.out.size _) hg2 (Nat.le_trans HB1.out.size (Nat.le_of_lt (by rw [World.size_alloc]; exact Nat.lt_succ_self _))) (HO1.out.alloc _)); clear ho2 hg2 hat2)
              | (refine step_append_own _ rfl (.tmp 37) (.tmp 39) 22 rfl w.heap.size 3 i0 _ 1 8 Tryd.underlying22 HI.out hz0 hz1 hz2 rfl (by decide) v1 (0 + k) ([] ++ (l.take k).map (Value.int .i64)) rfl (HO1.out) _ 1 1 [.int .i64 n] rfl rfl (new_one (HBG.out (w.heap.size + 1) _ (Nat.succ_ne_self _) (bk_22 w _ _ _))) HONE.out HM3.out HM4.out (HB1.out.size) ?_; intro v2 W2 ho2 hg2 hat2; have HO2 := Lib.hid ho2; have HB2 : Hid (Below w.heap.size w W2) := Lib.hid (bgo (HB1.out) hg2 (HB1.out.size) (HO1.out)); clear ho2 hg2 hat2)
              | (refine step_append_own _ rfl (.tmp 37) (.tmp 39) 22 rfl w.heap.size 3 i0 _ 1 8 Tryd.underlying22 HI.out hz0 hz1 hz2 rfl (by decide) v1 (0 + k) ([] ++ (l.take k).map (Value.int .i64)) rfl (HO1.out) _ 1 1 [.int .i64 n] rfl rfl (new_one (HBG.out w.heap.size _ (Nat.ne_of_lt (Nat.lt_succ_self _)) (bk_21 w _ _ _))) HONE.out HM3.out HM4.out (HB1.out.size) ?_; intro v2 W2 ho2 hg2 hat2; have HO2 := Lib.hid ho2; have HB2 : Hid (Below w.heap.size w W2) := Lib.hid (bgo (HB1.out) hg2 (HB1.out.size) (HO1.out)); clear ho2 hg2 hat2)
              | (refine step_append_own _ rfl (.tmp 40) (.tmp 43) 22 rfl w.heap.size 3 i0 _ 1 8 Tryd.underlying22 HI.out hz0 hz1 hz2 rfl (by decide) v2 (0 + k + 1) ([] ++ (l.take k).map (Value.int .i64) ++ [.int .i64 n]) rfl HO2.out ⟨b, o + k, none⟩ (l.length - k) (c - k) ((l.drop k).map (Value.int .i64)) rfl HLD1.out (fun j u hu => cell_later HB2.out (HDR2.out j u hu)) (one_int _) HM5.out HM6.out HB2.out.size ?_; intro v3 W3 ho3 hg3 hat3; have HO3 := Lib.hid ho3; have HB3 : Hid (Below w.heap.size w W3) := Lib.hid (bgo HB2.out hg3 HB2.out.size HO2.out); clear ho3 hg3 hat3))
          all_goals
            go_wp2_with fail
            go_ret
            refine ⟨⟨v3, rfl, ?_⟩, HB3.out⟩
            rw [HRES.out]
            refine (isIntsS_of_own (base := w.heap.size) (t := 3) ?_).mono (fun _ _ h => .inr h)
            rw [show (l.take k ++ n :: l.drop k).length = 0 + k + 1 + (l.length - k) by simp only [List.length_append, List.length_cons, HLT.out, HLD.out]; omega, show (l.take k ++ n :: l.drop k).map (Value.int .i64) = ([] ++ (l.take k).map (Value.int .i64) ++ [Value.int .i64 n]) ++ (l.drop k).map (Value.int .i64) by simp]
            exact HO3.out
    · have HKE : Hid (k = l.length) := Lib.hid (by omega)
      have hdlt : decide ((k : Int) < (l.length : Int)) = false := decide_eq_false (by omega)
      have hdl2 : decide (k < l.length) = false := decide_eq_false hlt
      have HK : Hid (k = befL n l) := Lib.hid (bef_unique HE.out (fun y hy => by rw [List.getElem?_eq_none (by omega)] at hy; cases hy) hk)
      by_cases hl0 : l = []
      · subst hl0
        have hv0 := hnil rfl
        simp only [Value.slice.injEq] at hv0
        obtain ⟨rfl, -, rfl⟩ := hv0
        have hk0 : k = 0 := by simpa using hk
        subst hk0
        clear HKE hdlt hdl2 hlt hnil HC HV HK HE hk
        have HLE0 := Lib.hid (Nat.le_refl w.heap.size)
        have HLE1 := Lib.hid (Nat.le_succ w.heap.size)
        have HONE : Hid (∀ u ∈ [Value.int .i64 n], u.oneCell' = true) := Lib.hid (fun u hu => by rw [List.mem_singleton] at hu; subst hu; rfl)
        go_wp2_with fail
        go_region_held3 (fun _ => True) (exact trivial)
          (first
            | (refine step_append_nil _ rfl (.tmp 33) (.tmp 36) 22 rfl 3 i0 Tryd.underlying22 HI.out w.heap.size 1 (.slice (some ⟨w.heap.size, 0, none⟩) 0 0) 0 [] rfl (ownz (bk_11 w _ _) HLE0.out) (by simp) 0 rfl ?_)
            | (refine step_append_nil _ rfl (.tmp 33) (.tmp 36) 22 rfl 3 i0 Tryd.underlying22 HI.out w.heap.size 1 (.slice (some ⟨w.heap.size, 0, none⟩) 0 0) 0 [] rfl (ownz (bk_21 w _ _ _) HLE0.out) (by simp) 0 rfl ?_)
            | (refine step_append_nil _ rfl (.tmp 33) (.tmp 36) 22 rfl 3 i0 Tryd.underlying22 HI.out w.heap.size 1 (.slice (some ⟨w.heap.size + 1, 0, none⟩) 0 0) 0 [] rfl (ownz (bk_22 w _ _ _) HLE1.out) (by simp) 0 rfl ?_)
            | (refine step_append_own _ rfl (.tmp 37) (.tmp 39) 22 rfl w.heap.size 3 i0 _ 1 8 Tryd.underlying22 HI.out hz0 hz1 hz2 rfl (by decide) (.slice (some ⟨w.heap.size, 0, none⟩) 0 0) 0 [] rfl (ownz (bk_21 w _ _ _) HLE0.out) _ 1 1 [.int .i64 n] rfl rfl (new_one (bk_22 w _ _ _)) HONE.out (by decide) (by decide) (sz_2 w _ _) ?_; intro v2 W2 ho2 hg2 hat2; have HO2 := Lib.hid ho2; have HNZ : Hid (v2 ≠ .slice none 0 0) := Lib.hid (own_ne ho2); have HB2 : Hid (Below w.heap.size w W2) := Lib.hid (bgr (bl_2 w _ _) hg2 (sz_2 w _ _) HLE0.out); clear ho2 hg2 hat2)
            | (refine step_append_own _ rfl (.tmp 37) (.tmp 39) 22 rfl w.heap.size 3 i0 _ 1 8 Tryd.underlying22 HI.out hz0 hz1 hz2 rfl (by decide) (.slice (some ⟨w.heap.size + 1, 0, none⟩) 0 0) 0 [] rfl (ownz (bk_22 w _ _ _) HLE1.out) _ 1 1 [.int .i64 n] rfl rfl (new_one (bk_21 w _ _ _)) HONE.out (by decide) (by decide) (sz_2 w _ _) ?_; intro v2 W2 ho2 hg2 hat2; have HO2 := Lib.hid ho2; have HNZ : Hid (v2 ≠ .slice none 0 0) := Lib.hid (own_ne ho2); have HB2 : Hid (Below w.heap.size w W2) := Lib.hid (bgr (bl_2 w _ _) hg2 (sz_2 w _ _) HLE1.out); clear ho2 hg2 hat2)
            | (refine step_append_nil _ rfl (.tmp 40) (.tmp 43) 22 rfl 3 i0 Tryd.underlying22 HI.out w.heap.size 1 v2 (0 + 1) ([] ++ [.int .i64 n]) rfl HO2.out HNZ.out 0 rfl ?_))
        all_goals
          go_wp2_with fail
          go_ret
          exact ⟨⟨v2, rfl, (isIntsS_of_own (base := w.heap.size) (t := 3) (l := [n]) HO2.out).mono (fun _ _ h => .inr h)⟩, HB2.out⟩
      obtain ⟨b, o, rfl, hcl⟩ := HC.out hl0
      have hk0 : (0 : Int) ≤ (k : Int) := by omega
      have HCL := Lib.hid hcl
      have HL0 := Lib.hid hl0
      clear hcl hl0
      have hcells0 : True := trivial
      by_cases hck : c = k
      rotate_left
      · have hcells : ∀ j u, (l.map (Value.int .i64))[j]? = some u → w.cell? ((⟨b, o, none⟩ : Addr).add j) = some u := fun j u hu => by
          rw [List.getElem?_map, Option.map_eq_some_iff] at hu
          obtain ⟨y, hy, rfl⟩ := hu
          rw [show ((⟨b, o, none⟩ : Addr).add j) = ⟨b, o + j, none⟩ by unfold Addr.add; split <;> simp_all]
          exact HCL.out j y hy
        have HTK := Lib.hid (take_addr (k := k) hcells)
        have HDR := Lib.hid (drop_addr (k := k) (c := c) hk hc1 hcells)
        have hkc : (k : Int) ≤ (c : Int) := by (have := HKE.out; omega)
        have hkc2 : k ≤ c := by (have := HKE.out; omega)
        have hkl : (k : Int) ≤ (l.length : Int) := by (have := HKE.out; omega)
        have HADR : Hid ((if c = k then (⟨b, o, none⟩ : Addr) else (⟨b, o, none⟩ : Addr).add k) = (⟨b, o, none⟩ : Addr).add k) := Lib.hid (if_neg hck)
        have HRES : Hid (insL n l = l.take k ++ n :: l.drop k) := Lib.hid (by rw [insL_eq, ← HK.out, if_neg (by rw [List.getElem?_eq_none (by (have := HKE.out; omega))]; simp)])
        have HLT := Lib.hid (show (l.take k).length = k by rw [List.length_take]; omega)
        have HLD := Lib.hid (show (l.drop k).length = l.length - k by rw [List.length_drop])
        have HDR2 : Hid (∀ j u, ((l.drop k).map (Value.int .i64))[j]? = some u → w.cell? ((⟨b, o + k, none⟩ : Addr).add j) = some u) := Lib.hid (fun j u hu => by
          have := HDR.out j u hu
          rw [HADR.out, show ((⟨b, o, none⟩ : Addr).add k) = ⟨b, o + k, none⟩ by unfold Addr.add; split <;> simp_all] at this
          exact this)
        have HLE0 := Lib.hid (Nat.le_refl w.heap.size)
        have HLE1 := Lib.hid (Nat.le_succ w.heap.size)
        have HLT1 : Hid (((l.take k).map (Value.int .i64)).length = k * 1) := Lib.hid (by rw [List.length_map, HLT.out, Nat.mul_one])
        have HLD1 : Hid (((l.drop k).map (Value.int .i64)).length = (l.length - k) * 1) := Lib.hid (by rw [List.length_map, HLD.out, Nat.mul_one])
        have HM1 : Hid (0 + k ≤ maxLen) := Lib.hid (by simp only [maxLen]; omega)
        have HM2 : Hid ((0 + k) * 8 ≤ 140737488355328) := Lib.hid (by (have := HKE.out; omega))
        have HM3 : Hid (0 + k + 1 ≤ maxLen) := Lib.hid (by simp only [maxLen]; omega)
        have HM4 : Hid ((0 + k + 1) * 8 ≤ 140737488355328) := Lib.hid (by (have := HKE.out; omega))
        have HM5 : Hid (0 + k + 1 + (l.length - k) ≤ maxLen) := Lib.hid (by simp only [maxLen]; omega)
        have HM6 : Hid ((0 + k + 1 + (l.length - k)) * 8 ≤ 140737488355328) := Lib.hid (by (have := HKE.out; omega))
        have HONE : Hid (∀ u ∈ [Value.int .i64 n], u.oneCell' = true) := Lib.hid (fun u hu => by rw [List.mem_singleton] at hu; subst hu; rfl)
        clear hcells
        go_wp2_with fail
        go_region_held3 (fun _ => True) (exact trivial)
          (first
            | (refine step_append_own _ rfl (.tmp 33) (.tmp 36) 22 rfl w.heap.size 3 i0 _ 1 8 Tryd.underlying22 HI.out hz0 hz1 hz2 rfl (by decide) (.slice (some ⟨w.heap.size, 0, none⟩) 0 0) 0 [] rfl (ownz (bk_11 w _ _) HLE0.out) ⟨b, o, none⟩ k c ((l.take k).map (Value.int .i64)) rfl HLT1.out (fun j u hu => cell_later (bl_1 w _) (HTK.out j u hu)) (one_int _) HM1.out HM2.out (sz_1 w _) ?_; intro v1 W1 ho1 hg1 hat1; have HO1 := Lib.hid ho1; have HB1 : Hid (Below w.heap.size w W1) := Lib.hid (bgr (bl_1 w _) hg1 (sz_1 w _) HLE0.out); have HBG : Hid (∀ g' a, g' ≠ w.heap.size → Blk _ g' 3 a → Blk W1 g' 3 a) := Lib.hid (fun g' a hne hb => bkg hg1 hb hne); have hz1' := HB1.out.size; clear ho1 hg1 hat1)
            | (refine step_append_own _ rfl (.tmp 33) (.tmp 36) 22 rfl w.heap.size 3 i0 _ 1 8 Tryd.underlying22 HI.out hz0 hz1 hz2 rfl (by decide) (.slice (some ⟨w.heap.size, 0, none⟩) 0 0) 0 [] rfl (ownz (bk_21 w _ _ _) HLE0.out) ⟨b, o, none⟩ k c ((l.take k).map (Value.int .i64)) rfl HLT1.out (fun j u hu => cell_later (bl_2 w _ _) (HTK.out j u hu)) (one_int _) HM1.out HM2.out (sz_2 w _ _) ?_; intro v1 W1 ho1 hg1 hat1; have HO1 := Lib.hid ho1; have HB1 : Hid (Below w.heap.size w W1) := Lib.hid (bgr (bl_2 w _ _) hg1 (sz_2 w _ _) HLE0.out); have HBG : Hid (∀ g' a, g' ≠ w.heap.size → Blk _ g' 3 a → Blk W1 g' 3 a) := Lib.hid (fun g' a hne hb => bkg hg1 hb hne); have hz1' := HB1.out.size; clear ho1 hg1 hat1)
            | (refine step_append_own _ rfl (.tmp 33) (.tmp 36) 22 rfl w.heap.size 3 i0 _ 1 8 Tryd.underlying22 HI.out hz0 hz1 hz2 rfl (by decide) (.slice (some ⟨w.heap.size + 1, 0, none⟩) 0 0) 0 [] rfl (ownz (bk_22 w _ _ _) HLE1.out) ⟨b, o, none⟩ k c ((l.take k).map (Value.int .i64)) rfl HLT1.out (fun j u hu => cell_later (bl_2 w _ _) (HTK.out j u hu)) (one_int _) HM1.out HM2.out (sz_2 w _ _) ?_; intro v1 W1 ho1 hg1 hat1; have HO1 := Lib.hid ho1; have HB1 : Hid (Below w.heap.size w W1) := Lib.hid (bgr (bl_2 w _ _) hg1 (sz_2 w _ _) HLE1.out); have HBG : Hid (∀ g' a, g' ≠ w.heap.size + 1 → Blk _ g' 3 a → Blk W1 g' 3 a) := Lib.hid (fun g' a hne hb => bkg hg1 hb hne); have hz1' := HB1.out.size; clear ho1 hg1 hat1)
            | (refine step_append_own _ rfl (.tmp 37) (.tmp 39) 22 rfl w.heap.size 3 i0 _ 1 8 Tryd.underlying22 HI.out hz0 hz1 hz2 rfl (by decide) v1 (0 + k) ([] ++ (l.take k).map (Value.int .i64)) rfl (HO1.out.alloc _) _ 1 1 [.int .i64 n] rfl rfl (new_one (Blk.new W1 _ _)) HONE.out HM3.out HM4.out (Nat.le_trans HB1.out.size (Nat.le_of_lt (by rw [World.size_alloc]; exact Nat.lt_succ_self _))) ?_; intro v2 W2 ho2 hg2 hat2; have HO2 := Lib.hid ho2; have HB2 : Hid (Below w.heap.size w W2) := Lib.hid (bgo (HB1.out.alloc HB1.out.size _) hg2 (Nat.le_trans HB1.out.size (Nat.le_of_lt (by rw [World.size_alloc]; exact Nat.lt_succ_self _))) (HO1.out.alloc _)); clear ho2 hg2 hat2)
            | (refine step_append_own _ rfl (.tmp 37) (.tmp 39) 22 rfl w.heap.size 3 i0 _ 1 8 Tryd.underlying22 HI.out hz0 hz1 hz2 rfl (by decide) v1 (0 + k) ([] ++ (l.take k).map (Value.int .i64)) rfl (HO1.out) _ 1 1 [.int .i64 n] rfl rfl (new_one (HBG.out (w.heap.size + 1) _ (Nat.succ_ne_self _) (bk_22 w _ _ _))) HONE.out HM3.out HM4.out (HB1.out.size) ?_; intro v2 W2 ho2 hg2 hat2; have HO2 := Lib.hid ho2; have HB2 : Hid (Below w.heap.size w W2) := Lib.hid (bgo (HB1.out) hg2 (HB1.out.size) (HO1.out)); clear ho2 hg2 hat2)
            | (refine step_append_own _ rfl (.tmp 37) (.tmp 39) 22 rfl w.heap.size 3 i0 _ 1 8 Tryd.underlying22 HI.out hz0 hz1 hz2 rfl (by decide) v1 (0 + k) ([] ++ (l.take k).map (Value.int .i64)) rfl (HO1.out) _ 1 1 [.int .i64 n] rfl rfl (new_one (HBG.out w.heap.size _ (Nat.ne_of_lt (Nat.lt_succ_self _)) (bk_21 w _ _ _))) HONE.out HM3.out HM4.out (HB1.out.size) ?_; intro v2 W2 ho2 hg2 hat2; have HO2 := Lib.hid ho2; have HB2 : Hid (Below w.heap.size w W2) := Lib.hid (bgo (HB1.out) hg2 (HB1.out.size) (HO1.out)); clear ho2 hg2 hat2)
            | (refine step_append_own _ rfl (.tmp 40) (.tmp 43) 22 rfl w.heap.size 3 i0 _ 1 8 Tryd.underlying22 HI.out hz0 hz1 hz2 rfl (by decide) v2 (0 + k + 1) ([] ++ (l.take k).map (Value.int .i64) ++ [.int .i64 n]) rfl HO2.out ⟨b, o + k, none⟩ (l.length - k) (c - k) ((l.drop k).map (Value.int .i64)) rfl HLD1.out (fun j u hu => cell_later HB2.out (HDR2.out j u hu)) (one_int _) HM5.out HM6.out HB2.out.size ?_; intro v3 W3 ho3 hg3 hat3; have HO3 := Lib.hid ho3; have HB3 : Hid (Below w.heap.size w W3) := Lib.hid (bgo HB2.out hg3 HB2.out.size HO2.out); clear ho3 hg3 hat3))
        all_goals
          go_wp2_with fail
          go_ret
          refine ⟨⟨v3, rfl, ?_⟩, HB3.out⟩
          rw [HRES.out]
          refine (isIntsS_of_own (base := w.heap.size) (t := 3) ?_).mono (fun _ _ h => .inr h)
          rw [show (l.take k ++ n :: l.drop k).length = 0 + k + 1 + (l.length - k) by simp only [List.length_append, List.length_cons, HLT.out, HLD.out]; omega, show (l.take k ++ n :: l.drop k).map (Value.int .i64) = ([] ++ (l.take k).map (Value.int .i64) ++ [Value.int .i64 n]) ++ (l.drop k).map (Value.int .i64) by simp]
          exact HO3.out

      · subst hck
        have hcells : ∀ j u, (l.map (Value.int .i64))[j]? = some u → w.cell? ((⟨b, o, none⟩ : Addr).add j) = some u := fun j u hu => by
          rw [List.getElem?_map, Option.map_eq_some_iff] at hu
          obtain ⟨y, hy, rfl⟩ := hu
          rw [show ((⟨b, o, none⟩ : Addr).add j) = ⟨b, o + j, none⟩ by unfold Addr.add; split <;> simp_all]
          exact HCL.out j y hy
        have HTK := Lib.hid (take_addr (k := c) hcells)
        have HDR := Lib.hid (drop_addr (k := c) (c := c) hk hc1 hcells)
        have hkc : (c : Int) ≤ (c : Int) := by (have := HKE.out; omega)
        have hkc2 : c ≤ c := by (have := HKE.out; omega)
        have hkl : (c : Int) ≤ (l.length : Int) := by (have := HKE.out; omega)
        have HADR : Hid ((if c = c then (⟨b, o, none⟩ : Addr) else (⟨b, o, none⟩ : Addr).add c) = (⟨b, o, none⟩ : Addr)) := Lib.hid (if_pos rfl)
        have HRES : Hid (insL n l = l.take c ++ n :: l.drop c) := Lib.hid (by rw [insL_eq, ← HK.out, if_neg (by rw [List.getElem?_eq_none (by (have := HKE.out; omega))]; simp)])
        have HLT := Lib.hid (show (l.take c).length = c by rw [List.length_take]; omega)
        have HLD := Lib.hid (show (l.drop c).length = l.length - c by rw [List.length_drop])
        have HDR2 : Hid (∀ j u, ((l.drop c).map (Value.int .i64))[j]? = some u → w.cell? ((⟨b, o, none⟩ : Addr).add j) = some u) := Lib.hid (fun j u hu => by
          have := HDR.out j u hu
          rw [HADR.out] at this
          exact this)
        have HDN : Hid (l.drop c = []) := Lib.hid (List.drop_eq_nil_iff.2 (by have := HKE.out; omega))
        have HNO : Hid (∀ j u, ([] : List Value)[j]? = some u → ∀ (W : World), W.cell? ((⟨b, o, none⟩ : Addr).add j) = some u) := Lib.hid (fun j u hu => by simp at hu)
        have HNO2 : Hid (∀ u ∈ ([] : List Value), u.oneCell' = true) := Lib.hid (fun u hu => by cases hu)
        have HLE0 := Lib.hid (Nat.le_refl w.heap.size)
        have HLE1 := Lib.hid (Nat.le_succ w.heap.size)
        have HLT1 : Hid (((l.take c).map (Value.int .i64)).length = c * 1) := Lib.hid (by rw [List.length_map, HLT.out, Nat.mul_one])
        have HLD1 : Hid (((l.drop c).map (Value.int .i64)).length = (l.length - c) * 1) := Lib.hid (by rw [List.length_map, HLD.out, Nat.mul_one])
        have HM1 : Hid (0 + c ≤ maxLen) := Lib.hid (by simp only [maxLen]; omega)
        have HM2 : Hid ((0 + c) * 8 ≤ 140737488355328) := Lib.hid (by (have := HKE.out; omega))
        have HM3 : Hid (0 + c + 1 ≤ maxLen) := Lib.hid (by simp only [maxLen]; omega)
        have HM4 : Hid ((0 + c + 1) * 8 ≤ 140737488355328) := Lib.hid (by (have := HKE.out; omega))
        have HM5 : Hid (0 + c + 1 + 0 ≤ maxLen) := Lib.hid (by simp only [maxLen]; omega)
        have HM6 : Hid ((0 + c + 1 + 0) * 8 ≤ 140737488355328) := Lib.hid (by (have := HKE.out; omega))
        have HONE : Hid (∀ u ∈ [Value.int .i64 n], u.oneCell' = true) := Lib.hid (fun u hu => by rw [List.mem_singleton] at hu; subst hu; rfl)
        clear hcells
        go_wp2_with fail
        go_region_held3 (fun _ => True) (exact trivial)
          (first
            | (refine step_append_own _ rfl (.tmp 33) (.tmp 36) 22 rfl w.heap.size 3 i0 _ 1 8 Tryd.underlying22 HI.out hz0 hz1 hz2 rfl (by decide) (.slice (some ⟨w.heap.size, 0, none⟩) 0 0) 0 [] rfl (ownz (bk_11 w _ _) HLE0.out) ⟨b, o, none⟩ c c ((l.take c).map (Value.int .i64)) rfl HLT1.out (fun j u hu => cell_later (bl_1 w _) (HTK.out j u hu)) (one_int _) HM1.out HM2.out (sz_1 w _) ?_; intro v1 W1 ho1 hg1 hat1; have HO1 := Lib.hid ho1; have HB1 : Hid (Below w.heap.size w W1) := Lib.hid (bgr (bl_1 w _) hg1 (sz_1 w _) HLE0.out); have HBG : Hid (∀ g' a, g' ≠ w.heap.size → Blk _ g' 3 a → Blk W1 g' 3 a) := Lib.hid (fun g' a hne hb => bkg hg1 hb hne); have hz1' := HB1.out.size; clear ho1 hg1 hat1)
            | (refine step_append_own _ rfl (.tmp 33) (.tmp 36) 22 rfl w.heap.size 3 i0 _ 1 8 Tryd.underlying22 HI.out hz0 hz1 hz2 rfl (by decide) (.slice (some ⟨w.heap.size, 0, none⟩) 0 0) 0 [] rfl (ownz (bk_21 w _ _ _) HLE0.out) ⟨b, o, none⟩ c c ((l.take c).map (Value.int .i64)) rfl HLT1.out (fun j u hu => cell_later (bl_2 w _ _) (HTK.out j u hu)) (one_int _) HM1.out HM2.out (sz_2 w _ _) ?_; intro v1 W1 ho1 hg1 hat1; have HO1 := Lib.hid ho1; have HB1 : Hid (Below w.heap.size w W1) := Lib.hid (bgr (bl_2 w _ _) hg1 (sz_2 w _ _) HLE0.out); have HBG : Hid (∀ g' a, g' ≠ w.heap.size → Blk _ g' 3 a → Blk W1 g' 3 a) := Lib.hid (fun g' a hne hb => bkg hg1 hb hne); have hz1' := HB1.out.size; clear ho1 hg1 hat1)
            | (refine step_append_own _ rfl (.tmp 33) (.tmp 36) 22 rfl w.heap.size 3 i0 _ 1 8 Tryd.underlying22 HI.out hz0 hz1 hz2 rfl (by decide) (.slice (some ⟨w.heap.size + 1, 0, none⟩) 0 0) 0 [] rfl (ownz (bk_22 w _ _ _) HLE1.out) ⟨b, o, none⟩ c c ((l.take c).map (Value.int .i64)) rfl HLT1.out (fun j u hu => cell_later (bl_2 w _ _) (HTK.out j u hu)) (one_int _) HM1.out HM2.out (sz_2 w _ _) ?_; intro v1 W1 ho1 hg1 hat1; have HO1 := Lib.hid ho1; have HB1 : Hid (Below w.heap.size w W1) := Lib.hid (bgr (bl_2 w _ _) hg1 (sz_2 w _ _) HLE1.out); have HBG : Hid (∀ g' a, g' ≠ w.heap.size + 1 → Blk _ g' 3 a → Blk W1 g' 3 a) := Lib.hid (fun g' a hne hb => bkg hg1 hb hne); have hz1' := HB1.out.size; clear ho1 hg1 hat1)
            | (refine step_append_own _ rfl (.tmp 37) (.tmp 39) 22 rfl w.heap.size 3 i0 _ 1 8 Tryd.underlying22 HI.out hz0 hz1 hz2 rfl (by decide) v1 (0 + c) ([] ++ (l.take c).map (Value.int .i64)) rfl (HO1.out.alloc _) _ 1 1 [.int .i64 n] rfl rfl (new_one (Blk.new W1 _ _)) HONE.out HM3.out HM4.out (Nat.le_trans HB1.out.size (Nat.le_of_lt (by rw [World.size_alloc]; exact Nat.lt_succ_self _))) ?_; intro v2 W2 ho2 hg2 hat2; have HO2 := Lib.hid ho2; have HB2 : Hid (Below w.heap.size w W2) := Lib.hid (bgo (HB1.out.alloc HB1.out.size _) hg2 (Nat.le_trans HB1.out.size (Nat.le_of_lt (by rw [World.size_alloc]; exact Nat.lt_succ_self _))) (HO1.out.alloc _)); clear ho2 hg2 hat2)
            | (refine step_append_own _ rfl (.tmp 37) (.tmp 39) 22 rfl w.heap.size 3 i0 _ 1 8 Tryd.underlying22 HI.out hz0 hz1 hz2 rfl (by decide) v1 (0 + c) ([] ++ (l.take c).map (Value.int .i64)) rfl (HO1.out) _ 1 1 [.int .i64 n] rfl rfl (new_one (HBG.out (w.heap.size + 1) _ (Nat.succ_ne_self _) (bk_22 w _ _ _))) HONE.out HM3.out HM4.out (HB1.out.size) ?_; intro v2 W2 ho2 hg2 hat2; have HO2 := Lib.hid ho2; have HB2 : Hid (Below w.heap.size w W2) := Lib.hid (bgo (HB1.out) hg2 (HB1.out.size) (HO1.out)); clear ho2 hg2 hat2)
            | (refine step_append_own _ rfl (.tmp 37) (.tmp 39) 22 rfl w.heap.size 3 i0 _ 1 8 Tryd.underlying22 HI.out hz0 hz1 hz2 rfl (by decide) v1 (0 + c) ([] ++ (l.take c).map (Value.int .i64)) rfl (HO1.out) _ 1 1 [.int .i64 n] rfl rfl (new_one (HBG.out w.heap.size _ (Nat.ne_of_lt (Nat.lt_succ_self _)) (bk_21 w _ _ _))) HONE.out HM3.out HM4.out (HB1.out.size) ?_; intro v2 W2 ho2 hg2 hat2; have HO2 := Lib.hid ho2; have HB2 : Hid (Below w.heap.size w W2) := Lib.hid (bgo (HB1.out) hg2 (HB1.out.size) (HO1.out)); clear ho2 hg2 hat2)
            | (refine step_append_own _ rfl (.tmp 40) (.tmp 43) 22 rfl w.heap.size 3 i0 _ 1 8 Tryd.underlying22 HI.out hz0 hz1 hz2 rfl (by decide) v2 (0 + c + 1) ([] ++ (l.take c).map (Value.int .i64) ++ [.int .i64 n]) rfl HO2.out ⟨b, o, none⟩ 0 0 [] rfl rfl (fun j u hu => HNO.out j u hu _) HNO2.out HM5.out HM6.out HB2.out.size ?_; intro v3 W3 ho3 hg3 hat3; have HO3 := Lib.hid ho3; have HB3 : Hid (Below w.heap.size w W3) := Lib.hid (bgo HB2.out hg3 HB2.out.size HO2.out); clear ho3 hg3 hat3))
        all_goals
          go_wp2_with fail
          go_ret
          refine ⟨⟨v3, rfl, ?_⟩, HB3.out⟩
          rw [HRES.out]
          refine (isIntsS_of_own (base := w.heap.size) (t := 3) ?_).mono (fun _ _ h => .inr h)
          rw [show (l.take c ++ n :: l.drop c).length = 0 + c + 1 + 0 by simp only [List.length_append, List.length_cons, HLT.out, HLD.out]; omega, show (l.take c ++ n :: l.drop c).map (Value.int .i64) = ([] ++ (l.take c).map (Value.int .i64) ++ [Value.int .i64 n]) ++ [] by simp [HDN.out]]
          exact HO3.out

end Go.Proofs.YtedfldbknjcnlaaDoor
