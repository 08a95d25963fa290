/- slices.SortFunc over rules of the call's own. -/
import Derived.Test.YtedfldbknjcnlaaDoorFG14
import Derived.Test.YtedfldbknjcnlaaDoorFG19
namespace Go.Proofs.YtedfldbknjcnlaaDoor
open Go.RowKit Go.Shelf Go.Maps Go.WideElems Go.Sort

instance ltR_dec (x y : Ru) : Decidable (ltR x y) := inferInstanceAs (Decidable (lessL (keyL x) (keyL y) < 0))
theorem rcells_get {E : List (Ru × Value)} {t : Nat} {x : Ru × Value} (h : E[t / 3]? = some x) : (rcells E)[t]? = (rcell x)[t % 3]? := by
  obtain ⟨h0, h1, h2⟩ := rcells_at h
  have h3 : t % 3 < 3 := Nat.mod_lt _ (by decide)
  have e : t = t / 3 * 3 + t % 3 := by omega
  rcases (by omega : t % 3 = 0 ∨ t % 3 = 1 ∨ t % 3 = 2) with g | g | g
  · rw [g]; rw [g, Nat.add_zero] at e; rw [e]; exact h0
  · rw [g]; rw [g] at e; rw [e]; exact h1
  · rw [g]; rw [g] at e; rw [e]; exact h2

section
variable (D : List (Ru × Value)) [Inhabited (Fin D.length)]
def encF (i : Fin D.length) : List Value := rcell (D.get i)
theorem flatF (d : Array (Fin D.length)) : (flatK (encF D) 3 d).toList = rcells (d.toList.map D.get) := by
  apply List.ext_getElem?
  intro t
  by_cases ht : t < d.size * 3
  · have h1 : t / 3 < d.size := by omega
    have h2 : (d.toList.map D.get)[t / 3]? = some (D.get d[t / 3]!) := by
      rw [List.getElem?_map, Array.getElem?_toList, Array.getElem?_eq_getElem h1, getElem!_pos d _ h1]
      rfl
    rw [rcells_get h2, Array.getElem?_toList]
    have h3 := get_flatK (encF D) 3 d t ht
    have h4 : t < (flatK (encF D) 3 d).size := by simpa using ht
    rw [getElem!_pos (flatK (encF D) 3 d) t h4] at h3
    rw [Array.getElem?_eq_getElem h4, h3]
    have h5 : t % 3 < (encF D d[t / 3]!).length := Nat.mod_lt _ (by decide)
    rw [getElem!_pos (encF D d[t / 3]!) (t % 3) h5]
    exact (List.getElem?_eq_getElem h5).symm
  · rw [List.getElem?_eq_none (by simpa using ht), List.getElem?_eq_none (by rw [rcells_len]; simpa using ht)]

theorem heap_sortK {w : World} {g n : Nat} {os : Array Obj} {cur : Array Value} {e : TypeId} {fr : Nat × Nat} (F : Array Value) (hb : w.heap[g]? = some (.cells cur e fr)) :
    (grow (putRow id (Sort.ahead w n) g 0 F) os).heap[g]? = some (.cells (putCells id 0 F cur) e fr) := by
  have hg : g < w.heap.size := (Array.getElem?_eq_some_iff.1 hb).1
  rw [heap_grow_old _ _ (by simpa using hg)]
  simp [putRow, mapBlock, Sort.ahead, Array.getElem?_modify, hb, onCells]
theorem kp_sortK {w : World} {g n : Nat} {os : Array Obj} (F : Array Value) : Kp (fun c => c ≠ g) w (grow (putRow id (Sort.ahead w n) g 0 F) os) := by
  refine ⟨rfl, rfl, rfl, by simp, fun k hk hne => ?_⟩
  rw [heap_grow_old _ _ (by simpa using hk)]
  have : g ≠ k := fun e => hne e.symm
  simp [putRow, mapBlock, Sort.ahead, Array.getElem?_modify, this]
theorem take_putK (cur F : Array Value) (h : F.size ≤ cur.size) : (putCells id 0 F cur).toList.take F.size = F.toList := by
  apply List.ext_getElem?
  intro j
  by_cases hj : j < F.size
  · rw [List.getElem?_take_of_lt hj, Array.getElem?_toList, Array.getElem?_toList]
    simp [putCells, hj, show j < cur.size by omega]
  · rw [List.getElem?_take_eq_none (by omega), List.getElem?_eq_none (by simp; omega)]

set_option maxRecDepth 100000 in
set_option maxHeartbeats 2000000 in
theorem rsortF_ok (hne : 0 < D.length) (hlen : D.length ≤ 1000000) (g cap B : Nat) (w : World) (ho : w.ownsRow B 70 3 (.slice (some ⟨g, 0, none⟩) D.length cap) D.length (rcells D))
    (hD : ∀ x ∈ D, ∀ W, Kp (fun c => c ≠ g) w W → IsInts W x.2 x.1.fr) (hR : ∀ x ∈ D, ∀ y ∈ D, x.1.sym = y.1.sym → x.1.fr.length = y.1.fr.length) :
    Calls Tryd.prog 86 #[.slice (some ⟨g, 0, none⟩) D.length cap, .func (.func 87) #[] #[]] w fun e w' => e = .returned (.tuple #[]) ∧
      ∃ D' : List (Ru × Value), D'.Perm D ∧ D'.Pairwise (fun x y => ¬ ltR y.1 x.1) ∧ w'.ownsRow B 70 3 (.slice (some ⟨g, 0, none⟩) D.length cap) D.length (rcells D') ∧ Kp (fun c => c ≠ g) w w' := by
  obtain ⟨d, hd⟩ : ∃ d : Array (Fin D.length), d = (List.finRange D.length).toArray := ⟨_, rfl⟩
  have hds : d.size = D.length := by rw [hd]; simp
  have hdm : d.toList.map D.get = D := by
    rw [hd]
    apply List.ext_getElem
    · simp
    · intro i h1 h2
      simp
  have hgb : ∃ cur, w.heap[g]? = some (.cells cur 70 (0, 0)) ∧ B ≤ g ∧ D.length ≤ cap ∧ cap ≤ maxLen ∧ cur.size = cap * 3 ∧ g < w.heap.size := by
    obtain ⟨g', cap', e, h1, h2, h3, h4, cur, h5, h6⟩ := row3_shape ho hne
    simp only [Value.slice.injEq, Option.some.injEq, Addr.mk.injEq] at e
    obtain ⟨⟨rfl, _⟩, _, rfl⟩ := e
    exact ⟨cur, h5, h1, h2, h3, h6, h4⟩
  obtain ⟨cur, hg, hBg, hc1, hc2, hc3, hgl⟩ := hgb
  have hcf : ∀ i j : Fin D.length, rcmp (D.get i).1 (D.get j).1 = lessL (keyL (D.get i).1) (keyL (D.get j).1) := fun i j => rcmp_key (hR _ (List.get_mem D i) _ (List.get_mem D j))
  have hlt : ∀ i j : Fin D.length, ltOf (fun i j : Fin D.length => rcmp (D.get i).1 (D.get j).1) i j = decide (ltR (D.get i).1 (D.get j).1) := fun i j => by
    show decide (rcmp (D.get i).1 (D.get j).1 < 0) = decide (ltR (D.get i).1 (D.get j).1)
    rw [decide_eq_decide, hcf i j]
    exact Iff.rfl
  have hswo : SWO (ltOf (fun i j : Fin D.length => rcmp (D.get i).1 (D.get j).1)) := by
    refine ⟨fun x => ?_, fun x y z h1 h2 => ?_, fun x y z h1 h2 => ?_⟩
    · rw [hlt]; exact decide_eq_false (ltR_irrefl _)
    · rw [hlt, decide_eq_true_eq] at *
      exact ltR_trans h1 h2
    · rw [hlt, decide_eq_false_iff_not] at *
      intro h3
      rcases ltR_tri (D.get x).1 (D.get y).1 with e | e | e
      · exact h1 e
      · rw [e] at h3; exact h2 h3
      · exact h2 (ltR_trans e h3)
  have hone : ∀ x ∈ D, x.2.oneCell' = true := fun x hx => by
    obtain ⟨_, _, e, _⟩ := hD x hx w (Kp.refl _ _)
    rw [e]; rfl
  have hhold : HoldsK (encF D) 3 w g 0 d := by
    intro j hj
    refine ⟨?_, Blk.frozen (show Blk w g 70 cur from hg) _⟩
    have h1 : (flatK (encF D) 3 d).toList[j]? = some (flatK (encF D) 3 d)[j]! := by
      rw [Array.getElem?_toList, Array.getElem?_eq_getElem hj, getElem!_pos (flatK (encF D) 3 d) j hj]
    rw [flatF, hdm] at h1
    rw [Nat.zero_add]
    exact row3_cell ho _ _ h1
  have hcmp : CmpLays Tryd.prog 87 #[] (encF D) 3 (fun i j : Fin D.length => rcmp (D.get i).1 (D.get j).1) g 0 d.size w := by
    intro m os dk _ x y
    have hk : Kp (fun c => c ≠ g) w (sortWorldK (encF D) 3 w g 0 m dk os) := kp_sortK _
    refine (rcompare_ok (D.get x).1 (D.get y).1 (D.get x).2 (D.get y).2 _ (hD _ (List.get_mem D x) _ hk) (hD _ (List.get_mem D y) _ hk)).mono ?_
    rintro e w' ⟨rfl, rfl⟩
    refine ⟨rfl, 1, #[.cells #[.int .i64 (D.get x).1.sym, (D.get x).2, .int .i64 (D.get x).1.to] 70, .cells #[.int .i64 (D.get y).1.sym, (D.get y).2, .int .i64 (D.get y).1.to] 70, .cells #[.int .i64 (cmpI (D.get x).1.sym (D.get y).1.sym), .int .i64 (lessL (D.get x).1.fr (D.get y).1.fr), .int .i64 (cmpI (D.get x).1.to (D.get y).1.to)] 3], ?_⟩
    rw [alloc_eq_grow, alloc_eq_grow, alloc_eq_grow, grow_grow, grow_grow]
    rfl
  have eg : ∀ args w, (callFunc 87 args).run Tryd.prog w = .ok (.enter 87 args) w := enters_of Tryd.func87 (by kernel_rfl) rfl
  have hcon := AnyQ.slices_SortFunc sortRule 3 Tryd.isAgg70 Tryd.sizeOf70 (encF D) (fun _ => rfl) (fun x v hv => by
    unfold encF rcell at hv
    simp only [List.mem_cons, List.not_mem_nil, or_false] at hv
    rcases hv with rfl | rfl | rfl
    · rfl
    · exact hone _ (List.get_mem D x)
    · rfl) (fun i j : Fin D.length => rcmp (D.get i).1 (D.get j).1) hswo 87 #[] g 0 cap d w eg hcmp hhold hgl (by omega)
  rw [hds] at hcon
  refine hcon.mono ?_
  rintro e w' ⟨rfl, d', n, os, hp, hs, rfl⟩
  obtain ⟨hp1, _, hp3⟩ := hp
  have hd's : d'.size = D.length := by rw [hp1, hds]
  refine ⟨rfl, d'.toList.map D.get, ?_, ?_, ?_, kp_sortK _⟩
  · have h1 : (d'.extract 0 D.length).toList = d'.toList := by
      rw [Array.toList_extract]
      simp only [List.extract_eq_take_drop, List.drop_zero, Nat.sub_zero]
      exact List.take_of_length_le (by rw [Array.length_toList, hd's]; exact Nat.le_refl _)
    have h2 : (d.extract 0 D.length).toList = d.toList := by
      rw [Array.toList_extract]
      simp only [List.extract_eq_take_drop, List.drop_zero, Nat.sub_zero]
      exact List.take_of_length_le (by rw [Array.length_toList, hds]; exact Nat.le_refl _)
    rw [h1, h2] at hp3
    have h3 := hp3.map D.get
    rw [hdm] at h3
    exact h3
  · rw [List.pairwise_map, List.pairwise_iff_getElem]
    intro i j hi hj hij
    have h1 := hs i j (Nat.zero_le _) hij (by rw [Array.length_toList] at hj; omega)
    rw [hlt, decide_eq_false_iff_not, getElem!_pos d' j (by simpa using hj), getElem!_pos d' i (by simpa using hi)] at h1
    simpa using h1
  · have hF : (flatK (encF D) 3 d').size = D.length * 3 := by simp [hd's]
    refine ⟨by rw [rcells_len, List.length_map, Array.length_toList, hd's], .inr ⟨g, cap, _, rfl, hBg, heap_sortK _ hg, hc1, hc2, by simp [putCells, hc3], ?_⟩⟩
    rw [← hF, take_putK _ _ (by rw [hF, hc3]; exact Nat.mul_le_mul_right 3 hc1), flatF]
end

end Go.Proofs.YtedfldbknjcnlaaDoor
