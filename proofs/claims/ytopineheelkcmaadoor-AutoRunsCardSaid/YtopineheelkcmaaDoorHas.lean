/- ref03.Has, Asked, States, Accepts. -/
import Derived.Test.YtopineheelkcmaaDoorOf
import Derived.Test.YtopineheelkcmaaDoorRefS
import Derived.Test.YtopineheelkcmaaDoorRAuV
import Derived.Test.YtopineheelkcmaaDoorRTValid
namespace Go.Proofs.YtopineheelkcmaaDoor
open Go.RowKit Go.Shelf

/-- The states of a tree. -/
def stsL (A : Au) (l : Int) (K : Hg) : List Int := stepL A.ru l (ofL A.ru K) []
def hasB (A : Au) (l : Int) (K : Hg) : Bool := meetB (stsL A l K) A.fin

set_option maxRecDepth 100000 in
set_option maxHeartbeats 1000000 in
theorem has_tree_ok (A : Au) (hlen : A.ru.length ≤ 100) (l : Int) (K : Hg) (v vk : Value) (w : World) (h2000 : K.size ≤ 2000) (hA : IsAu w v A) (hK : IsH w vk K) (hfit : ∀ x ∈ A.ru, x.sym = l → K.len ≤ x.fr.length) (hok : OkH A.ru K) :
    Calls Tryd.prog 33 #[v, .agg #[.int .i64 l, vk]] w fun e w' => e = .returned (.bool (hasB A l K)) ∧ Below w.heap.size w w' := by
  have HA := Lib.hid hA
  obtain ⟨fv, rv, rfl, hf, hr⟩ := hA
  have hbw : Below w.heap.size w ((w.alloc (.cells #[.int .i64 A.st, fv, rv] 27)).alloc (.cells #[.int .i64 l, vk] 43)) := ((Below.refl _ w).alloc (Nat.le_refl _) _).alloc (by simp) _
  have HX0 := Lib.hid ((Blk.new w 27 #[.int .i64 A.st, fv, rv]).alloc (.cells #[.int .i64 l, vk] 43))
  have HX1 : Hid (Blk ((w.alloc (.cells #[.int .i64 A.st, fv, rv] 27)).alloc (.cells #[.int .i64 l, vk] 43)) (w.heap.size + 1) 43 #[.int .i64 l, vk]) := Lib.hid (by simpa using Blk.new (w.alloc (.cells #[.int .i64 A.st, fv, rv] 27)) 43 #[.int .i64 l, vk])
  have HB := Lib.hid hbw
  have HF := Lib.hid hf
  have hst : ∀ W, Below ((w.alloc (.cells #[.int .i64 A.st, fv, rv] 27)).alloc (.cells #[.int .i64 l, vk] 43)).heap.size ((w.alloc (.cells #[.int .i64 A.st, fv, rv] 27)).alloc (.cells #[.int .i64 l, vk] 43)) W →
      W.cell? ⟨w.heap.size, 0, none⟩ = some (.int .i64 A.st) ∧ W.cell? ⟨w.heap.size, 1, none⟩ = some fv ∧ W.cell? ⟨w.heap.size, 2, none⟩ = some rv ∧ W.cell? ⟨w.heap.size + 1, 0, none⟩ = some (.int .i64 l) ∧ W.cell? ⟨w.heap.size + 1, 1, none⟩ = some vk := fun W hW => by
    have h0 := HX0.out.below hW (by simp; omega)
    have h1 := HX1.out.below hW (by simp)
    exact ⟨by rw [h0.cell]; rfl, by rw [h0.cell]; rfl, by rw [h0.cell]; rfl, by rw [h1.cell]; rfl, by rw [h1.cell]; rfl⟩
  have HST := Lib.hid hst
  have HOF := Lib.hid (of_ok A hlen (K.size + 1) l K _ _ _ (Nat.lt_succ_self _) h2000 (HA.out.below hbw.drew) (hK.below hbw.drew) hfit hok)
  obtain ⟨p1, c1, rfl, _⟩ := hf
  obtain ⟨p2, c2, rfl, _⟩ := hr
  obtain ⟨p, c, rfl, _⟩ := hK
  clear hst hbw
  go_enter Tryd.func33, Tryd.ntmps33
  go_wp2_with fail
  go_region_held3 (fun W => W.cell? ⟨w.heap.size, 0, none⟩ = some (.int .i64 A.st) ∧ W.cell? ⟨w.heap.size, 1, none⟩ = some (.slice p1 A.fin.length c1) ∧ W.cell? ⟨w.heap.size, 2, none⟩ = some (.slice p2 A.ru.length c2) ∧ W.cell? ⟨w.heap.size + 1, 0, none⟩ = some (.int .i64 l) ∧ W.cell? ⟨w.heap.size + 1, 1, none⟩ = some (.slice p K.len c))
    (first | exact HST.out _ (Below.refl _ _).drew | exact HST.out _ HB1.out)
    (first
      | (go_at_call 66; refine HOF.out.mono ?_; rintro e w1 ⟨⟨u, rfl, hu, -⟩, hb1⟩; have HU := Lib.hid hu.isInts; have HB1 : Hid (Below ((w.alloc (.cells #[.int .i64 A.st, .slice p1 A.fin.length c1, .slice p2 A.ru.length c2] 27)).alloc (.cells #[.int .i64 l, .slice p K.len c] 43)).heap.size ((w.alloc (.cells #[.int .i64 A.st, .slice p1 A.fin.length c1, .slice p2 A.ru.length c2] 27)).alloc (.cells #[.int .i64 l, .slice p K.len c] 43)) w1) := Lib.hid ((Below.refl _ _).drew.trans hb1); have HBW := Lib.hid (HB.out.trans (HB1.out.mono (by simp; omega))); clear hb1 hu)
      | (go_at_call 73; refine (meet_ok _ _ _ _ _ HU.out (HF.out.below HBW.out)).mono ?_; rintro e w2 ⟨rfl, rfl⟩))
  go_wp2_with fail
  go_ret
  exact ⟨ret_bool rfl, HBW.out⟩

end Go.Proofs.YtopineheelkcmaaDoor
