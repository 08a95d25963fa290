/- tree.Name; the walk of law01.TreeForms. -/
import Derived.Test.YtkgoealanboolaaDoorTAwakeOk
import Derived.Test.YtkgoealanboolaaDoorTSame
import Derived.Test.YtkgoealanboolaaDoorTSize
import Derived.Test.YtkgoealanboolaaDoorRTValid
import Derived.Test.YtkgoealanboolaaDoorNames
import Derived.Test.YtkgoealanboolaaDoorTOrder
namespace Go.Proofs.YtkgoealanboolaaDoor
open Go.RowKit Go.Shelf

theorem tname_ok (s : ByteArray) (w : World) (hs : s.size ≤ 9223372036854775807) : Calls Tryd.prog 22 #[.string s] w fun e w' => e = .returned (.bool (nameB s)) ∧ w = w' := by
  have HN := Lib.hid (name_ok s w hs)
  go_enter Tryd.func22, Tryd.ntmps22
  go_wp2_with fail
  refine HN.out.mono ?_
  rintro e w1 ⟨rfl, rfl⟩
  go_wp2_with fail
  go_ret
  exact ⟨rfl, rfl⟩

end Go.Proofs.YtkgoealanboolaaDoor
