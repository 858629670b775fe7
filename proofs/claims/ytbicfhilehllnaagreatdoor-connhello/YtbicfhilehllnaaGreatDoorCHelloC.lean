/-
  The closed facts of the row of ConnHello, each by itself. No condition.
-/
import Derived.Test.YtbicfhilehllnaaGreatDoorRows
import Derived.Test.YtbicfhilehllnaaGreatDoorChecked
import Derived.JoinedOf
namespace Go.Proofs.YtbicfhilehllnaaGreatDoor.connHello
set_option maxRecDepth 100000
theorem both {a b : Bool} (ha : a = true) (hb : b = true) : (a && b) = true := by rw [ha, hb]; rfl
set_option maxHeartbeats 0 in
theorem closed : joinedFacts Tryz.pinned.checked.prog 4 Tryz.f4 Rows.connHelloSpec Rows.connHelloRow = true := by
  unfold joinedFacts
  repeat' refine both ?_ ?_
  all_goals as_aux_lemma => kernel_rfl
end Go.Proofs.YtbicfhilehllnaaGreatDoor.connHello
