/-
  What the program's own Text of varint answers: a text with its count in front. A text has less than 2^40 bytes; the table of sizes lies as the row's list gives it.
-/
import Derived.Test.YtbicfhilehllnaaGreatDoorVaPut
import Derived.Test.YtbicfhilehllnaaGreatDoorVaTx
namespace Go.Proofs.YtbicfhilehllnaaGreatDoor
set_option maxRecDepth 100000
open Go.RowKit

set_option maxHeartbeats 1000000 in
theorem vtext_ok (s : ByteArray) (w : World) (t : VTab w) (h : s.size < 1099511627776) :
    Calls Tryz.prog 208 #[.string s] w fun e w' => e = .returned (.string (vtx s)) ∧ Below w.heap.size w w' := by
  obtain ⟨m, k, hc, e⟩ := pt_is s.size (by omega)
  have z := pt_size s.size (by omega)
  have P : Hid (∀ w, VTab w → _) := fun w t => put_yes s.size m k w t hc
  rw [← e] at P
  unfold vtx
  clear e hc
  generalize pt s.size = X at *
  go_enter Tryz.func208, Tryz.ntmps208
  go_wp2_with (go_at_call 221; refine (P.out _ t).mono ?_; rintro e w1 ⟨rfl, b1⟩)
  go_ret
  exact ⟨rfl, b1⟩
end Go.Proofs.YtbicfhilehllnaaGreatDoor
