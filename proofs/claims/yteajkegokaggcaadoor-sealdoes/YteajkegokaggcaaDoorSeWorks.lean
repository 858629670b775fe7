/-
  The program answers the chapter's example: what four of the laws ask first.
-/
import Derived.Test.YteajkegokaggcaaDoorSeInv
import Derived.Lib.Hide
namespace Go.Proofs.YteajkegokaggcaaDoor
set_option maxRecDepth 100000
open Go.RowKit
set_option maxHeartbeats 2000000 in
theorem works_ok (w : World) (t : STab w) :
    Calls Tryd.prog 14 #[] w fun e w' => e = .returned (.bool true) ∧ Below w.heap.size w w' := by
  obtain ⟨o1, o2⟩ := open_seal wS 7 wH wD
  obtain ⟨o3, o4⟩ := w_open8
  have zs := sld_size wS 7 wH wD
  have z3 : wD.size = 3 := rfl
  rw [z3] at zs
  have NW : Hid (∀ w', Below w.heap.size w w' → _) := fun w' b => sinv_new wS w w' b t
  have SE : Hid (∀ w' v, SInv w w' v wS 0 0 → _) := fun w' v h => sinv_seal t 7 wH wD h (by decide) (by decide) (by decide) (by decide) (by decide)
  have O7 : Hid (∀ w' v, SInv w w' v wS 1 0 → _) := fun w' v h => sinv_open t 7 wH (sld wS 7 wH wD) h (by decide) (by decide) (by rw [zs]; decide) (by decide) (by decide)
  have O8 : Hid (∀ w' v, SInv w w' v wS 1 1 → _) := fun w' v h => sinv_open t 8 wH (sld wS 7 wH wD) h (by decide) (by decide) (by rw [zs]; decide) (by decide) (by decide)
  rw [o1, o2] at O7
  rw [o3, o4] at O8
  clear o1 o2 o3 o4 z3
  generalize sld wS 7 wH wD = X at *
  unfold wS wH wD at *
  go_enter Tryd.func14, Tryd.ntmps14
  go_wp2_with fail
  refine (NW.out _ (Below.refl _ _)).mono ?_
  rintro e w1 ⟨a, rfl, n1⟩
  have N1 := Lib.hid n1
  clear NW n1
  go_wp2_with fail
  refine (SE.out _ _ N1.out).mono ?_
  rintro e w2 ⟨rfl, n2⟩
  have N2 := Lib.hid n2
  clear SE n2 N1
  go_wp2_with fail
  refine (O7.out _ _ N2.out).mono ?_
  rintro e w3 ⟨rfl, n3⟩
  have N3 := Lib.hid n3
  clear O7 n3 N2
  go_wp2_with fail
  refine (O8.out _ _ N3.out).mono ?_
  rintro e w4 ⟨rfl, n4⟩
  have Z4 : Hid (Below w.heap.size w w4) := n4.below
  clear O8 n4 N3
  go_wp2_with fail
  go_ret
  exact ⟨rfl, Z4.out⟩
end Go.Proofs.YteajkegokaggcaaDoor
