/-
  What the document's own Text answers, for every address. An address is a uint32; no other condition.
-/
import Derived.Test.YtojfcflkanohoaaDoorPfNum
namespace Go.Proofs.YtojfcflkanohoaaDoor
open Go.RowKit

set_option maxHeartbeats 2000000 in
theorem rtext_ok (a : Int) (w : World) (a0 : 0 ≤ a) (a1 : a < 4294967296) :
    Calls Tryd.prog 25 #[.int .u32 a] w fun e w' => e = .returned (.string (txt a)) ∧ Below w.heap.size w w' := by
  have j : strOfNums (dd (a / 16777216)) ++ ByteArray.mk #[46] ++ strOfNums (dd (a / 65536 % 256)) ++ ByteArray.mk #[46] ++ strOfNums (dd (a / 256 % 256)) ++ ByteArray.mk #[46] ++ strOfNums (dd (a % 256)) = txt a := by
    have e : ByteArray.mk #[46] = strOfNums [46] := rfl
    rw [e]
    simp only [pf_append]
    rfl
  rw [← j]
  have N1 : Hid (∀ w, _) := fun w => number_ok (a / 16777216) w (by omega) (by omega)
  have N2 : Hid (∀ w, _) := fun w => number_ok (a / 65536 % 256) w (by omega) (by omega)
  have N3 : Hid (∀ w, _) := fun w => number_ok (a / 256 % 256) w (by omega) (by omega)
  have N4 : Hid (∀ w, _) := fun w => number_ok (a % 256) w (by omega) (by omega)
  have z1 := dd_len (a / 16777216)
  have z2 := dd_len (a / 65536 % 256)
  have z3 := dd_len (a / 256 % 256)
  have z4 := dd_len (a % 256)
  rw [← strOfNums_size] at z1 z2 z3 z4
  replace z1 := z1.2
  replace z2 := z2.2
  replace z3 := z3.2
  replace z4 := z4.2
  generalize strOfNums (dd (a / 16777216)) = S1 at *
  generalize strOfNums (dd (a / 65536 % 256)) = S2 at *
  generalize strOfNums (dd (a / 256 % 256)) = S3 at *
  generalize strOfNums (dd (a % 256)) = S4 at *
  have zp : (ByteArray.mk #[46]).size = 1 := rfl
  generalize hx1 : a / 16777216 = x1 at *
  generalize hx2 : a / 65536 % 256 = x2 at *
  generalize hx3 : a / 256 % 256 = x3 at *
  generalize hx4 : a % 256 = x4 at *
  clear j
  have r1 : 0 ≤ x1 ∧ x1 < 256 := by omega
  have r2 : 0 ≤ x2 ∧ x2 < 256 := by omega
  have r3 : 0 ≤ x3 ∧ x3 < 256 := by omega
  have r4 : 0 ≤ x4 ∧ x4 < 256 := by omega
  go_enter Tryd.func25, Tryd.ntmps25
  go_wp2_with fail
  refine (N1.out _).mono ?_
  rintro e w1 ⟨rfl, b1⟩
  replace b1 : Hid _ := b1
  clear N1
  go_wp2_with fail
  refine (N2.out _).mono ?_
  rintro e w2 ⟨rfl, b2⟩
  replace b2 : Hid _ := b1.out.trans (b2.mono b1.out.size)
  clear b1
  clear N2
  go_wp2_with fail
  refine (N3.out _).mono ?_
  rintro e w3 ⟨rfl, b3⟩
  replace b3 : Hid _ := b2.out.trans (b3.mono b2.out.size)
  clear b2
  clear N3
  go_wp2_with fail
  refine (N4.out _).mono ?_
  rintro e w4 ⟨rfl, b4⟩
  replace b4 : Hid _ := b3.out.trans (b4.mono b3.out.size)
  clear b3
  clear N4
  go_wp2_with fail
  go_ret
  exact ⟨rfl, b4.out⟩
end Go.Proofs.YtojfcflkanohoaaDoor
