/-
  What the document's own Text and Derive answer, for texts of less than 2^38 bytes: the key that the chapter says. No other condition.
-/
import Derived.Test.YtbicfhilehllnaaGreatDoorShHmac
import Derived.Test.YtbicfhilehllnaaGreatDoorVaRefPut
import Derived.Test.YtbicfhilehllnaaGreatDoorVaTx
namespace Go.Proofs.YtbicfhilehllnaaGreatDoor
set_option maxRecDepth 100000
open Go.RowKit Go.Sort

set_option maxHeartbeats 1000000 in
theorem rvtext_ok (s : ByteArray) (w : World) (h : s.size < 1099511627776) :
    Calls Tryz.prog 96 #[.string s] w fun e w' => e = .returned (.string (vtx s)) ∧ Below w.heap.size w w' := by
  obtain ⟨m, k, hc, e⟩ := pt_is s.size (by omega)
  have z := pt_size s.size (by omega)
  have P : Hid (∀ w, _) := fun w => rput_yes s.size m k w hc
  rw [← e] at P
  unfold vtx
  clear e hc
  generalize pt s.size = X at *
  go_enter Tryz.func96, Tryz.ntmps96
  go_wp2_with (go_at_call 149; refine (P.out _).mono ?_; rintro e w1 ⟨rfl, b1⟩)
  go_ret
  exact ⟨rfl, b1⟩
/-- The key that is made of a key. -/
def der (key label context : ByteArray) : ByteArray := bstr (hm (nb key) (nb (vtx label ++ vtx context)))
set_option maxHeartbeats 1000000 in
theorem rderive_ok (key label context : ByteArray) (w : World) (h1 : key.size < 549755813888) (h2 : label.size < 137438953472) (h3 : context.size < 137438953472) :
    Calls Tryz.prog 49 #[.string key, .string label, .string context] w fun e w' => e = .returned (.string (der key label context)) ∧ Below w.heap.size w w' := by
  have A : Hid (∀ w, _) := fun w => rvtext_ok label w (by omega)
  have B : Hid (∀ w, _) := fun w => rvtext_ok context w (by omega)
  have za := vtx_size label (by omega)
  have zb := vtx_size context (by omega)
  have H : Hid (∀ w, _) := fun w => rhmac_ok key (vtx label ++ vtx context) w h1 (by rw [ByteArray.size_append]; omega)
  unfold der
  generalize bstr (hm (nb key) (nb (vtx label ++ vtx context))) = R at *
  generalize vtx label = X at *
  generalize vtx context = Y at *
  go_enter Tryz.func49, Tryz.ntmps49
  go_wp2_with fail
  refine (A.out _).mono ?_
  rintro e w1 ⟨rfl, b1⟩
  have Z1 : Hid (Below w.heap.size w w1) := b1
  clear b1 A
  go_wp2_with fail
  refine (B.out _).mono ?_
  rintro e w2 ⟨rfl, b2⟩
  have Z2 : Hid (Below w.heap.size w w2) := Z1.out.trans (b2.mono Z1.out.size)
  clear b2 B Z1
  go_wp2_with fail
  refine (H.out _).mono ?_
  rintro e w3 ⟨rfl, b3⟩
  have Z3 : Hid (Below w.heap.size w w3) := Z2.out.trans (b3.mono Z2.out.size)
  clear b3 H Z2
  go_wp2_with fail
  go_ret
  exact ⟨rfl, Z3.out⟩
end Go.Proofs.YtbicfhilehllnaaGreatDoor
