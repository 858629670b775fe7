/-
  The program answers the chapter's first example: what three of the laws ask first.
-/
import Derived.Test.YtabaeehjmmblpaaDoorShOwn
namespace Go.Proofs.YtabaeehjmmblpaaDoor
open Go.RowKit
theorem sum_abc : bstr (dig (nb ⟨#[97, 98, 99]⟩)) = ⟨#[186, 120, 22, 191, 143, 1, 207, 234, 65, 65, 64, 222, 93, 174, 34, 35, 176, 3, 97, 163, 150, 23, 122, 156, 180, 16, 255, 97, 242, 0, 21, 173]⟩ := by
  have e : nb ⟨#[97, 98, 99]⟩ = [97, 98, 99] := by decide +kernel
  rw [e, dig_abc]
  decide +kernel
theorem hm_size (key l : List Nat) : (bstr (hm key l)).size = 32 := by rw [bstr_size, hm_length]
set_option maxHeartbeats 1000000 in
theorem works_ok (w : World) (t : Tab w) :
    Calls Tryd.prog 13 #[] w fun e w' => e = .returned (.bool true) ∧ Below w.heap.size w w' := by
  have P : Hid (∀ w, Tab w → _) := fun w t => sum_ok ⟨#[97, 98, 99]⟩ w t (by decide)
  rw [sum_abc] at P
  have Q : Hid (∀ w, Tab w → _) := fun w t => hmac_ok ⟨#[107]⟩ ⟨#[115]⟩ w t (by decide) (by decide)
  have z := hm_size (nb ⟨#[107]⟩) (nb ⟨#[115]⟩)
  generalize bstr (hm (nb ⟨#[107]⟩) (nb ⟨#[115]⟩)) = Y at *
  generalize hX : ByteArray.mk #[186, 120, 22, 191, 143, 1, 207, 234, 65, 65, 64, 222, 93, 174, 34, 35, 176, 3, 97, 163, 150, 23, 122, 156, 180, 16, 255, 97, 242, 0, 21, 173] = X at *
  go_enter Tryd.func13, Tryd.ntmps13
  go_wp2_with fail
  refine (P.out _ t).mono ?_
  rintro e w1 ⟨rfl, b1⟩
  have t1 := t.keep b1
  have Z1 : Hid (Below w.heap.size w w1) := b1
  clear P b1 t
  subst hX
  go_wp2_with fail
  refine (Q.out _ t1).mono ?_
  rintro e w2 ⟨rfl, b2⟩
  have Z2 : Hid (Below w.heap.size w w2) := Z1.out.trans (b2.mono Z1.out.size)
  clear Q b2 Z1 t1
  go_wp2_with fail
  go_ret
  exact ⟨rfl, Z2.out⟩
end Go.Proofs.YtabaeehjmmblpaaDoor
