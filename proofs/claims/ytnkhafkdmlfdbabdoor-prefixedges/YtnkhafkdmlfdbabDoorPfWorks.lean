/-
  The program answers the chapter's own examples: what each of these laws asks first. The tables of Go's library lie as the row's list gives them.
-/
import Derived.Test.YtnkhafkdmlfdbabDoorPfParB
import Derived.Test.YtnkhafkdmlfdbabDoorPfPrn
import Derived.Test.YtnkhafkdmlfdbabDoorPfOwnCov
namespace Go.Proofs.YtnkhafkdmlfdbabDoor
open Go.RowKit Go.Sort

theorem txt_ten : txt 167772161 = ⟨#[49, 48, 46, 48, 46, 48, 46, 49]⟩ := by decide +kernel
theorem cand_oten : cand ⟨#[48, 49, 48, 46, 48, 46, 48, 46, 49]⟩ = 167772161 := by decide +kernel
theorem txt_oten : ∀ a : Int, 0 ≤ a → a < 4294967296 → txt a ≠ ⟨#[48, 49, 48, 46, 48, 46, 48, 46, 49]⟩ := fun a a0 a1 e => by
  have h := cand_txt a a0 a1
  rw [e, cand_oten] at h
  subst h
  rw [txt_ten] at e
  exact absurd (congrArg ByteArray.size e) (by decide)
theorem prn_ten : prn 167772160 8 = ⟨#[49, 48, 46, 48, 46, 48, 46, 48, 47, 56]⟩ := by decide +kernel
theorem rt_ten : rt 167772160 8 = true := by decide +kernel
theorem lb_of (a h : Int) (b : Nat) (hb : b ≤ 32) (hf : a % sz b = 0 ∧ a + sz b - 1 ≤ h) (hn : ∀ c : Nat, c < b → ¬ (a % sz c = 0 ∧ a + sz c - 1 ≤ h)) : Lb a h b :=
  ⟨⟨by omega, by omega⟩, hf, fun c c0 c1 => by
    obtain ⟨m, rfl⟩ := Int.eq_ofNat_of_zero_le c0
    exact hn m (by omega)⟩
theorem cov_ten : Cov 167772164 167772161 [(167772161, 32), (167772162, 31), (167772164, 32)] := by
  have s31 : sz 31 = 2 := by decide
  have s32 : sz 32 = 1 := by decide
  refine ⟨rfl, by decide, lb_of _ _ 32 (by decide) (by decide +kernel) (by decide +kernel), ?_⟩
  rw [s32]
  refine ⟨rfl, by decide, lb_of _ _ 31 (by decide) (by decide +kernel) (by decide +kernel), ?_⟩
  rw [s31]
  refine ⟨rfl, by decide, lb_of _ _ 32 (by decide) (by decide +kernel) (by decide +kernel), ?_⟩
  rw [s32]
  show (167772164 : Int) < _
  decide
set_option maxHeartbeats 2000000 in
theorem works_ok (w : World) (t : Tab w) :
    Calls Tryd.prog 4 #[] w fun e w' => e = .returned (.bool true) ∧ Below w.heap.size w w' := by
  have P1 : Hid (∀ w, Tab w → _) := fun w t => parse_yes 167772161 w t (by decide) (by decide)
  rw [txt_ten] at P1
  have P2 : Hid (∀ w, Tab w → _) := fun w t => parse_no ⟨#[48, 49, 48, 46, 48, 46, 48, 46, 49]⟩ w t (by decide) txt_oten
  have PR : Hid (∀ w, Tab w → _) := fun w t => print_ok 167772160 8 w t (by decide) (by decide) rt_ten
  rw [prn_ten] at PR
  have CV : Hid (∀ w, _) := fun w => cover_ok 167772161 167772164 w _ (by decide) (by decide) (by decide) (by decide) cov_ten
  unfold pv at *
  go_enter Tryd.func4, Tryd.ntmps4
  go_wp2_with fail
  refine (P1.out _ t).mono ?_
  rintro e w1 ⟨rfl, b1⟩
  have t1 := t.keep b1
  have Z1 : Hid (Below w.heap.size w w1) := b1
  clear P1 b1 t
  go_wp2_with fail
  refine (P2.out _ t1).mono ?_
  rintro e w2 ⟨rfl, b2⟩
  have t2 := t1.keep b2
  have Z2 : Hid (Below w.heap.size w w2) := Z1.out.trans (b2.mono Z1.out.size)
  clear P2 b2 t1 Z1
  go_wp2_with (first
    | (go_at_call 10; refine (PR.out _ t2).mono ?_; rintro e w3 ⟨rfl, b3⟩; have t3 := t2.keep b3; have Z3 : Hid (Below w.heap.size w w3) := Z2.out.trans (b3.mono Z2.out.size); clear b3 Z2 t2)
    | (go_at_call 8; refine (CV.out _).mono ?_; rintro e w4 ⟨v, rfl, o4, b4⟩; have Z4 : Hid (Below w.heap.size w w4) := Z3.out.trans (b4.mono Z3.out.size); obtain ⟨p4, q4, rfl, _⟩ := own_slice o4; clear o4 b4 Z3))
  go_ret
  exact ⟨rfl, Z4.out⟩
end Go.Proofs.YtnkhafkdmlfdbabDoor
