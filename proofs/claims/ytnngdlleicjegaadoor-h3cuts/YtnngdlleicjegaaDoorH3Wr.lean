/-
  The law H3Writes over what it asks of the program's calls (H3Face): frames are written, pairs read, as the chapter says. No condition but the form's own reach.
-/
import Derived.Test.YtnngdlleicjegaaDoorH3One
namespace Go.Proofs.YtnngdlleicjegaaDoor
set_option maxRecDepth 100000
open Go.RowKit

section
variable {T : World → Prop} {PR : (Nat → Prop) → World → Value → Bool → List L → Prop}
set_option maxHeartbeats 4000000 in
theorem writes15_ok (f : H3Face T PR) (k : Int) (d : ByteArray) (w : World) (t : T w) (hd : d.size ≤ 4611686018427387000) :
    Calls Tryd.prog 4 #[.int .i64 k, .string d] w fun e w' => e = .returned (.bool true) ∧ Below w.heap.size w w' := by
  have PA : Hid (∀ _ : Unit, _) := fun _ => f.pairs d w t (by omega)
  have PB : Hid (∀ w, _) := fun w => rpairs_ok d w (by omega)
  have FA : Hid (∀ w, T w → _) := fun w t => f.frame k d w t hd
  have FB : Hid (∀ w, _) := fun w => rframe15_ok k d w hd
  generalize strL (frI k (toL d)) = X at *
  have T0 := Lib.hid t
  clear t
  go_enter Tryd.func4, Tryd.ntmps4
  go_wp2_with fail
  refine (PA.out ()).mono ?_
  rintro e w1 ⟨p1, b1⟩
  have B1 := Lib.hid b1
  have T1 := Lib.hid (f.keep T0.out b1)
  clear b1 PA T0
  rcases p1 with ⟨l, v, h1, hl, rfl, hv⟩ | ⟨x, h1, hx, rfl⟩
  · have V1 := Lib.hid hv
    clear hv
    go_wp2_with fail
    refine (PB.out _).mono ?_
    rintro e w2 ⟨p2, b2⟩
    have B2 : Hid (Below w.heap.size w w2) := B1.out.trans (b2.mono B1.out.size)
    have T2 := Lib.hid (f.keep T1.out b2)
    have V2 := Lib.hid (V1.out.keep b2)
    clear b2 B1 T1 V1 PB
    rcases p2 with ⟨l', v', h1', -, rfl, hv'⟩ | ⟨x, h1', -, rfl⟩
    · rw [h1] at h1'
      injection h1' with e1
      subst e1
      have W2 := Lib.hid hv'
      clear hv' h1
      go_wp2_with fail
      refine (FA.out _ T2.out).mono ?_
      rintro e w3 ⟨rfl, b3⟩
      have B3 : Hid (Below w.heap.size w w3) := B2.out.trans (b3.mono B2.out.size)
      have V3 := Lib.hid (V2.out.keep b3)
      have W3 := Lib.hid (W2.out.keep b3)
      clear b3 B2 T2 V2 W2 FA
      go_wp2_with fail
      refine (FB.out _).mono ?_
      rintro e w4 ⟨rfl, b4⟩
      have B4 : Hid (Below w.heap.size w w4) := B3.out.trans (b4.mono B3.out.size)
      have S4 : Hid (∀ _ : Unit, _) := fun _ => rsame_ok v v' (accR l) (accR l) w4 (V3.out.keep b4) (W3.out.keep b4) (by rw [accR_len]; omega) (by rw [accR_len]; omega)
      clear b4 B3 V3 W3 FB
      go_wp2_with fail
      refine (S4.out ()).mono ?_
      rintro e w5 ⟨he, b5⟩
      have he' : e = .returned (.bool true) := he.trans (by simp)
      subst he'
      have B5 : Hid (Below w.heap.size w w5) := B4.out.trans (b5.mono B4.out.size)
      clear he b5 S4 B4
      go_wp2_with fail
      go_ret
      exact ⟨rfl, B5.out⟩
    · rw [h1] at h1'
      cases h1'
  · go_wp2_with fail
    refine (PB.out _).mono ?_
    rintro e w2 ⟨p2, b2⟩
    have B2 : Hid (Below w.heap.size w w2) := B1.out.trans (b2.mono B1.out.size)
    have T2 := Lib.hid (f.keep T1.out b2)
    clear b2 B1 T1 PB
    rcases p2 with ⟨l', v', h1', -, rfl, hv'⟩ | ⟨x', h1', -, rfl⟩
    · rw [h1] at h1'
      cases h1'
    · rw [h1] at h1'
      injection h1' with e1
      subst e1
      clear h1
      replace hx : Hid _ := hx
      go_wp2_with fail
      refine (FA.out _ T2.out).mono ?_
      rintro e w3 ⟨rfl, b3⟩
      have B3 : Hid (Below w.heap.size w w3) := B2.out.trans (b3.mono B2.out.size)
      clear b3 B2 T2 FA
      go_wp2_with fail
      refine (FB.out _).mono ?_
      rintro e w4 ⟨rfl, b4⟩
      have B4 : Hid (Below w.heap.size w w4) := B3.out.trans (b4.mono B3.out.size)
      have S4 : Hid (∀ _ : Unit, _) := fun _ => rsame_ok (.slice none 0 0) (.slice none 0 0) [] [] w4 ⟨_, _, rfl, .inl rfl⟩ ⟨_, _, rfl, .inl rfl⟩ (by decide) (by decide)
      clear b4 B3 FB
      go_wp2_with fail
      refine (S4.out ()).mono ?_
      rintro e w5 ⟨he, b5⟩
      have he' : e = .returned (.bool true) := he.trans (by simp)
      subst he'
      have B5 : Hid (Below w.heap.size w w5) := B4.out.trans (b5.mono B4.out.size)
      clear he b5 S4 B4
      go_wp2_with fail
      go_ret
      exact ⟨rfl, B5.out⟩
end
end Go.Proofs.YtnngdlleicjegaaDoor
