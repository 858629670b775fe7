/-
  What the document's own Gram answers. No condition but the form's own reach.
-/
import Derived.Test.YtihkbakbciejiaaDoorCpOpen
namespace Go.Proofs.YtihkbakbciejiaaDoor
set_option maxRecDepth 100000
open Go.RowKit

theorem putI_len (n : Int) : (strL (putI n)).size ≤ 8 := by rw [strL_size]; exact put_len _
set_option maxHeartbeats 2000000 in
theorem rgrm_ok (st cx : Int) (d : ByteArray) (w : World) (hs : d.size ≤ 4611686018427387000) :
    Calls Tryd.prog 28 #[.int .i64 st, .int .i64 cx, .string d] w fun e w' => e = .returned (grmV st cx (toL d)) ∧ Below w.heap.size w w' := by
  unfold grmV grmL
  by_cases h0 : 0 ≤ st
  · have q0 : decide (st < 0) = false := decide_eq_false (by omega)
    by_cases h1 : st ≤ 28
    · have q1 : decide (28 < st) = false := decide_eq_false (by omega)
      have et : st.tmod 4 = st % 4 := Int.tmod_eq_emod_of_nonneg h0
      have ed : st.tdiv 4 = st / 4 := Int.tdiv_eq_ediv_of_nonneg h0
      by_cases h2 : st % 4 = 0
      · have q2 : st.tmod 4 = 0 := by rw [et, h2]
        have N := Lib.hid (rnum_ok cx w)
        by_cases h3 : numI cx
        · rw [decide_eq_true h3] at N
          rw [if_pos ⟨⟨h0, h1, h2⟩, h3⟩]
          simp only
          have P2 : Hid (∀ w', _) := fun w' => rputI_ok cx w' h3
          have z2 := putI_len cx
          have c8 : st = 0 ∨ st = 4 ∨ st = 8 ∨ st = 12 ∨ st = 16 ∨ st = 20 ∨ st = 24 ∨ st = 28 := by omega
          clear h3 et ed h2 h0 h1 q0 q1 q2
          rcases c8 with rfl | rfl | rfl | rfl | rfl | rfl | rfl | rfl
          · have e : strL (putI (0 / 4) ++ (putI cx ++ toL d)) = strL (putI 0) ++ strL (putI cx) ++ d := by
              rw [show (0 : Int) / 4 = 0 from rfl, strL_append, ← strL_toL d, strL_append, toL_strL, List.append_assoc]
            have P1 : Hid (∀ w', _) := fun w' => rputI_ok 0 w' ⟨by decide, by decide⟩
            have z1 := putI_len 0
            rw [e]
            generalize strL (putI 0) = A at *
            generalize strL (putI cx) = B at *
            have m1 : ¬ (9223372036854775807 < A.size + B.size) := by omega
            have m2 : ¬ (9223372036854775807 < A.size + B.size + d.size) := by omega
            clear e
            go_enter Tryd.func28, Tryd.ntmps28
            go_wp2_with fail
            refine N.out.mono ?_
            rintro e w1 ⟨rfl, rfl⟩
            clear N
            go_wp2_with fail
            refine (P1.out _).mono ?_
            rintro e w1 ⟨rfl, b1⟩
            have B1 := Lib.hid b1
            clear b1 P1
            go_wp2_with fail
            refine (P2.out _).mono ?_
            rintro e w2 ⟨rfl, b2⟩
            have Z := Lib.hid (B1.out.trans (b2.mono B1.out.size))
            clear b2 P2 B1
            go_wp2_with fail
            go_ret2
            exact ⟨rfl, Z.out⟩
          · have e : strL (putI (4 / 4) ++ (putI cx ++ toL d)) = strL (putI 1) ++ strL (putI cx) ++ d := by
              rw [show (4 : Int) / 4 = 1 from rfl, strL_append, ← strL_toL d, strL_append, toL_strL, List.append_assoc]
            have P1 : Hid (∀ w', _) := fun w' => rputI_ok 1 w' ⟨by decide, by decide⟩
            have z1 := putI_len 1
            rw [e]
            generalize strL (putI 1) = A at *
            generalize strL (putI cx) = B at *
            have m1 : ¬ (9223372036854775807 < A.size + B.size) := by omega
            have m2 : ¬ (9223372036854775807 < A.size + B.size + d.size) := by omega
            clear e
            go_enter Tryd.func28, Tryd.ntmps28
            go_wp2_with fail
            refine N.out.mono ?_
            rintro e w1 ⟨rfl, rfl⟩
            clear N
            go_wp2_with fail
            refine (P1.out _).mono ?_
            rintro e w1 ⟨rfl, b1⟩
            have B1 := Lib.hid b1
            clear b1 P1
            go_wp2_with fail
            refine (P2.out _).mono ?_
            rintro e w2 ⟨rfl, b2⟩
            have Z := Lib.hid (B1.out.trans (b2.mono B1.out.size))
            clear b2 P2 B1
            go_wp2_with fail
            go_ret2
            exact ⟨rfl, Z.out⟩
          · have e : strL (putI (8 / 4) ++ (putI cx ++ toL d)) = strL (putI 2) ++ strL (putI cx) ++ d := by
              rw [show (8 : Int) / 4 = 2 from rfl, strL_append, ← strL_toL d, strL_append, toL_strL, List.append_assoc]
            have P1 : Hid (∀ w', _) := fun w' => rputI_ok 2 w' ⟨by decide, by decide⟩
            have z1 := putI_len 2
            rw [e]
            generalize strL (putI 2) = A at *
            generalize strL (putI cx) = B at *
            have m1 : ¬ (9223372036854775807 < A.size + B.size) := by omega
            have m2 : ¬ (9223372036854775807 < A.size + B.size + d.size) := by omega
            clear e
            go_enter Tryd.func28, Tryd.ntmps28
            go_wp2_with fail
            refine N.out.mono ?_
            rintro e w1 ⟨rfl, rfl⟩
            clear N
            go_wp2_with fail
            refine (P1.out _).mono ?_
            rintro e w1 ⟨rfl, b1⟩
            have B1 := Lib.hid b1
            clear b1 P1
            go_wp2_with fail
            refine (P2.out _).mono ?_
            rintro e w2 ⟨rfl, b2⟩
            have Z := Lib.hid (B1.out.trans (b2.mono B1.out.size))
            clear b2 P2 B1
            go_wp2_with fail
            go_ret2
            exact ⟨rfl, Z.out⟩
          · have e : strL (putI (12 / 4) ++ (putI cx ++ toL d)) = strL (putI 3) ++ strL (putI cx) ++ d := by
              rw [show (12 : Int) / 4 = 3 from rfl, strL_append, ← strL_toL d, strL_append, toL_strL, List.append_assoc]
            have P1 : Hid (∀ w', _) := fun w' => rputI_ok 3 w' ⟨by decide, by decide⟩
            have z1 := putI_len 3
            rw [e]
            generalize strL (putI 3) = A at *
            generalize strL (putI cx) = B at *
            have m1 : ¬ (9223372036854775807 < A.size + B.size) := by omega
            have m2 : ¬ (9223372036854775807 < A.size + B.size + d.size) := by omega
            clear e
            go_enter Tryd.func28, Tryd.ntmps28
            go_wp2_with fail
            refine N.out.mono ?_
            rintro e w1 ⟨rfl, rfl⟩
            clear N
            go_wp2_with fail
            refine (P1.out _).mono ?_
            rintro e w1 ⟨rfl, b1⟩
            have B1 := Lib.hid b1
            clear b1 P1
            go_wp2_with fail
            refine (P2.out _).mono ?_
            rintro e w2 ⟨rfl, b2⟩
            have Z := Lib.hid (B1.out.trans (b2.mono B1.out.size))
            clear b2 P2 B1
            go_wp2_with fail
            go_ret2
            exact ⟨rfl, Z.out⟩
          · have e : strL (putI (16 / 4) ++ (putI cx ++ toL d)) = strL (putI 4) ++ strL (putI cx) ++ d := by
              rw [show (16 : Int) / 4 = 4 from rfl, strL_append, ← strL_toL d, strL_append, toL_strL, List.append_assoc]
            have P1 : Hid (∀ w', _) := fun w' => rputI_ok 4 w' ⟨by decide, by decide⟩
            have z1 := putI_len 4
            rw [e]
            generalize strL (putI 4) = A at *
            generalize strL (putI cx) = B at *
            have m1 : ¬ (9223372036854775807 < A.size + B.size) := by omega
            have m2 : ¬ (9223372036854775807 < A.size + B.size + d.size) := by omega
            clear e
            go_enter Tryd.func28, Tryd.ntmps28
            go_wp2_with fail
            refine N.out.mono ?_
            rintro e w1 ⟨rfl, rfl⟩
            clear N
            go_wp2_with fail
            refine (P1.out _).mono ?_
            rintro e w1 ⟨rfl, b1⟩
            have B1 := Lib.hid b1
            clear b1 P1
            go_wp2_with fail
            refine (P2.out _).mono ?_
            rintro e w2 ⟨rfl, b2⟩
            have Z := Lib.hid (B1.out.trans (b2.mono B1.out.size))
            clear b2 P2 B1
            go_wp2_with fail
            go_ret2
            exact ⟨rfl, Z.out⟩
          · have e : strL (putI (20 / 4) ++ (putI cx ++ toL d)) = strL (putI 5) ++ strL (putI cx) ++ d := by
              rw [show (20 : Int) / 4 = 5 from rfl, strL_append, ← strL_toL d, strL_append, toL_strL, List.append_assoc]
            have P1 : Hid (∀ w', _) := fun w' => rputI_ok 5 w' ⟨by decide, by decide⟩
            have z1 := putI_len 5
            rw [e]
            generalize strL (putI 5) = A at *
            generalize strL (putI cx) = B at *
            have m1 : ¬ (9223372036854775807 < A.size + B.size) := by omega
            have m2 : ¬ (9223372036854775807 < A.size + B.size + d.size) := by omega
            clear e
            go_enter Tryd.func28, Tryd.ntmps28
            go_wp2_with fail
            refine N.out.mono ?_
            rintro e w1 ⟨rfl, rfl⟩
            clear N
            go_wp2_with fail
            refine (P1.out _).mono ?_
            rintro e w1 ⟨rfl, b1⟩
            have B1 := Lib.hid b1
            clear b1 P1
            go_wp2_with fail
            refine (P2.out _).mono ?_
            rintro e w2 ⟨rfl, b2⟩
            have Z := Lib.hid (B1.out.trans (b2.mono B1.out.size))
            clear b2 P2 B1
            go_wp2_with fail
            go_ret2
            exact ⟨rfl, Z.out⟩
          · have e : strL (putI (24 / 4) ++ (putI cx ++ toL d)) = strL (putI 6) ++ strL (putI cx) ++ d := by
              rw [show (24 : Int) / 4 = 6 from rfl, strL_append, ← strL_toL d, strL_append, toL_strL, List.append_assoc]
            have P1 : Hid (∀ w', _) := fun w' => rputI_ok 6 w' ⟨by decide, by decide⟩
            have z1 := putI_len 6
            rw [e]
            generalize strL (putI 6) = A at *
            generalize strL (putI cx) = B at *
            have m1 : ¬ (9223372036854775807 < A.size + B.size) := by omega
            have m2 : ¬ (9223372036854775807 < A.size + B.size + d.size) := by omega
            clear e
            go_enter Tryd.func28, Tryd.ntmps28
            go_wp2_with fail
            refine N.out.mono ?_
            rintro e w1 ⟨rfl, rfl⟩
            clear N
            go_wp2_with fail
            refine (P1.out _).mono ?_
            rintro e w1 ⟨rfl, b1⟩
            have B1 := Lib.hid b1
            clear b1 P1
            go_wp2_with fail
            refine (P2.out _).mono ?_
            rintro e w2 ⟨rfl, b2⟩
            have Z := Lib.hid (B1.out.trans (b2.mono B1.out.size))
            clear b2 P2 B1
            go_wp2_with fail
            go_ret2
            exact ⟨rfl, Z.out⟩
          · have e : strL (putI (28 / 4) ++ (putI cx ++ toL d)) = strL (putI 7) ++ strL (putI cx) ++ d := by
              rw [show (28 : Int) / 4 = 7 from rfl, strL_append, ← strL_toL d, strL_append, toL_strL, List.append_assoc]
            have P1 : Hid (∀ w', _) := fun w' => rputI_ok 7 w' ⟨by decide, by decide⟩
            have z1 := putI_len 7
            rw [e]
            generalize strL (putI 7) = A at *
            generalize strL (putI cx) = B at *
            have m1 : ¬ (9223372036854775807 < A.size + B.size) := by omega
            have m2 : ¬ (9223372036854775807 < A.size + B.size + d.size) := by omega
            clear e
            go_enter Tryd.func28, Tryd.ntmps28
            go_wp2_with fail
            refine N.out.mono ?_
            rintro e w1 ⟨rfl, rfl⟩
            clear N
            go_wp2_with fail
            refine (P1.out _).mono ?_
            rintro e w1 ⟨rfl, b1⟩
            have B1 := Lib.hid b1
            clear b1 P1
            go_wp2_with fail
            refine (P2.out _).mono ?_
            rintro e w2 ⟨rfl, b2⟩
            have Z := Lib.hid (B1.out.trans (b2.mono B1.out.size))
            clear b2 P2 B1
            go_wp2_with fail
            go_ret2
            exact ⟨rfl, Z.out⟩
        · rw [decide_eq_false h3] at N
          rw [if_neg (fun c => h3 c.2)]
          clear h3 et ed h2 h0 h1
          go_enter Tryd.func28, Tryd.ntmps28
          go_wp2_with fail
          refine N.out.mono ?_
          rintro e w1 ⟨rfl, rfl⟩
          clear N
          go_wp2_with fail
          go_ret2
          exact ⟨rfl, Below.refl _ _⟩
      · have q2 : ¬ st.tmod 4 = 0 := by rw [et]; exact h2
        have q3 : (st.tmod 4 != 0) = true := by simpa using q2
        rw [if_neg (fun c => h2 c.1.2.2)]
        clear et ed h2 h0 h1
        go_enter Tryd.func28, Tryd.ntmps28
        go_wp2_with fail
        go_ret2
        exact ⟨rfl, Below.refl _ _⟩
    · have q1 : decide (28 < st) = true := decide_eq_true (by omega)
      rw [if_neg (fun c => h1 c.1.2.1)]
      go_enter Tryd.func28, Tryd.ntmps28
      go_wp2_with fail
      go_ret2
      exact ⟨rfl, Below.refl _ _⟩
  · have q0 : decide (st < 0) = true := decide_eq_true (by omega)
    rw [if_neg (fun c => h0 c.1.1)]
    go_enter Tryd.func28, Tryd.ntmps28
    go_wp2_with fail
    go_ret2
    exact ⟨rfl, Below.refl _ _⟩
end Go.Proofs.YtihkbakbciejiaaDoor
