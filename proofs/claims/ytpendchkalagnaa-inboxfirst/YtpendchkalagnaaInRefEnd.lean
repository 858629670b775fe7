/-
  What the document's own End of a stream does. No condition but what always holds of a stream.
-/
import Derived.Test.YtpendchkalagnaaInRef
namespace Go.Proofs.Ytpendchkalagnaa
set_option maxRecDepth 100000
open Go.RowKit Go.Sort

theorem keptX (w : World) (R j : Nat) (v : Value) {w0 : World} (h : Kept (fun k => k = R) w0 w) : Kept (fun k => k = R) w0 (w.setCell ⟨R, j, none⟩ v) := Kept.set (F := fun k => k = R) h ⟨R, j, none⟩ rfl v
set_option maxHeartbeats 2000000 in
theorem rend_ok (R m : Nat) (d : Bx) (size : Int) (w : World) (h : RX w R m d) (hd : Bw d) :
    Calls Try.prog 12 #[ptr R, .int .i64 size] w fun e w' => e = .returned (.int .i64 (resE d size)) ∧ RX w' R m (resB d size) ∧ Kept (fun k => k = R) w w' := by
  have stay : resE d size ≠ 0 → resB d size = d := fun q => by unfold resB; rw [if_neg (fun e => q e.1)]
  have CP : Hid (∀ w, _) := fun w => rplace_ok size w
  have CL : Hid (∀ _ : Unit, _) := fun _ => rlimit_ok R m d w h hd
  have c2 := h.led.cell 2 (v := .int .i64 d.size) rfl
  have c3 := h.led.cell 3 (v := .int .i64 d.most) rfl
  by_cases p1 : 0 ≤ size ∧ size ≤ 4611686018427387903
  · rw [decide_eq_true p1] at CP
    by_cases p2 : lim d < size
    · have g2 : decide (lim d < size) = true := decide_eq_true p2
      have e : resE d size = 12 := by unfold resE; rw [if_neg (by omega), if_pos p2]
      rw [stay (by rw [e]; decide), e]
      replace h : Hid _ := h
      clear e stay p1 p2 hd c2 c3
      generalize lim d = L at *
      go_enter Try.func12, Try.ntmps12
      go_wp2_with fail
      refine (CP.out _).mono ?_
      rintro e w1 ⟨rfl, rfl⟩
      go_wp2_with fail
      refine (CL.out ()).mono ?_
      rintro e w1 ⟨rfl, rfl⟩
      go_wp2_with fail
      go_ret
      exact ⟨rfl, h.out, Kept.refl _ _⟩
    · have g2 : decide (lim d < size) = false := decide_eq_false p2
      by_cases p3 : (0 ≤ d.size ∧ size ≠ d.size) ∨ size < d.most
      · have e : resE d size = 13 := by unfold resE; rw [if_neg (by omega), if_neg p2, if_pos p3]
        rw [stay (by rw [e]; decide), e]
        replace h : Hid _ := h
        clear e stay p1 p2 hd
        generalize lim d = L at *
        by_cases q1 : 0 ≤ d.size
        · have g3 : decide (0 ≤ d.size) = true := decide_eq_true q1
          by_cases q2 : size = d.size
          · have g4 : (size != d.size) = false := by simpa using q2
            have g5 : decide (size < d.most) = true := decide_eq_true (by omega)
            clear p3 q1
            replace q2 : Hid _ := q2
            go_enter Try.func12, Try.ntmps12
            go_wp2_with fail
            refine (CP.out _).mono ?_
            rintro e w1 ⟨rfl, rfl⟩
            go_wp2_with fail
            refine (CL.out ()).mono ?_
            rintro e w1 ⟨rfl, rfl⟩
            go_wp2_with fail
            go_ret
            exact ⟨rfl, h.out, Kept.refl _ _⟩
          · have g4 : (size != d.size) = true := by simpa using q2
            clear p3 q1
            replace q2 : Hid _ := q2
            go_enter Try.func12, Try.ntmps12
            go_wp2_with fail
            refine (CP.out _).mono ?_
            rintro e w1 ⟨rfl, rfl⟩
            go_wp2_with fail
            refine (CL.out ()).mono ?_
            rintro e w1 ⟨rfl, rfl⟩
            go_wp2_with fail
            go_ret
            exact ⟨rfl, h.out, Kept.refl _ _⟩
        · have g3 : decide (0 ≤ d.size) = false := decide_eq_false q1
          have g5 : decide (size < d.most) = true := decide_eq_true (by omega)
          clear p3
          replace q1 : Hid _ := q1
          go_enter Try.func12, Try.ntmps12
          go_wp2_with fail
          refine (CP.out _).mono ?_
          rintro e w1 ⟨rfl, rfl⟩
          go_wp2_with fail
          refine (CL.out ()).mono ?_
          rintro e w1 ⟨rfl, rfl⟩
          go_wp2_with fail
          go_ret
          exact ⟨rfl, h.out, Kept.refl _ _⟩
      · have e : resE d size = 0 := by unfold resE; rw [if_neg (by omega), if_neg p2, if_neg p3]
        have g5 : decide (size < d.most) = false := decide_eq_false (by omega)
        have CE : Hid (∀ _ : Unit, _) := fun _ => rended_ok R m d w h
        have fin : Hid (∀ w1, Below w.heap.size w w1 → RX w1 R m d ∧ Kept (fun k => k = R) w w1) := fun w1 b => ⟨h.keep b, Kept.of _ b⟩
        have eB : resB d size = if ended d ≠ 1 then { d with rst := true, size := size } else d := by unfold resB; rw [e]; simp
        rw [e, eB]
        clear e stay p1 p2 hd h eB
        generalize lim d = L at *
        have KEY : ∃ b1 b2 : Bool, decide (0 ≤ d.size) = b1 ∧ (size != d.size) = b2 ∧ (b1 = true → b2 = false) := ⟨_, _, rfl, rfl, fun q => by
          have := of_decide_eq_true q
          simp only [bne_eq_false_iff_eq]
          exact Classical.byContradiction fun c => p3 (.inl ⟨this, c⟩)⟩
        obtain ⟨b1, b2, g3, g4, hbb⟩ := KEY
        clear p3
        by_cases he : ended d = 1
        · have gE : (ended d != 1) = false := by simpa using he
          rw [if_neg (by simpa using he)]
          replace he : Hid _ := he
          generalize ended d = E at *
          cases b1
          · clear g4 hbb
            go_enter Try.func12, Try.ntmps12
            go_wp2_with fail
            refine (CP.out _).mono ?_
            rintro e w1 ⟨rfl, rfl⟩
            go_wp2_with fail
            refine (CL.out ()).mono ?_
            rintro e w1 ⟨rfl, rfl⟩
            go_wp2_with fail
            refine (CE.out ()).mono ?_
            rintro e w1 ⟨rfl, b⟩
            have F := Lib.hid (fin.out w1 b)
            clear b fin CE
            go_wp2_with fail
            go_ret
            exact ⟨rfl, F.out⟩
          · obtain rfl := hbb rfl
            clear hbb
            go_enter Try.func12, Try.ntmps12
            go_wp2_with fail
            refine (CP.out _).mono ?_
            rintro e w1 ⟨rfl, rfl⟩
            go_wp2_with fail
            refine (CL.out ()).mono ?_
            rintro e w1 ⟨rfl, rfl⟩
            go_wp2_with fail
            refine (CE.out ()).mono ?_
            rintro e w1 ⟨rfl, b⟩
            have F := Lib.hid (fin.out w1 b)
            clear b fin CE
            go_wp2_with fail
            go_ret
            exact ⟨rfl, F.out⟩
        · have gE : (ended d != 1) = true := by simpa using he
          rw [if_pos he]
          replace he : Hid _ := he
          have fin2 : Hid (∀ w1, Below w.heap.size w w1 → Lies w1 R (bxc m d) ∧ RX ((w1.setCell ⟨R, 4, none⟩ (.bool true)).setCell ⟨R, 2, none⟩ (.int .i64 size)) R m { d with rst := true, size := size } ∧ Kept (fun k => k = R) w ((w1.setCell ⟨R, 4, none⟩ (.bool true)).setCell ⟨R, 2, none⟩ (.int .i64 size))) := fun w1 b => by
            obtain ⟨f1, f2⟩ := fin.out w1 b
            obtain ⟨n, S, s1, s2, s3⟩ := f1.map
            refine ⟨f1.led, ⟨(f1.led.put 4 (by show 4 < 5; decide) (.bool true)).put 2 (by show 2 < 5; decide) (.int .i64 size), ⟨n, S, s1, s2.of_block ?_, s3⟩, f1.ne⟩, keptX _ R 2 _ (keptX _ R 4 _ f2)⟩
            exact (Below.heap_setCell _ _ _ _ f1.ne).trans (Below.heap_setCell _ _ _ _ f1.ne)
          clear fin
          generalize ended d = E at *
          cases b1
          · clear g4 hbb
            go_enter Try.func12, Try.ntmps12
            go_wp2_with fail
            refine (CP.out _).mono ?_
            rintro e w1 ⟨rfl, rfl⟩
            go_wp2_with fail
            refine (CL.out ()).mono ?_
            rintro e w1 ⟨rfl, rfl⟩
            go_wp2_with fail
            refine (CE.out ()).mono ?_
            rintro e w1 ⟨rfl, b⟩
            obtain ⟨L1, F⟩ := fin2.out w1 b
            replace F := Lib.hid F
            have d4 := L1.cell 4 (v := .bool d.rst) rfl
            have f4 := L1.free 4 (by show 4 < 5; decide)
            have d2 := L1.cell 2 (v := .int .i64 d.size) rfl
            have f2 := L1.free 2 (by show 2 < 5; decide)
            clear b fin2 CE L1
            go_wp2_with fail
            go_ret
            exact ⟨rfl, F.out⟩
          · obtain rfl := hbb rfl
            clear hbb
            go_enter Try.func12, Try.ntmps12
            go_wp2_with fail
            refine (CP.out _).mono ?_
            rintro e w1 ⟨rfl, rfl⟩
            go_wp2_with fail
            refine (CL.out ()).mono ?_
            rintro e w1 ⟨rfl, rfl⟩
            go_wp2_with fail
            refine (CE.out ()).mono ?_
            rintro e w1 ⟨rfl, b⟩
            obtain ⟨L1, F⟩ := fin2.out w1 b
            replace F := Lib.hid F
            have d4 := L1.cell 4 (v := .bool d.rst) rfl
            have f4 := L1.free 4 (by show 4 < 5; decide)
            have d2 := L1.cell 2 (v := .int .i64 d.size) rfl
            have f2 := L1.free 2 (by show 2 < 5; decide)
            clear b fin2 CE L1
            go_wp2_with fail
            go_ret
            exact ⟨rfl, F.out⟩
  · rw [decide_eq_false p1] at CP
    have e : resE d size = 2 := by unfold resE; rw [if_pos (by omega)]
    rw [stay (by rw [e]; decide), e]
    replace h : Hid _ := h
    clear e stay p1 hd c2 c3 CL
    go_enter Try.func12, Try.ntmps12
    go_wp2_with fail
    refine (CP.out _).mono ?_
    rintro e w1 ⟨rfl, rfl⟩
    go_wp2_with fail
    go_ret
    exact ⟨rfl, h.out, Kept.refl _ _⟩
end Go.Proofs.Ytpendchkalagnaa
