/-
  What the reader's sum does, in every world that holds the reader. No condition but that.
-/
import Derived.Test.YtndaohiecpdmlaaIpRead
namespace Go.Proofs.Ytndaohiecpdmlaa
open Go.RowKit
/-- The check sum that bytes should tell. -/
def right (s : ByteArray) : Int := ck (s.extract 0 10 ++ ByteArray.mk #[0, 0] ++ s.extract 12 20)
theorem right_size (s : ByteArray) (h : 20 ≤ s.size) : (s.extract 0 10 ++ ByteArray.mk #[0, 0] ++ s.extract 12 20).size = 20 := by
  have e : (ByteArray.mk #[0, 0]).size = 2 := rfl
  rw [ByteArray.size_append, ByteArray.size_append, ByteArray.size_extract, ByteArray.size_extract, e]
  omega
theorem quiet_sum (s : ByteArray) (w : World) (hs : s.size = 20) :
    Calls Try.prog 57 #[.string s] w fun e w' => e = .returned (.int .i64 (ck s)) ∧ w' = w :=
  (sum_ok s w (by omega)).mono fun _ _ ⟨h, k⟩ => ⟨h, k.symm⟩
set_option maxHeartbeats 1000000 in
theorem ipchk_ok (w : World) (B : Nat) (s : ByteArray) (h : Rd w B s 10) (h20 : 20 ≤ s.size) (hs : s.size ≤ 9223372036854775807) (hl : num (byt s) 10 2 = right s) :
    Calls Try.prog 51 #[.pointer (some ⟨B, 0, none⟩)] w fun e w' => e = .returned (.tuple #[]) ∧ Rd w' B s 12 ∧ Only B w w' := by
  have bd := num2_bd s 10
  have N : Hid (Calls Try.prog 49 #[.pointer (some ⟨B, 0, none⟩), .int .i64 2] w fun e w' => e = .returned (.int .u32 (num (byt s) 10 2)) ∧ Rd w' B s 12 ∧ Only B w w') := number_ok w B s 10 2 h (by decide) (by omega) hs
  have S : Hid (∀ w, _) := fun w => quiet_sum _ w (right_size s h20)
  have q1 : (10 : Int) ≤ s.size := by omega
  have q2 : (20 : Int) ≤ s.size := by omega
  have q3 : (s.extract 0 10).size = 10 := by rw [ByteArray.size_extract]; omega
  have q4 : (s.extract 12 20).size = 8 := by rw [ByteArray.size_extract]; omega
  have q5 : (ByteArray.mk #[0, 0]).size = 2 := rfl
  unfold right at *
  generalize num (byt s) 10 2 = n at *
  generalize ck (s.extract 0 10 ++ ByteArray.mk #[0, 0] ++ s.extract 12 20) = c at *
  have f1 : (n != c) = false := by simp [hl]
  clear hl
  go_enter Try.func51, Try.ntmps51
  go_wp2_with (go_at_call 49; refine N.out.mono ?_; rintro e w1 ⟨rfl, R1, b1⟩; have c0 := R1.c0; replace R1 : Hid _ := R1; replace b1 : Hid _ := b1)
  go_quiet ((go_at_call 57; exact Calls.quiet_of_same (S.out _)))
  go_wp2_with (go_at_call 48; refine (throw_no _ _).mono ?_; rintro e w' ⟨rfl, rfl⟩)
  go_end0
  exact ⟨rfl, R1.out.drewN nq, b1.out.trans (Only.drewN _ _ _)⟩
set_option maxHeartbeats 1000000 in
theorem ipchk_no (w : World) (B : Nat) (s : ByteArray) (h : Rd w B s 10) (h20 : 20 ≤ s.size) (hs : s.size ≤ 9223372036854775807) (hl : num (byt s) 10 2 ≠ right s) :
    Calls Try.prog 51 #[.pointer (some ⟨B, 0, none⟩)] w fun e w' => e = .panicked (thrown 9) ∧ Only B w w' := by
  have bd := num2_bd s 10
  have N : Hid (Calls Try.prog 49 #[.pointer (some ⟨B, 0, none⟩), .int .i64 2] w fun e w' => e = .returned (.int .u32 (num (byt s) 10 2)) ∧ Rd w' B s 12 ∧ Only B w w') := number_ok w B s 10 2 h (by decide) (by omega) hs
  have S : Hid (∀ w, _) := fun w => quiet_sum _ w (right_size s h20)
  have q1 : (10 : Int) ≤ s.size := by omega
  have q2 : (20 : Int) ≤ s.size := by omega
  have q3 : (s.extract 0 10).size = 10 := by rw [ByteArray.size_extract]; omega
  have q4 : (s.extract 12 20).size = 8 := by rw [ByteArray.size_extract]; omega
  have q5 : (ByteArray.mk #[0, 0]).size = 2 := rfl
  unfold right at *
  generalize num (byt s) 10 2 = n at *
  generalize ck (s.extract 0 10 ++ ByteArray.mk #[0, 0] ++ s.extract 12 20) = c at *
  have f1 : (n != c) = true := by simp [hl]
  clear hl
  go_enter Try.func51, Try.ntmps51
  go_wp2_with (go_at_call 49; refine N.out.mono ?_; rintro e w1 ⟨rfl, R1, b1⟩; have c0 := R1.c0; replace R1 : Hid _ := R1; replace b1 : Hid _ := b1)
  go_quiet ((go_at_call 57; exact Calls.quiet_of_same (S.out _)))
  go_wp2_with (go_at_call 48; refine (throw_yes _ _).mono ?_; rintro e w' ⟨rfl, rfl⟩)
  exact ⟨rfl, rfl, b1.out.trans (Only.drewN _ _ _)⟩
end Go.Proofs.Ytndaohiecpdmlaa
