/-
  What the reader's length does, in every world that holds the reader. No condition but that.
-/
import Derived.Test.YtndaohiecpdmlaaIpRead
namespace Go.Proofs.Ytndaohiecpdmlaa
open Go.RowKit
set_option maxHeartbeats 1000000 in
theorem length_ok (w : World) (B : Nat) (s : ByteArray) (h : Rd w B s 2) (h20 : 20 ≤ s.size) (hs : s.size ≤ 9223372036854775807) (hl : said s = s.size) :
    Calls Try.prog 50 #[.pointer (some ⟨B, 0, none⟩)] w fun e w' => e = .returned (.tuple #[]) ∧ Rd w' B s 4 ∧ Only B w w' := by
  have bd := num2_bd s 2
  unfold said at *
  have N : Hid (Calls Try.prog 49 #[.pointer (some ⟨B, 0, none⟩), .int .i64 2] w fun e w' => e = .returned (.int .u32 (num (byt s) 2 2)) ∧ Rd w' B s 4 ∧ Only B w w') := number_ok w B s 2 2 h (by decide) (by omega) (by omega)
  generalize num (byt s) 2 2 = n at *
  have f1 : decide ((s.size : Int) < 20) = false := by simp; omega
  go_enter Try.func50, Try.ntmps50
  go_wp2_with (first | (go_at_call 49; refine N.out.mono ?_; rintro e w1 ⟨rfl, R1, b1⟩; have c0 := R1.c0; replace R1 : Hid _ := R1) | (go_at_call_of 48 (1 : Int); refine (throw_no _ _).mono ?_; rintro e w' ⟨rfl, rfl⟩) | (go_at_call_of 48 (6 : Int); refine (throw_no _ _).mono ?_; rintro e w' ⟨rfl, rfl⟩))
  go_end0
  exact ⟨rfl, R1.out, b1⟩
set_option maxHeartbeats 1000000 in
theorem length_short1 (w : World) (B : Nat) (s : ByteArray) (h : Rd w B s 2) (h20 : 20 ≤ s.size) (hs : s.size ≤ 9223372036854775807) (hl : s.size < said s) :
    Calls Try.prog 50 #[.pointer (some ⟨B, 0, none⟩)] w fun e w' => e = .panicked (thrown 1) ∧ Only B w w' := by
  have bd := num2_bd s 2
  unfold said at *
  have N : Hid (Calls Try.prog 49 #[.pointer (some ⟨B, 0, none⟩), .int .i64 2] w fun e w' => e = .returned (.int .u32 (num (byt s) 2 2)) ∧ Rd w' B s 4 ∧ Only B w w') := number_ok w B s 2 2 h (by decide) (by omega) (by omega)
  generalize num (byt s) 2 2 = n at *
  have f1 : decide ((s.size : Int) < n) = true := by simp; omega
  go_enter Try.func50, Try.ntmps50
  go_wp2_with (first | (go_at_call 49; refine N.out.mono ?_; rintro e w1 ⟨rfl, R1, b1⟩; have c0 := R1.c0; replace R1 : Hid _ := R1) | (go_at_call_of 48 (1 : Int); refine (throw_yes _ _).mono ?_; rintro e w' ⟨rfl, rfl⟩))
  exact ⟨rfl, rfl, b1⟩
set_option maxHeartbeats 1000000 in
theorem length_short2 (w : World) (B : Nat) (s : ByteArray) (h : Rd w B s 2) (h20 : 20 ≤ s.size) (hs : s.size ≤ 9223372036854775807) (hl : ¬ s.size < said s) (hg : said s < 20) :
    Calls Try.prog 50 #[.pointer (some ⟨B, 0, none⟩)] w fun e w' => e = .panicked (thrown 1) ∧ Only B w w' := by
  have bd := num2_bd s 2
  unfold said at *
  have N : Hid (Calls Try.prog 49 #[.pointer (some ⟨B, 0, none⟩), .int .i64 2] w fun e w' => e = .returned (.int .u32 (num (byt s) 2 2)) ∧ Rd w' B s 4 ∧ Only B w w') := number_ok w B s 2 2 h (by decide) (by omega) (by omega)
  generalize num (byt s) 2 2 = n at *
  have f1 : decide ((s.size : Int) < n) = false := by simp; omega
  have f2 : decide (n < 20) = true := by simp; omega
  go_enter Try.func50, Try.ntmps50
  go_wp2_with (first | (go_at_call 49; refine N.out.mono ?_; rintro e w1 ⟨rfl, R1, b1⟩; have c0 := R1.c0; replace R1 : Hid _ := R1) | (go_at_call_of 48 (1 : Int); refine (throw_yes _ _).mono ?_; rintro e w' ⟨rfl, rfl⟩))
  exact ⟨rfl, rfl, b1⟩
set_option maxHeartbeats 1000000 in
theorem length_more (w : World) (B : Nat) (s : ByteArray) (h : Rd w B s 2) (h20 : 20 ≤ s.size) (hs : s.size ≤ 9223372036854775807) (hl : said s < s.size) (hg : 20 ≤ said s) :
    Calls Try.prog 50 #[.pointer (some ⟨B, 0, none⟩)] w fun e w' => e = .panicked (thrown 6) ∧ Only B w w' := by
  have bd := num2_bd s 2
  unfold said at *
  have N : Hid (Calls Try.prog 49 #[.pointer (some ⟨B, 0, none⟩), .int .i64 2] w fun e w' => e = .returned (.int .u32 (num (byt s) 2 2)) ∧ Rd w' B s 4 ∧ Only B w w') := number_ok w B s 2 2 h (by decide) (by omega) (by omega)
  generalize num (byt s) 2 2 = n at *
  have f1 : decide ((s.size : Int) < n) = false := by simp; omega
  have f2 : decide (n < 20) = false := by simp; omega
  have f3 : decide (n < (s.size : Int)) = true := by simp; omega
  go_enter Try.func50, Try.ntmps50
  go_wp2_with (first | (go_at_call 49; refine N.out.mono ?_; rintro e w1 ⟨rfl, R1, b1⟩; have c0 := R1.c0; replace R1 : Hid _ := R1) | (go_at_call_of 48 (1 : Int); refine (throw_no _ _).mono ?_; rintro e w' ⟨rfl, rfl⟩) | (go_at_call_of 48 (6 : Int); refine (throw_yes _ _).mono ?_; rintro e w' ⟨rfl, rfl⟩))
  exact ⟨rfl, rfl, b1⟩
end Go.Proofs.Ytndaohiecpdmlaa
