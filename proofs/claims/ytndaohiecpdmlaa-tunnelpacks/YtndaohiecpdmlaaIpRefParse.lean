/-
  What the document's own Parse answers, for every string. No condition.
-/
import Derived.Test.YtndaohiecpdmlaaIpRefBuildB
import Derived.Test.YtndaohiecpdmlaaIpBytes
import Derived.StillTailTactics
namespace Go.Proofs.Ytndaohiecpdmlaa
set_option maxRecDepth 100000
open Go.RowKit

theorem rnum2 (s : ByteArray) (w : World) (k m : Nat) (hm : m = k + 2) (hs : k + 2 ≤ s.size) : Calls Try.prog 19 #[.string (s.extract k m)] w fun e w' => e = .returned (.int .i64 (num (byt s) k 2)) ∧ w = w' := by
  have := number_at2 s w k m hm hs
  rwa [← num2] at this
theorem rnum4 (s : ByteArray) (w : World) (k m : Nat) (hm : m = k + 4) (hs : k + 4 ≤ s.size) : Calls Try.prog 19 #[.string (s.extract k m)] w fun e w' => e = .returned (.int .i64 (num (byt s) k 4)) ∧ w = w' := by
  have := number_at4 s w k m hm hs
  rwa [← num4] at this
set_option maxHeartbeats 2000000 in
theorem rparse_short0 (s : ByteArray) (w : World) (hs : s.size ≤ 9223372036854775807) (h : s.size < 20) :
    Calls Try.prog 14 #[.string s] w fun e w' => e = .returned (.tuple #[none', .int .i64 1]) ∧ Below w.heap.size w w' := by
  unfold none' hv
  go_enter Try.func14, Try.ntmps14
  go_wp2
  refine ⟨rfl, .tuple #[.agg #[.int .i64 0, .int .i64 0, .int .i64 0, .int .i64 0, .int .i64 0, .int .u32 0, .int .u32 0, .string ⟨#[]⟩], .int .i64 1], ?_, rfl, (Below.refl _ _).alloc (Nat.le_refl _) _⟩
  simp [results, Try.results14, go_sem]
set_option maxHeartbeats 2000000 in
theorem rparse_field (s : ByteArray) (w : World) (hs : s.size ≤ 9223372036854775807) (h : 20 ≤ s.size) (hf : num (byt s) 0 1 ≠ 69) :
    Calls Try.prog 14 #[.string s] w fun e w' => e = .returned (.tuple #[none', .int .i64 3]) ∧ Below w.heap.size w w' := by
  have e0 := byt_eq s 0 (by omega)
  rw [num1] at hf
  have bb := byt_bd s 0
  have f1 : (byt s 0 != 69) = true := by simp [hf]
  unfold none' hv
  go_enter Try.func14, Try.ntmps14
  go_wp2
  refine ⟨rfl, .tuple #[.agg #[.int .i64 0, .int .i64 0, .int .i64 0, .int .i64 0, .int .i64 0, .int .u32 0, .int .u32 0, .string ⟨#[]⟩], .int .i64 3], ?_, rfl, (Below.refl _ _).alloc (Nat.le_refl _) _⟩
  simp [results, Try.results14, go_sem]
set_option maxHeartbeats 2000000 in
theorem rparse_short1 (s : ByteArray) (w : World) (hs : s.size ≤ 9223372036854775807) (h : 20 ≤ s.size) (hf : num (byt s) 0 1 = 69) (hg : said s < 20) :
    Calls Try.prog 14 #[.string s] w fun e w' => e = .returned (.tuple #[none', .int .i64 1]) ∧ Below w.heap.size w w' := by
  have N : Hid (∀ w, _) := fun w => rnum2 s w 2 4 rfl (by omega)
  have bd := num2_bd s 2
  unfold said at *
  have e0 := byt_eq s 0 (by omega)
  rw [num1] at hf
  have f0 : (byt s 0 != 69) = false := by simp [hf]
  generalize num (byt s) 2 2 = n at *
  have f1 : decide (n < 20) = true := by simp; omega
  unfold none' hv
  go_enter Try.func14, Try.ntmps14
  go_wp2_with (go_at_call 19; refine (N.out _).mono ?_; rintro e w' ⟨rfl, rfl⟩)
  refine ⟨rfl, .tuple #[.agg #[.int .i64 0, .int .i64 0, .int .i64 0, .int .i64 0, .int .i64 0, .int .u32 0, .int .u32 0, .string ⟨#[]⟩], .int .i64 1], ?_, rfl, (Below.refl _ _).alloc (Nat.le_refl _) _⟩
  simp [results, Try.results14, go_sem]
set_option maxHeartbeats 2000000 in
theorem rparse_short2 (s : ByteArray) (w : World) (hs : s.size ≤ 9223372036854775807) (h : 20 ≤ s.size) (hf : num (byt s) 0 1 = 69) (hg : ¬ said s < 20) (hl : s.size < said s) :
    Calls Try.prog 14 #[.string s] w fun e w' => e = .returned (.tuple #[none', .int .i64 1]) ∧ Below w.heap.size w w' := by
  have N : Hid (∀ w, _) := fun w => rnum2 s w 2 4 rfl (by omega)
  have bd := num2_bd s 2
  unfold said at *
  have e0 := byt_eq s 0 (by omega)
  rw [num1] at hf
  have f0 : (byt s 0 != 69) = false := by simp [hf]
  generalize num (byt s) 2 2 = n at *
  have f1 : decide (n < 20) = false := by simp; omega
  have f2 : decide ((s.size : Int) < n) = true := by simp; omega
  unfold none' hv
  go_enter Try.func14, Try.ntmps14
  go_wp2_with (go_at_call 19; refine (N.out _).mono ?_; rintro e w' ⟨rfl, rfl⟩)
  refine ⟨rfl, .tuple #[.agg #[.int .i64 0, .int .i64 0, .int .i64 0, .int .i64 0, .int .i64 0, .int .u32 0, .int .u32 0, .string ⟨#[]⟩], .int .i64 1], ?_, rfl, (Below.refl _ _).alloc (Nat.le_refl _) _⟩
  simp [results, Try.results14, go_sem]
set_option maxHeartbeats 2000000 in
theorem rparse_more (s : ByteArray) (w : World) (hs : s.size ≤ 9223372036854775807) (h : 20 ≤ s.size) (hf : num (byt s) 0 1 = 69) (hg : 20 ≤ said s) (hl : said s < s.size) :
    Calls Try.prog 14 #[.string s] w fun e w' => e = .returned (.tuple #[none', .int .i64 6]) ∧ Below w.heap.size w w' := by
  have N : Hid (∀ w, _) := fun w => rnum2 s w 2 4 rfl (by omega)
  have bd := num2_bd s 2
  unfold said at *
  have e0 := byt_eq s 0 (by omega)
  rw [num1] at hf
  have f0 : (byt s 0 != 69) = false := by simp [hf]
  generalize num (byt s) 2 2 = n at *
  have f1 : decide (n < 20) = false := by simp; omega
  have f2 : decide ((s.size : Int) < n) = false := by simp; omega
  have f3 : decide (n < (s.size : Int)) = true := by simp; omega
  unfold none' hv
  go_enter Try.func14, Try.ntmps14
  go_wp2_with (go_at_call 19; refine (N.out _).mono ?_; rintro e w' ⟨rfl, rfl⟩)
  refine ⟨rfl, .tuple #[.agg #[.int .i64 0, .int .i64 0, .int .i64 0, .int .i64 0, .int .i64 0, .int .u32 0, .int .u32 0, .string ⟨#[]⟩], .int .i64 6], ?_, rfl, (Below.refl _ _).alloc (Nat.le_refl _) _⟩
  simp [results, Try.results14, go_sem]
end Go.Proofs.Ytndaohiecpdmlaa
