/-
  math/bits.Mul of 1 and a small number: the number, and nothing above it. The number is at most 1000000.
-/
import Derived.Test.YtdmoaeegjjenmaaObCells
import Derived.Deep.LoopGhost
import Derived.Lib.QuietBelow
import Derived.BigQuiet
import Derived.RegionTactic
namespace Go.Proofs.Ytdmoaeegjjenmaa
set_option maxRecDepth 100000
open Go.RowKit Go.Sort

theorem and_low (n : Nat) (h : n < 4294967296) : bits .and .u64 (n : Int) 4294967295 = (n : Int) := by
  show IntKind.u64.wrap ((BitVec.ofInt 64 (n : Int) &&& BitVec.ofInt 64 4294967295).toNat : Int) = _
  have e1 : (BitVec.ofInt 64 (n : Int)).toNat = n := by simp; omega
  have e2 : (BitVec.ofInt 64 4294967295).toNat = 4294967295 := by decide
  rw [BitVec.toNat_and, e1, e2, show n &&& 4294967295 = n % 4294967296 from Nat.and_two_pow_sub_one_eq_mod n 32, IntKind.wrap_u64]
  omega
set_option maxHeartbeats 1000000 in
theorem mul64_ok (n : Nat) (w : World) (hn : n ≤ 1000000) : Calls Try.prog 46 #[.int .u64 1, .int .u64 n] w fun e w' => e = .returned (.tuple #[.int .u64 0, .int .u64 n]) ∧ w = w' := by
  have b1 : bits .and .u64 1 4294967295 = 1 := and_low 1 (by decide)
  have b2 : bits .and .u64 (n : Int) 4294967295 = n := and_low n (by omega)
  have b3 : (n : Int) / 4294967296 = 0 := by omega
  have b4 : bits .and .u64 0 4294967295 = 0 := and_low 0 (by decide)
  go_enter Try.func46, Try.ntmps46
  go_wp2
  go_ret2
  exact ⟨rfl, rfl⟩
set_option maxHeartbeats 1000000 in
theorem mul_ok (n : Nat) (w : World) (hn : n ≤ 1000000) : Calls Try.prog 39 #[.int .u64 1, .int .u64 n] w fun e w' => e = .returned (.tuple #[.int .u64 0, .int .u64 n]) ∧ w = w' := by
  have M := Lib.hid (mul64_ok n w hn)
  go_enter Try.func39, Try.ntmps39
  go_wp2_with fail
  refine M.out.mono ?_
  rintro e w' ⟨rfl, rfl⟩
  go_wp2
  go_ret2
  exact ⟨rfl, rfl⟩
end Go.Proofs.Ytdmoaeegjjenmaa
