/-
  What the program's two answers, at every place of a text. No condition.
-/
import Derived.Test.YtndaohiecpdmlaaIpHead
import Derived.BigQuiet
namespace Go.Proofs.Ytndaohiecpdmlaa
open Go.RowKit

theorem ofInt_i64 (a : Nat) (ha : a < 9223372036854775808) : (BitVec.ofInt 64 (a : Int)).toNat = a := by
  rw [BitVec.ofInt_natCast, BitVec.toNat_ofNat]; exact Nat.mod_eq_of_lt (by omega)
theorem i64_or_nat (a b : Nat) (ha : a < 9223372036854775808) (hb : b < 9223372036854775808) : bits .or .i64 (a : Int) (b : Int) = ((a ||| b : Nat) : Int) := by
  have hx : a ||| b < 2 ^ 63 := Nat.or_lt_two_pow (by omega) (by omega)
  show IntKind.i64.wrap ((BitVec.ofInt 64 (a : Int) ||| BitVec.ofInt 64 (b : Int)).toNat : Int) = _
  rw [BitVec.toNat_or, ofInt_i64 a ha, ofInt_i64 b hb]
  simp [IntKind.wrap, IntKind.bits, IntKind.signed]; omega
theorem or_byte (x b : Int) (h0 : 0 ≤ x) (h : x < 256) (b0 : 0 ≤ b) (hb : b < 256) : bits .or .i64 (x * 256) b = x * 256 + b := by
  obtain ⟨a, rfl⟩ := Int.eq_ofNat_of_zero_le h0
  obtain ⟨c, rfl⟩ := Int.eq_ofNat_of_zero_le b0
  rw [show (a : Int) * 256 = ((a * 256 : Nat) : Int) by omega, i64_or_nat _ _ (by omega) (by omega), nat_join 8 (a * 256) c (by omega) (by omega)]
  omega
theorem u32_and16 (x : Int) (h0 : 0 ≤ x) (h : x < 4294967296) : bits .and .u32 x 65535 = x % 65536 := by
  obtain ⟨a, rfl⟩ := Int.eq_ofNat_of_zero_le h0
  rw [show (65535 : Int) = ((65535 : Nat) : Int) from rfl, u32_and_nat a 65535 (by omega) (by omega), show a &&& 65535 = a % 65536 from Nat.and_two_pow_sub_one_eq_mod a 16]
  omega
/-- The number of the two bytes at a place. -/
def w2 (s : ByteArray) (p : Nat) : Int := byt s p * 256 + byt s (p + 1)
theorem w2_bd (s : ByteArray) (p : Nat) : 0 ≤ w2 s p ∧ w2 s p ≤ 65535 := by
  have := byt_bd s p
  have := byt_bd s (p + 1)
  unfold w2
  omega
set_option maxHeartbeats 1000000 in
theorem two_ok (s : ByteArray) (p : Nat) (w : World) (h : p + 1 < s.size) (hp : p < 100) :
    Calls Try.prog 52 #[.string s, .int .i64 p] w fun e w' => e = .returned (.int .i64 (w2 s p)) ∧ ∃ m, w' = w.drewN m := by
  have h1 : (p : Int) < s.size := by omega
  have h2 : (p : Int) + 1 < s.size := by omega
  have e1 := byt_eq s p (by omega)
  have e2 := byt_eq s (p + 1) h
  have b1 := byt_bd s p
  have b2 := byt_bd s (p + 1)
  have ho := or_byte (byt s p) (byt s (p + 1)) b1.1 b1.2 b2.1 b2.2
  unfold w2
  rw [← ho]
  generalize byt s p = x at *
  generalize byt s (p + 1) = y at *
  have hx : ∀ h : p < s.size, ((s[p].toNat : Nat) : Int) = x := fun _ => e1
  have hy : ∀ h : p + 1 < s.size, ((s[p + 1].toNat : Nat) : Int) = y := fun _ => e2
  clear e1 e2 ho
  go_enter Try.func52, Try.ntmps52
  go_wp2
  go_quiet (fail)
  go_wp2
  go_ret
  exact ⟨rfl, _, rfl⟩
end Go.Proofs.Ytndaohiecpdmlaa
