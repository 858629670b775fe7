/-
  Plain facts on numbers and bytes that the walks of this seat use: what a number is written as, and what bytes are read as. No condition.
-/
import Derived.Test.YtihkbakbciejiaaDoorRows
import Derived.WalkKit
import Derived.Laws.BytesArg
import Derived.Laws.BitsAllLaws
namespace Go.Proofs.YtihkbakbciejiaaDoor
set_option maxRecDepth 100000

/-! ### bits of an int64 -/
theorem ofInt_i64 (a : Nat) (ha : a < 9223372036854775808) : (BitVec.ofInt 64 (a : Int)).toNat = a := by
  rw [BitVec.ofInt_natCast, BitVec.toNat_ofNat]; exact Nat.mod_eq_of_lt (by omega)
theorem wrap_i64_small (n : Nat) (h : n < 9223372036854775808) : IntKind.i64.wrap (n : Int) = n := by
  simp [IntKind.wrap, IntKind.bits, IntKind.signed]; omega
theorem i64_and_nat (a b : Nat) (ha : a < 9223372036854775808) (hb : b < 9223372036854775808) : bits .and .i64 (a : Int) (b : Int) = ((a &&& b : Nat) : Int) := by
  have hx : a &&& b < 2 ^ 63 := Nat.and_lt_two_pow _ (by omega)
  show IntKind.i64.wrap ((BitVec.ofInt 64 (a : Int) &&& BitVec.ofInt 64 (b : Int)).toNat : Int) = _
  rw [BitVec.toNat_and, ofInt_i64 a ha, ofInt_i64 b hb]
  exact wrap_i64_small _ (by omega)
theorem i64_or_nat (a b : Nat) (ha : a < 9223372036854775808) (hb : b < 9223372036854775808) : bits .or .i64 (a : Int) (b : Int) = ((a ||| b : Nat) : Int) := by
  have hx : a ||| b < 2 ^ 63 := Nat.or_lt_two_pow (by omega) (by omega)
  show IntKind.i64.wrap ((BitVec.ofInt 64 (a : Int) ||| BitVec.ofInt 64 (b : Int)).toNat : Int) = _
  rw [BitVec.toNat_or, ofInt_i64 a ha, ofInt_i64 b hb]
  exact wrap_i64_small _ (by omega)
/-- 'byte(x & 0xff)'. -/
theorem and255 (x : Int) (h0 : 0 ≤ x) (h : x < 9223372036854775808) : bits .and .i64 x 255 % 256 = x % 256 := by
  obtain ⟨a, rfl⟩ := Int.eq_ofNat_of_zero_le h0
  rw [show (255 : Int) = ((255 : Nat) : Int) from rfl, i64_and_nat a 255 (by omega) (by omega), show a &&& 255 = a % 256 from Nat.and_two_pow_sub_one_eq_mod a 8]
  omega
/-- 'n<<8 | b'. -/
theorem or_byte (x b : Int) (h0 : 0 ≤ x) (h : x < 36028797018963968) (b0 : 0 ≤ b) (hb : b < 256) : bits .or .i64 (x * 256) b = x * 256 + b := by
  obtain ⟨a, rfl⟩ := Int.eq_ofNat_of_zero_le h0
  obtain ⟨c, rfl⟩ := Int.eq_ofNat_of_zero_le b0
  rw [show (a : Int) * 256 = ((a * 256 : Nat) : Int) by omega, i64_or_nat _ _ (by omega) (by omega), nat_join 8 (a * 256) c (by omega) (by omega)]
  omega
/-- 'out[0] |= byte(mark << 6)'. -/
theorem or_mark (x : Int) (m : Nat) (h0 : 0 ≤ x) (h : x < 64) (hm : m < 4) : bits .or .u8 x (m * 64 : Int) = x + 64 * m := by
  obtain ⟨a, rfl⟩ := Int.eq_ofNat_of_zero_le h0
  rw [show (m * 64 : Int) = ((m * 64 : Nat) : Int) by omega, u8_or_nat _ _ (by omega) (by omega), Nat.or_comm, nat_join 6 (m * 64) a (by omega) (by omega)]
  omega
/-- 's[0] & 0x3f'. -/
theorem and63 (x : Int) (h0 : 0 ≤ x) (h : x < 256) : bits .and .u8 x 63 = x % 64 := by
  obtain ⟨a, rfl⟩ := Int.eq_ofNat_of_zero_le h0
  rw [show (63 : Int) = ((63 : Nat) : Int) from rfl, u8_and_nat a 63 (by omega) (by omega), show a &&& 63 = a % 64 from Nat.and_two_pow_sub_one_eq_mod a 6]
  omega

/-! ### sizes and marks -/
def Cl (n : Int) (m k : Nat) : Prop :=
  (m = 0 ∧ k = 1 ∧ 0 ≤ n ∧ n < 64) ∨ (m = 1 ∧ k = 2 ∧ 64 ≤ n ∧ n < 16384) ∨ (m = 2 ∧ k = 4 ∧ 16384 ≤ n ∧ n < 1073741824) ∨ (m = 3 ∧ k = 8 ∧ 1073741824 ≤ n ∧ n < 4611686018427387904)
def No (n : Int) : Prop := n < 0 ∨ 4611686018427387904 ≤ n
theorem cl_or_no (n : Int) : (∃ m k, Cl n m k) ∨ No n := by
  unfold Cl No
  by_cases h0 : n < 0
  · exact .inr (.inl h0)
  by_cases h1 : n < 64
  · exact .inl ⟨0, 1, by omega⟩
  by_cases h2 : n < 16384
  · exact .inl ⟨1, 2, by omega⟩
  by_cases h3 : n < 1073741824
  · exact .inl ⟨2, 4, by omega⟩
  by_cases h4 : n < 4611686018427387904
  · exact .inl ⟨3, 8, by omega⟩
  · exact .inr (.inr (by omega))
theorem Cl.lo {n : Int} {m k : Nat} (h : Cl n m k) : 0 ≤ n ∧ n < 4611686018427387904 ∧ 1 ≤ k ∧ k ≤ 8 ∧ m < 4 := by
  rcases h with ⟨rfl, rfl, a, b⟩ | ⟨rfl, rfl, a, b⟩ | ⟨rfl, rfl, a, b⟩ | ⟨rfl, rfl, a, b⟩ <;> omega

/-! ### digits -/
def digs : Int → Nat → List Int
  | _, 0 => []
  | n, k + 1 => digs (n / 256) k ++ [n % 256]
theorem digs_length (n : Int) (k : Nat) : (digs n k).length = k := by
  induction k generalizing n with
  | zero => rfl
  | succ k ih => simp [digs, ih]
def puts (n : Int) (m k : Nat) : List Int :=
  match digs n k with
  | [] => []
  | x :: r => (x + 64 * m) :: r
theorem puts_length (n : Int) (m k : Nat) : (puts n m k).length = k := by
  have h := digs_length n k
  unfold puts
  split
  · simp_all
  · simp_all
def val (l : List Int) : Int := l.foldl (fun n b => n * 256 + b) 0
end Go.Proofs.YtihkbakbciejiaaDoor
