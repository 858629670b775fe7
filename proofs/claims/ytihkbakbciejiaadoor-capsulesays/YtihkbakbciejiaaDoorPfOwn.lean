/-
  What the program's own rest, Check, Has and Ends answer. Addresses are uint32's, bits an int; no other condition.
-/
import Derived.Test.YtihkbakbciejiaaDoorPfMath
import Derived.Lib.QuietBelow
namespace Go.Proofs.YtihkbakbciejiaaDoor
set_option maxRecDepth 100000
open Go.RowKit Go.Sort

/-! ### bits of numbers -/
theorem nat_clear (e a : Nat) (he : e ≤ 32) (ha : a < 4294967296) : a &&& (4294967295 - (2 ^ e - 1)) = a - a % 2 ^ e := by
  have hp : 0 < 2 ^ e := Nat.two_pow_pos e
  obtain ⟨k, hk⟩ := Nat.exists_eq_add_of_le he
  have hw : 4294967296 = 2 ^ e * 2 ^ k := by rw [← Nat.pow_add, ← hk]
  have e1 : 4294967295 - (2 ^ e - 1) = 2 ^ e * (2 ^ k - 1) := by
    rw [Nat.mul_sub, Nat.mul_one, ← hw]
    have : 2 ^ e ≤ 4294967296 := by rw [hw]; exact Nat.le_mul_of_pos_right _ (Nat.two_pow_pos k)
    omega
  have e2 : a - a % 2 ^ e = 2 ^ e * (a / 2 ^ e) := by
    have := Nat.div_add_mod a (2 ^ e)
    omega
  rw [e1, e2]
  refine Nat.eq_of_testBit_eq fun i => ?_
  rw [Nat.testBit_and, Nat.testBit_two_pow_mul, Nat.testBit_two_pow_mul, Nat.testBit_two_pow_sub_one, Nat.testBit_div_two_pow]
  by_cases h : e ≤ i
  · have h2 : i - e + e = i := by omega
    simp only [ge_iff_le, h, decide_true, Bool.true_and, h2]
    by_cases h3 : i - e < k
    · simp [h3]
    · have : a < 2 ^ i := Nat.lt_of_lt_of_le (show a < 2 ^ 32 by omega) (Nat.pow_le_pow_right (by decide) (by omega))
      simp [h3, Nat.testBit_lt_two_pow this]
  · simp [h]
theorem sz_nat (b : Int) (h0 : 0 ≤ b) (h : b ≤ 32) : ∃ e : Nat, e ≤ 32 ∧ sz b = ((2 ^ e : Nat) : Int) := ⟨32 - b.toNat, by omega, by unfold sz; exact (Int.natCast_pow 2 _).symm⟩
theorem p32 (e : Nat) (he : e ≤ 32) : 2 ^ e ≤ 4294967296 := by
  have := Nat.pow_le_pow_right (n := 2) (by decide) he
  exact this
theorem and_rest (b a : Int) (h0 : 0 ≤ b) (h : b ≤ 32) (a0 : 0 ≤ a) (a1 : a < 4294967296) : bits .and .u32 a (sz b - 1) = a % sz b := by
  obtain ⟨e, he, es⟩ := sz_nat b h0 h
  have hp := Nat.two_pow_pos e
  have hl := p32 e he
  obtain ⟨n, rfl⟩ := Int.eq_ofNat_of_zero_le a0
  rw [es, show ((2 ^ e : Nat) : Int) - 1 = ((2 ^ e - 1 : Nat) : Int) by omega, u32_and_nat n _ (by omega) (by omega), Nat.and_two_pow_sub_one_eq_mod]
  exact Int.natCast_emod n (2 ^ e)
theorem clear_rest (b a : Int) (h0 : 0 ≤ b) (h : b ≤ 32) (a0 : 0 ≤ a) (a1 : a < 4294967296) : bits .andNot .u32 a (sz b - 1) = a - a % sz b := by
  obtain ⟨e, he, es⟩ := sz_nat b h0 h
  have hp := Nat.two_pow_pos e
  have hl := p32 e he
  obtain ⟨n, rfl⟩ := Int.eq_ofNat_of_zero_le a0
  rw [es, show ((2 ^ e : Nat) : Int) - 1 = ((2 ^ e - 1 : Nat) : Int) by omega, u32_andNot_nat n _ (by omega) (by omega), nat_clear e n he (by omega)]
  have := Nat.mod_le n (2 ^ e)
  rw [Int.ofNat_sub this, Int.natCast_emod]
theorem or_rest (b a : Int) (h0 : 0 ≤ b) (h : b ≤ 32) (a0 : 0 ≤ a) (a1 : a < 4294967296) (hm : a % sz b = 0) : bits .or .u32 a (sz b - 1) = a + sz b - 1 := by
  obtain ⟨e, he, es⟩ := sz_nat b h0 h
  have hp := Nat.two_pow_pos e
  have hl := p32 e he
  obtain ⟨n, rfl⟩ := Int.eq_ofNat_of_zero_le a0
  rw [es] at hm
  have hm' : n % 2 ^ e = 0 := by
    have := Int.natCast_emod n (2 ^ e)
    omega
  rw [es, show ((2 ^ e : Nat) : Int) - 1 = ((2 ^ e - 1 : Nat) : Int) by omega, u32_or_nat n _ (by omega) (by omega), nat_join e n (2 ^ e - 1) hm' (by omega)]
  omega

/-! ### the program's own -/
set_option maxHeartbeats 4000000 in
theorem rest_ok (b : Int) (w : World) (h0 : 0 ≤ b) (h : b ≤ 32) :
    Calls Tryd.prog 64 #[.int .i64 b] w fun e w' => e = .returned (.int .u32 (sz b - 1)) ∧ w' = w := by
  rcases bits_cases b h0 h with rfl | rfl | rfl | rfl | rfl | rfl | rfl | rfl | rfl | rfl | rfl | rfl | rfl | rfl | rfl | rfl | rfl | rfl | rfl | rfl | rfl | rfl | rfl | rfl | rfl | rfl | rfl | rfl | rfl | rfl | rfl | rfl | rfl
  all_goals
    go_enter Tryd.func64, Tryd.ntmps64
    go_wp2
    go_ret
    exact ⟨rfl, rfl⟩
theorem rest_okB (b : Int) (w : World) (h0 : 0 ≤ b) (h : b ≤ 32) :
    Calls Tryd.prog 64 #[.int .i64 b] w fun e w' => e = .returned (.int .u32 (sz b - 1)) ∧ RowKit.Below w.heap.size w w' :=
  (rest_ok b w h0 h).mono fun _ _ ⟨h, k⟩ => ⟨h, k ▸ Below.refl _ _⟩
set_option maxHeartbeats 1000000 in
theorem check_no (addr bits : Int) (w : World) (h : bits < 0 ∨ 32 < bits) :
    Calls Tryd.prog 53 #[pv addr bits] w fun e w' => e = .returned (.bool false) ∧ Below w.heap.size w w' := by
  unfold pv
  rcases h with h | h
  · have h1 : decide (0 ≤ bits) = false := decide_eq_false (by omega)
    go_enter Tryd.func53, Tryd.ntmps53
    go_wp2
    go_quiet (fail)
    go_wp2
    go_ret
    exact ⟨rfl, ((Below.refl _ _).alloc (Nat.le_refl _) _).trans ⟨rfl, rfl, rfl, Nat.le_refl _, fun _ _ => rfl⟩⟩
  · have h1 : decide (0 ≤ bits) = true := decide_eq_true (by omega)
    have h2 : decide (bits ≤ 32) = false := decide_eq_false (by omega)
    go_enter Tryd.func53, Tryd.ntmps53
    go_wp2
    go_quiet (fail)
    go_wp2
    go_ret
    exact ⟨rfl, ((Below.refl _ _).alloc (Nat.le_refl _) _).trans ⟨rfl, rfl, rfl, Nat.le_refl _, fun _ _ => rfl⟩⟩
set_option maxHeartbeats 1000000 in
theorem check_in (addr bits : Int) (w : World) (h0 : 0 ≤ bits) (h : bits ≤ 32) (a0 : 0 ≤ addr) (a1 : addr < 4294967296) :
    Calls Tryd.prog 53 #[pv addr bits] w fun e w' => e = .returned (.bool (addr % sz bits == 0)) ∧ Below w.heap.size w w' := by
  have S : Hid (∀ w, _) := fun w => rest_ok bits w h0 h
  have m := and_rest bits addr h0 h a0 a1
  generalize sz bits - 1 = r at *
  generalize addr % sz bits = q at *
  have h1 : decide (0 ≤ bits) = true := decide_eq_true h0
  have h2 : decide (bits ≤ 32) = true := decide_eq_true h
  unfold pv
  go_enter Tryd.func53, Tryd.ntmps53
  go_wp2
  go_quiet ((go_at_call 64; exact Calls.quiet_of_same (S.out _)))
  go_wp2
  go_ret
  exact ⟨rfl, ((Below.refl _ _).alloc (Nat.le_refl _) _).trans ⟨rfl, rfl, rfl, Nat.le_refl _, fun _ _ => rfl⟩⟩
theorem check_ok (addr bits : Int) (w : World) (a0 : 0 ≤ addr) (a1 : addr < 4294967296) :
    Calls Tryd.prog 53 #[pv addr bits] w fun e w' => e = .returned (.bool (rt addr bits)) ∧ Below w.heap.size w w' := by
  by_cases h : 0 ≤ bits ∧ bits ≤ 32
  · have e : rt addr bits = (addr % sz bits == 0) := by
      unfold rt
      by_cases q : addr % sz bits = 0
      · rw [decide_eq_true ⟨h.1, h.2, q⟩]; simp [q]
      · rw [decide_eq_false (fun x => q x.2.2)]; simp [q]
    rw [e]
    exact check_in addr bits w h.1 h.2 a0 a1
  · have e : rt addr bits = false := decide_eq_false (fun x => h ⟨x.1, x.2.1⟩)
    rw [e]
    exact check_no addr bits w (by omega)
end Go.Proofs.YtihkbakbciejiaaDoor
