/-
  What the program's own rest, Check, Has and Ends answer. Addresses are uint32's, bits an int; no other condition.
-/
import Derived.Test.YtndaohiecpdmlaaPfMath
import Derived.Lib.QuietBelow
namespace Go.Proofs.Ytndaohiecpdmlaa
open Go.RowKit Go.Sort

/-! ### bits of numbers -/
theorem nat_clear (e a : Nat) (he : e ≤ 32) (ha : a < 4294967296) : a &&& (4294967295 - (2 ^ e - 1)) = a - a % 2 ^ e := by
  have hp : 0 < 2 ^ e := Nat.two_pow_pos e
  obtain ⟨k, hk⟩ := Nat.exists_eq_add_of_le he
  have hw : 4294967296 = 2 ^ e * 2 ^ k := by rw [← Nat.pow_add, ← hk]
  have e1 : 4294967295 - (2 ^ e - 1) = 2 ^ e * (2 ^ k - 1) := by
    rw [Nat.mul_sub, Nat.mul_one, ← hw]
    have : 2 ^ e ≤ 4294967296 := by rw [hw]; exact Nat.le_mul_of_pos_right _ (Nat.two_pow_pos k)
    omega
  have e2 : a - a % 2 ^ e = 2 ^ e * (a / 2 ^ e) := by
    have := Nat.div_add_mod a (2 ^ e)
    omega
  rw [e1, e2]
  refine Nat.eq_of_testBit_eq fun i => ?_
  rw [Nat.testBit_and, Nat.testBit_two_pow_mul, Nat.testBit_two_pow_mul, Nat.testBit_two_pow_sub_one, Nat.testBit_div_two_pow]
  by_cases h : e ≤ i
  · have h2 : i - e + e = i := by omega
    simp only [ge_iff_le, h, decide_true, Bool.true_and, h2]
    by_cases h3 : i - e < k
    · simp [h3]
    · have : a < 2 ^ i := Nat.lt_of_lt_of_le (show a < 2 ^ 32 by omega) (Nat.pow_le_pow_right (by decide) (by omega))
      simp [h3, Nat.testBit_lt_two_pow this]
  · simp [h]
theorem sz_nat (b : Int) (h0 : 0 ≤ b) (h : b ≤ 32) : ∃ e : Nat, e ≤ 32 ∧ sz b = ((2 ^ e : Nat) : Int) := ⟨32 - b.toNat, by omega, by unfold sz; exact (Int.natCast_pow 2 _).symm⟩
theorem p32 (e : Nat) (he : e ≤ 32) : 2 ^ e ≤ 4294967296 := by
  have := Nat.pow_le_pow_right (n := 2) (by decide) he
  exact this
theorem and_rest (b a : Int) (h0 : 0 ≤ b) (h : b ≤ 32) (a0 : 0 ≤ a) (a1 : a < 4294967296) : bits .and .u32 a (sz b - 1) = a % sz b := by
  obtain ⟨e, he, es⟩ := sz_nat b h0 h
  have hp := Nat.two_pow_pos e
  have hl := p32 e he
  obtain ⟨n, rfl⟩ := Int.eq_ofNat_of_zero_le a0
  rw [es, show ((2 ^ e : Nat) : Int) - 1 = ((2 ^ e - 1 : Nat) : Int) by omega, u32_and_nat n _ (by omega) (by omega), Nat.and_two_pow_sub_one_eq_mod]
  exact Int.natCast_emod n (2 ^ e)
theorem clear_rest (b a : Int) (h0 : 0 ≤ b) (h : b ≤ 32) (a0 : 0 ≤ a) (a1 : a < 4294967296) : bits .andNot .u32 a (sz b - 1) = a - a % sz b := by
  obtain ⟨e, he, es⟩ := sz_nat b h0 h
  have hp := Nat.two_pow_pos e
  have hl := p32 e he
  obtain ⟨n, rfl⟩ := Int.eq_ofNat_of_zero_le a0
  rw [es, show ((2 ^ e : Nat) : Int) - 1 = ((2 ^ e - 1 : Nat) : Int) by omega, u32_andNot_nat n _ (by omega) (by omega), nat_clear e n he (by omega)]
  have := Nat.mod_le n (2 ^ e)
  rw [Int.ofNat_sub this, Int.natCast_emod]
theorem or_rest (b a : Int) (h0 : 0 ≤ b) (h : b ≤ 32) (a0 : 0 ≤ a) (a1 : a < 4294967296) (hm : a % sz b = 0) : bits .or .u32 a (sz b - 1) = a + sz b - 1 := by
  obtain ⟨e, he, es⟩ := sz_nat b h0 h
  have hp := Nat.two_pow_pos e
  have hl := p32 e he
  obtain ⟨n, rfl⟩ := Int.eq_ofNat_of_zero_le a0
  rw [es] at hm
  have hm' : n % 2 ^ e = 0 := by
    have := Int.natCast_emod n (2 ^ e)
    omega
  rw [es, show ((2 ^ e : Nat) : Int) - 1 = ((2 ^ e - 1 : Nat) : Int) by omega, u32_or_nat n _ (by omega) (by omega), nat_join e n (2 ^ e - 1) hm' (by omega)]
  omega

/-! ### the program's own -/
set_option maxHeartbeats 4000000 in
theorem rest_ok (b : Int) (w : World) (h0 : 0 ≤ b) (h : b ≤ 32) :
    Calls Try.prog 75 #[.int .i64 b] w fun e w' => e = .returned (.int .u32 (sz b - 1)) ∧ w' = w := by
  rcases bits_cases b h0 h with rfl | rfl | rfl | rfl | rfl | rfl | rfl | rfl | rfl | rfl | rfl | rfl | rfl | rfl | rfl | rfl | rfl | rfl | rfl | rfl | rfl | rfl | rfl | rfl | rfl | rfl | rfl | rfl | rfl | rfl | rfl | rfl | rfl
  all_goals
    go_enter Try.func75, Try.ntmps75
    go_wp2
    go_ret
    exact ⟨rfl, rfl⟩
theorem rest_okB (b : Int) (w : World) (h0 : 0 ≤ b) (h : b ≤ 32) :
    Calls Try.prog 75 #[.int .i64 b] w fun e w' => e = .returned (.int .u32 (sz b - 1)) ∧ RowKit.Below w.heap.size w w' :=
  (rest_ok b w h0 h).mono fun _ _ ⟨h, k⟩ => ⟨h, k ▸ Below.refl _ _⟩
set_option maxHeartbeats 1000000 in
theorem check_no (addr bits : Int) (w : World) (h : bits < 0 ∨ 32 < bits) :
    Calls Try.prog 65 #[pv addr bits] w fun e w' => e = .returned (.bool false) ∧ Below w.heap.size w w' := by
  unfold pv
  rcases h with h | h
  · have h1 : decide (0 ≤ bits) = false := decide_eq_false (by omega)
    go_enter Try.func65, Try.ntmps65
    go_wp2
    go_quiet (fail)
    go_wp2
    go_ret
    exact ⟨rfl, ((Below.refl _ _).alloc (Nat.le_refl _) _).trans ⟨rfl, rfl, rfl, Nat.le_refl _, fun _ _ => rfl⟩⟩
  · have h1 : decide (0 ≤ bits) = true := decide_eq_true (by omega)
    have h2 : decide (bits ≤ 32) = false := decide_eq_false (by omega)
    go_enter Try.func65, Try.ntmps65
    go_wp2
    go_quiet (fail)
    go_wp2
    go_ret
    exact ⟨rfl, ((Below.refl _ _).alloc (Nat.le_refl _) _).trans ⟨rfl, rfl, rfl, Nat.le_refl _, fun _ _ => rfl⟩⟩
set_option maxHeartbeats 1000000 in
theorem check_in (addr bits : Int) (w : World) (h0 : 0 ≤ bits) (h : bits ≤ 32) (a0 : 0 ≤ addr) (a1 : addr < 4294967296) :
    Calls Try.prog 65 #[pv addr bits] w fun e w' => e = .returned (.bool (addr % sz bits == 0)) ∧ Below w.heap.size w w' := by
  have S : Hid (∀ w, _) := fun w => rest_ok bits w h0 h
  have m := and_rest bits addr h0 h a0 a1
  generalize sz bits - 1 = r at *
  generalize addr % sz bits = q at *
  have h1 : decide (0 ≤ bits) = true := decide_eq_true h0
  have h2 : decide (bits ≤ 32) = true := decide_eq_true h
  unfold pv
  go_enter Try.func65, Try.ntmps65
  go_wp2
  go_quiet ((go_at_call 75; exact Calls.quiet_of_same (S.out _)))
  go_wp2
  go_ret
  exact ⟨rfl, ((Below.refl _ _).alloc (Nat.le_refl _) _).trans ⟨rfl, rfl, rfl, Nat.le_refl _, fun _ _ => rfl⟩⟩
theorem check_ok (addr bits : Int) (w : World) (a0 : 0 ≤ addr) (a1 : addr < 4294967296) :
    Calls Try.prog 65 #[pv addr bits] w fun e w' => e = .returned (.bool (rt addr bits)) ∧ Below w.heap.size w w' := by
  by_cases h : 0 ≤ bits ∧ bits ≤ 32
  · have e : rt addr bits = (addr % sz bits == 0) := by
      unfold rt
      by_cases q : addr % sz bits = 0
      · rw [decide_eq_true ⟨h.1, h.2, q⟩]; simp [q]
      · rw [decide_eq_false (fun x => q x.2.2)]; simp [q]
    rw [e]
    exact check_in addr bits w h.1 h.2 a0 a1
  · have e : rt addr bits = false := decide_eq_false (fun x => h ⟨x.1, x.2.1⟩)
    rw [e]
    exact check_no addr bits w (by omega)
theorem mod_in (a z q : Int) (hz : 0 < z) (hq : q % z = 0) : a - a % z = q ↔ q ≤ a ∧ a < q + z := by
  have h0 := Int.emod_nonneg a (by omega : z ≠ 0)
  have h1 := Int.emod_lt_of_pos a hz
  refine ⟨fun h => by omega, fun ⟨k0, k1⟩ => ?_⟩
  have e : a % z = (a - q) % z := by
    obtain ⟨c, rfl⟩ := Int.dvd_of_emod_eq_zero hq
    rw [Int.sub_mul_emod_self_left]
  have e2 : (a - q) % z = a - q := Int.emod_eq_of_lt (by omega) (by omega)
  omega
set_option maxHeartbeats 2000000 in
theorem has_no (addr bits a : Int) (w : World) (a0 : 0 ≤ addr) (a1 : addr < 4294967296) (h : rt addr bits = false) :
    Calls Try.prog 66 #[pv addr bits, .int .u32 a] w fun e w' => e = .returned (.bool false) ∧ Below w.heap.size w w' := by
  have C : Hid (∀ w, Calls Try.prog 65 #[pv addr bits] w fun e w' => e = .returned (.bool false) ∧ Below w.heap.size w w') := fun w => by
    have := check_ok addr bits w a0 a1
    rwa [h] at this
  unfold pv at *
  have X := pbox_new w addr bits
  have k0 := cell_regrown X.c0; have k1 := cell_regrown X.c1
  clear X
  go_enter Try.func66, Try.ntmps66
  go_wp2
  refine wp_region_quiet_below (by kernel_rfl) (by kernel_rfl) ?_
  repeat (go_big_quiet_step (first | (go_at_call 65; exact Calls.regrown_of (C.out _))))
  refine wpQuiet_nil ?_
  intro _ hw'
  obtain ⟨⟨dq, osq⟩, hw''⟩ := hw'
  subst hw''
  go_wp2
  go_ret
  exact ⟨rfl, ((Below.refl _ _).alloc (Nat.le_refl _) _).trans ((below_regrown _ dq osq).mono (by simp))⟩
set_option maxHeartbeats 2000000 in
theorem has_up (addr bits a : Int) (w : World) (a0 : 0 ≤ addr) (a1 : addr < 4294967296) (b0 : 0 ≤ a) (b1 : a < 4294967296) (h : rt addr bits = true) :
    Calls Try.prog 66 #[pv addr bits, .int .u32 a] w fun e w' => e = .returned (.bool (a - a % sz bits == addr)) ∧ Below w.heap.size w w' := by
  have C : Hid (∀ w, Calls Try.prog 65 #[pv addr bits] w fun e w' => e = .returned (.bool true) ∧ Below w.heap.size w w') := fun w => by
    have := check_ok addr bits w a0 a1
    rwa [h] at this
  have hb := rt_bits h
  have S : Hid (∀ w, _) := fun w => rest_okB bits w hb.1 hb.2.1
  have m := clear_rest bits a hb.1 hb.2.1 b0 b1
  clear hb h
  generalize sz bits - 1 = r at *
  generalize a - a % sz bits = q at *
  unfold pv at *
  have X := pbox_new w addr bits
  have k0 := cell_regrown X.c0; have k1 := cell_regrown X.c1
  clear X
  go_enter Try.func66, Try.ntmps66
  go_wp2
  refine wp_region_quiet_below (by kernel_rfl) (by kernel_rfl) ?_
  repeat (go_big_quiet_step (first | (go_at_call 65; exact Calls.regrown_of (C.out _)) | (go_at_call 75; exact Calls.regrown_of (S.out _))))
  refine wpQuiet_nil ?_
  intro _ hw'
  obtain ⟨⟨dq, osq⟩, hw''⟩ := hw'
  subst hw''
  go_wp2
  go_ret
  exact ⟨rfl, ((Below.refl _ _).alloc (Nat.le_refl _) _).trans ((below_regrown _ dq osq).mono (by simp))⟩
theorem has_ok (addr bits a : Int) (w : World) (a0 : 0 ≤ addr) (a1 : addr < 4294967296) (b0 : 0 ≤ a) (b1 : a < 4294967296) :
    Calls Try.prog 66 #[pv addr bits, .int .u32 a] w fun e w' => e = .returned (.bool (inP addr bits a)) ∧ Below w.heap.size w w' := by
  by_cases h : rt addr bits = true
  · have e : inP addr bits a = (a - a % sz bits == addr) := by
      have k := mod_in a (sz bits) addr (sz_pos bits) (rt_bits h).2.2
      unfold inP
      rw [h, Bool.true_and]
      by_cases q : a - a % sz bits = addr
      · have k2 := k.1 q
        rw [decide_eq_true k2.1, decide_eq_true k2.2]
        simp [q]
      · have q2 : (a - a % sz bits == addr) = false := by simp [q]
        rw [q2]
        by_cases q3 : addr ≤ a
        · have q4 : ¬ a < addr + sz bits := fun x => q (k.2 ⟨q3, x⟩)
          rw [decide_eq_false q4, Bool.and_false]
        · rw [decide_eq_false q3, Bool.false_and]
    rw [e]
    exact has_up addr bits a w a0 a1 b0 b1 h
  · have h' : rt addr bits = false := by simpa using h
    have e : inP addr bits a = false := by unfold inP; rw [h', Bool.false_and, Bool.false_and]
    rw [e]
    exact has_no addr bits a w a0 a1 h'
set_option maxHeartbeats 2000000 in
theorem ends_no (addr bits : Int) (w : World) (a0 : 0 ≤ addr) (a1 : addr < 4294967296) (h : rt addr bits = false) :
    Calls Try.prog 71 #[pv addr bits] w fun e w' => e = .returned (.tuple #[.int .u32 0, .int .u32 0]) ∧ Below w.heap.size w w' := by
  have C : Hid (∀ w, Calls Try.prog 65 #[pv addr bits] w fun e w' => e = .returned (.bool false) ∧ Below w.heap.size w w') := fun w => by
    have := check_ok addr bits w a0 a1
    rwa [h] at this
  unfold pv at *
  go_enter Try.func71, Try.ntmps71
  go_wp2_with (go_at_call 65; refine (C.out _).mono ?_; rintro e w1 ⟨rfl, b1⟩)
  go_ret2
  exact ⟨rfl, ((Below.refl _ _).alloc (Nat.le_refl _) _).trans (b1.mono (by simp))⟩
set_option maxHeartbeats 2000000 in
theorem ends_ok (addr bits : Int) (w : World) (a0 : 0 ≤ addr) (a1 : addr < 4294967296) (h : rt addr bits = true) :
    Calls Try.prog 71 #[pv addr bits] w fun e w' => e = .returned (.tuple #[.int .u32 addr, .int .u32 (addr + sz bits - 1)]) ∧ Below w.heap.size w w' := by
  have C : Hid (∀ w, Calls Try.prog 65 #[pv addr bits] w fun e w' => e = .returned (.bool true) ∧ Below w.heap.size w w') := fun w => by
    have := check_ok addr bits w a0 a1
    rwa [h] at this
  have hb := rt_bits h
  have S : Hid (∀ w, _) := fun w => rest_ok bits w hb.1 hb.2.1
  have m := or_rest bits addr hb.1 hb.2.1 a0 a1 hb.2.2
  clear hb h
  generalize addr + sz bits - 1 = q at *
  generalize sz bits - 1 = r at *
  unfold pv at *
  have lt : ∀ o, w.heap.size < (w.alloc o).heap.size := fun o => by simp
  have X0 := pbox_new w addr bits
  go_enter Try.func71, Try.ntmps71
  go_wp2_with (go_at_call 65; refine (C.out _).mono ?_; rintro e w1 ⟨rfl, b1⟩; obtain ⟨l1, c0, c1⟩ := X0.keep (lt _) b1)
  go_quiet ((go_at_call 75; exact Calls.quiet_of_same (S.out _)))
  go_wp2
  go_ret2
  exact ⟨rfl, (((Below.refl _ _).alloc (Nat.le_refl _) _).trans (b1.mono (by simp))).trans ⟨rfl, rfl, rfl, Nat.le_refl _, fun _ _ => rfl⟩⟩
end Go.Proofs.Ytndaohiecpdmlaa
