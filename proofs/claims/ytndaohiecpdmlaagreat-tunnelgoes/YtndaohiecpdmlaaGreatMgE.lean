/-
  Plain facts on addresses and prefixes: how many addresses a prefix has, and which prefixes are right. No condition. What the document's own size, Check, Has and Ends answer. Addresses are uint32's, bits an int; no other condition. What the document's own Ends answers. The addresses are uint32's; no other condition. What the document's own Has and Ends answer. Addresses are uint32's, bits an int; no other condition. What the program's own rest, Check, Has and Ends answer. Addresses are uint32's, bits an int; no other condition.
-/
import Derived.Test.YtndaohiecpdmlaaGreatRows
import Derived.WalkKit
import Derived.Laws.BytesArg
import Derived.Laws.BitsAllLaws
import Derived.WalkSpells
import Derived.WalkLawsBesides
import Derived.Handy
import Derived.BigQuiet
import Derived.Lib.QuietBelow
namespace Go.Proofs.YtndaohiecpdmlaaGreat
open Go.RowKit

/-- How many addresses a prefix of so many bits has. -/
def sz (b : Int) : Int := 2 ^ (32 - b.toNat)
theorem sz_pos (b : Int) : 0 < sz b := by
  unfold sz
  exact Int.pow_pos (by decide)
theorem bits_cases (b : Int) (h0 : 0 ≤ b) (h : b ≤ 32) : b = 0 ∨ b = 1 ∨ b = 2 ∨ b = 3 ∨ b = 4 ∨ b = 5 ∨ b = 6 ∨ b = 7 ∨ b = 8 ∨ b = 9 ∨ b = 10 ∨ b = 11 ∨ b = 12 ∨ b = 13 ∨ b = 14 ∨ b = 15 ∨ b = 16 ∨ b = 17 ∨ b = 18 ∨ b = 19 ∨ b = 20 ∨ b = 21 ∨ b = 22 ∨ b = 23 ∨ b = 24 ∨ b = 25 ∨ b = 26 ∨ b = 27 ∨ b = 28 ∨ b = 29 ∨ b = 30 ∨ b = 31 ∨ b = 32 := by omega
theorem sz_le (b : Int) (h0 : 0 ≤ b) (h : b ≤ 32) : sz b ≤ 4294967296 := by
  rcases bits_cases b h0 h with rfl | rfl | rfl | rfl | rfl | rfl | rfl | rfl | rfl | rfl | rfl | rfl | rfl | rfl | rfl | rfl | rfl | rfl | rfl | rfl | rfl | rfl | rfl | rfl | rfl | rfl | rfl | rfl | rfl | rfl | rfl | rfl | rfl <;> decide
/-- Whether a prefix is right. -/
def rt (addr bits : Int) : Bool := decide (0 ≤ bits ∧ bits ≤ 32 ∧ addr % sz bits = 0)
/-- Whether an address is in a prefix. -/
def inP (addr bits a : Int) : Bool := rt addr bits && decide (addr ≤ a) && decide (a < addr + sz bits)
theorem rt_bits {addr bits : Int} (h : rt addr bits = true) : 0 ≤ bits ∧ bits ≤ 32 ∧ addr % sz bits = 0 := by
  simpa [rt] using h
/-- A prefix as the program holds it. -/
def pv (addr bits : Int) : Value := .agg #[.int .u32 addr, .int .i64 bits]
/-- A prefix in a block. -/
structure PBox (w : World) (A : Nat) (addr bits : Int) : Prop where
  lt : A < w.heap.size
  c0 : w.cell? ⟨A, 0, none⟩ = some (.int .u32 addr)
  c1 : w.cell? ⟨A, 1, none⟩ = some (.int .i64 bits)
theorem PBox.keep {w w' : World} {A B : Nat} {addr bits : Int} (h : PBox w A addr bits) (hA : A < B) (k : Below B w w') : PBox w' A addr bits :=
  ⟨Nat.lt_of_lt_of_le h.lt k.size, (k.cell hA).trans h.c0, (k.cell hA).trans h.c1⟩
theorem pbox_new (w : World) (addr bits : Int) : PBox (w.alloc (.cells #[.int .u32 addr, .int .i64 bits] 55)) w.heap.size addr bits := by
  refine ⟨by simp, ?_, ?_⟩ <;> rw [World.cell?_alloc_new] <;> rfl
end Go.Proofs.YtndaohiecpdmlaaGreat
namespace Go.Proofs.YtndaohiecpdmlaaGreat
open Go.RowKit

set_option maxHeartbeats 4000000 in
theorem size_ok (b : Int) (w : World) (h0 : 0 ≤ b) (h : b ≤ 32) :
    Calls Tryz.prog 43 #[.int .i64 b] w fun e w' => e = .returned (.int .i64 (sz b)) ∧ w' = w := by
  rcases bits_cases b h0 h with rfl | rfl | rfl | rfl | rfl | rfl | rfl | rfl | rfl | rfl | rfl | rfl | rfl | rfl | rfl | rfl | rfl | rfl | rfl | rfl | rfl | rfl | rfl | rfl | rfl | rfl | rfl | rfl | rfl | rfl | rfl | rfl | rfl
  all_goals
    go_enter Tryz.func43, Tryz.ntmps43
    go_wp2
    go_ret
    exact ⟨rfl, rfl⟩
set_option maxHeartbeats 1000000 in
theorem rcheck_no (addr bits : Int) (w : World) (h : bits < 0 ∨ 32 < bits) :
    Calls Tryz.prog 41 #[pv addr bits] w fun e w' => e = .returned (.bool false) ∧ Below w.heap.size w w' := by
  unfold pv
  rcases h with h | h
  · have h1 : decide (0 ≤ bits) = false := decide_eq_false (by omega)
    go_enter Tryz.func41, Tryz.ntmps41
    go_wp2
    go_quiet (fail)
    go_wp2
    go_ret
    exact ⟨rfl, ((Below.refl _ _).alloc (Nat.le_refl _) _).trans ⟨rfl, rfl, rfl, Nat.le_refl _, fun _ _ => rfl⟩⟩
  · have h1 : decide (0 ≤ bits) = true := decide_eq_true (by omega)
    have h2 : decide (bits ≤ 32) = false := decide_eq_false (by omega)
    go_enter Tryz.func41, Tryz.ntmps41
    go_wp2
    go_quiet (fail)
    go_wp2
    go_ret
    exact ⟨rfl, ((Below.refl _ _).alloc (Nat.le_refl _) _).trans ⟨rfl, rfl, rfl, Nat.le_refl _, fun _ _ => rfl⟩⟩
set_option maxHeartbeats 1000000 in
theorem rcheck_in (addr bits : Int) (w : World) (h0 : 0 ≤ bits) (h : bits ≤ 32) (a0 : 0 ≤ addr) (a1 : addr < 4294967296) :
    Calls Tryz.prog 41 #[pv addr bits] w fun e w' => e = .returned (.bool (addr % sz bits == 0)) ∧ Below w.heap.size w w' := by
  have S : Hid (∀ w, _) := fun w => size_ok bits w h0 h
  have zp := sz_pos bits
  have zl := sz_le bits h0 h
  generalize sz bits = z at *
  have h1 : decide (0 ≤ bits) = true := decide_eq_true h0
  have h2 : decide (bits ≤ 32) = true := decide_eq_true h
  have wa : IntKind.i64.wrap addr = addr := by simp [IntKind.wrap, IntKind.bits, IntKind.signed]; omega
  have hm0 := Int.emod_nonneg addr (by omega : z ≠ 0)
  have hm1 := Int.emod_lt_of_pos addr zp
  have wm : IntKind.i64.wrap (addr.tmod z) = addr % z := by rw [Int.tmod_eq_emod_of_nonneg a0]; simp [IntKind.wrap, IntKind.bits, IntKind.signed]; omega
  have zn : ¬ z = 0 := by omega
  unfold pv
  go_enter Tryz.func41, Tryz.ntmps41
  go_wp2
  go_quiet ((go_at_call 43; exact Calls.quiet_of_same (S.out _)))
  go_wp2
  go_ret
  exact ⟨rfl, ((Below.refl _ _).alloc (Nat.le_refl _) _).trans ⟨rfl, rfl, rfl, Nat.le_refl _, fun _ _ => rfl⟩⟩
theorem rcheck_ok (addr bits : Int) (w : World) (a0 : 0 ≤ addr) (a1 : addr < 4294967296) :
    Calls Tryz.prog 41 #[pv addr bits] w fun e w' => e = .returned (.bool (rt addr bits)) ∧ Below w.heap.size w w' := by
  by_cases h : 0 ≤ bits ∧ bits ≤ 32
  · have e : rt addr bits = (addr % sz bits == 0) := by
      unfold rt
      by_cases q : addr % sz bits = 0
      · rw [decide_eq_true ⟨h.1, h.2, q⟩]; simp [q]
      · rw [decide_eq_false (fun x => q x.2.2)]; simp [q]
    rw [e]
    exact rcheck_in addr bits w h.1 h.2 a0 a1
  · have e : rt addr bits = false := decide_eq_false (fun x => h ⟨x.1, x.2.1⟩)
    rw [e]
    exact rcheck_no addr bits w (by omega)
end Go.Proofs.YtndaohiecpdmlaaGreat
namespace Go.Proofs.YtndaohiecpdmlaaGreat
open Go.RowKit Go.Sort

set_option maxHeartbeats 2000000 in
theorem rends_no (addr bits : Int) (w : World) (a0 : 0 ≤ addr) (a1 : addr < 4294967296) (h : rt addr bits = false) :
    Calls Tryz.prog 49 #[pv addr bits] w fun e w' => e = .returned (.tuple #[.int .u32 0, .int .u32 0]) ∧ Below w.heap.size w w' := by
  have C : Hid (∀ w, Calls Tryz.prog 41 #[pv addr bits] w fun e w' => e = .returned (.bool false) ∧ Below w.heap.size w w') := fun w => by
    have := rcheck_ok addr bits w a0 a1
    rwa [h] at this
  unfold pv at *
  go_enter Tryz.func49, Tryz.ntmps49
  go_wp2_with (go_at_call 41; refine (C.out _).mono ?_; rintro e w1 ⟨rfl, b1⟩)
  go_ret2
  exact ⟨rfl, ((Below.refl _ _).alloc (Nat.le_refl _) _).trans (b1.mono (by simp))⟩
set_option maxHeartbeats 2000000 in
theorem rends_ok (addr bits : Int) (w : World) (a0 : 0 ≤ addr) (a1 : addr < 4294967296) (h : rt addr bits = true) (hs : addr + sz bits ≤ 4294967296) :
    Calls Tryz.prog 49 #[pv addr bits] w fun e w' => e = .returned (.tuple #[.int .u32 addr, .int .u32 (addr + sz bits - 1)]) ∧ Below w.heap.size w w' := by
  have C : Hid (∀ w, Calls Tryz.prog 41 #[pv addr bits] w fun e w' => e = .returned (.bool true) ∧ Below w.heap.size w w') := fun w => by
    have := rcheck_ok addr bits w a0 a1
    rwa [h] at this
  have hb := rt_bits h
  have S : Hid (∀ w, _) := fun w => size_ok bits w hb.1 hb.2.1
  have zp := sz_pos bits
  have zl := sz_le bits hb.1 hb.2.1
  clear hb h
  generalize sz bits = z at *
  have wa : IntKind.i64.wrap addr = addr := by simp [IntKind.wrap, IntKind.bits, IntKind.signed]; omega
  have wz : IntKind.i64.wrap (addr + z) = addr + z := by simp [IntKind.wrap, IntKind.bits, IntKind.signed]; omega
  have wy : IntKind.i64.wrap (addr + z - 1) = addr + z - 1 := by simp [IntKind.wrap, IntKind.bits, IntKind.signed]; omega
  have wx : IntKind.u32.wrap (addr + z - 1) = addr + z - 1 := by simp [IntKind.wrap, IntKind.bits, IntKind.signed]; omega
  unfold pv at *
  have lt : ∀ o, w.heap.size < (w.alloc o).heap.size := fun o => by simp
  have X0 := pbox_new w addr bits
  go_enter Tryz.func49, Tryz.ntmps49
  go_wp2_with (go_at_call 41; refine (C.out _).mono ?_; rintro e w1 ⟨rfl, b1⟩; obtain ⟨l1, c0, c1⟩ := X0.keep (lt _) b1)
  go_quiet ((go_at_call 43; exact Calls.quiet_of_same (S.out _)))
  go_wp2
  go_ret2
  exact ⟨rfl, (((Below.refl _ _).alloc (Nat.le_refl _) _).trans (b1.mono (by simp))).trans ⟨rfl, rfl, rfl, Nat.le_refl _, fun _ _ => rfl⟩⟩
end Go.Proofs.YtndaohiecpdmlaaGreat
namespace Go.Proofs.YtndaohiecpdmlaaGreat
open Go.RowKit Go.Sort

theorem size_okB (b : Int) (w : World) (h0 : 0 ≤ b) (h : b ≤ 32) :
    Calls Tryz.prog 43 #[.int .i64 b] w fun e w' => e = .returned (.int .i64 (sz b)) ∧ RowKit.Below w.heap.size w w' :=
  (size_ok b w h0 h).mono fun _ _ ⟨h, k⟩ => ⟨h, k ▸ Below.refl _ _⟩
set_option maxHeartbeats 2000000 in
theorem rhas_no (addr bits a : Int) (w : World) (a0 : 0 ≤ addr) (a1 : addr < 4294967296) (h : rt addr bits = false) :
    Calls Tryz.prog 27 #[pv addr bits, .int .u32 a] w fun e w' => e = .returned (.bool false) ∧ Below w.heap.size w w' := by
  have C : Hid (∀ w, Calls Tryz.prog 41 #[pv addr bits] w fun e w' => e = .returned (.bool false) ∧ Below w.heap.size w w') := fun w => by
    have := rcheck_ok addr bits w a0 a1
    rwa [h] at this
  unfold pv at *
  have X := pbox_new w addr bits
  have k0 := cell_regrown X.c0; have k1 := cell_regrown X.c1
  clear X
  go_enter Tryz.func27, Tryz.ntmps27
  go_wp2
  refine wp_region_quiet_below (by kernel_rfl) (by kernel_rfl) ?_
  repeat (go_big_quiet_step (first | (go_at_call 41; exact Calls.regrown_of (C.out _))))
  refine wpQuiet_nil ?_
  intro _ hw'
  obtain ⟨⟨dq, osq⟩, hw''⟩ := hw'
  subst hw''
  go_wp2
  go_ret
  exact ⟨rfl, ((Below.refl _ _).alloc (Nat.le_refl _) _).trans ((below_regrown _ dq osq).mono (by simp))⟩
set_option maxHeartbeats 2000000 in
theorem rhas_low (addr bits a : Int) (w : World) (a0 : 0 ≤ addr) (a1 : addr < 4294967296) (h : rt addr bits = true) (hl : a < addr) :
    Calls Tryz.prog 27 #[pv addr bits, .int .u32 a] w fun e w' => e = .returned (.bool false) ∧ Below w.heap.size w w' := by
  have C : Hid (∀ w, Calls Tryz.prog 41 #[pv addr bits] w fun e w' => e = .returned (.bool true) ∧ Below w.heap.size w w') := fun w => by
    have := rcheck_ok addr bits w a0 a1
    rwa [h] at this
  have f1 : decide (addr ≤ a) = false := decide_eq_false (by omega)
  unfold pv at *
  have X := pbox_new w addr bits
  have k0 := cell_regrown X.c0; have k1 := cell_regrown X.c1
  clear X
  go_enter Tryz.func27, Tryz.ntmps27
  go_wp2
  refine wp_region_quiet_below (by kernel_rfl) (by kernel_rfl) ?_
  repeat (go_big_quiet_step (first | (go_at_call 41; exact Calls.regrown_of (C.out _))))
  refine wpQuiet_nil ?_
  intro _ hw'
  obtain ⟨⟨dq, osq⟩, hw''⟩ := hw'
  subst hw''
  go_wp2
  go_ret
  exact ⟨rfl, ((Below.refl _ _).alloc (Nat.le_refl _) _).trans ((below_regrown _ dq osq).mono (by simp))⟩
set_option maxHeartbeats 2000000 in
theorem rhas_up (addr bits a : Int) (w : World) (a0 : 0 ≤ addr) (a1 : addr < 4294967296) (b0 : 0 ≤ a) (b1 : a < 4294967296) (h : rt addr bits = true) (hl : addr ≤ a) :
    Calls Tryz.prog 27 #[pv addr bits, .int .u32 a] w fun e w' => e = .returned (.bool (decide (a < addr + sz bits))) ∧ Below w.heap.size w w' := by
  have C : Hid (∀ w, Calls Tryz.prog 41 #[pv addr bits] w fun e w' => e = .returned (.bool true) ∧ Below w.heap.size w w') := fun w => by
    have := rcheck_ok addr bits w a0 a1
    rwa [h] at this
  have hb := rt_bits h
  have S : Hid (∀ w, _) := fun w => size_okB bits w hb.1 hb.2.1
  have zp := sz_pos bits
  have zl := sz_le bits hb.1 hb.2.1
  clear hb h
  generalize sz bits = z at *
  have f1 : decide (addr ≤ a) = true := decide_eq_true hl
  have wa : IntKind.i64.wrap addr = addr := by simp [IntKind.wrap, IntKind.bits, IntKind.signed]; omega
  have wb : IntKind.i64.wrap a = a := by simp [IntKind.wrap, IntKind.bits, IntKind.signed]; omega
  have wz : IntKind.i64.wrap (addr + z) = addr + z := by simp [IntKind.wrap, IntKind.bits, IntKind.signed]; omega
  unfold pv at *
  have X := pbox_new w addr bits
  have k0 := cell_regrown X.c0; have k1 := cell_regrown X.c1
  clear X
  go_enter Tryz.func27, Tryz.ntmps27
  go_wp2
  refine wp_region_quiet_below (by kernel_rfl) (by kernel_rfl) ?_
  repeat (go_big_quiet_step (first | (go_at_call 41; exact Calls.regrown_of (C.out _)) | (go_at_call 43; exact Calls.regrown_of (S.out _))))
  refine wpQuiet_nil ?_
  intro _ hw'
  obtain ⟨⟨dq, osq⟩, hw''⟩ := hw'
  subst hw''
  go_wp2
  go_ret
  exact ⟨rfl, ((Below.refl _ _).alloc (Nat.le_refl _) _).trans ((below_regrown _ dq osq).mono (by simp))⟩
theorem rhas_ok (addr bits a : Int) (w : World) (a0 : 0 ≤ addr) (a1 : addr < 4294967296) (b0 : 0 ≤ a) (b1 : a < 4294967296) :
    Calls Tryz.prog 27 #[pv addr bits, .int .u32 a] w fun e w' => e = .returned (.bool (inP addr bits a)) ∧ Below w.heap.size w w' := by
  unfold inP
  by_cases h : rt addr bits = true
  · rw [h, Bool.true_and]
    by_cases hl : addr ≤ a
    · rw [decide_eq_true hl, Bool.true_and]
      exact rhas_up addr bits a w a0 a1 b0 b1 h hl
    · rw [decide_eq_false hl, Bool.false_and]
      exact rhas_low addr bits a w a0 a1 h (by omega)
  · have h' : rt addr bits = false := by simpa using h
    rw [h', Bool.false_and, Bool.false_and]
    exact rhas_no addr bits a w a0 a1 h'
end Go.Proofs.YtndaohiecpdmlaaGreat
namespace Go.Proofs.YtndaohiecpdmlaaGreat
open Go.RowKit Go.Sort

/-! ### bits of numbers -/
theorem nat_clear (e a : Nat) (he : e ≤ 32) (ha : a < 4294967296) : a &&& (4294967295 - (2 ^ e - 1)) = a - a % 2 ^ e := by
  have hp : 0 < 2 ^ e := Nat.two_pow_pos e
  obtain ⟨k, hk⟩ := Nat.exists_eq_add_of_le he
  have hw : 4294967296 = 2 ^ e * 2 ^ k := by rw [← Nat.pow_add, ← hk]
  have e1 : 4294967295 - (2 ^ e - 1) = 2 ^ e * (2 ^ k - 1) := by
    rw [Nat.mul_sub, Nat.mul_one, ← hw]
    have : 2 ^ e ≤ 4294967296 := by rw [hw]; exact Nat.le_mul_of_pos_right _ (Nat.two_pow_pos k)
    omega
  have e2 : a - a % 2 ^ e = 2 ^ e * (a / 2 ^ e) := by
    have := Nat.div_add_mod a (2 ^ e)
    omega
  rw [e1, e2]
  refine Nat.eq_of_testBit_eq fun i => ?_
  rw [Nat.testBit_and, Nat.testBit_two_pow_mul, Nat.testBit_two_pow_mul, Nat.testBit_two_pow_sub_one, Nat.testBit_div_two_pow]
  by_cases h : e ≤ i
  · have h2 : i - e + e = i := by omega
    simp only [ge_iff_le, h, decide_true, Bool.true_and, h2]
    by_cases h3 : i - e < k
    · simp [h3]
    · have : a < 2 ^ i := Nat.lt_of_lt_of_le (show a < 2 ^ 32 by omega) (Nat.pow_le_pow_right (by decide) (by omega))
      simp [h3, Nat.testBit_lt_two_pow this]
  · simp [h]
theorem sz_nat (b : Int) (h0 : 0 ≤ b) (h : b ≤ 32) : ∃ e : Nat, e ≤ 32 ∧ sz b = ((2 ^ e : Nat) : Int) := ⟨32 - b.toNat, by omega, by unfold sz; exact (Int.natCast_pow 2 _).symm⟩
theorem p32 (e : Nat) (he : e ≤ 32) : 2 ^ e ≤ 4294967296 := by
  have := Nat.pow_le_pow_right (n := 2) (by decide) he
  exact this
theorem and_rest (b a : Int) (h0 : 0 ≤ b) (h : b ≤ 32) (a0 : 0 ≤ a) (a1 : a < 4294967296) : bits .and .u32 a (sz b - 1) = a % sz b := by
  obtain ⟨e, he, es⟩ := sz_nat b h0 h
  have hp := Nat.two_pow_pos e
  have hl := p32 e he
  obtain ⟨n, rfl⟩ := Int.eq_ofNat_of_zero_le a0
  rw [es, show ((2 ^ e : Nat) : Int) - 1 = ((2 ^ e - 1 : Nat) : Int) by omega, u32_and_nat n _ (by omega) (by omega), Nat.and_two_pow_sub_one_eq_mod]
  exact Int.natCast_emod n (2 ^ e)
theorem clear_rest (b a : Int) (h0 : 0 ≤ b) (h : b ≤ 32) (a0 : 0 ≤ a) (a1 : a < 4294967296) : bits .andNot .u32 a (sz b - 1) = a - a % sz b := by
  obtain ⟨e, he, es⟩ := sz_nat b h0 h
  have hp := Nat.two_pow_pos e
  have hl := p32 e he
  obtain ⟨n, rfl⟩ := Int.eq_ofNat_of_zero_le a0
  rw [es, show ((2 ^ e : Nat) : Int) - 1 = ((2 ^ e - 1 : Nat) : Int) by omega, u32_andNot_nat n _ (by omega) (by omega), nat_clear e n he (by omega)]
  have := Nat.mod_le n (2 ^ e)
  rw [Int.ofNat_sub this, Int.natCast_emod]
theorem or_rest (b a : Int) (h0 : 0 ≤ b) (h : b ≤ 32) (a0 : 0 ≤ a) (a1 : a < 4294967296) (hm : a % sz b = 0) : bits .or .u32 a (sz b - 1) = a + sz b - 1 := by
  obtain ⟨e, he, es⟩ := sz_nat b h0 h
  have hp := Nat.two_pow_pos e
  have hl := p32 e he
  obtain ⟨n, rfl⟩ := Int.eq_ofNat_of_zero_le a0
  rw [es] at hm
  have hm' : n % 2 ^ e = 0 := by
    have := Int.natCast_emod n (2 ^ e)
    omega
  rw [es, show ((2 ^ e : Nat) : Int) - 1 = ((2 ^ e - 1 : Nat) : Int) by omega, u32_or_nat n _ (by omega) (by omega), nat_join e n (2 ^ e - 1) hm' (by omega)]
  omega

/-! ### the program's own -/
set_option maxHeartbeats 4000000 in
theorem rest_ok (b : Int) (w : World) (h0 : 0 ≤ b) (h : b ≤ 32) :
    Calls Tryz.prog 73 #[.int .i64 b] w fun e w' => e = .returned (.int .u32 (sz b - 1)) ∧ w' = w := by
  rcases bits_cases b h0 h with rfl | rfl | rfl | rfl | rfl | rfl | rfl | rfl | rfl | rfl | rfl | rfl | rfl | rfl | rfl | rfl | rfl | rfl | rfl | rfl | rfl | rfl | rfl | rfl | rfl | rfl | rfl | rfl | rfl | rfl | rfl | rfl | rfl
  all_goals
    go_enter Tryz.func73, Tryz.ntmps73
    go_wp2
    go_ret
    exact ⟨rfl, rfl⟩
theorem rest_okB (b : Int) (w : World) (h0 : 0 ≤ b) (h : b ≤ 32) :
    Calls Tryz.prog 73 #[.int .i64 b] w fun e w' => e = .returned (.int .u32 (sz b - 1)) ∧ RowKit.Below w.heap.size w w' :=
  (rest_ok b w h0 h).mono fun _ _ ⟨h, k⟩ => ⟨h, k ▸ Below.refl _ _⟩
set_option maxHeartbeats 1000000 in
theorem check_no (addr bits : Int) (w : World) (h : bits < 0 ∨ 32 < bits) :
    Calls Tryz.prog 70 #[pv addr bits] w fun e w' => e = .returned (.bool false) ∧ Below w.heap.size w w' := by
  unfold pv
  rcases h with h | h
  · have h1 : decide (0 ≤ bits) = false := decide_eq_false (by omega)
    go_enter Tryz.func70, Tryz.ntmps70
    go_wp2
    go_quiet (fail)
    go_wp2
    go_ret
    exact ⟨rfl, ((Below.refl _ _).alloc (Nat.le_refl _) _).trans ⟨rfl, rfl, rfl, Nat.le_refl _, fun _ _ => rfl⟩⟩
  · have h1 : decide (0 ≤ bits) = true := decide_eq_true (by omega)
    have h2 : decide (bits ≤ 32) = false := decide_eq_false (by omega)
    go_enter Tryz.func70, Tryz.ntmps70
    go_wp2
    go_quiet (fail)
    go_wp2
    go_ret
    exact ⟨rfl, ((Below.refl _ _).alloc (Nat.le_refl _) _).trans ⟨rfl, rfl, rfl, Nat.le_refl _, fun _ _ => rfl⟩⟩
set_option maxHeartbeats 1000000 in
theorem check_in (addr bits : Int) (w : World) (h0 : 0 ≤ bits) (h : bits ≤ 32) (a0 : 0 ≤ addr) (a1 : addr < 4294967296) :
    Calls Tryz.prog 70 #[pv addr bits] w fun e w' => e = .returned (.bool (addr % sz bits == 0)) ∧ Below w.heap.size w w' := by
  have S : Hid (∀ w, _) := fun w => rest_ok bits w h0 h
  have m := and_rest bits addr h0 h a0 a1
  generalize sz bits - 1 = r at *
  generalize addr % sz bits = q at *
  have h1 : decide (0 ≤ bits) = true := decide_eq_true h0
  have h2 : decide (bits ≤ 32) = true := decide_eq_true h
  unfold pv
  go_enter Tryz.func70, Tryz.ntmps70
  go_wp2
  go_quiet ((go_at_call 73; exact Calls.quiet_of_same (S.out _)))
  go_wp2
  go_ret
  exact ⟨rfl, ((Below.refl _ _).alloc (Nat.le_refl _) _).trans ⟨rfl, rfl, rfl, Nat.le_refl _, fun _ _ => rfl⟩⟩
theorem check_ok (addr bits : Int) (w : World) (a0 : 0 ≤ addr) (a1 : addr < 4294967296) :
    Calls Tryz.prog 70 #[pv addr bits] w fun e w' => e = .returned (.bool (rt addr bits)) ∧ Below w.heap.size w w' := by
  by_cases h : 0 ≤ bits ∧ bits ≤ 32
  · have e : rt addr bits = (addr % sz bits == 0) := by
      unfold rt
      by_cases q : addr % sz bits = 0
      · rw [decide_eq_true ⟨h.1, h.2, q⟩]; simp [q]
      · rw [decide_eq_false (fun x => q x.2.2)]; simp [q]
    rw [e]
    exact check_in addr bits w h.1 h.2 a0 a1
  · have e : rt addr bits = false := decide_eq_false (fun x => h ⟨x.1, x.2.1⟩)
    rw [e]
    exact check_no addr bits w (by omega)
theorem mod_in (a z q : Int) (hz : 0 < z) (hq : q % z = 0) : a - a % z = q ↔ q ≤ a ∧ a < q + z := by
  have h0 := Int.emod_nonneg a (by omega : z ≠ 0)
  have h1 := Int.emod_lt_of_pos a hz
  refine ⟨fun h => by omega, fun ⟨k0, k1⟩ => ?_⟩
  have e : a % z = (a - q) % z := by
    obtain ⟨c, rfl⟩ := Int.dvd_of_emod_eq_zero hq
    rw [Int.sub_mul_emod_self_left]
  have e2 : (a - q) % z = a - q := Int.emod_eq_of_lt (by omega) (by omega)
  omega
set_option maxHeartbeats 2000000 in
theorem has_no (addr bits a : Int) (w : World) (a0 : 0 ≤ addr) (a1 : addr < 4294967296) (h : rt addr bits = false) :
    Calls Tryz.prog 75 #[pv addr bits, .int .u32 a] w fun e w' => e = .returned (.bool false) ∧ Below w.heap.size w w' := by
  have C : Hid (∀ w, Calls Tryz.prog 70 #[pv addr bits] w fun e w' => e = .returned (.bool false) ∧ Below w.heap.size w w') := fun w => by
    have := check_ok addr bits w a0 a1
    rwa [h] at this
  unfold pv at *
  have X := pbox_new w addr bits
  have k0 := cell_regrown X.c0; have k1 := cell_regrown X.c1
  clear X
  go_enter Tryz.func75, Tryz.ntmps75
  go_wp2
  refine wp_region_quiet_below (by kernel_rfl) (by kernel_rfl) ?_
  repeat (go_big_quiet_step (first | (go_at_call 70; exact Calls.regrown_of (C.out _))))
  refine wpQuiet_nil ?_
  intro _ hw'
  obtain ⟨⟨dq, osq⟩, hw''⟩ := hw'
  subst hw''
  go_wp2
  go_ret
  exact ⟨rfl, ((Below.refl _ _).alloc (Nat.le_refl _) _).trans ((below_regrown _ dq osq).mono (by simp))⟩
set_option maxHeartbeats 2000000 in
theorem has_up (addr bits a : Int) (w : World) (a0 : 0 ≤ addr) (a1 : addr < 4294967296) (b0 : 0 ≤ a) (b1 : a < 4294967296) (h : rt addr bits = true) :
    Calls Tryz.prog 75 #[pv addr bits, .int .u32 a] w fun e w' => e = .returned (.bool (a - a % sz bits == addr)) ∧ Below w.heap.size w w' := by
  have C : Hid (∀ w, Calls Tryz.prog 70 #[pv addr bits] w fun e w' => e = .returned (.bool true) ∧ Below w.heap.size w w') := fun w => by
    have := check_ok addr bits w a0 a1
    rwa [h] at this
  have hb := rt_bits h
  have S : Hid (∀ w, _) := fun w => rest_okB bits w hb.1 hb.2.1
  have m := clear_rest bits a hb.1 hb.2.1 b0 b1
  clear hb h
  generalize sz bits - 1 = r at *
  generalize a - a % sz bits = q at *
  unfold pv at *
  have X := pbox_new w addr bits
  have k0 := cell_regrown X.c0; have k1 := cell_regrown X.c1
  clear X
  go_enter Tryz.func75, Tryz.ntmps75
  go_wp2
  refine wp_region_quiet_below (by kernel_rfl) (by kernel_rfl) ?_
  repeat (go_big_quiet_step (first | (go_at_call 70; exact Calls.regrown_of (C.out _)) | (go_at_call 73; exact Calls.regrown_of (S.out _))))
  refine wpQuiet_nil ?_
  intro _ hw'
  obtain ⟨⟨dq, osq⟩, hw''⟩ := hw'
  subst hw''
  go_wp2
  go_ret
  exact ⟨rfl, ((Below.refl _ _).alloc (Nat.le_refl _) _).trans ((below_regrown _ dq osq).mono (by simp))⟩
theorem has_ok (addr bits a : Int) (w : World) (a0 : 0 ≤ addr) (a1 : addr < 4294967296) (b0 : 0 ≤ a) (b1 : a < 4294967296) :
    Calls Tryz.prog 75 #[pv addr bits, .int .u32 a] w fun e w' => e = .returned (.bool (inP addr bits a)) ∧ Below w.heap.size w w' := by
  by_cases h : rt addr bits = true
  · have e : inP addr bits a = (a - a % sz bits == addr) := by
      have k := mod_in a (sz bits) addr (sz_pos bits) (rt_bits h).2.2
      unfold inP
      rw [h, Bool.true_and]
      by_cases q : a - a % sz bits = addr
      · have k2 := k.1 q
        rw [decide_eq_true k2.1, decide_eq_true k2.2]
        simp [q]
      · have q2 : (a - a % sz bits == addr) = false := by simp [q]
        rw [q2]
        by_cases q3 : addr ≤ a
        · have q4 : ¬ a < addr + sz bits := fun x => q (k.2 ⟨q3, x⟩)
          rw [decide_eq_false q4, Bool.and_false]
        · rw [decide_eq_false q3, Bool.false_and]
    rw [e]
    exact has_up addr bits a w a0 a1 b0 b1 h
  · have h' : rt addr bits = false := by simpa using h
    have e : inP addr bits a = false := by unfold inP; rw [h', Bool.false_and, Bool.false_and]
    rw [e]
    exact has_no addr bits a w a0 a1 h'
set_option maxHeartbeats 2000000 in
theorem ends_no (addr bits : Int) (w : World) (a0 : 0 ≤ addr) (a1 : addr < 4294967296) (h : rt addr bits = false) :
    Calls Tryz.prog 61 #[pv addr bits] w fun e w' => e = .returned (.tuple #[.int .u32 0, .int .u32 0]) ∧ Below w.heap.size w w' := by
  have C : Hid (∀ w, Calls Tryz.prog 70 #[pv addr bits] w fun e w' => e = .returned (.bool false) ∧ Below w.heap.size w w') := fun w => by
    have := check_ok addr bits w a0 a1
    rwa [h] at this
  unfold pv at *
  go_enter Tryz.func61, Tryz.ntmps61
  go_wp2_with (go_at_call 70; refine (C.out _).mono ?_; rintro e w1 ⟨rfl, b1⟩)
  go_ret2
  exact ⟨rfl, ((Below.refl _ _).alloc (Nat.le_refl _) _).trans (b1.mono (by simp))⟩
set_option maxHeartbeats 2000000 in
theorem ends_ok (addr bits : Int) (w : World) (a0 : 0 ≤ addr) (a1 : addr < 4294967296) (h : rt addr bits = true) :
    Calls Tryz.prog 61 #[pv addr bits] w fun e w' => e = .returned (.tuple #[.int .u32 addr, .int .u32 (addr + sz bits - 1)]) ∧ Below w.heap.size w w' := by
  have C : Hid (∀ w, Calls Tryz.prog 70 #[pv addr bits] w fun e w' => e = .returned (.bool true) ∧ Below w.heap.size w w') := fun w => by
    have := check_ok addr bits w a0 a1
    rwa [h] at this
  have hb := rt_bits h
  have S : Hid (∀ w, _) := fun w => rest_ok bits w hb.1 hb.2.1
  have m := or_rest bits addr hb.1 hb.2.1 a0 a1 hb.2.2
  clear hb h
  generalize addr + sz bits - 1 = q at *
  generalize sz bits - 1 = r at *
  unfold pv at *
  have lt : ∀ o, w.heap.size < (w.alloc o).heap.size := fun o => by simp
  have X0 := pbox_new w addr bits
  go_enter Tryz.func61, Tryz.ntmps61
  go_wp2_with (go_at_call 70; refine (C.out _).mono ?_; rintro e w1 ⟨rfl, b1⟩; obtain ⟨l1, c0, c1⟩ := X0.keep (lt _) b1)
  go_quiet ((go_at_call 73; exact Calls.quiet_of_same (S.out _)))
  go_wp2
  go_ret2
  exact ⟨rfl, (((Below.refl _ _).alloc (Nat.le_refl _) _).trans (b1.mono (by simp))).trans ⟨rfl, rfl, rfl, Nat.le_refl _, fun _ _ => rfl⟩⟩
end Go.Proofs.YtndaohiecpdmlaaGreat
