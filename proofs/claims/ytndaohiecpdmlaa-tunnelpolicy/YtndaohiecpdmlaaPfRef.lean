/-
  What the document's own size, Check, Has and Ends answer. Addresses are uint32's, bits an int; no other condition.
-/
import Derived.Test.YtndaohiecpdmlaaPfMath
namespace Go.Proofs.Ytndaohiecpdmlaa
open Go.RowKit

set_option maxHeartbeats 4000000 in
theorem size_ok (b : Int) (w : World) (h0 : 0 ≤ b) (h : b ≤ 32) :
    Calls Try.prog 36 #[.int .i64 b] w fun e w' => e = .returned (.int .i64 (sz b)) ∧ w' = w := by
  rcases bits_cases b h0 h with rfl | rfl | rfl | rfl | rfl | rfl | rfl | rfl | rfl | rfl | rfl | rfl | rfl | rfl | rfl | rfl | rfl | rfl | rfl | rfl | rfl | rfl | rfl | rfl | rfl | rfl | rfl | rfl | rfl | rfl | rfl | rfl | rfl
  all_goals
    go_enter Try.func36, Try.ntmps36
    go_wp2
    go_ret
    exact ⟨rfl, rfl⟩
set_option maxHeartbeats 1000000 in
theorem rcheck_no (addr bits : Int) (w : World) (h : bits < 0 ∨ 32 < bits) :
    Calls Try.prog 34 #[pv addr bits] w fun e w' => e = .returned (.bool false) ∧ Below w.heap.size w w' := by
  unfold pv
  rcases h with h | h
  · have h1 : decide (0 ≤ bits) = false := decide_eq_false (by omega)
    go_enter Try.func34, Try.ntmps34
    go_wp2
    go_quiet (fail)
    go_wp2
    go_ret
    exact ⟨rfl, ((Below.refl _ _).alloc (Nat.le_refl _) _).trans ⟨rfl, rfl, rfl, Nat.le_refl _, fun _ _ => rfl⟩⟩
  · have h1 : decide (0 ≤ bits) = true := decide_eq_true (by omega)
    have h2 : decide (bits ≤ 32) = false := decide_eq_false (by omega)
    go_enter Try.func34, Try.ntmps34
    go_wp2
    go_quiet (fail)
    go_wp2
    go_ret
    exact ⟨rfl, ((Below.refl _ _).alloc (Nat.le_refl _) _).trans ⟨rfl, rfl, rfl, Nat.le_refl _, fun _ _ => rfl⟩⟩
set_option maxHeartbeats 1000000 in
theorem rcheck_in (addr bits : Int) (w : World) (h0 : 0 ≤ bits) (h : bits ≤ 32) (a0 : 0 ≤ addr) (a1 : addr < 4294967296) :
    Calls Try.prog 34 #[pv addr bits] w fun e w' => e = .returned (.bool (addr % sz bits == 0)) ∧ Below w.heap.size w w' := by
  have S : Hid (∀ w, _) := fun w => size_ok bits w h0 h
  have zp := sz_pos bits
  have zl := sz_le bits h0 h
  generalize sz bits = z at *
  have h1 : decide (0 ≤ bits) = true := decide_eq_true h0
  have h2 : decide (bits ≤ 32) = true := decide_eq_true h
  have wa : IntKind.i64.wrap addr = addr := by simp [IntKind.wrap, IntKind.bits, IntKind.signed]; omega
  have hm0 := Int.emod_nonneg addr (by omega : z ≠ 0)
  have hm1 := Int.emod_lt_of_pos addr zp
  have wm : IntKind.i64.wrap (addr.tmod z) = addr % z := by rw [Int.tmod_eq_emod_of_nonneg a0]; simp [IntKind.wrap, IntKind.bits, IntKind.signed]; omega
  have zn : ¬ z = 0 := by omega
  unfold pv
  go_enter Try.func34, Try.ntmps34
  go_wp2
  go_quiet ((go_at_call 36; exact Calls.quiet_of_same (S.out _)))
  go_wp2
  go_ret
  exact ⟨rfl, ((Below.refl _ _).alloc (Nat.le_refl _) _).trans ⟨rfl, rfl, rfl, Nat.le_refl _, fun _ _ => rfl⟩⟩
theorem rcheck_ok (addr bits : Int) (w : World) (a0 : 0 ≤ addr) (a1 : addr < 4294967296) :
    Calls Try.prog 34 #[pv addr bits] w fun e w' => e = .returned (.bool (rt addr bits)) ∧ Below w.heap.size w w' := by
  by_cases h : 0 ≤ bits ∧ bits ≤ 32
  · have e : rt addr bits = (addr % sz bits == 0) := by
      unfold rt
      by_cases q : addr % sz bits = 0
      · rw [decide_eq_true ⟨h.1, h.2, q⟩]; simp [q]
      · rw [decide_eq_false (fun x => q x.2.2)]; simp [q]
    rw [e]
    exact rcheck_in addr bits w h.1 h.2 a0 a1
  · have e : rt addr bits = false := decide_eq_false (fun x => h ⟨x.1, x.2.1⟩)
    rw [e]
    exact rcheck_no addr bits w (by omega)
end Go.Proofs.Ytndaohiecpdmlaa
