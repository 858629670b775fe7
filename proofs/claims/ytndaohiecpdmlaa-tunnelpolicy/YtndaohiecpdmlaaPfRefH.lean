/-
  What the document's own Has and Ends answer. Addresses are uint32's, bits an int; no other condition.
-/
import Derived.Test.YtndaohiecpdmlaaPfRef
import Derived.Lib.QuietBelow
namespace Go.Proofs.Ytndaohiecpdmlaa
open Go.RowKit Go.Sort

theorem size_okB (b : Int) (w : World) (h0 : 0 ≤ b) (h : b ≤ 32) :
    Calls Try.prog 36 #[.int .i64 b] w fun e w' => e = .returned (.int .i64 (sz b)) ∧ RowKit.Below w.heap.size w w' :=
  (size_ok b w h0 h).mono fun _ _ ⟨h, k⟩ => ⟨h, k ▸ Below.refl _ _⟩
set_option maxHeartbeats 2000000 in
theorem rhas_no (addr bits a : Int) (w : World) (a0 : 0 ≤ addr) (a1 : addr < 4294967296) (h : rt addr bits = false) :
    Calls Try.prog 25 #[pv addr bits, .int .u32 a] w fun e w' => e = .returned (.bool false) ∧ Below w.heap.size w w' := by
  have C : Hid (∀ w, Calls Try.prog 34 #[pv addr bits] w fun e w' => e = .returned (.bool false) ∧ Below w.heap.size w w') := fun w => by
    have := rcheck_ok addr bits w a0 a1
    rwa [h] at this
  unfold pv at *
  have X := pbox_new w addr bits
  have k0 := cell_regrown X.c0; have k1 := cell_regrown X.c1
  clear X
  go_enter Try.func25, Try.ntmps25
  go_wp2
  refine wp_region_quiet_below (by kernel_rfl) (by kernel_rfl) ?_
  repeat (go_big_quiet_step (first | (go_at_call 34; exact Calls.regrown_of (C.out _))))
  refine wpQuiet_nil ?_
  intro _ hw'
  obtain ⟨⟨dq, osq⟩, hw''⟩ := hw'
  subst hw''
  go_wp2
  go_ret
  exact ⟨rfl, ((Below.refl _ _).alloc (Nat.le_refl _) _).trans ((below_regrown _ dq osq).mono (by simp))⟩
set_option maxHeartbeats 2000000 in
theorem rhas_low (addr bits a : Int) (w : World) (a0 : 0 ≤ addr) (a1 : addr < 4294967296) (h : rt addr bits = true) (hl : a < addr) :
    Calls Try.prog 25 #[pv addr bits, .int .u32 a] w fun e w' => e = .returned (.bool false) ∧ Below w.heap.size w w' := by
  have C : Hid (∀ w, Calls Try.prog 34 #[pv addr bits] w fun e w' => e = .returned (.bool true) ∧ Below w.heap.size w w') := fun w => by
    have := rcheck_ok addr bits w a0 a1
    rwa [h] at this
  have f1 : decide (addr ≤ a) = false := decide_eq_false (by omega)
  unfold pv at *
  have X := pbox_new w addr bits
  have k0 := cell_regrown X.c0; have k1 := cell_regrown X.c1
  clear X
  go_enter Try.func25, Try.ntmps25
  go_wp2
  refine wp_region_quiet_below (by kernel_rfl) (by kernel_rfl) ?_
  repeat (go_big_quiet_step (first | (go_at_call 34; exact Calls.regrown_of (C.out _))))
  refine wpQuiet_nil ?_
  intro _ hw'
  obtain ⟨⟨dq, osq⟩, hw''⟩ := hw'
  subst hw''
  go_wp2
  go_ret
  exact ⟨rfl, ((Below.refl _ _).alloc (Nat.le_refl _) _).trans ((below_regrown _ dq osq).mono (by simp))⟩
set_option maxHeartbeats 2000000 in
theorem rhas_up (addr bits a : Int) (w : World) (a0 : 0 ≤ addr) (a1 : addr < 4294967296) (b0 : 0 ≤ a) (b1 : a < 4294967296) (h : rt addr bits = true) (hl : addr ≤ a) :
    Calls Try.prog 25 #[pv addr bits, .int .u32 a] w fun e w' => e = .returned (.bool (decide (a < addr + sz bits))) ∧ Below w.heap.size w w' := by
  have C : Hid (∀ w, Calls Try.prog 34 #[pv addr bits] w fun e w' => e = .returned (.bool true) ∧ Below w.heap.size w w') := fun w => by
    have := rcheck_ok addr bits w a0 a1
    rwa [h] at this
  have hb := rt_bits h
  have S : Hid (∀ w, _) := fun w => size_okB bits w hb.1 hb.2.1
  have zp := sz_pos bits
  have zl := sz_le bits hb.1 hb.2.1
  clear hb h
  generalize sz bits = z at *
  have f1 : decide (addr ≤ a) = true := decide_eq_true hl
  have wa : IntKind.i64.wrap addr = addr := by simp [IntKind.wrap, IntKind.bits, IntKind.signed]; omega
  have wb : IntKind.i64.wrap a = a := by simp [IntKind.wrap, IntKind.bits, IntKind.signed]; omega
  have wz : IntKind.i64.wrap (addr + z) = addr + z := by simp [IntKind.wrap, IntKind.bits, IntKind.signed]; omega
  unfold pv at *
  have X := pbox_new w addr bits
  have k0 := cell_regrown X.c0; have k1 := cell_regrown X.c1
  clear X
  go_enter Try.func25, Try.ntmps25
  go_wp2
  refine wp_region_quiet_below (by kernel_rfl) (by kernel_rfl) ?_
  repeat (go_big_quiet_step (first | (go_at_call 34; exact Calls.regrown_of (C.out _)) | (go_at_call 36; exact Calls.regrown_of (S.out _))))
  refine wpQuiet_nil ?_
  intro _ hw'
  obtain ⟨⟨dq, osq⟩, hw''⟩ := hw'
  subst hw''
  go_wp2
  go_ret
  exact ⟨rfl, ((Below.refl _ _).alloc (Nat.le_refl _) _).trans ((below_regrown _ dq osq).mono (by simp))⟩
theorem rhas_ok (addr bits a : Int) (w : World) (a0 : 0 ≤ addr) (a1 : addr < 4294967296) (b0 : 0 ≤ a) (b1 : a < 4294967296) :
    Calls Try.prog 25 #[pv addr bits, .int .u32 a] w fun e w' => e = .returned (.bool (inP addr bits a)) ∧ Below w.heap.size w w' := by
  unfold inP
  by_cases h : rt addr bits = true
  · rw [h, Bool.true_and]
    by_cases hl : addr ≤ a
    · rw [decide_eq_true hl, Bool.true_and]
      exact rhas_up addr bits a w a0 a1 b0 b1 h hl
    · rw [decide_eq_false hl, Bool.false_and]
      exact rhas_low addr bits a w a0 a1 h (by omega)
  · have h' : rt addr bits = false := by simpa using h
    rw [h', Bool.false_and, Bool.false_and]
    exact rhas_no addr bits a w a0 a1 h'
end Go.Proofs.Ytndaohiecpdmlaa
