/-
  What the program's own isRight and concerns answer of a rule. No condition but what the types allow.
-/
import Derived.Test.YtndaohiecpdmlaaPoRow
import Derived.Test.YtndaohiecpdmlaaPfOwn
namespace Go.Proofs.Ytndaohiecpdmlaa
set_option maxRecDepth 100000
open Go.RowKit Go.Sort

theorem check_r (r : Ru) (hb : RuB r) (w : World) : Calls Try.prog 65 #[.agg #[.int .u32 r.ad, .int .i64 r.bits]] w fun e w' => e = .returned (.bool (rt r.ad r.bits)) ∧ Below w.heap.size w w' := check_ok r.ad r.bits w hb.a0 hb.a1
theorem has_r (r : Ru) (hb : RuB r) (a : Int) (b0 : 0 ≤ a) (b1 : a < 4294967296) (w : World) : Calls Try.prog 66 #[.agg #[.int .u32 r.ad, .int .i64 r.bits], .int .u32 a] w fun e w' => e = .returned (.bool (inP r.ad r.bits a)) ∧ Below w.heap.size w w' := has_ok r.ad r.bits a w hb.a0 hb.a1 b0 b1
set_option maxHeartbeats 8000000 in
theorem isR_ok (r : Ru) (hb : RuB r) (w : World) : Calls Try.prog 58 #[ruV r] w fun e w' => e = .returned (.bool (ruR r)) ∧ Below w.heap.size w w' := by
  have C : Hid (∀ w, _) := fun w => check_r r hb w
  have X := RBox.new w r
  have lt : ∀ o, w.heap.size < (w.alloc o).heap.size := fun o => by simp
  unfold ruR ruV
  unfold ruO at X
  clear hb
  obtain ⟨al, pro, ad, bits, fr, up⟩ := r
  simp only at *
  obtain ⟨T, hT⟩ : ∃ T, T = rt ad bits := ⟨_, rfl⟩
  rw [← hT] at C ⊢
  clear hT
  obtain ⟨c1, e1⟩ : ∃ c, decide (0 ≤ pro) = c := ⟨_, rfl⟩
  obtain ⟨c2, e2⟩ : ∃ c, decide (pro ≤ 255) = c := ⟨_, rfl⟩
  obtain ⟨c4, e4⟩ : ∃ c, decide (0 ≤ fr) = c := ⟨_, rfl⟩
  obtain ⟨c5, e5⟩ : ∃ c, decide (fr ≤ up) = c := ⟨_, rfl⟩
  obtain ⟨c6, e6⟩ : ∃ c, decide (up ≤ 65535) = c := ⟨_, rfl⟩
  rw [e1, e2, e4, e5, e6]
  cases c1
  · go_enter Try.func58, Try.ntmps58
    obtain ⟨l1, k0, k1, k2, k3, k4, k5⟩ := X
    go_wp2
    go_ret
    exact ⟨rfl, (Below.refl _ _).alloc (Nat.le_refl _) _⟩
  · cases c2
    · go_enter Try.func58, Try.ntmps58
      obtain ⟨l1, k0, k1, k2, k3, k4, k5⟩ := X
      go_wp2
      go_ret
      exact ⟨rfl, (Below.refl _ _).alloc (Nat.le_refl _) _⟩
    · cases T
      · go_enter Try.func58, Try.ntmps58
        go_wp2_with (go_at_call 65; refine (C.out _).mono ?_; rintro e w1 ⟨rfl, b1⟩; obtain ⟨l1, k0, k1, k2, k3, k4, k5⟩ := X.keep (lt _) b1)
        go_ret
        exact ⟨rfl, ((Below.refl _ _).alloc (Nat.le_refl _) _).trans (b1.mono (by simp))⟩
      · cases c4
        · go_enter Try.func58, Try.ntmps58
          go_wp2_with (go_at_call 65; refine (C.out _).mono ?_; rintro e w1 ⟨rfl, b1⟩; obtain ⟨l1, k0, k1, k2, k3, k4, k5⟩ := X.keep (lt _) b1)
          go_ret
          exact ⟨rfl, ((Below.refl _ _).alloc (Nat.le_refl _) _).trans (b1.mono (by simp))⟩
        · cases c5
          · go_enter Try.func58, Try.ntmps58
            go_wp2_with (go_at_call 65; refine (C.out _).mono ?_; rintro e w1 ⟨rfl, b1⟩; obtain ⟨l1, k0, k1, k2, k3, k4, k5⟩ := X.keep (lt _) b1)
            go_ret
            exact ⟨rfl, ((Below.refl _ _).alloc (Nat.le_refl _) _).trans (b1.mono (by simp))⟩
          · cases c6
            · go_enter Try.func58, Try.ntmps58
              go_wp2_with (go_at_call 65; refine (C.out _).mono ?_; rintro e w1 ⟨rfl, b1⟩; obtain ⟨l1, k0, k1, k2, k3, k4, k5⟩ := X.keep (lt _) b1)
              go_ret
              exact ⟨rfl, ((Below.refl _ _).alloc (Nat.le_refl _) _).trans (b1.mono (by simp))⟩
            · go_enter Try.func58, Try.ntmps58
              go_wp2_with (go_at_call 65; refine (C.out _).mono ?_; rintro e w1 ⟨rfl, b1⟩; obtain ⟨l1, k0, k1, k2, k3, k4, k5⟩ := X.keep (lt _) b1)
              go_ret
              exact ⟨rfl, ((Below.refl _ _).alloc (Nat.le_refl _) _).trans (b1.mono (by simp))⟩
set_option maxHeartbeats 8000000 in
theorem con_ok (r : Ru) (hb : RuB r) (p a : Int) (b0 : 0 ≤ a) (b1 : a < 4294967296) (w : World) : Calls Try.prog 59 #[ruV r, .int .i64 p, .int .u32 a] w fun e w' => e = .returned (.bool (con r p a)) ∧ Below w.heap.size w w' := by
  have C : Hid (∀ w, _) := fun w => has_r r hb a b0 b1 w
  have X := RBox.new w r
  have lt : ∀ o, w.heap.size < (w.alloc o).heap.size := fun o => by simp
  unfold con ruV
  unfold ruO at X
  clear hb b0 b1
  obtain ⟨al, pro, ad, bits, fr, up⟩ := r
  simp only at *
  obtain ⟨T, hT⟩ : ∃ T, T = inP ad bits a := ⟨_, rfl⟩
  rw [← hT] at C ⊢
  clear hT
  obtain ⟨c1, e1⟩ : ∃ c, (pro == 0) = c := ⟨_, rfl⟩
  obtain ⟨c2, e2⟩ : ∃ c, (pro == p) = c := ⟨_, rfl⟩
  rw [e1, e2]
  cases c1
  · cases c2
    · go_enter Try.func59, Try.ntmps59
      obtain ⟨l1, k0, k1, k2, k3, k4, k5⟩ := X
      go_wp2
      go_ret
      exact ⟨rfl, (Below.refl _ _).alloc (Nat.le_refl _) _⟩
    · go_enter Try.func59, Try.ntmps59
      obtain ⟨l1, k0, k1, k2, k3, k4, k5⟩ := X
      go_wp2_with (go_at_call 66; refine (C.out _).mono ?_; rintro e w1 ⟨rfl, b1⟩)
      go_ret
      exact ⟨rfl, ((Below.refl _ _).alloc (Nat.le_refl _) _).trans (b1.mono (by simp))⟩
  · go_enter Try.func59, Try.ntmps59
    obtain ⟨l1, k0, k1, k2, k3, k4, k5⟩ := X
    go_wp2_with (go_at_call 66; refine (C.out _).mono ?_; rintro e w1 ⟨rfl, b1⟩)
    go_ret
    exact ⟨rfl, ((Below.refl _ _).alloc (Nat.le_refl _) _).trans (b1.mono (by simp))⟩
end Go.Proofs.Ytndaohiecpdmlaa
