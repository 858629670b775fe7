/-
  What slices.xorshift.Next and nextPowerOfTwo answer: some number of 64 bits, kept in its cell; the power of two. No condition but the sizes.
-/
import Derived.Test.YtndaohiecpdmlaaGreatSoRev
import Derived.Test.YtndaohiecpdmlaaGreatShelf
import Derived.Sort.Walk7a
import Derived.Laws.BitsAllLaws
namespace Go.Proofs.YtndaohiecpdmlaaGreat
set_option maxRecDepth 100000
open Go.RowKit Go.Sort

theorem xor_in {x y : Int} (hx : 0 ≤ x ∧ x < 18446744073709551616) (hy : 0 ≤ y ∧ y < 18446744073709551616) : ∃ z : Nat, bits .xor .u64 x y = (z : Int) ∧ z < 18446744073709551616 := by
  obtain ⟨a, rfl⟩ := Int.eq_ofNat_of_zero_le hx.1
  obtain ⟨b, rfl⟩ := Int.eq_ofNat_of_zero_le hy.1
  exact ⟨a ^^^ b, u64_xor_nat a b (by omega) (by omega), Nat.xor_lt_two_pow (n := 64) (by omega) (by omega)⟩
/-- A number of 64 bits in a block of its own. -/
def Rnd (w : World) (rb : Nat) : Prop := ∃ X : Nat, X < 18446744073709551616 ∧ Lies w rb [.int .u64 (X : Int)]
theorem next_ok (rb : Nat) (w : World) (h : Rnd w rb) :
    Calls Tryz.prog 100 #[.pointer (some ⟨rb, 0, none⟩)] w fun e w' => ∃ Y : Nat, e = .returned (.int .u64 (Y : Int)) ∧ Y < 18446744073709551616 ∧ Rnd w' rb ∧ Kept (· = rb) w w' := by
  obtain ⟨X, hX, L⟩ := h
  have hc := L.cell 0 (v := .int .u64 (X : Int)) rfl
  have hf := L.free 0 (by simp)
  obtain ⟨A, e1, lA⟩ := xor_in (x := (X : Int)) (y := IntKind.u64.wrap ((X : Int) * 8192)) (by omega) (by rw [IntKind.wrap_u64]; omega)
  obtain ⟨B, e2, lB⟩ := xor_in (x := (A : Int)) (y := (A : Int) / 128) (by omega) (by omega)
  obtain ⟨C, e3, lC⟩ := xor_in (x := (B : Int)) (y := IntKind.u64.wrap ((B : Int) * 131072)) (by omega) (by rw [IntKind.wrap_u64]; omega)
  have hss : ∀ v v', (w.setCell ⟨rb, 0, none⟩ v).setCell ⟨rb, 0, none⟩ v' = w.setCell ⟨rb, 0, none⟩ v' := setCell_setCell w rb 0
  replace L := Lib.hid L
  go_enter Tryz.func100, Tryz.ntmps100
  go_wp2
  go_region
  all_goals go_wp2
  all_goals go_region
  all_goals go_wp2
  all_goals go_region
  all_goals go_wp2
  go_ret
  exact ⟨C, rfl, lC, ⟨C, lC, (L.out.put 0 (by simp) _).of_block rfl⟩, ((Kept.refl (· = rb) w).set ⟨rb, 0, none⟩ rfl (.int .u64 (C : Int))).add ⟨rfl, rfl, rfl, Nat.le_refl _, fun _ _ => rfl⟩⟩
theorem pow_ok (n : Nat) (hn : n < 4611686018427387904) (w : World) :
    Calls Tryz.prog 99 #[.int .i64 n] w fun e w' => e = .returned (.int .u64 ((1 <<< bitsLen n : Nat) : Int)) ∧ w' = w := by
  have hLen : Hid (∀ w, Calls Tryz.prog 72 #[.int .u64 (n : Int)] w fun e w' => e = .returned (.int .i64 (bitsLen n : Nat)) ∧ w' = w) := fun w => by
    have h := Tryz.bits_Len (n : Int) w (by omega) (by omega)
    rwa [Int.toNat_natCast, bitLen_eq _ (by omega)] at h
  have hk : bitsLen n ≤ 62 := (bitsLen_le_iff n 62).2 (by omega)
  have hp := wrap_two_pow (bitsLen n) hk
  go_enter Tryz.func99, Tryz.ntmps99
  go_wp2_with (go_at_call 72; refine (hLen.out _).mono ?_; rintro e w' ⟨rfl, rfl⟩)
  go_ret
  exact ⟨rfl, rfl⟩
end Go.Proofs.YtndaohiecpdmlaaGreat
