/-
  The laws' own first look at the program returns true. No condition.
-/
import Derived.Test.YthegfidmkenkeaaIpBytes
import Derived.Test.YthegfidmkenkeaaIpBuildB
namespace Go.Proofs.Ythegfidmkenkeaa
open Go.RowKit

def lit22 : ByteArray := ⟨#[69, 0, 0, 22, 0, 0, 0, 0, 64, 17, 102, 213, 10, 0, 0, 1, 10, 0, 0, 2, 97, 98]⟩
theorem works_pkt : pkt 0 0 0 64 17 167772161 167772162 ⟨#[97, 98]⟩ = lit22 := by kernel_rfl
theorem works_err : errOf (lit22 ++ ⟨#[120]⟩) = 6 := by kernel_rfl
theorem works_sum : ck ⟨#[0, 1, 242, 3, 244, 245, 246, 247]⟩ = 8717 := by kernel_rfl
theorem works_list : lit22.toList = [69, 0, 0, 22, 0, 0, 0, 0, 64, 17, 102, 213, 10, 0, 0, 1, 10, 0, 0, 2, 97, 98] := by kernel_rfl
set_option maxHeartbeats 2000000 in
theorem works_ok (w : World) : Calls Try.prog 17 #[] w fun e w' => e = .returned (.bool true) ∧ Below w.heap.size w w' := by
  have B : Hid (∀ w, Calls Try.prog 9 #[hv 0 0 0 64 17 167772161 167772162 ⟨#[97, 98]⟩] w fun e w' => e = .returned (.tuple #[.string lit22, .int .i64 0]) ∧ Below w.heap.size w w') := fun w => by
    have := build_ok 0 0 0 64 17 167772161 167772162 ⟨#[97, 98]⟩ w (by unfold HOK; omega) (by decide) (by omega) (by omega) (by omega) (by omega)
    rwa [works_pkt] at this
  have P : Hid (∀ w, Calls Try.prog 13 #[.string (lit22 ++ ⟨#[120]⟩)] w fun e w' => e = .returned (.tuple #[none', .int .i64 6]) ∧ Below w.heap.size w w') := fun w => by
    have := parse_ok (lit22 ++ ⟨#[120]⟩) w (by decide)
    unfold valOf at this
    rwa [works_err, if_neg (by omega)] at this
  have S : Hid (∀ w, Calls Try.prog 11 #[.string ⟨#[0, 1, 242, 3, 244, 245, 246, 247]⟩] w fun e w' => e = .returned (.int .i64 8717) ∧ w = w') := fun w => by
    have := sum_ok ⟨#[0, 1, 242, 3, 244, 245, 246, 247]⟩ w (by decide)
    rwa [works_sum] at this
  have hz : lit22.size = 22 := rfl
  have hz1 : (ByteArray.mk #[120]).size = 1 := rfl
  have he : lit22.toList = [69, 0, 0, 22, 0, 0, 0, 0, 64, 17, 102, 213, 10, 0, 0, 1, 10, 0, 0, 2, 97, 98] := works_list
  generalize lit22 = L at *
  unfold hv none' hv at *
  go_enter Try.func17, Try.ntmps17
  go_wp2_with (first
    | (go_at_call 9; refine (B.out _).mono ?_; rintro e w1 ⟨rfl, b1⟩; replace b1 : Hid _ := b1)
    | (go_at_call 13; refine (P.out _).mono ?_; rintro e w2 ⟨rfl, b2⟩; replace b2 : Hid _ := b2)
    | (go_at_call 11; refine (S.out _).mono ?_; rintro e w' ⟨rfl, rfl⟩))
  go_ret
  exact ⟨rfl, (b1.out.trans (b2.out.mono b1.out.size)).alloc (Nat.le_trans b1.out.size b2.out.size) _⟩
end Go.Proofs.Ythegfidmkenkeaa
