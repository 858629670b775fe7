/-
  The laws' own first look at the program returns true; and a datagram that is handed in, as the program holds it. No condition.
-/
import Derived.Test.YtaloccmfpehhcabUdpParse
namespace Go.Proofs.Ytaloccmfpehhcab
open Go.RowKit

def lit10 : ByteArray := ⟨#[0, 1, 0, 2, 0, 10, 138, 114, 97, 98]⟩
theorem works_gram : gram 167772161 167772162 1 2 ⟨#[97, 98]⟩ = lit10 := by kernel_rfl
theorem works_uerr : uerr 167772161 167772163 lit10 = 9 := by kernel_rfl
theorem works_list : lit10.toList = [0, 1, 0, 2, 0, 10, 138, 114, 97, 98] := by kernel_rfl
set_option maxHeartbeats 2000000 in
theorem works_ok (w : World) : Calls Try.prog 4 #[] w fun e w' => e = .returned (.bool true) ∧ Below w.heap.size w w' := by
  have B : Hid (∀ w, Calls Try.prog 6 #[.int .u32 167772161, .int .u32 167772162, .int .i64 1, .int .i64 2, .string ⟨#[97, 98]⟩] w fun e w' => e = .returned (.tuple #[.string lit10, .int .i64 0]) ∧ Below w.heap.size w w') := fun w => by
    have := ub_ok 167772161 167772162 1 2 ⟨#[97, 98]⟩ w (by decide) (by decide) (by decide) (by decide) (by decide) (by decide) (by decide)
    rwa [works_gram] at this
  have P : Hid (∀ w, Calls Try.prog 7 #[.int .u32 167772161, .int .u32 167772163, .string lit10] w fun e w' => e = .returned (uno 9) ∧ Below w.heap.size w w') := fun w => by
    have := up_ok 167772161 167772163 lit10 w (by decide) (by decide) (by decide) (by decide) (by decide)
    unfold uval at this
    rwa [works_uerr, if_neg (by decide)] at this
  have hz : lit10.size = 10 := rfl
  have he : lit10.toList = [0, 1, 0, 2, 0, 10, 138, 114, 97, 98] := works_list
  generalize lit10 = L at *
  unfold uno at P
  go_enter Try.func4, Try.ntmps4
  go_wp2_with (first
    | (go_at_call 6; refine (B.out _).mono ?_; rintro e w1 ⟨rfl, b1⟩; replace b1 : Hid _ := b1)
    | (go_at_call 7; refine (P.out _).mono ?_; rintro e w2 ⟨rfl, b2⟩; replace b2 : Hid _ := b2))
  go_ret
  exact ⟨rfl, b1.out.trans (b2.out.mono b1.out.size)⟩
end Go.Proofs.Ytaloccmfpehhcab
