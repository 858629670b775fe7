/-
  What the program's Build answers, at every port and every data. Addresses are uint32's; no other condition.
-/
import Derived.Test.YtaloccmfpehhcabUdpSum
namespace Go.Proofs.Ytaloccmfpehhcab
open Go.RowKit

/-- A datagram's bytes. -/
def gram (src dst fr to : Int) (data : ByteArray) : ByteArray := strOfNums (ws [fr, to, 8 + data.size, cks src dst fr to data]) ++ data
theorem gram_size (src dst fr to : Int) (data : ByteArray) : (gram src dst fr to data).size = 8 + data.size := by
  unfold gram
  rw [ByteArray.size_append, strOfNums_size]
  rfl
set_option maxHeartbeats 2000000 in
theorem ub_ok (src dst fr to : Int) (data : ByteArray) (w : World) (s0 : 0 ≤ src) (s1 : src < 4294967296) (d0 : 0 ≤ dst) (d1 : dst < 4294967296) (hf : 0 ≤ fr ∧ fr ≤ 65535) (ht : 0 ≤ to ∧ to ≤ 65535) (hz : data.size ≤ 65507) :
    Calls Try.prog 6 #[.int .u32 src, .int .u32 dst, .int .i64 fr, .int .i64 to, .string data] w fun e w' => e = .returned (.tuple #[.string (gram src dst fr to data), .int .i64 0]) ∧ Below w.heap.size w w' := by
  have P1 : Hid (∀ w, Calls Try.prog 9 #[.int .i64 fr] w fun e w' => e = .returned (.bool true) ∧ w = w') := fun w => by
    have := isPort_ok fr w
    rwa [decide_eq_true hf] at this
  have P2 : Hid (∀ w, Calls Try.prog 9 #[.int .i64 to] w fun e w' => e = .returned (.bool true) ∧ w = w') := fun w => by
    have := isPort_ok to w
    rwa [decide_eq_true ht] at this
  have S : Hid (∀ w, _) := fun w => checkSum_ok src dst fr to data w s0 s1 d0 d1 (by omega)
  have w20 : IntKind.i64.wrap (8 + (data.size : Int)) = 8 + data.size := by simp [IntKind.wrap, IntKind.bits, IntKind.signed]; omega
  have hz' : ¬ (data.size : Int) > 65507 := by omega
  have zs : (strOfNums (ws [fr, to, 8 + data.size, cks src dst fr to data])).size = 8 := strOfNums_size _
  have C : Hid (∀ (w : World) t, Calls Try.prog 11 #[.slice (some ⟨w.heap.size, 0, none⟩) 4 4] (w.alloc (.cells #[.int .i64 fr, .int .i64 to, .int .i64 (8 + data.size), .int .i64 (cks src dst fr to data)] t)) fun e w' => e = .returned (.string (strOfNums (ws [fr, to, 8 + data.size, cks src dst fr to data]))) ∧ Below (w.alloc (.cells #[.int .i64 fr, .int .i64 to, .int .i64 (8 + data.size), .int .i64 (cks src dst fr to data)] t)).heap.size (w.alloc (.cells #[.int .i64 fr, .int .i64 to, .int .i64 (8 + data.size), .int .i64 (cks src dst fr to data)] t)) w') := fun w t => cut4 [fr, to, 8 + data.size, cks src dst fr to data] rfl _ _ (nums4 w _ _ _ _ t)
  unfold gram
  generalize strOfNums (ws [fr, to, 8 + data.size, cks src dst fr to data]) = T at *
  generalize cks src dst fr to data = c at *
  go_enter Try.func6, Try.ntmps6
  go_wp2_with (first
    | (go_at_call_of 9 fr; refine (P1.out _).mono ?_; rintro e w' ⟨rfl, rfl⟩)
    | (go_at_call_of 9 to; refine (P2.out _).mono ?_; rintro e w' ⟨rfl, rfl⟩)
    | (go_at_call 10; refine (S.out _).mono ?_; rintro e w1 ⟨rfl, b1⟩; replace b1 : Hid _ := b1)
    | (go_at_call 11; refine (C.out _ _).mono ?_; rintro e w2 ⟨rfl, b2⟩; replace b2 : Hid _ := b2))
  go_ret2
  exact ⟨rfl, (b1.out.alloc b1.out.size _).trans (b2.out.mono (Nat.le_trans b1.out.size (by simp)))⟩
set_option maxHeartbeats 1000000 in
theorem ub_long (src dst fr to : Int) (data : ByteArray) (w : World) (hf : 0 ≤ fr ∧ fr ≤ 65535) (ht : 0 ≤ to ∧ to ≤ 65535) (hz : 65507 < data.size) :
    Calls Try.prog 6 #[.int .u32 src, .int .u32 dst, .int .i64 fr, .int .i64 to, .string data] w fun e w' => e = .returned (.tuple #[.string ⟨#[]⟩, .int .i64 8]) ∧ Below w.heap.size w w' := by
  have P1 : Hid (∀ w, Calls Try.prog 9 #[.int .i64 fr] w fun e w' => e = .returned (.bool true) ∧ w = w') := fun w => by
    have := isPort_ok fr w
    rwa [decide_eq_true hf] at this
  have P2 : Hid (∀ w, Calls Try.prog 9 #[.int .i64 to] w fun e w' => e = .returned (.bool true) ∧ w = w') := fun w => by
    have := isPort_ok to w
    rwa [decide_eq_true ht] at this
  have hz' : (data.size : Int) > 65507 := by omega
  go_enter Try.func6, Try.ntmps6
  go_wp2_with (first
    | (go_at_call_of 9 fr; refine (P1.out _).mono ?_; rintro e w' ⟨rfl, rfl⟩)
    | (go_at_call_of 9 to; refine (P2.out _).mono ?_; rintro e w' ⟨rfl, rfl⟩))
  go_ret2
  exact ⟨rfl, Below.refl _ _⟩
set_option maxHeartbeats 1000000 in
theorem ub_range (src dst fr to : Int) (data : ByteArray) (w : World) (h : ¬ ((0 ≤ fr ∧ fr ≤ 65535) ∧ (0 ≤ to ∧ to ≤ 65535))) :
    Calls Try.prog 6 #[.int .u32 src, .int .u32 dst, .int .i64 fr, .int .i64 to, .string data] w fun e w' => e = .returned (.tuple #[.string ⟨#[]⟩, .int .i64 2]) ∧ Below w.heap.size w w' := by
  by_cases hf : 0 ≤ fr ∧ fr ≤ 65535
  · have ht : ¬ (0 ≤ to ∧ to ≤ 65535) := fun x => h ⟨hf, x⟩
    have P1 : Hid (∀ w, Calls Try.prog 9 #[.int .i64 fr] w fun e w' => e = .returned (.bool true) ∧ w = w') := fun w => by
      have := isPort_ok fr w
      rwa [decide_eq_true hf] at this
    have P2 : Hid (∀ w, Calls Try.prog 9 #[.int .i64 to] w fun e w' => e = .returned (.bool false) ∧ w = w') := fun w => by
      have := isPort_ok to w
      rwa [decide_eq_false ht] at this
    go_enter Try.func6, Try.ntmps6
    go_wp2_with (first
      | (go_at_call_of 9 fr; refine (P1.out _).mono ?_; rintro e w' ⟨rfl, rfl⟩)
      | (go_at_call_of 9 to; refine (P2.out _).mono ?_; rintro e w' ⟨rfl, rfl⟩))
    go_ret2
    exact ⟨rfl, Below.refl _ _⟩
  · have P1 : Hid (∀ w, Calls Try.prog 9 #[.int .i64 fr] w fun e w' => e = .returned (.bool false) ∧ w = w') := fun w => by
      have := isPort_ok fr w
      rwa [decide_eq_false hf] at this
    go_enter Try.func6, Try.ntmps6
    go_wp2_with (go_at_call_of 9 fr; refine (P1.out _).mono ?_; rintro e w' ⟨rfl, rfl⟩)
    go_ret2
    exact ⟨rfl, Below.refl _ _⟩
end Go.Proofs.Ytaloccmfpehhcab
