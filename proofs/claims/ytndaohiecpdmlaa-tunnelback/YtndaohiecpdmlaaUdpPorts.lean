/-
  What the program's Ports answers, for every header. No condition.
-/
import Derived.Test.YtndaohiecpdmlaaUdpTwo
import Derived.OwnWalk
namespace Go.Proofs.Ytndaohiecpdmlaa
open Go.RowKit

set_option maxHeartbeats 1000000 in
theorem ports_X (tos id frag ttl proto src dst : Int) (data : ByteArray) (w : World) (p17 : (proto != 17) = true) (p6 : (proto != 6) = true) :
    Calls Try.prog 43 #[hv tos id frag ttl proto src dst data] w fun e w' => e = .returned (.tuple #[.int .i64 0, .int .i64 0, .bool false]) ∧ Below w.heap.size w w' := by
  unfold hv
  go_enter Try.func43, Try.ntmps43
  go_wp2
  go_ret3
  exact ⟨rfl, (Below.refl _ _).alloc (Nat.le_refl _) _⟩
set_option maxHeartbeats 1000000 in
theorem ports_F17 (tos id frag ttl src dst : Int) (data : ByteArray) (w : World) (hc : (bits .and .i64 frag 8191 != 0) = true) :
    Calls Try.prog 43 #[hv tos id frag ttl 17 src dst data] w fun e w' => e = .returned (.tuple #[.int .i64 0, .int .i64 0, .bool false]) ∧ Below w.heap.size w w' := by
  unfold hv
  go_enter Try.func43, Try.ntmps43
  go_wp2
  go_ret3
  exact ⟨rfl, (Below.refl _ _).alloc (Nat.le_refl _) _⟩
set_option maxHeartbeats 1000000 in
theorem ports_S17 (tos id frag ttl src dst : Int) (data : ByteArray) (w : World) (hc : (bits .and .i64 frag 8191 != 0) = false) (hd : data.size < 4) :
    Calls Try.prog 43 #[hv tos id frag ttl 17 src dst data] w fun e w' => e = .returned (.tuple #[.int .i64 0, .int .i64 0, .bool false]) ∧ Below w.heap.size w w' := by
  have hd' : (data.size : Int) < 4 := by omega
  unfold hv
  go_enter Try.func43, Try.ntmps43
  go_wp2
  go_ret3
  exact ⟨rfl, (Below.refl _ _).alloc (Nat.le_refl _) _⟩
set_option maxHeartbeats 1000000 in
theorem ports_O17 (tos id frag ttl src dst : Int) (data : ByteArray) (w : World) (hc : (bits .and .i64 frag 8191 != 0) = false) (hd : 4 ≤ data.size) :
    Calls Try.prog 43 #[hv tos id frag ttl 17 src dst data] w fun e w' => e = .returned (.tuple #[.int .i64 (w2 data 0), .int .i64 (w2 data 2), .bool true]) ∧ Below w.heap.size w w' := by
  have hd' : ¬ (data.size : Int) < 4 := by omega
  have T0 : Hid (∀ w, _) := fun w => two_ok data 0 w (by omega) (by decide)
  have T2 : Hid (∀ w, _) := fun w => two_ok data 2 w (by omega) (by decide)
  generalize w2 data 0 = x0 at *
  generalize w2 data 2 = x2 at *
  unfold hv
  go_enter Try.func43, Try.ntmps43
  go_wp2
  go_quiet (first
    | (go_at_call_of 52 (0 : Int); exact Calls.quiet_of (T0.out _))
    | (go_at_call_of 52 (2 : Int); exact Calls.quiet_of (T2.out _)))
  go_wp2
  go_ret3
  exact ⟨rfl, ((Below.refl _ _).alloc (Nat.le_refl _) _).trans ⟨rfl, rfl, rfl, Nat.le_refl _, fun _ _ => rfl⟩⟩
set_option maxHeartbeats 1000000 in
theorem ports_F6 (tos id frag ttl src dst : Int) (data : ByteArray) (w : World) (hc : (bits .and .i64 frag 8191 != 0) = true) :
    Calls Try.prog 43 #[hv tos id frag ttl 6 src dst data] w fun e w' => e = .returned (.tuple #[.int .i64 0, .int .i64 0, .bool false]) ∧ Below w.heap.size w w' := by
  unfold hv
  go_enter Try.func43, Try.ntmps43
  go_wp2
  go_ret3
  exact ⟨rfl, (Below.refl _ _).alloc (Nat.le_refl _) _⟩
set_option maxHeartbeats 1000000 in
theorem ports_S6 (tos id frag ttl src dst : Int) (data : ByteArray) (w : World) (hc : (bits .and .i64 frag 8191 != 0) = false) (hd : data.size < 4) :
    Calls Try.prog 43 #[hv tos id frag ttl 6 src dst data] w fun e w' => e = .returned (.tuple #[.int .i64 0, .int .i64 0, .bool false]) ∧ Below w.heap.size w w' := by
  have hd' : (data.size : Int) < 4 := by omega
  unfold hv
  go_enter Try.func43, Try.ntmps43
  go_wp2
  go_ret3
  exact ⟨rfl, (Below.refl _ _).alloc (Nat.le_refl _) _⟩
set_option maxHeartbeats 1000000 in
theorem ports_O6 (tos id frag ttl src dst : Int) (data : ByteArray) (w : World) (hc : (bits .and .i64 frag 8191 != 0) = false) (hd : 4 ≤ data.size) :
    Calls Try.prog 43 #[hv tos id frag ttl 6 src dst data] w fun e w' => e = .returned (.tuple #[.int .i64 (w2 data 0), .int .i64 (w2 data 2), .bool true]) ∧ Below w.heap.size w w' := by
  have hd' : ¬ (data.size : Int) < 4 := by omega
  have T0 : Hid (∀ w, _) := fun w => two_ok data 0 w (by omega) (by decide)
  have T2 : Hid (∀ w, _) := fun w => two_ok data 2 w (by omega) (by decide)
  generalize w2 data 0 = x0 at *
  generalize w2 data 2 = x2 at *
  unfold hv
  go_enter Try.func43, Try.ntmps43
  go_wp2
  go_quiet (first
    | (go_at_call_of 52 (0 : Int); exact Calls.quiet_of (T0.out _))
    | (go_at_call_of 52 (2 : Int); exact Calls.quiet_of (T2.out _)))
  go_wp2
  go_ret3
  exact ⟨rfl, ((Below.refl _ _).alloc (Nat.le_refl _) _).trans ⟨rfl, rfl, rfl, Nat.le_refl _, fun _ _ => rfl⟩⟩
end Go.Proofs.Ytndaohiecpdmlaa
