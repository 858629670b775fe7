/-
  What the document's own Hop answers, out of what its Parse and Build answer. No other condition.
-/
import Derived.Test.YtndaohiecpdmlaaGreatMgC
import Derived.Test.YtndaohiecpdmlaaGreatMgB
namespace Go.Proofs.YtndaohiecpdmlaaGreat
set_option maxRecDepth 100000
open Go.RowKit
set_option maxHeartbeats 1000000 in
theorem rhop_err (s : ByteArray) (w : World) (x : Int) (hx : (x != 0) = true) (P : Hid (∀ w, Calls Tryz.prog 13 #[.string s] w fun e w' => e = .returned (.tuple #[none', .int .i64 x]) ∧ Below w.heap.size w w')) :
    Calls Tryz.prog 16 #[.string s] w fun e w' => e = .returned (.tuple #[.string ⟨#[]⟩, .int .i64 x]) ∧ Below w.heap.size w w' := by
  unfold none' hv at *
  go_enter Tryz.func16, Tryz.ntmps16
  go_wp2_with (go_at_call 13; refine (P.out _).mono ?_; rintro e w1 ⟨rfl, b1⟩)
  go_ret2
  exact ⟨rfl, b1.alloc b1.size _⟩
set_option maxHeartbeats 1000000 in
theorem rhop_stop (s : ByteArray) (w : World) (tos id frag ttl proto src dst : Int) (data : ByteArray) (ht : ttl < 2) (P : Hid (∀ w, Calls Tryz.prog 13 #[.string s] w fun e w' => e = .returned (.tuple #[hv tos id frag ttl proto src dst data, .int .i64 0]) ∧ Below w.heap.size w w')) :
    Calls Tryz.prog 16 #[.string s] w fun e w' => e = .returned (.tuple #[.string ⟨#[]⟩, .int .i64 2]) ∧ Below w.heap.size w w' := by
  unfold hv at *
  go_enter Tryz.func16, Tryz.ntmps16
  go_wp2_with (go_at_call 13; refine (P.out _).mono ?_; rintro e w1 ⟨rfl, b1⟩)
  go_ret2
  exact ⟨rfl, b1.alloc b1.size _⟩
set_option maxHeartbeats 1000000 in
theorem rhop_go (s t : ByteArray) (w : World) (tos id frag ttl proto src dst : Int) (data : ByteArray) (ht : 2 ≤ ttl) (hm : ttl ≤ 255) (P : Hid (∀ w, Calls Tryz.prog 13 #[.string s] w fun e w' => e = .returned (.tuple #[hv tos id frag ttl proto src dst data, .int .i64 0]) ∧ Below w.heap.size w w'))
    (B : Hid (∀ w, Calls Tryz.prog 25 #[hv tos id frag (ttl - 1) proto src dst data] w fun e w' => e = .returned (.tuple #[.string t, .int .i64 0]) ∧ Below w.heap.size w w')) :
    Calls Tryz.prog 16 #[.string s] w fun e w' => e = .returned (.tuple #[.string t, .int .i64 0]) ∧ Below w.heap.size w w' := by
  unfold hv at *
  go_enter Tryz.func16, Tryz.ntmps16
  go_wp2_with (first | (go_at_call 13; refine (P.out _).mono ?_; rintro e w1 ⟨rfl, b1⟩) | (go_at_call 25; refine (B.out _).mono ?_; rintro e w2 ⟨rfl, b2⟩))
  go_ret2
  exact ⟨rfl, (b1.alloc b1.size _).trans (b2.mono (b1.alloc b1.size _).size)⟩
end Go.Proofs.YtndaohiecpdmlaaGreat
