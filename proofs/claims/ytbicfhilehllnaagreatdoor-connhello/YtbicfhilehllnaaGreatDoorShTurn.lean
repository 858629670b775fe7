/-
  What the document's own turn answers. A number is a uint32, it is turned by 1 to 31; no other condition.
-/
import Derived.Test.YtbicfhilehllnaaGreatDoorShMath
namespace Go.Proofs.YtbicfhilehllnaaGreatDoor
set_option maxRecDepth 100000
open Go.RowKit

theorem rot_int (x n : Nat) (hx : x < 4294967296) : bits .or .u32 ((x : Int) / 2 ^ n) ((x : Int) * 2 ^ (32 - n) % 4294967296) = ((rot x n : Nat) : Int) := by
  have e1 : (x : Int) / 2 ^ n = ((x / 2 ^ n : Nat) : Int) := by rw [Int.natCast_ediv, Int.natCast_pow]; rfl
  have e2 : (x : Int) * 2 ^ (32 - n) % 4294967296 = ((x * 2 ^ (32 - n) % 4294967296 : Nat) : Int) := by rw [Int.natCast_emod, Int.natCast_mul, Int.natCast_pow]; rfl
  rw [e1, e2, u32_or_nat _ _ (div_lt32 _ hx) (Nat.mod_lt _ (by decide))]
  rfl
set_option maxHeartbeats 1000000 in
theorem rturn_ok (x n : Nat) (w : World) (hx : x < 4294967296) (h0 : 0 < n) (h : n < 32) :
    Calls Tryz.prog 266 #[.int .u32 x, .int .i64 n] w fun e w' => e = .returned (.int .u32 (rot x n)) ∧ Below w.heap.size w w' := by
  have b0 : (0 : Int) ≤ n := by omega
  have b1 : (n : Int) < 32 := by omega
  go_enter Tryz.func266, Tryz.ntmps266
  go_wp2
  go_quiet (fail)
  go_wp2
  go_ret
  exact ⟨by rw [rot_int x n hx]; rfl, ⟨rfl, rfl, rfl, Nat.le_refl _, fun _ _ => rfl⟩⟩
theorem rturn_q (x n : Nat) (w : World) (hx : x < 4294967296) (h0 : 0 < n) (h : n < 32) :
    Calls Tryz.prog 266 #[.int .u32 x, .int .i64 n] w fun e w' => e = .returned (.int .u32 (rot x n)) ∧ ∃ k, w' = w.drewN k := by
  have b0 : (0 : Int) ≤ n := by omega
  have b1 : (n : Int) < 32 := by omega
  go_enter Tryz.func266, Tryz.ntmps266
  go_wp2
  go_quiet (fail)
  go_wp2
  go_ret
  exact ⟨by rw [rot_int x n hx]; rfl, _, rfl⟩
end Go.Proofs.YtbicfhilehllnaaGreatDoor
