/-
  Where a member of a row that is handed in stands. No condition.
-/
import Derived.Test.YtlbhlmccjieieaaAkRef
namespace Go.Proofs.Ytlbhlmccjieieaa
set_option maxRecDepth 100000
open Go.RowKit Go.Sort

theorem at_i64s (B o N cap i : Nat) (w : World) (h : i < N) (z : Int) (hz : z = i) (p : Nat) (hp : p = o + i) :
    (Instr.indexAt 23 (.slice (some ⟨B, o, none⟩) N cap) (.int .i64 z)).run Try.prog w = .ok (.pointer (some ⟨B, p, none⟩)) w := by
  subst hz hp
  have e : Try.prog.elem 23 = 2 := by kernel_rfl
  rw [run_indexAt_slice (P := Try.prog) w 23 ⟨B, o, none⟩ N cap .i64 i (by rw [e]; exact Try.underlying23), if_pos (by omega), e]
  have s : (sizeOf 2).run Try.prog w = .ok 1 w := Try.sizeOf2 w
  rw [s]
  simp [Addr.add_mid]
theorem at_ints (B o N cap i : Nat) (w : World) (h : i < N) (z : Int) (hz : z = i) (p : Nat) (hp : p = o + i) :
    (Instr.indexAt 43 (.slice (some ⟨B, o, none⟩) N cap) (.int .i64 z)).run Try.prog w = .ok (.pointer (some ⟨B, p, none⟩)) w := by
  subst hz hp
  have e : Try.prog.elem 43 = 3 := by kernel_rfl
  rw [run_indexAt_slice (P := Try.prog) w 43 ⟨B, o, none⟩ N cap .i64 i (by rw [e]; exact Try.underlying43), if_pos (by omega), e]
  have s : (sizeOf 3).run Try.prog w = .ok 1 w := Try.sizeOf3 w
  rw [s]
  simp [Addr.add_mid]
theorem at_ops (B o N cap i : Nat) (w : World) (h : i < N) (z : Int) (hz : z = i) (p : Nat) (hp : p = o + 3 * i) :
    (Instr.indexAt 22 (.slice (some ⟨B, o, none⟩) N cap) (.int .i64 z)).run Try.prog w = .ok (.pointer (some ⟨B, p, none⟩)) w := by
  subst hz hp
  have e : Try.prog.elem 22 = 31 := by kernel_rfl
  rw [run_indexAt_slice (P := Try.prog) w 22 ⟨B, o, none⟩ N cap .i64 i (by rw [e]; exact Try.underlying22), if_pos (by omega), e]
  have s : (sizeOf 31).run Try.prog w = .ok 3 w := Try.sizeOf31 w
  rw [s]
  simp [Addr.add_mid, Nat.mul_comm]
end Go.Proofs.Ytlbhlmccjieieaa
