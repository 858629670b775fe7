/-
  Rows of zeros, and texts of them. No condition.
-/
import Derived.Test.YtiamlldooihkdaaObCells
import Derived.Laws.MakeOwn
import Derived.Laws.BytesArg
namespace Go.Proofs.Ytiamlldooihkdaa
set_option maxRecDepth 100000
open Go.RowKit
/-- So many bytes 0. -/
def zerB (n : Nat) : ByteArray := strOfNums (List.replicate n 0)
theorem zerB_size (n : Nat) : (zerB n).size = n := by unfold zerB; rw [strOfNums_size, List.length_replicate]
theorem info_u8z : ∃ i, Try.prog.info? 5 = some i ∧ i.zero = some (.int .u8 0) ∧ i.size = 1 ∧ i.bytes = 1 := by
  have h : (Try.prog.info? 5).map (fun i => (i.zero, i.size, i.bytes)) = some (some (.int .u8 0), 1, 1) := by kernel_rfl
  obtain ⟨i, hi, e⟩ := Option.map_eq_some_iff.1 h
  injection e with e1 e2
  injection e2 with e2 e3
  exact ⟨i, hi, e1, e2, e3⟩
theorem made_zer (n : Nat) : madeCells (Value.int .u8 0).cells (n * 1) = Array.replicate n (.int .u8 0) := by
  rw [Nat.mul_one]
  apply Array.ext_getElem?
  intro i
  by_cases h : i < n
  · simp [madeCells, h, Nat.mod_one, Value.cells]
  · simp [madeCells, h]
theorem mk_zer (n : Nat) (h : n < 1000000) (w : World) : (Instr.makeSlice 41 (.int .i64 (n : Int)) (.int .i64 (n : Int))).run Try.prog w = .ok (.slice (some ⟨w.heap.size, 0, none⟩) n n) (w.alloc (.cells (Array.replicate n (.int .u8 0)) 5)) := by
  obtain ⟨i, hi, hz, h2, h3⟩ := info_u8z
  have := run_make (P := Try.prog) w 41 5 i _ Try.underlying41 hi hz .i64 .i64 n n (by omega) (by omega) (by rw [h3]; omega) (by omega)
  rw [this, h2, Int.toNat_natCast, made_zer n]
theorem cv_zer (n : Nat) (w : World) : (convert 41 9 (.slice (some ⟨w.heap.size, 0, none⟩) n n)).run Try.prog (w.alloc (.cells (Array.replicate n (.int .u8 0)) 5)) = .ok (.string (zerB n)) (w.alloc (.cells (Array.replicate n (.int .u8 0)) 5)) := by
  refine run_convert_bytes_arg (P := Try.prog) _ 41 5 Try.underlying41 Try.underlying5 w.heap.size 0 n n (List.replicate n 0) (by simp) (fun i hi => ?_) 9 Try.underlying9
  rw [Nat.zero_add, World.cell?_alloc_new]
  simp [List.getD, hi]
theorem zero_below (w : World) (n : Nat) : Below w.heap.size w (w.alloc (.cells (Array.replicate n (.int .u8 0)) 5)) := (Below.refl _ _).alloc (Nat.le_refl _) _
theorem place9 (a : Int) (c : Int) (hc : 0 < c) (hc2 : c < 4611686018427387904) : ∃ x : Nat, wrap64 ((IntKind.u64.wrap a).tmod c) = x ∧ IntKind.i64.wrap ((IntKind.u64.wrap a).tmod c) = x ∧ (x : Int) < c := by
  have h : 0 ≤ IntKind.u64.wrap a := by rw [IntKind.wrap_u64]; omega
  rw [Int.tmod_eq_emod_of_nonneg h]
  have h1 := Int.emod_nonneg (IntKind.u64.wrap a) (by omega : c ≠ 0)
  have h2 := Int.emod_lt_of_pos (IntKind.u64.wrap a) hc
  refine ⟨(IntKind.u64.wrap a % c).toNat, ?_, ?_, by omega⟩
  · unfold wrap64
    omega
  · rw [IntKind.wrap_i64]
    omega
end Go.Proofs.Ytiamlldooihkdaa
