/-
  Bytes as a text. Plain facts; no condition.
-/
import Derived.Test.YtihkbakbciejiaaDoorFrLink
namespace Go.Proofs.YtihkbakbciejiaaDoor
set_option maxRecDepth 100000
open Go.RowKit

/-- Bytes as a text. -/
def strL (l : L) : ByteArray := ⟨l.toArray⟩
theorem toL_strL (l : L) : toL (strL l) = l := rfl
theorem strL_toL (s : ByteArray) : strL (toL s) = s := toL_inj rfl
theorem strL_append (a b : L) : strL a ++ strL b = strL (a ++ b) := toL_inj (by rw [toL_append]; rfl)
theorem strL_size (l : L) : (strL l).size = l.length := by rw [← toL_len, toL_strL]
theorem put_len (n : Nat) : (putL n).length ≤ 8 := by unfold putL; split <;> (try split) <;> (try split) <;> simp
theorem toL_cut (s : ByteArray) (i j : Nat) : toL (s.extract i j) = ((toL s).take j).drop i := by
  unfold toL
  rw [ByteArray.data_extract, Array.toList_extract, List.extract_eq_take_drop, List.drop_take]
theorem toL_extract (s : ByteArray) (k : Nat) : toL (s.extract k s.size) = (toL s).drop k := by
  rw [toL_cut, List.take_of_length_le (by rw [toL_len]; exact Nat.le_refl _)]
end Go.Proofs.YtihkbakbciejiaaDoor
