/-
  Bytes as a text; fields as values: which are right, and what a name's only value is. Plain facts; no condition.
-/
import Derived.Test.YtojfcflkanohoaaDoorRows
import Derived.WalkKit
namespace Go.Proofs.YtojfcflkanohoaaDoor
set_option maxRecDepth 100000
open Go.RowKit

abbrev L := List UInt8
def toL (s : ByteArray) : L := s.data.toList
theorem toL_len (s : ByteArray) : (toL s).length = s.size := by simp [toL]
theorem toL_inj {a b : ByteArray} (h : toL a = toL b) : a = b := ByteArray.ext (Array.toList_inj.1 h)
theorem toL_append (a b : ByteArray) : toL (a ++ b) = toL a ++ toL b := by simp [toL, ByteArray.data_append]
/-- Bytes as a text. -/
def strL (l : L) : ByteArray := ⟨l.toArray⟩
theorem toL_strL (l : L) : toL (strL l) = l := rfl
theorem strL_toL (s : ByteArray) : strL (toL s) = s := toL_inj rfl
theorem strL_append (a b : L) : strL a ++ strL b = strL (a ++ b) := toL_inj (by rw [toL_append]; rfl)
theorem strL_size (l : L) : (strL l).size = l.length := by rw [← toL_len, toL_strL]
theorem toL_cut (s : ByteArray) (i j : Nat) : toL (s.extract i j) = ((toL s).take j).drop i := by
  unfold toL
  rw [ByteArray.data_extract, Array.toList_extract, List.extract_eq_take_drop, List.drop_take]
theorem toL_extract (s : ByteArray) (k : Nat) : toL (s.extract k s.size) = (toL s).drop k := by
  rw [toL_cut, List.take_of_length_le (by rw [toL_len]; exact Nat.le_refl _)]
/-- A field: its name and its value. -/
abbrev Fd := L × L
def bs (l : List Nat) : L := l.map UInt8.ofNat
def okN (c : UInt8) : Bool := (decide (97 ≤ c.toNat) && decide (c.toNat ≤ 122)) || (decide (48 ≤ c.toNat) && decide (c.toNat ≤ 57)) || decide (c.toNat = 45) || decide (c.toNat = 58)
def okV (c : UInt8) : Bool := decide (32 ≤ c.toNat) && decide (c.toNat ≤ 126)
def rtE (f : Fd) : Int := if 256 < f.1.length ∨ 256 < f.2.length then 8 else if f.1 = [] then 3 else if f.1.all okN = true ∧ f.2.all okV = true then 0 else 3
def fstE : List Fd → Int
  | [] => 0
  | f :: l => if rtE f = 0 then fstE l else rtE f
def chkS (l : List Fd) : Int := if 16 < l.length then 8 else fstE l
def isN (n : L) (g : Fd) : Bool := decide (g.1 = n)
def getS (l : List Fd) (n : L) : Option L := match l.filter (isN n) with
  | [f] => some f.2
  | _ => none
end Go.Proofs.YtojfcflkanohoaaDoor
