/-
  A stream's pointer, a piece and what Next hands out, as values. No condition.
-/
import Derived.Test.YtdmoaeegjjenmaaOuMath
import Derived.Test.YtdmoaeegjjenmaaObCells
import Derived.Deep.LoopGhost
import Derived.Lib.QuietBelow
import Derived.BigQuiet
import Derived.RegionTactic
import Derived.Deep.Cut
namespace Go.Proofs.Ytdmoaeegjjenmaa
set_option maxRecDepth 100000
open Go.RowKit

abbrev ptr (B : Nat) : Value := .pointer (some ⟨B, 0, none⟩)
abbrev pcV (p : Pc) (data : ByteArray) : Value := .agg #[.int .i64 (p.off : Int), .string data, .bool p.fin]
def noPc : Value := .agg #[.int .i64 0, .string ⟨#[]⟩, .bool false]
/-- What Next hands out. -/
def nxtV (d : Ox) : Option Pc → Value
  | none => .tuple #[noPc, .bool false]
  | some p => .tuple #[pcV p (d.s.extract p.off (p.off + p.n)), .bool true]
theorem ext_nil (s : ByteArray) (i : Nat) : s.extract i (i + 0) = ⟨#[]⟩ := by
  have e : (s.extract i (i + 0)).data.toList = [] := by simp
  cases h : s.extract i (i + 0) with
  | mk data =>
    rw [h] at e
    congr 1
    exact Array.ext' e
end Go.Proofs.Ytdmoaeegjjenmaa
