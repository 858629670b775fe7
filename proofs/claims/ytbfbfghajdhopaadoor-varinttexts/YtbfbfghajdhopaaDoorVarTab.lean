/-
  What every law of this seat starts from: the table of sizes as the row's list gives it, and a world that holds it. No condition.
-/
import Derived.Test.YtbfbfghajdhopaaDoorVarPut
import Derived.Test.YtbfbfghajdhopaaDoorTie
import Derived.ProofKit
import Derived.OpenShut
import Derived.ShutString
import Derived.Deep.DeepHandedRow
import Derived.Lib.LaidTab
namespace Go.Proofs.YtbfbfghajdhopaaDoor
open Go.ChangeShapes Go.WideShapes Go.ChangeAt Go.RowKit
theorem own : ownKnob Tryd.prog.godebug = none := by kernel_rfl
theorem gTab : Tryd.prog.globalNamed "vizard/varint.sizes" = some 0 := by kernel_rfl
theorem gTabType : (Tryd.prog.globals[0]?).map (·.type) = some 44 := by kernel_rfl
theorem cells44 : Tryd.prog.cellsOf 44 = 4 := by kernel_rfl
theorem cells3 : Tryd.prog.cellsOf 3 = 1 := by kernel_rfl
/-- What the row's list gives: the table's cells hold its four numbers. -/
theorem table {W : World} (h : laidMetH Tryd.prog Rows.varintPutsRow.laid W) : Lib.TabIs Tryd.prog W "vizard/varint.sizes" .i64 [1, 2, 4, 8] :=
  Lib.tabIs_of_head (rest := []) gTab gTabType Tryd.underlying44 Tryd.underlying3 cells3 cells44 h
theorem tabOf {W : World} (h : laidMetH Tryd.prog Rows.varintPutsRow.laid W) : Tab W := by
  have c0 : W.cell? ⟨0, 0, none⟩ = some (.int .i64 1) := (table h).cell gTab 0 (by decide)
  have c1 : W.cell? ⟨0, 1, none⟩ = some (.int .i64 2) := (table h).cell gTab 1 (by decide)
  have c2 : W.cell? ⟨0, 2, none⟩ = some (.int .i64 4) := (table h).cell gTab 2 (by decide)
  have c3 : W.cell? ⟨0, 3, none⟩ = some (.int .i64 8) := (table h).cell gTab 3 (by decide)
  refine ⟨?_, c0, c1, c2, c3⟩
  rcases Nat.lt_or_ge 0 W.heap.size with hp | hp
  · exact hp
  · have : W.heap[0]? = none := Array.getElem?_eq_none hp
    simp [World.cell?, this] at c0

/-- A world for the witness: the settled one, the table holding what its text lays. -/
def laidWorld (P : Program) (os : Os) : World :=
  { World.holding P os ⟨#[], #[], []⟩ with heap := (World.holding P os ⟨#[], #[], []⟩).heap.modify 0 fun
      | .cells _ t frozen => .cells #[.int .i64 1, .int .i64 2, .int .i64 4, .int .i64 8] t frozen
      | o => o }
end Go.Proofs.YtbfbfghajdhopaaDoor
