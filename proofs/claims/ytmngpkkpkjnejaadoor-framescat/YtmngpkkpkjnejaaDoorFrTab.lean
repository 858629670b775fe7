/-
  What every law of this seat starts from: the table as the row's list gives it, and that it lasts. No condition.
-/
import Derived.Test.YtmngpkkpkjnejaaDoorTie
import Derived.Test.YtmngpkkpkjnejaaDoorCards
import Derived.Test.YtmngpkkpkjnejaaDoorVaPut
import Derived.ProofKit
import Derived.OpenShut
import Derived.ShutString
import Derived.LaidMore
import Derived.Lay
import Derived.Lib.LaidTab
import Derived.Stop.LaidErr
import Derived.WalkKit
namespace Go.Proofs.YtmngpkkpkjnejaaDoor
set_option maxRecDepth 100000
open Go.ChangeShapes Go.WideShapes Go.ChangeAt Go.RowKit

theorem gSiz : Tryd.prog.globalNamed "vizard/varint.sizes" = some 0 := by kernel_rfl
theorem tSiz : (Tryd.prog.globals[0]?).map (·.type) = some 87 := by kernel_rfl
theorem cellsSiz : Tryd.prog.cellsOf 87 = 4 := by kernel_rfl
theorem cellsInt : Tryd.prog.cellsOf 3 = 1 := by kernel_rfl
theorem vtabOf {H : List (String × DataW Unit)} {W : World} (e : H = [("vizard/varint.sizes", Rows.laid_vizard_varint_sizes)]) (h : laidMet Tryd.prog H W) : VTab W := by
  subst e
  have h1 : Lib.TabIs Tryd.prog W "vizard/varint.sizes" .i64 [1, 2, 4, 8] := Lib.tabIs_of_head (zs := [1, 2, 4, 8]) gSiz tSiz Tryd.underlying87 Tryd.underlying3 cellsInt cellsSiz h
  have c0 : W.cell? ⟨0, 0, none⟩ = some (.int .i64 1) := h1.cell gSiz 0 (by decide)
  have c1 : W.cell? ⟨0, 1, none⟩ = some (.int .i64 2) := h1.cell gSiz 1 (by decide)
  have c2 : W.cell? ⟨0, 2, none⟩ = some (.int .i64 4) := h1.cell gSiz 2 (by decide)
  have c3 : W.cell? ⟨0, 3, none⟩ = some (.int .i64 8) := h1.cell gSiz 3 (by decide)
  exact ⟨World.block_lt_of_cell? W _ c0, c0, c1, c2, c3⟩
end Go.Proofs.YtmngpkkpkjnejaaDoor
