/-
  The table of sizes as the row's list gives it; strings that are handed in. No condition.
-/
import Derived.LaidMore
import Derived.Lay
import Derived.Lib.LaidTab
import Derived.OpenShut
import Derived.ProofKit
import Derived.ShutString
import Derived.Stop.LaidErr
import Derived.Test.YtihkbakbciejiaaDoorCards
import Derived.Test.YtihkbakbciejiaaDoorTie
import Derived.WalkKit
import Derived.Test.YtihkbakbciejiaaDoorCpRd
import Derived.Test.YtihkbakbciejiaaDoorShOpen
namespace Go.Proofs.YtihkbakbciejiaaDoor
set_option maxRecDepth 100000
open Go.RowKit

def T16 (w : World) : Prop := VTab w
theorem gSiz : Tryd.prog.globalNamed "vizard/varint.sizes" = some 0 := by kernel_rfl
theorem tSiz : (Tryd.prog.globals[0]?).map (·.type) = some 115 := by kernel_rfl
theorem cellsSiz : Tryd.prog.cellsOf 115 = 4 := by kernel_rfl
theorem cellsInt : Tryd.prog.cellsOf 3 = 1 := by kernel_rfl
theorem tabOf16 {H : List (String × DataW Unit)} {W : World} (e : H = [("vizard/varint.sizes", Rows.laid_vizard_varint_sizes)]) (h : laidMet Tryd.prog H W) : T16 W := by
  subst e
  have h1 : Lib.TabIs Tryd.prog W "vizard/varint.sizes" .i64 [1, 2, 4, 8] := Lib.tabIs_of_head (zs := [1, 2, 4, 8]) gSiz tSiz Tryd.underlying115 Tryd.underlying3 cellsInt cellsSiz h
  have c0 : W.cell? ⟨0, 0, none⟩ = some (.int .i64 1) := h1.cell gSiz 0 (by decide)
  have c1 : W.cell? ⟨0, 1, none⟩ = some (.int .i64 2) := h1.cell gSiz 1 (by decide)
  have c2 : W.cell? ⟨0, 2, none⟩ = some (.int .i64 4) := h1.cell gSiz 2 (by decide)
  have c3 : W.cell? ⟨0, 3, none⟩ = some (.int .i64 8) := h1.cell gSiz 3 (by decide)
  exact ⟨World.block_lt_of_cell? W _ c0, c0, c1, c2, c3⟩
theorem strs_at {w : World} {a : Option Addr} {n : Nat} {f : Nat → ByteArray} (h : Strs w a n f) : ∀ i, i < n → ∃ b off, a = some ⟨b, off, none⟩ ∧ w.cell? ⟨b, off + i, none⟩ = some (.string (f i)) := fun i hi => by
  rcases h with h | ⟨b, off, e, -, h⟩
  · omega
  · exact ⟨b, off, e, h i hi⟩
end Go.Proofs.YtihkbakbciejiaaDoor
