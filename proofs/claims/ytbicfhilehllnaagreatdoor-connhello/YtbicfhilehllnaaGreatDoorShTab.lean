/-
  What every law of this seat starts from: the tables as the row's list gives them, and that they last. No condition.
-/
import Derived.Test.YtbicfhilehllnaaGreatDoorTie
import Derived.Test.YtbicfhilehllnaaGreatDoorCards
import Derived.Test.YtbicfhilehllnaaGreatDoorShMix
import Derived.Test.YtbicfhilehllnaaGreatDoorVaPut
import Derived.ProofKit
import Derived.OpenShut
import Derived.ShutString
import Derived.LaidMore
import Derived.Lay
import Derived.Lib.LaidTab
import Derived.Stop.LaidErr
import Derived.WalkKit
namespace Go.Proofs.YtbicfhilehllnaaGreatDoor
set_option maxRecDepth 100000
open Go.ChangeShapes Go.WideShapes Go.ChangeAt Go.RowKit

theorem gCub : Tryz.prog.globalNamed "vizard/sha.cubes" = some 2 := by kernel_rfl
theorem gSiz : Tryz.prog.globalNamed "vizard/varint.sizes" = some 1 := by kernel_rfl
theorem tCub : (Tryz.prog.globals[2]?).map (·.type) = some 376 := by kernel_rfl
theorem tSiz : (Tryz.prog.globals[1]?).map (·.type) = some 339 := by kernel_rfl
theorem cellsCub : Tryz.prog.cellsOf 376 = 64 := by kernel_rfl
theorem cellsU32 : Tryz.prog.cellsOf 228 = 1 := by kernel_rfl
theorem cellsSiz : Tryz.prog.cellsOf 339 = 4 := by kernel_rfl
theorem cellsInt : Tryz.prog.cellsOf 3 = 1 := by kernel_rfl
/-- Both tables. -/
structure DTab (w : World) : Prop where
  c : Tab w
  v : VTab w
theorem DTab.keep {w w' : World} (t : DTab w) (b : Below w.heap.size w w') : DTab w' := ⟨t.c.keep b, t.v.below b⟩
theorem block_of {W : World} {b o : Nat} {v : Value} (h : W.cell? ⟨b, o, none⟩ = some v) : b < W.heap.size := World.block_lt_of_cell? W _ h
theorem tab_is {W : World} (h : Lib.TabIs Tryz.prog W "vizard/sha.cubes" .u32 (ks.map fun x : Nat => (x : Int))) : Tab W := by
  have c : ∀ j, j < 64 → W.cell? ⟨2, j, none⟩ = some (.int .u32 ((ks.getD j 0 : Nat) : Int)) := fun j hj => by
    have := h.cell gCub j (by rw [List.length_map, ks_length]; exact hj)
    rw [this]
    have hj' : j < ks.length := by rw [ks_length]; exact hj
    simp [List.getD, List.getElem?_eq_getElem hj']
  exact ⟨block_of (c 0 (by decide)), c⟩
theorem tabOf1 {H : List (String × DataW Unit)} {W : World} (e : H = [("vizard/sha.cubes", Rows.laid_vizard_sha_cubes)]) (h : laidMet Tryz.prog H W) : Tab W := by
  subst e
  exact tab_is (Lib.tabIs_of_head (zs := ks.map fun x : Nat => (x : Int)) gCub tCub Tryz.underlying376 Tryz.underlying228 cellsU32 cellsCub h)
theorem tabOf2 {H : List (String × DataW Unit)} {W : World} (e : H = [("vizard/varint.sizes", Rows.laid_vizard_varint_sizes), ("vizard/sha.cubes", Rows.laid_vizard_sha_cubes)]) (h : laidMet Tryz.prog H W) : DTab W := by
  subst e
  have h1 : Lib.TabIs Tryz.prog W "vizard/varint.sizes" .i64 [1, 2, 4, 8] := Lib.tabIs_of_head (zs := [1, 2, 4, 8]) gSiz tSiz Tryz.underlying339 Tryz.underlying3 cellsInt cellsSiz h
  have c0 : W.cell? ⟨1, 0, none⟩ = some (.int .i64 1) := h1.cell gSiz 0 (by decide)
  have c1 : W.cell? ⟨1, 1, none⟩ = some (.int .i64 2) := h1.cell gSiz 1 (by decide)
  have c2 : W.cell? ⟨1, 2, none⟩ = some (.int .i64 4) := h1.cell gSiz 2 (by decide)
  have c3 : W.cell? ⟨1, 3, none⟩ = some (.int .i64 8) := h1.cell gSiz 3 (by decide)
  exact ⟨tabOf1 rfl h.tail, block_of c0, c0, c1, c2, c3⟩
end Go.Proofs.YtbicfhilehllnaaGreatDoor
