/-
  What every law of this seat starts from: the tables as the row's list gives them. No condition.
-/
import Derived.Test.YtbicfhilehllnaaGreatDoorShTab
import Derived.Test.YtbicfhilehllnaaGreatDoorSeOwn
namespace Go.Proofs.YtbicfhilehllnaaGreatDoor
open Go.RowKit
theorem stabOf {H : List (String × DataW Unit)} {W : World} (e : H = [("vizard/varint.sizes", Rows.laid_vizard_varint_sizes), ("vizard/sha.cubes", Rows.laid_vizard_sha_cubes)]) (h : laidMet Tryz.prog H W) : STab W :=
  ⟨(tabOf2 e h).c, (tabOf2 e h).v⟩
end Go.Proofs.YtbicfhilehllnaaGreatDoor
