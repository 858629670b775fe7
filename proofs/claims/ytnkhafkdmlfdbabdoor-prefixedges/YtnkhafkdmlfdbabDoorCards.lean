/-
  DERIVED. GIVEN WITH THE SEED: THE CARDS: each row of YtnkhafkdmlfdbabDoorRows.lean that lists a variable, with what it lists TIED to the program's text (the seventh form; the later family's looks); each row that meets fmt, with fmt's text TOLD by the authors' own Lean function (tested against real Go, not proved from fmt's source: count such statements apart). THE CARD IS WHAT COUNTS. Prove the row's statement (the work); the ties are given (YtnkhafkdmlfdbabDoorTie.lean); close each card by the builder's one call (the guide's Derived/Test/ToyasCard.lean, 'card_holds'). Laid BY PROGRAM, IN A SANDBOX (cutbox-door.mjs). By AI agents, Wed Nov 11 2026. No macro, syntax, notation, axiom, sorry.
-/
import Derived.Test.YtnkhafkdmlfdbabDoorRows
import GoSem.ClaimSeven
namespace Go.Proofs.YtnkhafkdmlfdbabDoor
namespace Rows

/-- THE TIED CARD OF 'vizardlaw04.PrefixEdges'. -/
def prefixEdgesCard : Claim7 := { stood := { row := prefixEdgesRow, standIns := [], harness := (true, "1b34c367e008cfd5f8adb5c20de66c5334ebf6835c54b98819db929ac52e15b5"), looks := true }, kinds := [], alts := [], laidByText := true, laidKinds := [.data, .data, .data, .data, .sentinel, .sentinel, .pinned], laidTests := true, laidLooks := .later }
def PrefixEdgesCardSaid : Prop := Claim7.holds Tryd.pinned (.plain (OpenSpec.ofChange prefixEdgesSpec)) prefixEdgesCard

/-- THE SECOND FORM's CARD OF 'vizardlaw04.PrefixEdges'. -/
def prefixEdgesUptoCard : Claim7 := { stood := { row := prefixEdgesUptoRow, standIns := [], harness := (true, "1b34c367e008cfd5f8adb5c20de66c5334ebf6835c54b98819db929ac52e15b5"), looks := true }, kinds := [], alts := [], laidByText := true, laidKinds := [.data, .data, .data, .data, .sentinel, .sentinel, .pinned], laidTests := true, laidLooks := .later }
def PrefixEdgesUptoCardSaid : Prop := Claim7.holds Tryd.pinned (.plain (OpenSpec.upto prefixEdgesSpec)) prefixEdgesUptoCard
end Rows
end Go.Proofs.YtnkhafkdmlfdbabDoor
