/-
  DERIVED. GIVEN WITH THE SEED: THE CARDS: each row of YtmngpkkpkjnejaaDoorRows.lean that lists a variable, with what it lists TIED to the program's text (the seventh form; the later family's looks); each row that meets fmt, with fmt's text TOLD by the authors' own Lean function (tested against real Go, not proved from fmt's source: count such statements apart). THE CARD IS WHAT COUNTS. Prove the row's statement (the work); the ties are given (YtmngpkkpkjnejaaDoorTie.lean); close each card by the builder's one call (the guide's Derived/Test/ToyasCard.lean, 'card_holds'). Laid BY PROGRAM, IN A SANDBOX (cutbox-door.mjs). By AI agents, Wed Nov 11 2026. No macro, syntax, notation, axiom, sorry.
-/
import Derived.Test.YtmngpkkpkjnejaaDoorRows
import GoSem.ClaimSeven
namespace Go.Proofs.YtmngpkkpkjnejaaDoor
namespace Rows

/-- THE TIED CARD OF 'vizardlaw09.FramesChecks'. -/
def framesChecksCard : Claim7 := { stood := { row := framesChecksRow, standIns := [], harness := (true, "a465168599b9daafe1bad246da98f89a9f1faddcc6d0f4fe57fdf131f5f7427d"), looks := true }, kinds := [], alts := [], laidByText := true, laidKinds := [.data], laidTests := true, laidLooks := .later }
def FramesChecksCardSaid : Prop := Claim7.holds Tryd.pinned (.plain (OpenSpec.ofChange framesChecksSpec)) framesChecksCard

/-- THE TIED CARD OF 'vizardlaw09.FramesWrites'. -/
def framesWritesCard : Claim7 := { stood := { row := framesWritesRow, standIns := [], harness := (true, "a465168599b9daafe1bad246da98f89a9f1faddcc6d0f4fe57fdf131f5f7427d"), looks := true }, kinds := [], alts := [], laidByText := true, laidKinds := [.data], laidTests := true, laidLooks := .later }
def FramesWritesCardSaid : Prop := Claim7.holds Tryd.pinned (.plain (OpenSpec.ofChange framesWritesSpec)) framesWritesCard

/-- THE TIED CARD OF 'vizardlaw09.FramesParses'. -/
def framesParsesCard : Claim7 := { stood := { row := framesParsesRow, standIns := [], harness := (true, "a465168599b9daafe1bad246da98f89a9f1faddcc6d0f4fe57fdf131f5f7427d"), looks := true }, kinds := [], alts := [], laidByText := true, laidKinds := [.data], laidTests := true, laidLooks := .later }
def FramesParsesCardSaid : Prop := Claim7.holds Tryd.pinned (.plain (OpenSpec.ofChange framesParsesSpec)) framesParsesCard

/-- THE TIED CARD OF 'vizardlaw09.FramesBack'. -/
def framesBackCard : Claim7 := { stood := { row := framesBackRow, standIns := [], harness := (true, "a465168599b9daafe1bad246da98f89a9f1faddcc6d0f4fe57fdf131f5f7427d"), looks := true }, kinds := [], alts := [], laidByText := true, laidKinds := [.data], laidTests := true, laidLooks := .later }
def FramesBackCardSaid : Prop := Claim7.holds Tryd.pinned (.plain (OpenSpec.ofChange framesBackSpec)) framesBackCard

/-- THE TIED CARD OF 'vizardlaw09.FramesCat'. -/
def framesCatCard : Claim7 := { stood := { row := framesCatRow, standIns := [], harness := (true, "a465168599b9daafe1bad246da98f89a9f1faddcc6d0f4fe57fdf131f5f7427d"), looks := true }, kinds := [], alts := [], laidByText := true, laidKinds := [.data], laidTests := true, laidLooks := .later }
def FramesCatCardSaid : Prop := Claim7.holds Tryd.pinned (.plain (OpenSpec.ofChange framesCatSpec)) framesCatCard

/-- THE TIED CARD OF 'vizardlaw09.FramesCuts'. -/
def framesCutsCard : Claim7 := { stood := { row := framesCutsRow, standIns := [], harness := (true, "a465168599b9daafe1bad246da98f89a9f1faddcc6d0f4fe57fdf131f5f7427d"), looks := true }, kinds := [], alts := [], laidByText := true, laidKinds := [.data], laidTests := true, laidLooks := .later }
def FramesCutsCardSaid : Prop := Claim7.holds Tryd.pinned (.plain (OpenSpec.ofChange framesCutsSpec)) framesCutsCard

/-- THE SECOND FORM's CARD OF 'vizardlaw09.FramesChecks'. -/
def framesChecksUptoCard : Claim7 := { stood := { row := framesChecksUptoRow, standIns := [], harness := (true, "a465168599b9daafe1bad246da98f89a9f1faddcc6d0f4fe57fdf131f5f7427d"), looks := true }, kinds := [], alts := [], laidByText := true, laidKinds := [.data], laidTests := true, laidLooks := .later }
def FramesChecksUptoCardSaid : Prop := Claim7.holds Tryd.pinned (.plain (OpenSpec.upto framesChecksSpec)) framesChecksUptoCard

/-- THE SECOND FORM's CARD OF 'vizardlaw09.FramesWrites'. -/
def framesWritesUptoCard : Claim7 := { stood := { row := framesWritesUptoRow, standIns := [], harness := (true, "a465168599b9daafe1bad246da98f89a9f1faddcc6d0f4fe57fdf131f5f7427d"), looks := true }, kinds := [], alts := [], laidByText := true, laidKinds := [.data], laidTests := true, laidLooks := .later }
def FramesWritesUptoCardSaid : Prop := Claim7.holds Tryd.pinned (.plain (OpenSpec.upto framesWritesSpec)) framesWritesUptoCard

/-- THE SECOND FORM's CARD OF 'vizardlaw09.FramesParses'. -/
def framesParsesUptoCard : Claim7 := { stood := { row := framesParsesUptoRow, standIns := [], harness := (true, "a465168599b9daafe1bad246da98f89a9f1faddcc6d0f4fe57fdf131f5f7427d"), looks := true }, kinds := [], alts := [], laidByText := true, laidKinds := [.data], laidTests := true, laidLooks := .later }
def FramesParsesUptoCardSaid : Prop := Claim7.holds Tryd.pinned (.plain (OpenSpec.upto framesParsesSpec)) framesParsesUptoCard

/-- THE SECOND FORM's CARD OF 'vizardlaw09.FramesBack'. -/
def framesBackUptoCard : Claim7 := { stood := { row := framesBackUptoRow, standIns := [], harness := (true, "a465168599b9daafe1bad246da98f89a9f1faddcc6d0f4fe57fdf131f5f7427d"), looks := true }, kinds := [], alts := [], laidByText := true, laidKinds := [.data], laidTests := true, laidLooks := .later }
def FramesBackUptoCardSaid : Prop := Claim7.holds Tryd.pinned (.plain (OpenSpec.upto framesBackSpec)) framesBackUptoCard

/-- THE SECOND FORM's CARD OF 'vizardlaw09.FramesCat'. -/
def framesCatUptoCard : Claim7 := { stood := { row := framesCatUptoRow, standIns := [], harness := (true, "a465168599b9daafe1bad246da98f89a9f1faddcc6d0f4fe57fdf131f5f7427d"), looks := true }, kinds := [], alts := [], laidByText := true, laidKinds := [.data], laidTests := true, laidLooks := .later }
def FramesCatUptoCardSaid : Prop := Claim7.holds Tryd.pinned (.plain (OpenSpec.upto framesCatSpec)) framesCatUptoCard

/-- THE SECOND FORM's CARD OF 'vizardlaw09.FramesCuts'. -/
def framesCutsUptoCard : Claim7 := { stood := { row := framesCutsUptoRow, standIns := [], harness := (true, "a465168599b9daafe1bad246da98f89a9f1faddcc6d0f4fe57fdf131f5f7427d"), looks := true }, kinds := [], alts := [], laidByText := true, laidKinds := [.data], laidTests := true, laidLooks := .later }
def FramesCutsUptoCardSaid : Prop := Claim7.holds Tryd.pinned (.plain (OpenSpec.upto framesCutsSpec)) framesCutsUptoCard
end Rows
end Go.Proofs.YtmngpkkpkjnejaaDoor
