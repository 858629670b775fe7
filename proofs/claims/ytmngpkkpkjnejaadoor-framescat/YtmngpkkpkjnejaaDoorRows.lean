/-
  NARROWER THAN 'FOR EVERY INPUT', by the rows' own cells (each row's printed sentence says how): FramesChecks: laid · FramesWrites: laid · FramesParses: laid · FramesBack: laid · FramesCat: laid · FramesCuts: laid.
  DERIVED. THE GIVEN ROWS OF THIS SEAT. 6 by the template 'for every input the law returns true; each argument reads behind the call as it read before'; 0 by the template 'total and deterministic' (their statements: YtmngpkkpkjnejaaDoorTotals.lean).
  GIVEN WITH THE SEED: the statements are not yours to turn. If you find one false, say at which input.
  Laid BY PROGRAM, IN A SANDBOX (cutbox-rows.mjs): the forced cells as the released guide's own fill.sh prints them over the translation dffc4bd29fb025e4… (all of the seat's roots in one cut). By AI agents, Wed Nov 11 2026. No macro, syntax, notation, axiom, sorry.
-/
import Derived.Test.YtmngpkkpkjnejaaDoorChecked
import GoSem.Claim
import GoSem.ClaimJoined
import GoSem.ClaimMapViews
import Derived.JoinedTies
import Derived.KernelRfl
namespace Go.Proofs.YtmngpkkpkjnejaaDoor
/- THE CELL 'sum', in the pinned program and in every row, IS THE sha256 OF THE DUMP (.gsa) THAT YtmngpkkpkjnejaaDoorProg.lean LOADS. Nothing in Lean hashes anything: it is a label: what it is worth is what the hold of that sum in a sandbox is worth. -/
noncomputable def Tryd.pinned : Pinned := { name := "ytmngpkkpkjnejaadoor", sum := "dffc4bd29fb025e44e9000b485c153614320fc36ae242820239a91d7a35a4b5b", checked := Tryd.checked }
namespace Rows
def none {H : Type} : Left H := { results := [], args := [] }

/- WHAT THE LISTED PACKAGE-LEVEL VARIABLES READ AS WHEN THE CALL BEGINS. Each datum BY PROGRAM (the guide's laid-datum.mjs) off the statement by which the dump's own 'gosem.cut.vars' lays the variable. In a bare row this is a premise. The card (YtmngpkkpkjnejaaDoorCards.lean) ties it to the program's text. -/
def laid_vizard_varint_sizes {H : Type} : DataW H := .agg [.lit (.int .i64 1), .lit (.int .i64 2), .lit (.int .i64 4), .lit (.int .i64 8)]

/-- 'vizardlaw09.FramesChecks': WHATEVER THE INPUT: true; the input reads as it did. -/
def framesChecksSpec : ChangeSpec := { name := "framesChecks", fn := fun _ => fun
  | [d] => { results := [.lit (.bool true)], args := [d] }
  | _ => none }
def framesChecksRow : OpenClaim := { program := "ytmngpkkpkjnejaadoor", sum := "dffc4bd29fb025e44e9000b485c153614320fc36ae242820239a91d7a35a4b5b", func := "vizard/vizardlaw09.FramesChecks", spec := "framesChecks", inPlace := ["internal/abi.NoEscape"], recurses := true, named := ["vizard/varint.sizes"], apart := false, laid := [("vizard/varint.sizes", laid_vizard_varint_sizes)] }
def FramesChecksSaid : Prop := framesChecksRow.holds Tryd.pinned (OpenSpec.ofChange framesChecksSpec)

/-- ITS FALSE NEIGHBOUR: 'it returns false'. Refute it at one input. -/
def framesChecksWrong : ChangeSpec := { name := "framesChecks", fn := fun _ => fun
  | [d] => { results := [.lit (.bool false)], args := [d] }
  | _ => none }
def FramesChecksWrongFalsely : Prop := framesChecksRow.holds Tryd.pinned (OpenSpec.ofChange framesChecksWrong)

/-- 'vizardlaw09.FramesWrites': WHATEVER THE INPUT: true; the input reads as it did. -/
def framesWritesSpec : ChangeSpec := { name := "framesWrites", fn := fun _ => fun
  | [d] => { results := [.lit (.bool true)], args := [d] }
  | _ => none }
def framesWritesRow : OpenClaim := { program := "ytmngpkkpkjnejaadoor", sum := "dffc4bd29fb025e44e9000b485c153614320fc36ae242820239a91d7a35a4b5b", func := "vizard/vizardlaw09.FramesWrites", spec := "framesWrites", inPlace := ["internal/abi.NoEscape"], recurses := true, named := ["vizard/varint.sizes"], apart := false, laid := [("vizard/varint.sizes", laid_vizard_varint_sizes)] }
def FramesWritesSaid : Prop := framesWritesRow.holds Tryd.pinned (OpenSpec.ofChange framesWritesSpec)

/-- ITS FALSE NEIGHBOUR: 'it returns false'. Refute it at one input. -/
def framesWritesWrong : ChangeSpec := { name := "framesWrites", fn := fun _ => fun
  | [d] => { results := [.lit (.bool false)], args := [d] }
  | _ => none }
def FramesWritesWrongFalsely : Prop := framesWritesRow.holds Tryd.pinned (OpenSpec.ofChange framesWritesWrong)

/-- 'vizardlaw09.FramesParses': WHATEVER THE INPUT: true; the input reads as it did. -/
def framesParsesSpec : ChangeSpec := { name := "framesParses", fn := fun _ => fun
  | [d] => { results := [.lit (.bool true)], args := [d] }
  | _ => none }
def framesParsesRow : OpenClaim := { program := "ytmngpkkpkjnejaadoor", sum := "dffc4bd29fb025e44e9000b485c153614320fc36ae242820239a91d7a35a4b5b", func := "vizard/vizardlaw09.FramesParses", spec := "framesParses", unfollowed := true, recurses := true, named := ["vizard/varint.sizes"], apart := false, laid := [("vizard/varint.sizes", laid_vizard_varint_sizes)] }
def FramesParsesSaid : Prop := framesParsesRow.holds Tryd.pinned (OpenSpec.ofChange framesParsesSpec)

/-- ITS FALSE NEIGHBOUR: 'it returns false'. Refute it at one input. -/
def framesParsesWrong : ChangeSpec := { name := "framesParses", fn := fun _ => fun
  | [d] => { results := [.lit (.bool false)], args := [d] }
  | _ => none }
def FramesParsesWrongFalsely : Prop := framesParsesRow.holds Tryd.pinned (OpenSpec.ofChange framesParsesWrong)

/-- 'vizardlaw09.FramesBack': WHATEVER THE INPUT: true; the input reads as it did. -/
def framesBackSpec : ChangeSpec := { name := "framesBack", fn := fun _ => fun
  | [d1, d2] => { results := [.lit (.bool true)], args := [d1, d2] }
  | _ => none }
def framesBackRow : OpenClaim := { program := "ytmngpkkpkjnejaadoor", sum := "dffc4bd29fb025e44e9000b485c153614320fc36ae242820239a91d7a35a4b5b", func := "vizard/vizardlaw09.FramesBack", spec := "framesBack", inPlace := ["internal/abi.NoEscape"], unfollowed := true, recurses := true, named := ["vizard/varint.sizes"], apart := false, laid := [("vizard/varint.sizes", laid_vizard_varint_sizes)] }
def FramesBackSaid : Prop := framesBackRow.holds Tryd.pinned (OpenSpec.ofChange framesBackSpec)

/-- ITS FALSE NEIGHBOUR: 'it returns false'. Refute it at one input. -/
def framesBackWrong : ChangeSpec := { name := "framesBack", fn := fun _ => fun
  | [d1, d2] => { results := [.lit (.bool false)], args := [d1, d2] }
  | _ => none }
def FramesBackWrongFalsely : Prop := framesBackRow.holds Tryd.pinned (OpenSpec.ofChange framesBackWrong)

/-- 'vizardlaw09.FramesCat': WHATEVER THE INPUT: true; the input reads as it did. -/
def framesCatSpec : ChangeSpec := { name := "framesCat", fn := fun _ => fun
  | [d1, d2, d3] => { results := [.lit (.bool true)], args := [d1, d2, d3] }
  | _ => none }
def framesCatRow : OpenClaim := { program := "ytmngpkkpkjnejaadoor", sum := "dffc4bd29fb025e44e9000b485c153614320fc36ae242820239a91d7a35a4b5b", func := "vizard/vizardlaw09.FramesCat", spec := "framesCat", inPlace := ["internal/abi.NoEscape"], unfollowed := true, recurses := true, named := ["vizard/varint.sizes"], apart := false, laid := [("vizard/varint.sizes", laid_vizard_varint_sizes)] }
def FramesCatSaid : Prop := framesCatRow.holds Tryd.pinned (OpenSpec.ofChange framesCatSpec)

/-- ITS FALSE NEIGHBOUR: 'it returns false'. Refute it at one input. -/
def framesCatWrong : ChangeSpec := { name := "framesCat", fn := fun _ => fun
  | [d1, d2, d3] => { results := [.lit (.bool false)], args := [d1, d2, d3] }
  | _ => none }
def FramesCatWrongFalsely : Prop := framesCatRow.holds Tryd.pinned (OpenSpec.ofChange framesCatWrong)

/-- 'vizardlaw09.FramesCuts': WHATEVER THE INPUT: true; the input reads as it did. -/
def framesCutsSpec : ChangeSpec := { name := "framesCuts", fn := fun _ => fun
  | [d1, d2] => { results := [.lit (.bool true)], args := [d1, d2] }
  | _ => none }
def framesCutsRow : OpenClaim := { program := "ytmngpkkpkjnejaadoor", sum := "dffc4bd29fb025e44e9000b485c153614320fc36ae242820239a91d7a35a4b5b", func := "vizard/vizardlaw09.FramesCuts", spec := "framesCuts", inPlace := ["internal/abi.NoEscape"], unfollowed := true, recurses := true, named := ["vizard/varint.sizes"], apart := false, laid := [("vizard/varint.sizes", laid_vizard_varint_sizes)] }
def FramesCutsSaid : Prop := framesCutsRow.holds Tryd.pinned (OpenSpec.ofChange framesCutsSpec)

/-- ITS FALSE NEIGHBOUR: 'it returns false'. Refute it at one input. -/
def framesCutsWrong : ChangeSpec := { name := "framesCuts", fn := fun _ => fun
  | [d1, d2] => { results := [.lit (.bool false)], args := [d1, d2] }
  | _ => none }
def FramesCutsWrongFalsely : Prop := framesCutsRow.holds Tryd.pinned (OpenSpec.ofChange framesCutsWrong)

/- THE SECOND FORM. 'bulk': how many values and letters a reading holds, each counted each time it is reached (what is shared counts as often as it is met; a slice's spare places count too). A statement '..UptoSaid' is the law's where the arguments, and the package variables that the reading takes, are together of bulk at most 1048576: NARROWER than '..Said'. Prove '..Said' where nothing that the law and all that it calls make is longer than what came in: it says more and counts as full. Else prove '..UptoSaid'. A law counts once. -/
mutual
def uptoBulk {H : Type} : DataW H → Nat
  | .lit (.string bytes) => bytes.length + 1
  | .lit _ => 1
  | .nil => 1
  | .ptr d => uptoBulk d + 1
  | .slice elems spare => uptoBulkAll elems + uptoBulkAll spare + 1
  | .agg parts => uptoBulkAll parts + 1
  | .iface _ d => uptoBulk d + 1
  | .map entries => uptoBulkEntries entries + 1
  | .held _ => 1
def uptoBulkAll {H : Type} : List (DataW H) → Nat
  | [] => 0
  | d :: r => uptoBulk d + uptoBulkAll r
def uptoBulkEntries {H : Type} : List (Lit × DataW H) → Nat
  | [] => 0
  | x :: r => uptoBulkEntry x + uptoBulkEntries r
def uptoBulkEntry {H : Type} : Lit × DataW H → Nat
  | (.string bytes, d) => bytes.length + uptoBulk d + 1
  | (_, d) => uptoBulk d + 1
 end
def uptoSmall : (H : Type) → List (DataW H) → Bool := fun _ ds => decide (uptoBulkAll ds ≤ 1048576)
def OpenSpec.upto (s : _root_.Go.ChangeSpec) : _root_.Go.OpenSpec := { _root_.Go.OpenSpec.ofChange s with cond := some uptoSmall }

/-- 'vizardlaw09.FramesChecks', WHERE WHAT IT READS IS OF BULK AT MOST 1048576: true; the input reads as it did. -/
def framesChecksUptoRow : OpenClaim := { program := "ytmngpkkpkjnejaadoor", sum := "dffc4bd29fb025e44e9000b485c153614320fc36ae242820239a91d7a35a4b5b", func := "vizard/vizardlaw09.FramesChecks", spec := "framesChecks", inPlace := ["internal/abi.NoEscape"], recurses := true, named := ["vizard/varint.sizes"], apart := false, laid := [("vizard/varint.sizes", laid_vizard_varint_sizes)], narrowed := true }
def FramesChecksUptoSaid : Prop := framesChecksUptoRow.holds Tryd.pinned (OpenSpec.upto framesChecksSpec)

/-- 'vizardlaw09.FramesWrites', WHERE WHAT IT READS IS OF BULK AT MOST 1048576: true; the input reads as it did. -/
def framesWritesUptoRow : OpenClaim := { program := "ytmngpkkpkjnejaadoor", sum := "dffc4bd29fb025e44e9000b485c153614320fc36ae242820239a91d7a35a4b5b", func := "vizard/vizardlaw09.FramesWrites", spec := "framesWrites", inPlace := ["internal/abi.NoEscape"], recurses := true, named := ["vizard/varint.sizes"], apart := false, laid := [("vizard/varint.sizes", laid_vizard_varint_sizes)], narrowed := true }
def FramesWritesUptoSaid : Prop := framesWritesUptoRow.holds Tryd.pinned (OpenSpec.upto framesWritesSpec)

/-- 'vizardlaw09.FramesParses', WHERE WHAT IT READS IS OF BULK AT MOST 1048576: true; the input reads as it did. -/
def framesParsesUptoRow : OpenClaim := { program := "ytmngpkkpkjnejaadoor", sum := "dffc4bd29fb025e44e9000b485c153614320fc36ae242820239a91d7a35a4b5b", func := "vizard/vizardlaw09.FramesParses", spec := "framesParses", unfollowed := true, recurses := true, named := ["vizard/varint.sizes"], apart := false, laid := [("vizard/varint.sizes", laid_vizard_varint_sizes)], narrowed := true }
def FramesParsesUptoSaid : Prop := framesParsesUptoRow.holds Tryd.pinned (OpenSpec.upto framesParsesSpec)

/-- 'vizardlaw09.FramesBack', WHERE WHAT IT READS IS OF BULK AT MOST 1048576: true; the input reads as it did. -/
def framesBackUptoRow : OpenClaim := { program := "ytmngpkkpkjnejaadoor", sum := "dffc4bd29fb025e44e9000b485c153614320fc36ae242820239a91d7a35a4b5b", func := "vizard/vizardlaw09.FramesBack", spec := "framesBack", inPlace := ["internal/abi.NoEscape"], unfollowed := true, recurses := true, named := ["vizard/varint.sizes"], apart := false, laid := [("vizard/varint.sizes", laid_vizard_varint_sizes)], narrowed := true }
def FramesBackUptoSaid : Prop := framesBackUptoRow.holds Tryd.pinned (OpenSpec.upto framesBackSpec)

/-- 'vizardlaw09.FramesCat', WHERE WHAT IT READS IS OF BULK AT MOST 1048576: true; the input reads as it did. -/
def framesCatUptoRow : OpenClaim := { program := "ytmngpkkpkjnejaadoor", sum := "dffc4bd29fb025e44e9000b485c153614320fc36ae242820239a91d7a35a4b5b", func := "vizard/vizardlaw09.FramesCat", spec := "framesCat", inPlace := ["internal/abi.NoEscape"], unfollowed := true, recurses := true, named := ["vizard/varint.sizes"], apart := false, laid := [("vizard/varint.sizes", laid_vizard_varint_sizes)], narrowed := true }
def FramesCatUptoSaid : Prop := framesCatUptoRow.holds Tryd.pinned (OpenSpec.upto framesCatSpec)

/-- 'vizardlaw09.FramesCuts', WHERE WHAT IT READS IS OF BULK AT MOST 1048576: true; the input reads as it did. -/
def framesCutsUptoRow : OpenClaim := { program := "ytmngpkkpkjnejaadoor", sum := "dffc4bd29fb025e44e9000b485c153614320fc36ae242820239a91d7a35a4b5b", func := "vizard/vizardlaw09.FramesCuts", spec := "framesCuts", inPlace := ["internal/abi.NoEscape"], unfollowed := true, recurses := true, named := ["vizard/varint.sizes"], apart := false, laid := [("vizard/varint.sizes", laid_vizard_varint_sizes)], narrowed := true }
def FramesCutsUptoSaid : Prop := framesCutsUptoRow.holds Tryd.pinned (OpenSpec.upto framesCutsSpec)

end Rows
end Go.Proofs.YtmngpkkpkjnejaaDoor
