/-
  No cell of these rows narrows 'for every input' (looked for: loops, veiled, ifaces, maps, wideKeys, modest, calm, conditions, laid).
  DERIVED. THE GIVEN ROWS OF THIS SEAT. 4 by the template 'for every input the law returns true; each argument reads behind the call as it read before'; 0 by the template 'total and deterministic' (their statements: YtdmoaeegjjenmaaTotals.lean).
  GIVEN WITH THE SEED: the statements are not yours to turn. If you find one false, say at which input.
  Laid BY PROGRAM, IN A SANDBOX (cutbox-rows.mjs): the forced cells as the released guide's own fill.sh prints them over the translation ab7590ac937bd09c… (all of the seat's roots in one cut). By AI agents, Wed Nov 11 2026. No macro, syntax, notation, axiom, sorry.
-/
import Derived.Test.YtdmoaeegjjenmaaChecked
import GoSem.Claim
import GoSem.ClaimJoined
import GoSem.ClaimMapViews
import Derived.JoinedTies
import Derived.KernelRfl
namespace Go.Proofs.Ytdmoaeegjjenmaa
/- THE CELL 'sum', in the pinned program and in every row, IS THE sha256 OF THE DUMP (.gsa) THAT YtdmoaeegjjenmaaProg.lean LOADS. Nothing in Lean hashes anything: it is a label: what it is worth is what the hold of that sum in a sandbox is worth. -/
noncomputable def Try.pinned : Pinned := { name := "ytdmoaeegjjenmaa", sum := "ab7590ac937bd09c26776b0639dcaca477cdbef98894babb4216aad321553657", checked := Try.checked }
namespace Rows
def none {H : Type} : Left H := { results := [], args := [] }

/-- 'vizardlaw12.OutboxDoes': WHATEVER THE INPUT: true; the input reads as it did. -/
def outboxDoesSpec : ChangeSpec := { name := "outboxDoes", fn := fun _ => fun
  | [d] => { results := [.lit (.bool true)], args := [d] }
  | _ => none }
def outboxDoesRow : OpenClaim := { program := "ytdmoaeegjjenmaa", sum := "ab7590ac937bd09c26776b0639dcaca477cdbef98894babb4216aad321553657", func := "vizard/vizardlaw12.OutboxDoes", spec := "outboxDoes", inPlace := ["internal/bytealg.Count", "internal/bytealg.IndexByte", "internal/bytealg.Index", "internal/bytealg.MakeNoZero"], named := ["internal/bytealg.MaxLen"], apart := false }
def OutboxDoesSaid : Prop := outboxDoesRow.holds Try.pinned (OpenSpec.ofChange outboxDoesSpec)

/-- ITS FALSE NEIGHBOUR: 'it returns false'. Refute it at one input. -/
def outboxDoesWrong : ChangeSpec := { name := "outboxDoes", fn := fun _ => fun
  | [d] => { results := [.lit (.bool false)], args := [d] }
  | _ => none }
def OutboxDoesWrongFalsely : Prop := outboxDoesRow.holds Try.pinned (OpenSpec.ofChange outboxDoesWrong)

/-- 'vizardlaw12.OutboxThere': WHATEVER THE INPUT: true; the input reads as it did. -/
def outboxThereSpec : ChangeSpec := { name := "outboxThere", fn := fun _ => fun
  | [d1, d2, d3, d4] => { results := [.lit (.bool true)], args := [d1, d2, d3, d4] }
  | _ => none }
def outboxThereRow : OpenClaim := { program := "ytdmoaeegjjenmaa", sum := "ab7590ac937bd09c26776b0639dcaca477cdbef98894babb4216aad321553657", func := "vizard/vizardlaw12.OutboxThere", spec := "outboxThere", inPlace := ["internal/bytealg.Count", "internal/bytealg.IndexByte", "internal/bytealg.Index", "internal/bytealg.MakeNoZero"], named := ["internal/bytealg.MaxLen"], apart := false }
def OutboxThereSaid : Prop := outboxThereRow.holds Try.pinned (OpenSpec.ofChange outboxThereSpec)

/-- ITS FALSE NEIGHBOUR: 'it returns false'. Refute it at one input. -/
def outboxThereWrong : ChangeSpec := { name := "outboxThere", fn := fun _ => fun
  | [d1, d2, d3, d4] => { results := [.lit (.bool false)], args := [d1, d2, d3, d4] }
  | _ => none }
def OutboxThereWrongFalsely : Prop := outboxThereRow.holds Try.pinned (OpenSpec.ofChange outboxThereWrong)

/-- 'vizardlaw12.OutboxPieces': WHATEVER THE INPUT: true; the input reads as it did. -/
def outboxPiecesSpec : ChangeSpec := { name := "outboxPieces", fn := fun _ => fun
  | [d1, d2, d3] => { results := [.lit (.bool true)], args := [d1, d2, d3] }
  | _ => none }
def outboxPiecesRow : OpenClaim := { program := "ytdmoaeegjjenmaa", sum := "ab7590ac937bd09c26776b0639dcaca477cdbef98894babb4216aad321553657", func := "vizard/vizardlaw12.OutboxPieces", spec := "outboxPieces", inPlace := ["internal/bytealg.Count", "internal/bytealg.IndexByte", "internal/bytealg.Index", "internal/bytealg.MakeNoZero"], named := ["internal/bytealg.MaxLen"], apart := false }
def OutboxPiecesSaid : Prop := outboxPiecesRow.holds Try.pinned (OpenSpec.ofChange outboxPiecesSpec)

/-- ITS FALSE NEIGHBOUR: 'it returns false'. Refute it at one input. -/
def outboxPiecesWrong : ChangeSpec := { name := "outboxPieces", fn := fun _ => fun
  | [d1, d2, d3] => { results := [.lit (.bool false)], args := [d1, d2, d3] }
  | _ => none }
def OutboxPiecesWrongFalsely : Prop := outboxPiecesRow.holds Try.pinned (OpenSpec.ofChange outboxPiecesWrong)

/-- 'vizardlaw12.OutboxEnd': WHATEVER THE INPUT: true; the input reads as it did. -/
def outboxEndSpec : ChangeSpec := { name := "outboxEnd", fn := fun _ => fun
  | [d1, d2] => { results := [.lit (.bool true)], args := [d1, d2] }
  | _ => none }
def outboxEndRow : OpenClaim := { program := "ytdmoaeegjjenmaa", sum := "ab7590ac937bd09c26776b0639dcaca477cdbef98894babb4216aad321553657", func := "vizard/vizardlaw12.OutboxEnd", spec := "outboxEnd", inPlace := ["internal/bytealg.Count", "internal/bytealg.IndexByte", "internal/bytealg.Index", "internal/bytealg.MakeNoZero"], named := ["internal/bytealg.MaxLen"], apart := false }
def OutboxEndSaid : Prop := outboxEndRow.holds Try.pinned (OpenSpec.ofChange outboxEndSpec)

/-- ITS FALSE NEIGHBOUR: 'it returns false'. Refute it at one input. -/
def outboxEndWrong : ChangeSpec := { name := "outboxEnd", fn := fun _ => fun
  | [d1, d2] => { results := [.lit (.bool false)], args := [d1, d2] }
  | _ => none }
def OutboxEndWrongFalsely : Prop := outboxEndRow.holds Try.pinned (OpenSpec.ofChange outboxEndWrong)

/- THE SECOND FORM. 'bulk': how many values and letters a reading holds, each counted each time it is reached (what is shared counts as often as it is met; a slice's spare places count too). A statement '..UptoSaid' is the law's where the arguments, and the package variables that the reading takes, are together of bulk at most 1048576: NARROWER than '..Said'. Prove '..Said' where nothing that the law and all that it calls make is longer than what came in: it says more and counts as full. Else prove '..UptoSaid'. A law counts once. -/
mutual
def uptoBulk {H : Type} : DataW H → Nat
  | .lit (.string bytes) => bytes.length + 1
  | .lit _ => 1
  | .nil => 1
  | .ptr d => uptoBulk d + 1
  | .slice elems spare => uptoBulkAll elems + uptoBulkAll spare + 1
  | .agg parts => uptoBulkAll parts + 1
  | .iface _ d => uptoBulk d + 1
  | .map entries => uptoBulkEntries entries + 1
  | .held _ => 1
def uptoBulkAll {H : Type} : List (DataW H) → Nat
  | [] => 0
  | d :: r => uptoBulk d + uptoBulkAll r
def uptoBulkEntries {H : Type} : List (Lit × DataW H) → Nat
  | [] => 0
  | x :: r => uptoBulkEntry x + uptoBulkEntries r
def uptoBulkEntry {H : Type} : Lit × DataW H → Nat
  | (.string bytes, d) => bytes.length + uptoBulk d + 1
  | (_, d) => uptoBulk d + 1
 end
def uptoSmall : (H : Type) → List (DataW H) → Bool := fun _ ds => decide (uptoBulkAll ds ≤ 1048576)
def OpenSpec.upto (s : _root_.Go.ChangeSpec) : _root_.Go.OpenSpec := { _root_.Go.OpenSpec.ofChange s with cond := some uptoSmall }

/-- 'vizardlaw12.OutboxDoes', WHERE WHAT IT READS IS OF BULK AT MOST 1048576: true; the input reads as it did. -/
def outboxDoesUptoRow : OpenClaim := { program := "ytdmoaeegjjenmaa", sum := "ab7590ac937bd09c26776b0639dcaca477cdbef98894babb4216aad321553657", func := "vizard/vizardlaw12.OutboxDoes", spec := "outboxDoes", inPlace := ["internal/bytealg.Count", "internal/bytealg.IndexByte", "internal/bytealg.Index", "internal/bytealg.MakeNoZero"], named := ["internal/bytealg.MaxLen"], apart := false, narrowed := true }
def OutboxDoesUptoSaid : Prop := outboxDoesUptoRow.holds Try.pinned (OpenSpec.upto outboxDoesSpec)

/-- 'vizardlaw12.OutboxThere', WHERE WHAT IT READS IS OF BULK AT MOST 1048576: true; the input reads as it did. -/
def outboxThereUptoRow : OpenClaim := { program := "ytdmoaeegjjenmaa", sum := "ab7590ac937bd09c26776b0639dcaca477cdbef98894babb4216aad321553657", func := "vizard/vizardlaw12.OutboxThere", spec := "outboxThere", inPlace := ["internal/bytealg.Count", "internal/bytealg.IndexByte", "internal/bytealg.Index", "internal/bytealg.MakeNoZero"], named := ["internal/bytealg.MaxLen"], apart := false, narrowed := true }
def OutboxThereUptoSaid : Prop := outboxThereUptoRow.holds Try.pinned (OpenSpec.upto outboxThereSpec)

/-- 'vizardlaw12.OutboxPieces', WHERE WHAT IT READS IS OF BULK AT MOST 1048576: true; the input reads as it did. -/
def outboxPiecesUptoRow : OpenClaim := { program := "ytdmoaeegjjenmaa", sum := "ab7590ac937bd09c26776b0639dcaca477cdbef98894babb4216aad321553657", func := "vizard/vizardlaw12.OutboxPieces", spec := "outboxPieces", inPlace := ["internal/bytealg.Count", "internal/bytealg.IndexByte", "internal/bytealg.Index", "internal/bytealg.MakeNoZero"], named := ["internal/bytealg.MaxLen"], apart := false, narrowed := true }
def OutboxPiecesUptoSaid : Prop := outboxPiecesUptoRow.holds Try.pinned (OpenSpec.upto outboxPiecesSpec)

/-- 'vizardlaw12.OutboxEnd', WHERE WHAT IT READS IS OF BULK AT MOST 1048576: true; the input reads as it did. -/
def outboxEndUptoRow : OpenClaim := { program := "ytdmoaeegjjenmaa", sum := "ab7590ac937bd09c26776b0639dcaca477cdbef98894babb4216aad321553657", func := "vizard/vizardlaw12.OutboxEnd", spec := "outboxEnd", inPlace := ["internal/bytealg.Count", "internal/bytealg.IndexByte", "internal/bytealg.Index", "internal/bytealg.MakeNoZero"], named := ["internal/bytealg.MaxLen"], apart := false, narrowed := true }
def OutboxEndUptoSaid : Prop := outboxEndUptoRow.holds Try.pinned (OpenSpec.upto outboxEndSpec)

end Rows
end Go.Proofs.Ytdmoaeegjjenmaa
