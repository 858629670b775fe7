/-
  No cell of these rows narrows 'for every input' (looked for: loops, veiled, ifaces, maps, wideKeys, modest, calm, conditions, laid).
  DERIVED. THE GIVEN ROWS OF THIS SEAT. 3 by the template 'for every input the law returns true; each argument reads behind the call as it read before'; 0 by the template 'total and deterministic' (their statements: YtndaohiecpdmlaaTotals.lean).
  GIVEN WITH THE SEED: the statements are not yours to turn. If you find one false, say at which input.
  Laid BY PROGRAM, IN A SANDBOX (cutbox-rows.mjs): the forced cells as the released guide's own fill.sh prints them over the translation 9854a89e2f7578fd… (all of the seat's roots in one cut). By AI agents, Wed Nov 11 2026. No macro, syntax, notation, axiom, sorry.
-/
import Derived.Test.YtndaohiecpdmlaaChecked
import GoSem.Claim
import GoSem.ClaimJoined
import GoSem.ClaimMapViews
import Derived.JoinedTies
import Derived.KernelRfl
namespace Go.Proofs.Ytndaohiecpdmlaa
/- THE CELL 'sum', in the pinned program and in every row, IS THE sha256 OF THE DUMP (.gsa) THAT YtndaohiecpdmlaaProg.lean LOADS. Nothing in Lean hashes anything: it is a label: what it is worth is what the hold of that sum in a sandbox is worth. -/
noncomputable def Try.pinned : Pinned := { name := "ytndaohiecpdmlaa", sum := "9854a89e2f7578fd88b84489f86409c967febff259330f6cde82901e9af6fa2f", checked := Try.checked }
namespace Rows
def none {H : Type} : Left H := { results := [], args := [] }

/-- 'vizardlaw22.TunnelPacks': WHATEVER THE INPUT: true; the input reads as it did. -/
def tunnelPacksSpec : ChangeSpec := { name := "tunnelPacks", fn := fun _ => fun
  | [d1, d2] => { results := [.lit (.bool true)], args := [d1, d2] }
  | _ => none }
def tunnelPacksRow : OpenClaim := { program := "ytndaohiecpdmlaa", sum := "9854a89e2f7578fd88b84489f86409c967febff259330f6cde82901e9af6fa2f", func := "vizard/vizardlaw22.TunnelPacks", spec := "tunnelPacks", recurses := true, apart := false }
def TunnelPacksSaid : Prop := tunnelPacksRow.holds Try.pinned (OpenSpec.ofChange tunnelPacksSpec)

/-- ITS FALSE NEIGHBOUR: 'it returns false'. Refute it at one input. -/
def tunnelPacksWrong : ChangeSpec := { name := "tunnelPacks", fn := fun _ => fun
  | [d1, d2] => { results := [.lit (.bool false)], args := [d1, d2] }
  | _ => none }
def TunnelPacksWrongFalsely : Prop := tunnelPacksRow.holds Try.pinned (OpenSpec.ofChange tunnelPacksWrong)

/-- 'vizardlaw22.TunnelPolicy': WHATEVER THE INPUT: true; the input reads as it did. -/
def tunnelPolicySpec : ChangeSpec := { name := "tunnelPolicy", fn := fun _ => fun
  | [d1, d2] => { results := [.lit (.bool true)], args := [d1, d2] }
  | _ => none }
def tunnelPolicyRow : OpenClaim := { program := "ytndaohiecpdmlaa", sum := "9854a89e2f7578fd88b84489f86409c967febff259330f6cde82901e9af6fa2f", func := "vizard/vizardlaw22.TunnelPolicy", spec := "tunnelPolicy", unfollowed := true, recurses := true, apart := false }
def TunnelPolicySaid : Prop := tunnelPolicyRow.holds Try.pinned (OpenSpec.ofChange tunnelPolicySpec)

/-- ITS FALSE NEIGHBOUR: 'it returns false'. Refute it at one input. -/
def tunnelPolicyWrong : ChangeSpec := { name := "tunnelPolicy", fn := fun _ => fun
  | [d1, d2] => { results := [.lit (.bool false)], args := [d1, d2] }
  | _ => none }
def TunnelPolicyWrongFalsely : Prop := tunnelPolicyRow.holds Try.pinned (OpenSpec.ofChange tunnelPolicyWrong)

/-- 'vizardlaw22.TunnelBack': WHATEVER THE INPUT: true; the input reads as it did. -/
def tunnelBackSpec : ChangeSpec := { name := "tunnelBack", fn := fun _ => fun
  | [d1, d2, d3, d4] => { results := [.lit (.bool true)], args := [d1, d2, d3, d4] }
  | _ => none }
def tunnelBackRow : OpenClaim := { program := "ytndaohiecpdmlaa", sum := "9854a89e2f7578fd88b84489f86409c967febff259330f6cde82901e9af6fa2f", func := "vizard/vizardlaw22.TunnelBack", spec := "tunnelBack", unfollowed := true, recurses := true, apart := false }
def TunnelBackSaid : Prop := tunnelBackRow.holds Try.pinned (OpenSpec.ofChange tunnelBackSpec)

/-- ITS FALSE NEIGHBOUR: 'it returns false'. Refute it at one input. -/
def tunnelBackWrong : ChangeSpec := { name := "tunnelBack", fn := fun _ => fun
  | [d1, d2, d3, d4] => { results := [.lit (.bool false)], args := [d1, d2, d3, d4] }
  | _ => none }
def TunnelBackWrongFalsely : Prop := tunnelBackRow.holds Try.pinned (OpenSpec.ofChange tunnelBackWrong)

/- THE SECOND FORM. 'bulk': how many values and letters a reading holds, each counted each time it is reached (what is shared counts as often as it is met; a slice's spare places count too). A statement '..UptoSaid' is the law's where the arguments, and the package variables that the reading takes, are together of bulk at most 1048576: NARROWER than '..Said'. Prove '..Said' where nothing that the law and all that it calls make is longer than what came in: it says more and counts as full. Else prove '..UptoSaid'. A law counts once. -/
mutual
def uptoBulk {H : Type} : DataW H → Nat
  | .lit (.string bytes) => bytes.length + 1
  | .lit _ => 1
  | .nil => 1
  | .ptr d => uptoBulk d + 1
  | .slice elems spare => uptoBulkAll elems + uptoBulkAll spare + 1
  | .agg parts => uptoBulkAll parts + 1
  | .iface _ d => uptoBulk d + 1
  | .map entries => uptoBulkEntries entries + 1
  | .held _ => 1
def uptoBulkAll {H : Type} : List (DataW H) → Nat
  | [] => 0
  | d :: r => uptoBulk d + uptoBulkAll r
def uptoBulkEntries {H : Type} : List (Lit × DataW H) → Nat
  | [] => 0
  | x :: r => uptoBulkEntry x + uptoBulkEntries r
def uptoBulkEntry {H : Type} : Lit × DataW H → Nat
  | (.string bytes, d) => bytes.length + uptoBulk d + 1
  | (_, d) => uptoBulk d + 1
 end
def uptoSmall : (H : Type) → List (DataW H) → Bool := fun _ ds => decide (uptoBulkAll ds ≤ 1048576)
def OpenSpec.upto (s : _root_.Go.ChangeSpec) : _root_.Go.OpenSpec := { _root_.Go.OpenSpec.ofChange s with cond := some uptoSmall }

/-- 'vizardlaw22.TunnelPacks', WHERE WHAT IT READS IS OF BULK AT MOST 1048576: true; the input reads as it did. -/
def tunnelPacksUptoRow : OpenClaim := { program := "ytndaohiecpdmlaa", sum := "9854a89e2f7578fd88b84489f86409c967febff259330f6cde82901e9af6fa2f", func := "vizard/vizardlaw22.TunnelPacks", spec := "tunnelPacks", recurses := true, apart := false, narrowed := true }
def TunnelPacksUptoSaid : Prop := tunnelPacksUptoRow.holds Try.pinned (OpenSpec.upto tunnelPacksSpec)

/-- 'vizardlaw22.TunnelPolicy', WHERE WHAT IT READS IS OF BULK AT MOST 1048576: true; the input reads as it did. -/
def tunnelPolicyUptoRow : OpenClaim := { program := "ytndaohiecpdmlaa", sum := "9854a89e2f7578fd88b84489f86409c967febff259330f6cde82901e9af6fa2f", func := "vizard/vizardlaw22.TunnelPolicy", spec := "tunnelPolicy", unfollowed := true, recurses := true, apart := false, narrowed := true }
def TunnelPolicyUptoSaid : Prop := tunnelPolicyUptoRow.holds Try.pinned (OpenSpec.upto tunnelPolicySpec)

/-- 'vizardlaw22.TunnelBack', WHERE WHAT IT READS IS OF BULK AT MOST 1048576: true; the input reads as it did. -/
def tunnelBackUptoRow : OpenClaim := { program := "ytndaohiecpdmlaa", sum := "9854a89e2f7578fd88b84489f86409c967febff259330f6cde82901e9af6fa2f", func := "vizard/vizardlaw22.TunnelBack", spec := "tunnelBack", unfollowed := true, recurses := true, apart := false, narrowed := true }
def TunnelBackUptoSaid : Prop := tunnelBackUptoRow.holds Try.pinned (OpenSpec.upto tunnelBackSpec)

end Rows
end Go.Proofs.Ytndaohiecpdmlaa
