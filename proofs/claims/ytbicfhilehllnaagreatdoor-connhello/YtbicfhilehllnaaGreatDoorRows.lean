/-
  NARROWER THAN 'FOR EVERY INPUT', by the rows' own cells (each row's printed sentence says how): ConnDoes: laid · ConnHello: laid · ConnWhole: laid · ConnGrams: laid · ConnTwice: laid · ConnCloses: laid.
  DERIVED. THE GIVEN ROWS OF THIS SEAT. 6 by the template 'for every input the law returns true; each argument reads behind the call as it read before'; 0 by the template 'total and deterministic' (their statements: YtbicfhilehllnaaGreatDoorTotals.lean).
  GIVEN WITH THE SEED: the statements are not yours to turn. If you find one false, say at which input.
  Laid BY PROGRAM, IN A SANDBOX (cutbox-rows.mjs): the forced cells as the released guide's own fill.sh prints them over the translation 3f629fe28a7de1a9… (all of the seat's roots in one cut). By AI agents, Wed Nov 11 2026. No macro, syntax, notation, axiom, sorry.
-/
import Derived.Test.YtbicfhilehllnaaGreatDoorChecked
import GoSem.Claim
import GoSem.ClaimJoined
import GoSem.ClaimMapViews
import Derived.JoinedTies
import Derived.KernelRfl
namespace Go.Proofs.YtbicfhilehllnaaGreatDoor
/- THE CELL 'sum', in the pinned program and in every row, IS THE sha256 OF THE DUMP (.gsa) THAT YtbicfhilehllnaaGreatDoorProg.lean LOADS. Nothing in Lean hashes anything: it is a label: what it is worth is what the hold of that sum in a sandbox is worth. -/
noncomputable def Tryz.pinned : Pinned := { name := "ytbicfhilehllnaagreatdoor", sum := "3f629fe28a7de1a9cd4641db4afb270e5afcaca6e53b1fe9382ba81aed76cbb7", checked := Tryz.checked }
namespace Rows
def none {H : Type} : Left H := { results := [], args := [] }

/- WHAT THE LISTED PACKAGE-LEVEL VARIABLES READ AS WHEN THE CALL BEGINS. Each datum BY PROGRAM (the guide's laid-datum.mjs) off the statement by which the dump's own 'gosem.cut.vars' lays the variable. In a bare row this is a premise. The card (YtbicfhilehllnaaGreatDoorCards.lean) ties it to the program's text. -/
def laid_vizard_varint_sizes {H : Type} : DataW H := .agg [.lit (.int .i64 1), .lit (.int .i64 2), .lit (.int .i64 4), .lit (.int .i64 8)]
def laid_vizard_sha_cubes {H : Type} : DataW H := .agg [.lit (.int .u32 1116352408), .lit (.int .u32 1899447441), .lit (.int .u32 3049323471), .lit (.int .u32 3921009573), .lit (.int .u32 961987163), .lit (.int .u32 1508970993), .lit (.int .u32 2453635748), .lit (.int .u32 2870763221), .lit (.int .u32 3624381080), .lit (.int .u32 310598401), .lit (.int .u32 607225278), .lit (.int .u32 1426881987), .lit (.int .u32 1925078388), .lit (.int .u32 2162078206), .lit (.int .u32 2614888103), .lit (.int .u32 3248222580), .lit (.int .u32 3835390401), .lit (.int .u32 4022224774), .lit (.int .u32 264347078), .lit (.int .u32 604807628), .lit (.int .u32 770255983), .lit (.int .u32 1249150122), .lit (.int .u32 1555081692), .lit (.int .u32 1996064986), .lit (.int .u32 2554220882), .lit (.int .u32 2821834349), .lit (.int .u32 2952996808), .lit (.int .u32 3210313671), .lit (.int .u32 3336571891), .lit (.int .u32 3584528711), .lit (.int .u32 113926993), .lit (.int .u32 338241895), .lit (.int .u32 666307205), .lit (.int .u32 773529912), .lit (.int .u32 1294757372), .lit (.int .u32 1396182291), .lit (.int .u32 1695183700), .lit (.int .u32 1986661051), .lit (.int .u32 2177026350), .lit (.int .u32 2456956037), .lit (.int .u32 2730485921), .lit (.int .u32 2820302411), .lit (.int .u32 3259730800), .lit (.int .u32 3345764771), .lit (.int .u32 3516065817), .lit (.int .u32 3600352804), .lit (.int .u32 4094571909), .lit (.int .u32 275423344), .lit (.int .u32 430227734), .lit (.int .u32 506948616), .lit (.int .u32 659060556), .lit (.int .u32 883997877), .lit (.int .u32 958139571), .lit (.int .u32 1322822218), .lit (.int .u32 1537002063), .lit (.int .u32 1747873779), .lit (.int .u32 1955562222), .lit (.int .u32 2024104815), .lit (.int .u32 2227730452), .lit (.int .u32 2361852424), .lit (.int .u32 2428436474), .lit (.int .u32 2756734187), .lit (.int .u32 3204031479), .lit (.int .u32 3329325298)]

/-- 'vizardlaw13.ConnDoes': WHATEVER THE INPUT: true; the input reads as it did. -/
def connDoesSpec : ChangeSpec := { name := "connDoes", fn := fun _ => fun
  | [d] => { results := [.lit (.bool true)], args := [d] }
  | _ => none }
def connDoesRow : OpenClaim := { program := "ytbicfhilehllnaagreatdoor", sum := "3f629fe28a7de1a9cd4641db4afb270e5afcaca6e53b1fe9382ba81aed76cbb7", func := "vizard/vizardlaw13.ConnDoes", spec := "connDoes", inPlace := ["sync/atomic.AddInt64", "sync/atomic.LoadUint32", "(*internal/sync.Mutex).Lock", "internal/race.Disable", "sync/atomic.CompareAndSwapInt32", "internal/race.Enable", "internal/race.Acquire", "(*internal/sync.Mutex).lockSlow", "internal/sync.runtime_canSpin", "internal/sync.runtime_doSpin", "internal/sync.throw", "internal/sync.runtime_nanotime", "internal/sync.runtime_SemacquireMutex", "sync/atomic.AddInt32", "(*internal/sync.Mutex).Unlock", "internal/race.ReleaseMerge", "(*internal/sync.Mutex).unlockSlow", "internal/sync.fatal", "internal/sync.runtime_Semrelease", "sync/atomic.StoreUint32", "internal/bytealg.Count", "internal/bytealg.IndexByte", "internal/bytealg.Index", "internal/bytealg.MakeNoZero", "internal/abi.NoEscape", "slices.overlaps[vizard/api.Range]"], unfollowed := true, recurses := true, named := ["vizard/varint.sizes", "vizard/sha.cubes", "internal/bytealg.MaxLen"], apart := false, laid := [("vizard/varint.sizes", laid_vizard_varint_sizes), ("vizard/sha.cubes", laid_vizard_sha_cubes)] }
def ConnDoesSaid : Prop := connDoesRow.holds Tryz.pinned (OpenSpec.ofChange connDoesSpec)

/-- ITS FALSE NEIGHBOUR: 'it returns false'. Refute it at one input. -/
def connDoesWrong : ChangeSpec := { name := "connDoes", fn := fun _ => fun
  | [d] => { results := [.lit (.bool false)], args := [d] }
  | _ => none }
def ConnDoesWrongFalsely : Prop := connDoesRow.holds Tryz.pinned (OpenSpec.ofChange connDoesWrong)

/-- 'vizardlaw13.ConnHello': WHATEVER THE INPUT: true; the input reads as it did. -/
def connHelloSpec : ChangeSpec := { name := "connHello", fn := fun _ => fun
  | [d1, d2, d3, d4, d5] => { results := [.lit (.bool true)], args := [d1, d2, d3, d4, d5] }
  | _ => none }
def connHelloRow : OpenClaim := { program := "ytbicfhilehllnaagreatdoor", sum := "3f629fe28a7de1a9cd4641db4afb270e5afcaca6e53b1fe9382ba81aed76cbb7", func := "vizard/vizardlaw13.ConnHello", spec := "connHello", inPlace := ["sync/atomic.LoadUint32", "(*internal/sync.Mutex).Lock", "internal/race.Disable", "sync/atomic.CompareAndSwapInt32", "internal/race.Enable", "internal/race.Acquire", "(*internal/sync.Mutex).lockSlow", "internal/sync.runtime_canSpin", "internal/sync.runtime_doSpin", "internal/sync.throw", "internal/sync.runtime_nanotime", "internal/sync.runtime_SemacquireMutex", "sync/atomic.AddInt32", "(*internal/sync.Mutex).Unlock", "internal/race.ReleaseMerge", "(*internal/sync.Mutex).unlockSlow", "internal/sync.fatal", "internal/sync.runtime_Semrelease", "sync/atomic.StoreUint32", "sync/atomic.AddInt64", "internal/abi.NoEscape", "internal/bytealg.MakeNoZero", "internal/bytealg.IndexByte"], unfollowed := true, recurses := true, named := ["vizard/varint.sizes", "vizard/sha.cubes"], apart := false, laid := [("vizard/varint.sizes", laid_vizard_varint_sizes), ("vizard/sha.cubes", laid_vizard_sha_cubes)] }
def ConnHelloSaid : Prop := connHelloRow.holds Tryz.pinned (OpenSpec.ofChange connHelloSpec)

/-- ITS FALSE NEIGHBOUR: 'it returns false'. Refute it at one input. -/
def connHelloWrong : ChangeSpec := { name := "connHello", fn := fun _ => fun
  | [d1, d2, d3, d4, d5] => { results := [.lit (.bool false)], args := [d1, d2, d3, d4, d5] }
  | _ => none }
def ConnHelloWrongFalsely : Prop := connHelloRow.holds Tryz.pinned (OpenSpec.ofChange connHelloWrong)

/-- 'vizardlaw13.ConnWhole': WHATEVER THE INPUT: true; the input reads as it did. -/
def connWholeSpec : ChangeSpec := { name := "connWhole", fn := fun _ => fun
  | [d1, d2, d3, d4] => { results := [.lit (.bool true)], args := [d1, d2, d3, d4] }
  | _ => none }
def connWholeRow : OpenClaim := { program := "ytbicfhilehllnaagreatdoor", sum := "3f629fe28a7de1a9cd4641db4afb270e5afcaca6e53b1fe9382ba81aed76cbb7", func := "vizard/vizardlaw13.ConnWhole", spec := "connWhole", inPlace := ["sync/atomic.AddInt64", "sync/atomic.LoadUint32", "(*internal/sync.Mutex).Lock", "internal/race.Disable", "sync/atomic.CompareAndSwapInt32", "internal/race.Enable", "internal/race.Acquire", "(*internal/sync.Mutex).lockSlow", "internal/sync.runtime_canSpin", "internal/sync.runtime_doSpin", "internal/sync.throw", "internal/sync.runtime_nanotime", "internal/sync.runtime_SemacquireMutex", "sync/atomic.AddInt32", "(*internal/sync.Mutex).Unlock", "internal/race.ReleaseMerge", "(*internal/sync.Mutex).unlockSlow", "internal/sync.fatal", "internal/sync.runtime_Semrelease", "sync/atomic.StoreUint32", "internal/abi.NoEscape", "internal/bytealg.MakeNoZero", "internal/bytealg.IndexByte", "slices.overlaps[vizard/api.Range]", "internal/bytealg.Count", "internal/bytealg.Index"], unfollowed := true, recurses := true, named := ["vizard/varint.sizes", "vizard/sha.cubes", "internal/bytealg.MaxLen"], apart := false, laid := [("vizard/varint.sizes", laid_vizard_varint_sizes), ("vizard/sha.cubes", laid_vizard_sha_cubes)] }
def ConnWholeSaid : Prop := connWholeRow.holds Tryz.pinned (OpenSpec.ofChange connWholeSpec)

/-- ITS FALSE NEIGHBOUR: 'it returns false'. Refute it at one input. -/
def connWholeWrong : ChangeSpec := { name := "connWhole", fn := fun _ => fun
  | [d1, d2, d3, d4] => { results := [.lit (.bool false)], args := [d1, d2, d3, d4] }
  | _ => none }
def ConnWholeWrongFalsely : Prop := connWholeRow.holds Tryz.pinned (OpenSpec.ofChange connWholeWrong)

/-- 'vizardlaw13.ConnGrams': WHATEVER THE INPUT: true; the input reads as it did. -/
def connGramsSpec : ChangeSpec := { name := "connGrams", fn := fun _ => fun
  | [d1, d2] => { results := [.lit (.bool true)], args := [d1, d2] }
  | _ => none }
def connGramsRow : OpenClaim := { program := "ytbicfhilehllnaagreatdoor", sum := "3f629fe28a7de1a9cd4641db4afb270e5afcaca6e53b1fe9382ba81aed76cbb7", func := "vizard/vizardlaw13.ConnGrams", spec := "connGrams", inPlace := ["sync/atomic.AddInt64", "sync/atomic.LoadUint32", "(*internal/sync.Mutex).Lock", "internal/race.Disable", "sync/atomic.CompareAndSwapInt32", "internal/race.Enable", "internal/race.Acquire", "(*internal/sync.Mutex).lockSlow", "internal/sync.runtime_canSpin", "internal/sync.runtime_doSpin", "internal/sync.throw", "internal/sync.runtime_nanotime", "internal/sync.runtime_SemacquireMutex", "sync/atomic.AddInt32", "(*internal/sync.Mutex).Unlock", "internal/race.ReleaseMerge", "(*internal/sync.Mutex).unlockSlow", "internal/sync.fatal", "internal/sync.runtime_Semrelease", "sync/atomic.StoreUint32", "internal/abi.NoEscape", "internal/bytealg.MakeNoZero", "internal/bytealg.IndexByte", "slices.overlaps[vizard/api.Range]", "internal/bytealg.Count", "internal/bytealg.Index"], unfollowed := true, recurses := true, named := ["vizard/varint.sizes", "vizard/sha.cubes", "internal/bytealg.MaxLen"], apart := false, laid := [("vizard/varint.sizes", laid_vizard_varint_sizes), ("vizard/sha.cubes", laid_vizard_sha_cubes)] }
def ConnGramsSaid : Prop := connGramsRow.holds Tryz.pinned (OpenSpec.ofChange connGramsSpec)

/-- ITS FALSE NEIGHBOUR: 'it returns false'. Refute it at one input. -/
def connGramsWrong : ChangeSpec := { name := "connGrams", fn := fun _ => fun
  | [d1, d2] => { results := [.lit (.bool false)], args := [d1, d2] }
  | _ => none }
def ConnGramsWrongFalsely : Prop := connGramsRow.holds Tryz.pinned (OpenSpec.ofChange connGramsWrong)

/-- 'vizardlaw13.ConnTwice': WHATEVER THE INPUT: true; the input reads as it did. -/
def connTwiceSpec : ChangeSpec := { name := "connTwice", fn := fun _ => fun
  | [d1, d2] => { results := [.lit (.bool true)], args := [d1, d2] }
  | _ => none }
def connTwiceRow : OpenClaim := { program := "ytbicfhilehllnaagreatdoor", sum := "3f629fe28a7de1a9cd4641db4afb270e5afcaca6e53b1fe9382ba81aed76cbb7", func := "vizard/vizardlaw13.ConnTwice", spec := "connTwice", inPlace := ["sync/atomic.AddInt64", "sync/atomic.LoadUint32", "(*internal/sync.Mutex).Lock", "internal/race.Disable", "sync/atomic.CompareAndSwapInt32", "internal/race.Enable", "internal/race.Acquire", "(*internal/sync.Mutex).lockSlow", "internal/sync.runtime_canSpin", "internal/sync.runtime_doSpin", "internal/sync.throw", "internal/sync.runtime_nanotime", "internal/sync.runtime_SemacquireMutex", "sync/atomic.AddInt32", "(*internal/sync.Mutex).Unlock", "internal/race.ReleaseMerge", "(*internal/sync.Mutex).unlockSlow", "internal/sync.fatal", "internal/sync.runtime_Semrelease", "sync/atomic.StoreUint32", "internal/abi.NoEscape", "internal/bytealg.MakeNoZero", "internal/bytealg.IndexByte", "slices.overlaps[vizard/api.Range]", "internal/bytealg.Count", "internal/bytealg.Index"], unfollowed := true, recurses := true, named := ["vizard/varint.sizes", "vizard/sha.cubes", "internal/bytealg.MaxLen"], apart := false, laid := [("vizard/varint.sizes", laid_vizard_varint_sizes), ("vizard/sha.cubes", laid_vizard_sha_cubes)] }
def ConnTwiceSaid : Prop := connTwiceRow.holds Tryz.pinned (OpenSpec.ofChange connTwiceSpec)

/-- ITS FALSE NEIGHBOUR: 'it returns false'. Refute it at one input. -/
def connTwiceWrong : ChangeSpec := { name := "connTwice", fn := fun _ => fun
  | [d1, d2] => { results := [.lit (.bool false)], args := [d1, d2] }
  | _ => none }
def ConnTwiceWrongFalsely : Prop := connTwiceRow.holds Tryz.pinned (OpenSpec.ofChange connTwiceWrong)

/-- 'vizardlaw13.ConnCloses': WHATEVER THE INPUT: true; the input reads as it did. -/
def connClosesSpec : ChangeSpec := { name := "connCloses", fn := fun _ => fun
  | [d1, d2] => { results := [.lit (.bool true)], args := [d1, d2] }
  | _ => none }
def connClosesRow : OpenClaim := { program := "ytbicfhilehllnaagreatdoor", sum := "3f629fe28a7de1a9cd4641db4afb270e5afcaca6e53b1fe9382ba81aed76cbb7", func := "vizard/vizardlaw13.ConnCloses", spec := "connCloses", inPlace := ["sync/atomic.AddInt64", "sync/atomic.LoadUint32", "(*internal/sync.Mutex).Lock", "internal/race.Disable", "sync/atomic.CompareAndSwapInt32", "internal/race.Enable", "internal/race.Acquire", "(*internal/sync.Mutex).lockSlow", "internal/sync.runtime_canSpin", "internal/sync.runtime_doSpin", "internal/sync.throw", "internal/sync.runtime_nanotime", "internal/sync.runtime_SemacquireMutex", "sync/atomic.AddInt32", "(*internal/sync.Mutex).Unlock", "internal/race.ReleaseMerge", "(*internal/sync.Mutex).unlockSlow", "internal/sync.fatal", "internal/sync.runtime_Semrelease", "sync/atomic.StoreUint32", "internal/abi.NoEscape", "internal/bytealg.MakeNoZero", "internal/bytealg.IndexByte", "slices.overlaps[vizard/api.Range]", "internal/bytealg.Count", "internal/bytealg.Index"], unfollowed := true, recurses := true, named := ["vizard/varint.sizes", "vizard/sha.cubes", "internal/bytealg.MaxLen"], apart := false, laid := [("vizard/varint.sizes", laid_vizard_varint_sizes), ("vizard/sha.cubes", laid_vizard_sha_cubes)] }
def ConnClosesSaid : Prop := connClosesRow.holds Tryz.pinned (OpenSpec.ofChange connClosesSpec)

/-- ITS FALSE NEIGHBOUR: 'it returns false'. Refute it at one input. -/
def connClosesWrong : ChangeSpec := { name := "connCloses", fn := fun _ => fun
  | [d1, d2] => { results := [.lit (.bool false)], args := [d1, d2] }
  | _ => none }
def ConnClosesWrongFalsely : Prop := connClosesRow.holds Tryz.pinned (OpenSpec.ofChange connClosesWrong)

/- THE SECOND FORM. 'bulk': how many values and letters a reading holds, each counted each time it is reached (what is shared counts as often as it is met; a slice's spare places count too). A statement '..UptoSaid' is the law's where the arguments, and the package variables that the reading takes, are together of bulk at most 1048576: NARROWER than '..Said'. Prove '..Said' where nothing that the law and all that it calls make is longer than what came in: it says more and counts as full. Else prove '..UptoSaid'. A law counts once. -/
mutual
def uptoBulk {H : Type} : DataW H → Nat
  | .lit (.string bytes) => bytes.length + 1
  | .lit _ => 1
  | .nil => 1
  | .ptr d => uptoBulk d + 1
  | .slice elems spare => uptoBulkAll elems + uptoBulkAll spare + 1
  | .agg parts => uptoBulkAll parts + 1
  | .iface _ d => uptoBulk d + 1
  | .map entries => uptoBulkEntries entries + 1
  | .held _ => 1
def uptoBulkAll {H : Type} : List (DataW H) → Nat
  | [] => 0
  | d :: r => uptoBulk d + uptoBulkAll r
def uptoBulkEntries {H : Type} : List (Lit × DataW H) → Nat
  | [] => 0
  | x :: r => uptoBulkEntry x + uptoBulkEntries r
def uptoBulkEntry {H : Type} : Lit × DataW H → Nat
  | (.string bytes, d) => bytes.length + uptoBulk d + 1
  | (_, d) => uptoBulk d + 1
 end
def uptoSmall : (H : Type) → List (DataW H) → Bool := fun _ ds => decide (uptoBulkAll ds ≤ 1048576)
def OpenSpec.upto (s : _root_.Go.ChangeSpec) : _root_.Go.OpenSpec := { _root_.Go.OpenSpec.ofChange s with cond := some uptoSmall }

/-- 'vizardlaw13.ConnDoes', WHERE WHAT IT READS IS OF BULK AT MOST 1048576: true; the input reads as it did. -/
def connDoesUptoRow : OpenClaim := { program := "ytbicfhilehllnaagreatdoor", sum := "3f629fe28a7de1a9cd4641db4afb270e5afcaca6e53b1fe9382ba81aed76cbb7", func := "vizard/vizardlaw13.ConnDoes", spec := "connDoes", inPlace := ["sync/atomic.AddInt64", "sync/atomic.LoadUint32", "(*internal/sync.Mutex).Lock", "internal/race.Disable", "sync/atomic.CompareAndSwapInt32", "internal/race.Enable", "internal/race.Acquire", "(*internal/sync.Mutex).lockSlow", "internal/sync.runtime_canSpin", "internal/sync.runtime_doSpin", "internal/sync.throw", "internal/sync.runtime_nanotime", "internal/sync.runtime_SemacquireMutex", "sync/atomic.AddInt32", "(*internal/sync.Mutex).Unlock", "internal/race.ReleaseMerge", "(*internal/sync.Mutex).unlockSlow", "internal/sync.fatal", "internal/sync.runtime_Semrelease", "sync/atomic.StoreUint32", "internal/bytealg.Count", "internal/bytealg.IndexByte", "internal/bytealg.Index", "internal/bytealg.MakeNoZero", "internal/abi.NoEscape", "slices.overlaps[vizard/api.Range]"], unfollowed := true, recurses := true, named := ["vizard/varint.sizes", "vizard/sha.cubes", "internal/bytealg.MaxLen"], apart := false, laid := [("vizard/varint.sizes", laid_vizard_varint_sizes), ("vizard/sha.cubes", laid_vizard_sha_cubes)], narrowed := true }
def ConnDoesUptoSaid : Prop := connDoesUptoRow.holds Tryz.pinned (OpenSpec.upto connDoesSpec)

/-- 'vizardlaw13.ConnHello', WHERE WHAT IT READS IS OF BULK AT MOST 1048576: true; the input reads as it did. -/
def connHelloUptoRow : OpenClaim := { program := "ytbicfhilehllnaagreatdoor", sum := "3f629fe28a7de1a9cd4641db4afb270e5afcaca6e53b1fe9382ba81aed76cbb7", func := "vizard/vizardlaw13.ConnHello", spec := "connHello", inPlace := ["sync/atomic.LoadUint32", "(*internal/sync.Mutex).Lock", "internal/race.Disable", "sync/atomic.CompareAndSwapInt32", "internal/race.Enable", "internal/race.Acquire", "(*internal/sync.Mutex).lockSlow", "internal/sync.runtime_canSpin", "internal/sync.runtime_doSpin", "internal/sync.throw", "internal/sync.runtime_nanotime", "internal/sync.runtime_SemacquireMutex", "sync/atomic.AddInt32", "(*internal/sync.Mutex).Unlock", "internal/race.ReleaseMerge", "(*internal/sync.Mutex).unlockSlow", "internal/sync.fatal", "internal/sync.runtime_Semrelease", "sync/atomic.StoreUint32", "sync/atomic.AddInt64", "internal/abi.NoEscape", "internal/bytealg.MakeNoZero", "internal/bytealg.IndexByte"], unfollowed := true, recurses := true, named := ["vizard/varint.sizes", "vizard/sha.cubes"], apart := false, laid := [("vizard/varint.sizes", laid_vizard_varint_sizes), ("vizard/sha.cubes", laid_vizard_sha_cubes)], narrowed := true }
def ConnHelloUptoSaid : Prop := connHelloUptoRow.holds Tryz.pinned (OpenSpec.upto connHelloSpec)

/-- 'vizardlaw13.ConnWhole', WHERE WHAT IT READS IS OF BULK AT MOST 1048576: true; the input reads as it did. -/
def connWholeUptoRow : OpenClaim := { program := "ytbicfhilehllnaagreatdoor", sum := "3f629fe28a7de1a9cd4641db4afb270e5afcaca6e53b1fe9382ba81aed76cbb7", func := "vizard/vizardlaw13.ConnWhole", spec := "connWhole", inPlace := ["sync/atomic.AddInt64", "sync/atomic.LoadUint32", "(*internal/sync.Mutex).Lock", "internal/race.Disable", "sync/atomic.CompareAndSwapInt32", "internal/race.Enable", "internal/race.Acquire", "(*internal/sync.Mutex).lockSlow", "internal/sync.runtime_canSpin", "internal/sync.runtime_doSpin", "internal/sync.throw", "internal/sync.runtime_nanotime", "internal/sync.runtime_SemacquireMutex", "sync/atomic.AddInt32", "(*internal/sync.Mutex).Unlock", "internal/race.ReleaseMerge", "(*internal/sync.Mutex).unlockSlow", "internal/sync.fatal", "internal/sync.runtime_Semrelease", "sync/atomic.StoreUint32", "internal/abi.NoEscape", "internal/bytealg.MakeNoZero", "internal/bytealg.IndexByte", "slices.overlaps[vizard/api.Range]", "internal/bytealg.Count", "internal/bytealg.Index"], unfollowed := true, recurses := true, named := ["vizard/varint.sizes", "vizard/sha.cubes", "internal/bytealg.MaxLen"], apart := false, laid := [("vizard/varint.sizes", laid_vizard_varint_sizes), ("vizard/sha.cubes", laid_vizard_sha_cubes)], narrowed := true }
def ConnWholeUptoSaid : Prop := connWholeUptoRow.holds Tryz.pinned (OpenSpec.upto connWholeSpec)

/-- 'vizardlaw13.ConnGrams', WHERE WHAT IT READS IS OF BULK AT MOST 1048576: true; the input reads as it did. -/
def connGramsUptoRow : OpenClaim := { program := "ytbicfhilehllnaagreatdoor", sum := "3f629fe28a7de1a9cd4641db4afb270e5afcaca6e53b1fe9382ba81aed76cbb7", func := "vizard/vizardlaw13.ConnGrams", spec := "connGrams", inPlace := ["sync/atomic.AddInt64", "sync/atomic.LoadUint32", "(*internal/sync.Mutex).Lock", "internal/race.Disable", "sync/atomic.CompareAndSwapInt32", "internal/race.Enable", "internal/race.Acquire", "(*internal/sync.Mutex).lockSlow", "internal/sync.runtime_canSpin", "internal/sync.runtime_doSpin", "internal/sync.throw", "internal/sync.runtime_nanotime", "internal/sync.runtime_SemacquireMutex", "sync/atomic.AddInt32", "(*internal/sync.Mutex).Unlock", "internal/race.ReleaseMerge", "(*internal/sync.Mutex).unlockSlow", "internal/sync.fatal", "internal/sync.runtime_Semrelease", "sync/atomic.StoreUint32", "internal/abi.NoEscape", "internal/bytealg.MakeNoZero", "internal/bytealg.IndexByte", "slices.overlaps[vizard/api.Range]", "internal/bytealg.Count", "internal/bytealg.Index"], unfollowed := true, recurses := true, named := ["vizard/varint.sizes", "vizard/sha.cubes", "internal/bytealg.MaxLen"], apart := false, laid := [("vizard/varint.sizes", laid_vizard_varint_sizes), ("vizard/sha.cubes", laid_vizard_sha_cubes)], narrowed := true }
def ConnGramsUptoSaid : Prop := connGramsUptoRow.holds Tryz.pinned (OpenSpec.upto connGramsSpec)

/-- 'vizardlaw13.ConnTwice', WHERE WHAT IT READS IS OF BULK AT MOST 1048576: true; the input reads as it did. -/
def connTwiceUptoRow : OpenClaim := { program := "ytbicfhilehllnaagreatdoor", sum := "3f629fe28a7de1a9cd4641db4afb270e5afcaca6e53b1fe9382ba81aed76cbb7", func := "vizard/vizardlaw13.ConnTwice", spec := "connTwice", inPlace := ["sync/atomic.AddInt64", "sync/atomic.LoadUint32", "(*internal/sync.Mutex).Lock", "internal/race.Disable", "sync/atomic.CompareAndSwapInt32", "internal/race.Enable", "internal/race.Acquire", "(*internal/sync.Mutex).lockSlow", "internal/sync.runtime_canSpin", "internal/sync.runtime_doSpin", "internal/sync.throw", "internal/sync.runtime_nanotime", "internal/sync.runtime_SemacquireMutex", "sync/atomic.AddInt32", "(*internal/sync.Mutex).Unlock", "internal/race.ReleaseMerge", "(*internal/sync.Mutex).unlockSlow", "internal/sync.fatal", "internal/sync.runtime_Semrelease", "sync/atomic.StoreUint32", "internal/abi.NoEscape", "internal/bytealg.MakeNoZero", "internal/bytealg.IndexByte", "slices.overlaps[vizard/api.Range]", "internal/bytealg.Count", "internal/bytealg.Index"], unfollowed := true, recurses := true, named := ["vizard/varint.sizes", "vizard/sha.cubes", "internal/bytealg.MaxLen"], apart := false, laid := [("vizard/varint.sizes", laid_vizard_varint_sizes), ("vizard/sha.cubes", laid_vizard_sha_cubes)], narrowed := true }
def ConnTwiceUptoSaid : Prop := connTwiceUptoRow.holds Tryz.pinned (OpenSpec.upto connTwiceSpec)

/-- 'vizardlaw13.ConnCloses', WHERE WHAT IT READS IS OF BULK AT MOST 1048576: true; the input reads as it did. -/
def connClosesUptoRow : OpenClaim := { program := "ytbicfhilehllnaagreatdoor", sum := "3f629fe28a7de1a9cd4641db4afb270e5afcaca6e53b1fe9382ba81aed76cbb7", func := "vizard/vizardlaw13.ConnCloses", spec := "connCloses", inPlace := ["sync/atomic.AddInt64", "sync/atomic.LoadUint32", "(*internal/sync.Mutex).Lock", "internal/race.Disable", "sync/atomic.CompareAndSwapInt32", "internal/race.Enable", "internal/race.Acquire", "(*internal/sync.Mutex).lockSlow", "internal/sync.runtime_canSpin", "internal/sync.runtime_doSpin", "internal/sync.throw", "internal/sync.runtime_nanotime", "internal/sync.runtime_SemacquireMutex", "sync/atomic.AddInt32", "(*internal/sync.Mutex).Unlock", "internal/race.ReleaseMerge", "(*internal/sync.Mutex).unlockSlow", "internal/sync.fatal", "internal/sync.runtime_Semrelease", "sync/atomic.StoreUint32", "internal/abi.NoEscape", "internal/bytealg.MakeNoZero", "internal/bytealg.IndexByte", "slices.overlaps[vizard/api.Range]", "internal/bytealg.Count", "internal/bytealg.Index"], unfollowed := true, recurses := true, named := ["vizard/varint.sizes", "vizard/sha.cubes", "internal/bytealg.MaxLen"], apart := false, laid := [("vizard/varint.sizes", laid_vizard_varint_sizes), ("vizard/sha.cubes", laid_vizard_sha_cubes)], narrowed := true }
def ConnClosesUptoSaid : Prop := connClosesUptoRow.holds Tryz.pinned (OpenSpec.upto connClosesSpec)

end Rows
end Go.Proofs.YtbicfhilehllnaaGreatDoor
