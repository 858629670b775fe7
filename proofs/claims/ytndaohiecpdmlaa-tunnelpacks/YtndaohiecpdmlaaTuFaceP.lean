/-
  All that the laws ask of the program's emissions as bytes. No condition.
-/
import Derived.Test.YtndaohiecpdmlaaTuFace
namespace Go.Proofs.Ytndaohiecpdmlaa
set_option maxRecDepth 100000
open Go.RowKit

structure TuFaceP : Prop where
  pk : ∀ (m : Em) (w : World), EmB m → Calls Try.prog 6 #[emV m] w fun e w' => e = .returned (.string (pkS m)) ∧ Below w.heap.size w w'
  upk : ∀ (s : ByteArray) (w : World), s.size ≤ 140737488351250 → Calls Try.prog 7 #[.string s] w fun e w' => e = .returned (.tuple #[emV (upkM s), .int .i64 (upkE s)]) ∧ Below w.heap.size w w'
end Go.Proofs.Ytndaohiecpdmlaa
