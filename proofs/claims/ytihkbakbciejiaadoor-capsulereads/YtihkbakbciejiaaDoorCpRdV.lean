/-
  What the law CapsuleReads answers, of a capsule that is handed in. The table of sizes lies as the row's list gives it; no condition but the form's own reach.
-/
import Derived.Test.YtihkbakbciejiaaDoorCpRd
namespace Go.Proofs.YtihkbakbciejiaaDoor
set_option maxRecDepth 100000
open Go.RowKit
theorem reads16_v (a : Option Addr) (n cap : Nat) (g : Nat → ByteArray) (q : Int × ByteArray) (v : Value) (w : World) (t : VTab w) (hv : v = .agg #[.int .i64 q.1, .string q.2]) (hd : q.2.size ≤ 4611686018427387000) (hS : ∀ i, i < n → ∃ b off, a = some ⟨b, off, none⟩ ∧ w.cell? ⟨b, off + i, none⟩ = some (.string (g i))) :
    Calls Tryd.prog 3 #[.slice a n cap, v] w fun e w' => e = .returned (.bool true) ∧ Below w.heap.size w w' := by
  subst hv
  exact reads16_ok a n cap g q.1 q.2 w t hd hS
end Go.Proofs.YtihkbakbciejiaaDoor
