/-
  All that the laws ask of the program's tunnels: whether they may be opened. No condition.
-/
import Derived.Test.YtndaohiecpdmlaaGreatTuFace
import Derived.Test.YtndaohiecpdmlaaGreatTuOpn
namespace Go.Proofs.YtndaohiecpdmlaaGreat
set_option maxRecDepth 100000
open Go.RowKit

structure TuOpenF : Prop where
  opn : ∀ (T : Tu) (v : Value) (w : World), RusAt w v T.rules → TuB T → (T.rt = true ↔ anyR T.rules) →
    Calls Tryz.prog 9 #[tuV T v] w fun e w' => e = .returned (.int .i64 (openE T)) ∧ Below w.heap.size w w'
theorem some_rt : ∃ rt : List Ru → Bool, ∀ l, rt l = true ↔ anyR l := ⟨fun l => @decide (anyR l) (Classical.propDecidable _), fun l => by simp⟩
end Go.Proofs.YtndaohiecpdmlaaGreat
