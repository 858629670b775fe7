/-
  H3Reads: the document's Feed as the law asks it; strings that are handed in. No condition.
-/
import Derived.Test.YtnngdlleicjegaaDoorH3Feed
import Derived.Test.YtnngdlleicjegaaDoorH3Rd
import Derived.Test.YtnngdlleicjegaaDoorShOpen
namespace Go.Proofs.YtnngdlleicjegaaDoor
set_option maxRecDepth 100000
open Go.RowKit
theorem rfeed15 : RFeed := fun w R r t h1 h2 h3 => rfeed_ok w R r t h1 h2 h3
theorem strs_at {w : World} {a : Option Addr} {n : Nat} {f : Nat → ByteArray} (h : Strs w a n f) : ∀ i, i < n → ∃ b off, a = some ⟨b, off, none⟩ ∧ w.cell? ⟨b, off + i, none⟩ = some (.string (f i)) := fun i hi => by
  rcases h with h | ⟨b, off, e, -, h⟩
  · omega
  · exact ⟨b, off, e, h i hi⟩
end Go.Proofs.YtnngdlleicjegaaDoor
