/-
  Plain facts: a world in which only the blocks named, and new ones, have changed. No condition.
-/
import Derived.Test.YtbicfhilehllnaaGreatDoorShFacts
namespace Go.Proofs.YtbicfhilehllnaaGreatDoor
set_option maxRecDepth 100000
open Go.RowKit
/-- All but the blocks named is as before; new ones may have come. -/
structure Still (F : Nat → Prop) (w w' : World) : Prop where
  os : w'.os = w.os
  tape : w'.tape = w.tape
  output : w'.output = w.output
  size : w.heap.size ≤ w'.heap.size
  block : ∀ k, k < w.heap.size → ¬ F k → w'.heap[k]? = w.heap[k]?
theorem Still.of {w w' : World} (F : Nat → Prop) (h : Below w.heap.size w w') : Still F w w' := ⟨h.os, h.tape, h.output, h.size, fun k hk _ => h.block k hk⟩
theorem Still.below {F : Nat → Prop} {w w' : World} (h : Still F w w') {B : Nat} (hB : B ≤ w.heap.size) (hF : ∀ k, F k → B ≤ k) : Below B w w' :=
  ⟨h.os, h.tape, h.output, h.size, fun k hk => h.block k (by omega) fun hf => by have := hF k hf; omega⟩
end Go.Proofs.YtbicfhilehllnaaGreatDoor
