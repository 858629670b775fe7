/-
  Plain facts: cells that lie in a block from its beginning, and may be written; a world in which only the blocks named, and new ones, have changed. No condition.
-/
import Derived.Test.YtndaohiecpdmlaaChecked
import Derived.WalkSpells
import Derived.WalkLawsBesides
import Derived.Handy
import Derived.ProofKit
import Derived.Deep.MidRow
import Derived.Lib.Hide
namespace Go.Proofs.Ytndaohiecpdmlaa
set_option maxRecDepth 100000
open Go.RowKit

/-- Cells that lie in a block from its beginning, and may be written. -/
structure Lies (w : World) (B : Nat) (vs : List Value) : Prop where
  r : w.rangeAt B 0 vs
  t : w.there B 0 vs.length
theorem Lies.cell {w : World} {B : Nat} {vs : List Value} (h : Lies w B vs) (j : Nat) {v : Value} (hv : vs[j]? = some v) : w.cell? ⟨B, j, none⟩ = some v := by
  have := h.r j v hv
  rwa [Nat.zero_add] at this
theorem Lies.free {w : World} {B : Nat} {vs : List Value} (h : Lies w B vs) (j : Nat) (hj : j < vs.length) : w.frozen? ⟨B, j, none⟩ = false := by
  have := (h.t j hj).2
  rwa [Nat.zero_add] at this
theorem Lies.of_block {w w' : World} {B : Nat} {vs : List Value} (h : Lies w B vs) (e : w'.heap[B]? = w.heap[B]?) : Lies w' B vs :=
  ⟨fun j v hv => (World.cell?_of_block (w := w) (a := ⟨B, 0 + j, none⟩) e).trans (h.r j v hv), fun j hj => by
    rw [World.cell?_of_block (w := w) (a := ⟨B, 0 + j, none⟩) e, World.frozen?_of_block (w := w) (a := ⟨B, 0 + j, none⟩) e]
    exact h.t j hj⟩
theorem Lies.put {w : World} {B : Nat} {vs : List Value} (h : Lies w B vs) (i : Nat) (hi : i < vs.length) (x : Value) : Lies (w.setCell ⟨B, i, none⟩ x) B (vs.set i x) := by
  have hc : w.cell? ⟨B, i, none⟩ = some vs[i] := h.cell i (List.getElem?_eq_getElem hi)
  refine ⟨fun j v hv => ?_, fun j hj => ?_⟩
  · rw [Nat.zero_add]
    by_cases e : i = j
    · subst e
      rw [World.cell?_setCell_same _ _ _ hc]
      rw [List.getElem?_set_self hi] at hv
      exact hv
    · rw [World.cell?_setCell_other _ _ _ _ (by intro q; injection q with _ q; exact e q)]
      rw [List.getElem?_set_ne e] at hv
      exact h.cell j hv
  · rw [List.length_set] at hj
    rw [Nat.zero_add]
    refine ⟨?_, by rw [World.frozen?_setCell]; exact h.free j hj⟩
    by_cases e : i = j
    · subst e
      rw [World.cell?_setCell_same _ _ _ hc]; rfl
    · rw [World.cell?_setCell_other _ _ _ _ (by intro q; injection q with _ q; exact e q), h.cell j (List.getElem?_eq_getElem hj)]
      rfl
theorem Lies.lt {w : World} {B : Nat} {vs : List Value} (h : Lies w B vs) (hl : 0 < vs.length) : B < w.heap.size := World.block_lt_of_cell? w _ (h.cell 0 (List.getElem?_eq_getElem hl))
theorem Lies.keep {w w' : World} {B : Nat} {vs : List Value} (h : Lies w B vs) (hl : 0 < vs.length) (b : Below w.heap.size w w') : Lies w' B vs := h.of_block (b.block B (h.lt hl))
theorem Lies.new (w : World) (vs : List Value) (t : TypeId) : Lies (w.alloc (.cells vs.toArray t)) w.heap.size vs := by
  refine ⟨fun j v hv => ?_, fun j hj => ⟨?_, by simp⟩⟩
  · rw [Nat.zero_add, World.cell?_alloc_new]
    simpa using hv
  · rw [Nat.zero_add, World.cell?_alloc_new]
    simp [hj]
/-- All but the blocks named is as before; new ones may have come. -/
structure Kept (F : Nat → Prop) (w w' : World) : Prop where
  os : w'.os = w.os
  tape : w'.tape = w.tape
  output : w'.output = w.output
  size : w.heap.size ≤ w'.heap.size
  block : ∀ k, k < w.heap.size → ¬ F k → w'.heap[k]? = w.heap[k]?
theorem Kept.of {w w' : World} (F : Nat → Prop) (h : Below w.heap.size w w') : Kept F w w' := ⟨h.os, h.tape, h.output, h.size, fun k hk _ => h.block k hk⟩
theorem Kept.below {F : Nat → Prop} {w w' : World} (h : Kept F w w') {B : Nat} (hB : B ≤ w.heap.size) (hF : ∀ k, F k → B ≤ k) : Below B w w' :=
  ⟨h.os, h.tape, h.output, h.size, fun k hk => h.block k (by omega) fun hf => by have := hF k hf; omega⟩
theorem Kept.refl (F : Nat → Prop) (w : World) : Kept F w w := ⟨rfl, rfl, rfl, Nat.le_refl _, fun _ _ _ => rfl⟩
theorem Kept.trans {F : Nat → Prop} {a b c : World} (h : Kept F a b) (g : Kept F b c) : Kept F a c :=
  ⟨g.os.trans h.os, g.tape.trans h.tape, g.output.trans h.output, Nat.le_trans h.size g.size, fun k hk hf => (g.block k (Nat.lt_of_lt_of_le hk h.size) hf).trans (h.block k hk hf)⟩
theorem Kept.add {F : Nat → Prop} {a b c : World} (h : Kept F a b) (g : Below b.heap.size b c) : Kept F a c := h.trans (.of F g)
theorem Kept.mono {F G : Nat → Prop} {a b : World} (h : Kept F a b) (g : ∀ k, k < a.heap.size → F k → G k) : Kept G a b := ⟨h.os, h.tape, h.output, h.size, fun k hk hf => h.block k hk fun q => hf (g k hk q)⟩
theorem Kept.set {F : Nat → Prop} {a b : World} (h : Kept F a b) (p : Addr) (hp : F p.block) (v : Value) : Kept F a (b.setCell p v) :=
  ⟨h.os, h.tape, h.output, by simpa using h.size, fun k hk hf => (Below.heap_setCell _ _ _ _ (by intro e; exact hf (e ▸ hp))).trans (h.block k hk hf)⟩
theorem Kept.drew {F : Nat → Prop} {a b : World} (h : Kept F a b) : Kept F a b.drew := ⟨h.os, h.tape, h.output, h.size, h.block⟩
theorem Kept.grown {F : Nat → Prop} {a b c : World} {row : Option Nat} (h : Kept F a b) (g : b.grownBy c row) (hr : ∀ k, row = some k → k < a.heap.size → F k) : Kept F a c :=
  ⟨g.os.trans h.os, g.tape.trans h.tape, g.output.trans h.output, Nat.le_trans h.size g.size, fun k hk hf => (g.block k (Nat.lt_of_lt_of_le hk h.size) (by intro e; exact hf (hr k e.symm hk))).trans (h.block k hk hf)⟩
theorem drewB (B : Nat) (w : World) : Below B w w.drew := ⟨rfl, rfl, rfl, Nat.le_refl _, fun _ _ => rfl⟩
end Go.Proofs.Ytndaohiecpdmlaa
