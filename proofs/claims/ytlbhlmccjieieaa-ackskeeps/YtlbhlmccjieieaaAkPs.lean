/-
  The program's set, and the blocks in which it lies. No condition.
-/
import Derived.Test.YtlbhlmccjieieaaAkAdd
namespace Go.Proofs.Ytlbhlmccjieieaa
set_option maxRecDepth 100000
open Go.RowKit Go.Sort

/-- The program's set, and the blocks in which it lies. -/
def PS (w : World) (B : Nat) (F : Nat → Prop) (l : List Rg) : Prop := ∃ o, SB w B o l ∧ o ≠ some B ∧ (∀ k, F k ↔ k = B ∨ o = some k)
theorem SB.lt {w : World} {B : Nat} {o : Option Nat} {l : List Rg} (h : SB w B o l) : B < w.heap.size ∧ ∀ k, o = some k → k < w.heap.size := by
  obtain ⟨sv, h1, h2, rfl⟩ := h
  exact ⟨h1.lt (by show 0 < 1; decide), fun k hk => (h2.lt k hk).2⟩
theorem SB.keep {w w' : World} {B : Nat} {o : Option Nat} {l : List Rg} (h : SB w B o l) (e : w'.heap[B]? = w.heap[B]?) (e2 : ∀ k, o = some k → w'.heap[k]? = w.heap[k]?) : SB w' B o l := by
  obtain ⟨sv, h1, h2, rfl⟩ := h
  exact ⟨sv, h1.of_block e, rows_block h2 e2, rfl⟩
theorem PS.lt {w : World} {B : Nat} {F : Nat → Prop} {l : List Rg} (h : PS w B F l) : ∀ k, F k → k < w.heap.size := fun k hk => by
  obtain ⟨o, h1, -, h2⟩ := h
  rcases (h2 k).1 hk with rfl | q
  · exact h1.lt.1
  · exact h1.lt.2 k q
theorem PS.keep {w w' : World} {B : Nat} {F : Nat → Prop} {l : List Rg} (h : PS w B F l) (e : ∀ k, F k → w'.heap[k]? = w.heap[k]?) : PS w' B F l := by
  obtain ⟨o, h1, h3, h2⟩ := h
  exact ⟨o, h1.keep (e B ((h2 B).2 (.inl rfl))) (fun k hk => e k ((h2 k).2 (.inr hk))), h3, h2⟩
/-- What Ranges hands out: nothing, or a row of its own. -/
def Out (w : World) (base : Nat) (v : Value) (l : List Rg) : Prop := (l = [] ∧ ∃ a cap, v = .slice a 0 cap) ∨ w.ownsRow base 38 2 v l.length (rgs l)
end Go.Proofs.Ytlbhlmccjieieaa
