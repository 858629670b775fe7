/-
  Rows of entries: several from a block that is made for them; a new row of some. No condition but how many there are.
-/
import Derived.Test.YtndaohiecpdmlaaObRow
namespace Go.Proofs.Ytndaohiecpdmlaa
set_option maxRecDepth 100000
open Go.RowKit

section
variable {X : Type} {K : RowK X}
/-- Entries, in a block that was made for them. -/
theorem row_lit (hK : K.Ok) (w : World) (m : List X) (t : TypeId) : RowAt K.n K.cells K.x0 (w.alloc (.cells (m.flatMap K.cells).toArray t)) (.slice (some ⟨w.heap.size, 0, none⟩) m.length m.length) m := by
  refine ⟨_, m.length, rfl, Nat.le_refl _, fun k hk => ⟨w.heap.size, 0, rfl, by simp, fun j hj => ?_⟩⟩
  rw [World.cell?_alloc_new, ← flat_get hK.len m k j hk hj]
  simp
/-- A new row of some entries. -/
theorem OwnK.lit (hK : K.Ok) (w : World) (m : List X) (hm : m.length ≤ maxLen) : OwnK K (w.alloc (.cells (m.flatMap K.cells).toArray K.e)) w.heap.size (.slice (some ⟨w.heap.size, 0, none⟩) m.length m.length) m := by
  have hl := flat_len hK.len m
  refine ⟨hl, .inr ⟨w.heap.size, m.length, (m.flatMap K.cells).toArray, rfl, Nat.le_refl _, ?_, Nat.le_refl _, hm, by simpa using hl, ?_⟩⟩
  · show (w.heap.push _)[w.heap.size]? = _
    simp
  · rw [List.take_of_length_le (by simp [hl])]
/-- Onto a row of one's own: some entries, from a block that is made for them. -/
theorem OwnK.snocs (hK : K.Ok) {w : World} {base : Nat} {v : Value} {d : List X} (h : OwnK K w base v d) (hb : base ≤ w.heap.size) (m : List X) (t ty : TypeId) (hd : (d.length + m.length) * K.bytes ≤ 140737488355328) (hd2 : d.length + m.length ≤ maxLen) :
    ∃ a c w', (∀ z, (builtin .append #[K.st, K.st] ty z #[v, .slice (some ⟨w.heap.size, 0, none⟩) m.length m.length]).run Try.prog (w.alloc (.cells (m.flatMap K.cells).toArray t)) = .ok (.value (.slice a (d.length + m.length) c)) w') ∧ OwnK K w' base (.slice a (d.length + m.length) c) (d ++ m) ∧ ∀ w0, Below base w0 w → Below base w0 w' := by
  have b1 : Below w.heap.size w (w.alloc (.cells (m.flatMap K.cells).toArray t)) := (Below.refl _ _).alloc (Nat.le_refl _) _
  obtain ⟨v5, w5, hap, O5, g5, -, -⟩ := (h.keep b1).cat hK (Nat.le_trans hb b1.size) (row_lit hK w m t) hd hd2 ty
  obtain ⟨a, c, e⟩ := O5.slice
  rw [List.length_append] at e
  subst e
  refine ⟨a, c, w5, hap, O5, fun w0 b0 => ?_⟩
  have b2 : Below base w0 (w.alloc (.cells (m.flatMap K.cells).toArray t)) := b0.alloc hb _
  refine ⟨g5.os.trans b2.os, g5.tape.trans b2.tape, g5.output.trans b2.output, Nat.le_trans b2.size g5.size, fun k hk => ?_⟩
  have hk2 : k < (w.alloc (.cells (m.flatMap K.cells).toArray t)).heap.size := by
    have := b1.size
    omega
  exact (g5.block k hk2 (by
    intro q
    have := (h.lt k q.symm).1
    omega)).trans (b2.block k hk)
end
end Go.Proofs.Ytndaohiecpdmlaa
