/-
  Rules in memory: a row as a slice tells it; a rule in a block. No condition.
-/
import Derived.Test.YtndaohiecpdmlaaPoMath
import Derived.Test.YtndaohiecpdmlaaObCells
namespace Go.Proofs.Ytndaohiecpdmlaa
set_option maxRecDepth 100000
open Go.RowKit

/-- Rules where they stand. -/
def RusAt (w : World) (v : Value) (l : List Ru) : Prop :=
  ∃ a cap, v = .slice a l.length cap ∧ l.length ≤ cap ∧ ∀ k, k < l.length → ∃ g o, a = some ⟨g, o, none⟩ ∧ g < w.heap.size ∧ ∀ j, j < 6 → w.cell? ⟨g, o + 6 * k + j, none⟩ = (ruC (l.getD k ru0))[j]?
theorem RusAt.keep {w w' : World} {v : Value} {l : List Ru} (h : RusAt w v l) (b : Below w.heap.size w w') : RusAt w' v l := by
  obtain ⟨a, cap, e, hc, h⟩ := h
  refine ⟨a, cap, e, hc, fun k hk => ?_⟩
  obtain ⟨g, o, ha, hg, c⟩ := h k hk
  exact ⟨g, o, ha, Nat.lt_of_lt_of_le hg b.size, fun j hj => (b.cell hg).trans (c j hj)⟩
theorem RusAt.kept {F : Nat → Prop} {w w' : World} {v : Value} {l : List Ru} (h : RusAt w v l) (b : Kept F w w') (hF : 0 < l.length → ∀ g o n c, v = .slice (some ⟨g, o, none⟩) n c → ¬ F g) : RusAt w' v l := by
  obtain ⟨a, cap, e, hc, h⟩ := h
  refine ⟨a, cap, e, hc, fun k hk => ?_⟩
  obtain ⟨g, o, ha, hg, c⟩ := h k hk
  refine ⟨g, o, ha, Nat.lt_of_lt_of_le hg b.size, fun j hj => ?_⟩
  rw [← c j hj]
  exact World.cell?_of_block (a := ⟨g, o + 6 * k + j, none⟩) (b.block g hg (hF (by omega) g o _ _ (by rw [e, ha])))
/-- The six cells of the rule at a place. -/
theorem RusAt.at {w : World} {v : Value} {l : List Ru} (h : RusAt w v l) {k : Nat} (hk : k < l.length) {r : Ru} (hr : r = l.getD k ru0) :
    ∃ g o cap, v = .slice (some ⟨g, o, none⟩) l.length cap ∧ g < w.heap.size ∧ w.cell? ⟨g, o + 6 * k, none⟩ = some (.bool r.al) ∧ w.cell? ⟨g, o + 6 * k + 1, none⟩ = some (.int .i64 r.pro) ∧ w.cell? ⟨g, o + 6 * k + 2, none⟩ = some (.int .u32 r.ad) ∧
      w.cell? ⟨g, o + 6 * k + 3, none⟩ = some (.int .i64 r.bits) ∧ w.cell? ⟨g, o + 6 * k + 4, none⟩ = some (.int .i64 r.fr) ∧ w.cell? ⟨g, o + 6 * k + 5, none⟩ = some (.int .i64 r.up) := by
  obtain ⟨a, cap, e, _, h⟩ := h
  obtain ⟨g, o, ha, hg, c⟩ := h k hk
  subst hr
  exact ⟨g, o, cap, by rw [e, ha], hg, c 0 (by decide), c 1 (by decide), c 2 (by decide), c 3 (by decide), c 4 (by decide), c 5 (by decide)⟩
theorem at_rus (B o N cap i : Nat) (w : World) (h : i < N) (z : Int) (hz : z = i) (p : Nat) (hp : p = o + 6 * i) :
    (Instr.indexAt 32 (.slice (some ⟨B, o, none⟩) N cap) (.int .i64 z)).run Try.prog w = .ok (.pointer (some ⟨B, p, none⟩)) w := by
  subst hz hp
  have e : Try.prog.elem 32 = 57 := by kernel_rfl
  rw [run_indexAt_slice (P := Try.prog) w 32 ⟨B, o, none⟩ N cap .i64 i (by rw [e]; exact Try.underlying32), if_pos (by omega), e]
  have s : (sizeOf 57).run Try.prog w = .ok 6 w := Try.sizeOf57 w
  rw [s]
  simp [Addr.add_mid, Nat.mul_comm]
/-- A rule in a block. -/
def ruO (r : Ru) : Obj := .cells #[.bool r.al, .int .i64 r.pro, .int .u32 r.ad, .int .i64 r.bits, .int .i64 r.fr, .int .i64 r.up] 57
structure RBox (w : World) (A : Nat) (r : Ru) : Prop where
  lt : A < w.heap.size
  c0 : w.cell? ⟨A, 0, none⟩ = some (.bool r.al)
  c1 : w.cell? ⟨A, 1, none⟩ = some (.int .i64 r.pro)
  c2 : w.cell? ⟨A, 2, none⟩ = some (.int .u32 r.ad)
  c3 : w.cell? ⟨A, 3, none⟩ = some (.int .i64 r.bits)
  c4 : w.cell? ⟨A, 4, none⟩ = some (.int .i64 r.fr)
  c5 : w.cell? ⟨A, 5, none⟩ = some (.int .i64 r.up)
theorem RBox.new (w : World) (r : Ru) : RBox (w.alloc (ruO r)) w.heap.size r := by
  refine ⟨by simp, ?_, ?_, ?_, ?_, ?_, ?_⟩ <;> rw [ruO, World.cell?_alloc_new] <;> rfl
theorem RBox.keep {w w' : World} {A B : Nat} {r : Ru} (h : RBox w A r) (hA : A < B) (k : Below B w w') : RBox w' A r :=
  ⟨Nat.lt_of_lt_of_le h.lt k.size, (k.cell hA).trans h.c0, (k.cell hA).trans h.c1, (k.cell hA).trans h.c2, (k.cell hA).trans h.c3, (k.cell hA).trans h.c4, (k.cell hA).trans h.c5⟩
end Go.Proofs.Ytndaohiecpdmlaa
