/-
  Plain facts on addresses and prefixes: how many addresses a prefix has, and which prefixes are right. No condition.
-/
import Derived.Test.YtndaohiecpdmlaaRows
import Derived.WalkKit
import Derived.Laws.BytesArg
import Derived.Laws.BitsAllLaws
import Derived.WalkSpells
import Derived.WalkLawsBesides
import Derived.Handy
import Derived.BigQuiet
namespace Go.Proofs.Ytndaohiecpdmlaa
open Go.RowKit

/-- How many addresses a prefix of so many bits has. -/
def sz (b : Int) : Int := 2 ^ (32 - b.toNat)
theorem sz_pos (b : Int) : 0 < sz b := by
  unfold sz
  exact Int.pow_pos (by decide)
theorem bits_cases (b : Int) (h0 : 0 ≤ b) (h : b ≤ 32) : b = 0 ∨ b = 1 ∨ b = 2 ∨ b = 3 ∨ b = 4 ∨ b = 5 ∨ b = 6 ∨ b = 7 ∨ b = 8 ∨ b = 9 ∨ b = 10 ∨ b = 11 ∨ b = 12 ∨ b = 13 ∨ b = 14 ∨ b = 15 ∨ b = 16 ∨ b = 17 ∨ b = 18 ∨ b = 19 ∨ b = 20 ∨ b = 21 ∨ b = 22 ∨ b = 23 ∨ b = 24 ∨ b = 25 ∨ b = 26 ∨ b = 27 ∨ b = 28 ∨ b = 29 ∨ b = 30 ∨ b = 31 ∨ b = 32 := by omega
theorem sz_le (b : Int) (h0 : 0 ≤ b) (h : b ≤ 32) : sz b ≤ 4294967296 := by
  rcases bits_cases b h0 h with rfl | rfl | rfl | rfl | rfl | rfl | rfl | rfl | rfl | rfl | rfl | rfl | rfl | rfl | rfl | rfl | rfl | rfl | rfl | rfl | rfl | rfl | rfl | rfl | rfl | rfl | rfl | rfl | rfl | rfl | rfl | rfl | rfl <;> decide
/-- Whether a prefix is right. -/
def rt (addr bits : Int) : Bool := decide (0 ≤ bits ∧ bits ≤ 32 ∧ addr % sz bits = 0)
/-- Whether an address is in a prefix. -/
def inP (addr bits a : Int) : Bool := rt addr bits && decide (addr ≤ a) && decide (a < addr + sz bits)
theorem rt_bits {addr bits : Int} (h : rt addr bits = true) : 0 ≤ bits ∧ bits ≤ 32 ∧ addr % sz bits = 0 := by
  simpa [rt] using h
/-- A prefix as the program holds it. -/
def pv (addr bits : Int) : Value := .agg #[.int .u32 addr, .int .i64 bits]
/-- A prefix in a block. -/
structure PBox (w : World) (A : Nat) (addr bits : Int) : Prop where
  lt : A < w.heap.size
  c0 : w.cell? ⟨A, 0, none⟩ = some (.int .u32 addr)
  c1 : w.cell? ⟨A, 1, none⟩ = some (.int .i64 bits)
theorem PBox.keep {w w' : World} {A B : Nat} {addr bits : Int} (h : PBox w A addr bits) (hA : A < B) (k : Below B w w') : PBox w' A addr bits :=
  ⟨Nat.lt_of_lt_of_le h.lt k.size, (k.cell hA).trans h.c0, (k.cell hA).trans h.c1⟩
theorem pbox_new (w : World) (addr bits : Int) : PBox (w.alloc (.cells #[.int .u32 addr, .int .i64 bits] 55)) w.heap.size addr bits := by
  refine ⟨by simp, ?_, ?_⟩ <;> rw [World.cell?_alloc_new] <;> rfl
end Go.Proofs.Ytndaohiecpdmlaa
