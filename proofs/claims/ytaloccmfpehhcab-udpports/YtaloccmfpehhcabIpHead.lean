/-
  A header in a block; bytes that are stored anew. No condition.
-/
import Derived.Test.YtaloccmfpehhcabIpSum
import Derived.Deep.RegionWith
namespace Go.Proofs.Ytaloccmfpehhcab
open Go.RowKit
def upd (f : Nat → Int) (k : Nat) (v : Int) : Nat → Int := fun i => if i = k then v else f i
/-- A header as the program holds it. -/
def hv (tos id frag ttl proto src dst : Int) (data : ByteArray) : Value :=
  .agg #[.int .i64 tos, .int .i64 id, .int .i64 frag, .int .i64 ttl, .int .i64 proto, .int .u32 src, .int .u32 dst, .string data]
/-- A header in a block. -/
structure Box (w : World) (A : Nat) (tos id frag ttl proto src dst : Int) (data : ByteArray) : Prop where
  lt : A < w.heap.size
  c0 : w.cell? ⟨A, 0, none⟩ = some (.int .i64 tos)
  c1 : w.cell? ⟨A, 1, none⟩ = some (.int .i64 id)
  c2 : w.cell? ⟨A, 2, none⟩ = some (.int .i64 frag)
  c3 : w.cell? ⟨A, 3, none⟩ = some (.int .i64 ttl)
  c4 : w.cell? ⟨A, 4, none⟩ = some (.int .i64 proto)
  c5 : w.cell? ⟨A, 5, none⟩ = some (.int .u32 src)
  c6 : w.cell? ⟨A, 6, none⟩ = some (.int .u32 dst)
  c7 : w.cell? ⟨A, 7, none⟩ = some (.string data)
theorem Box.keep {w w' : World} {A B : Nat} {tos id frag ttl proto src dst : Int} {data : ByteArray} (h : Box w A tos id frag ttl proto src dst data) (hA : A < B) (k : Below B w w') : Box w' A tos id frag ttl proto src dst data :=
  ⟨Nat.lt_of_lt_of_le h.lt k.size, (k.cell hA).trans h.c0, (k.cell hA).trans h.c1, (k.cell hA).trans h.c2, (k.cell hA).trans h.c3, (k.cell hA).trans h.c4, (k.cell hA).trans h.c5, (k.cell hA).trans h.c6, (k.cell hA).trans h.c7⟩
theorem box_new (w : World) (tos id frag ttl proto src dst : Int) (data : ByteArray) :
    Box (w.alloc (.cells #[.int .i64 tos, .int .i64 id, .int .i64 frag, .int .i64 ttl, .int .i64 proto, .int .u32 src, .int .u32 dst, .string data] 24)) w.heap.size tos id frag ttl proto src dst data := by
  refine ⟨by simp, ?_, ?_, ?_, ?_, ?_, ?_, ?_, ?_⟩ <;> rw [World.cell?_alloc_new] <;> rfl
theorem below_set2 (w : World) (B i j : Nat) (v v' : Value) (o : Obj) (h : B < w.heap.size) : Below B w (((w.setCell ⟨B, i, none⟩ v).setCell ⟨B, j, none⟩ v').alloc o) :=
  Below.alloc (((Below.refl B w).setCell (p := ⟨B, i, none⟩) (Nat.le_refl B) v).setCell (p := ⟨B, j, none⟩) (Nat.le_refl B) v') (by simpa [World.setCell] using Nat.le_of_lt h) o
end Go.Proofs.Ytaloccmfpehhcab
