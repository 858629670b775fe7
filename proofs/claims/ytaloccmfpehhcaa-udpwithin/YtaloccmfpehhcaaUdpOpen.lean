/-
  A datagram that is handed in, as the program holds it: five fields of one cell each. No condition.
-/
import Derived.Test.YtaloccmfpehhcaaIpOpen
namespace Go.Proofs.Ytaloccmfpehhcaa
open Go.ChangeShapes Go.WideShapes Go.ChangeAt Go.RowKit
theorem cellsGram : Try.prog.cellsOf 24 = 5 := by kernel_rfl
theorem array5 {α : Type} {cs : Array α} (h : cs.size = 5) : ∃ c0 c1 c2 c3 c4, cs = #[c0, c1, c2, c3, c4] := by
  obtain ⟨l⟩ := cs
  match l, h with
  | [c0, c1, c2, c3, c4], _ => exact ⟨c0, c1, c2, c3, c4, rfl⟩
/-- A datagram as the program holds it. -/
def gv (src dst fr to : Int) (data : ByteArray) : Value := .agg #[.int .u32 src, .int .u32 dst, .int .i64 fr, .int .i64 to, .string data]
theorem open_gram {H : Type} {enc : TypeId × Value → H} {W : World} {base : Nat} {v : Value} {d : DataW H} {p : List MemPlace} (hv' : Value.okWide Try.prog W .any base 24 v)
    (h : DataW.Trod enc Try.prog W 0 (fun _ => true) true 24 v d p) :
    ∃ (src dst fr to : Int) (data : ByteArray), v = gv src dst fr to data ∧ 0 ≤ src ∧ src < 4294967296 ∧ 0 ≤ dst ∧ dst < 4294967296 ∧ data.size ≤ 9223372036854775807 := by
  obtain ⟨cs, rfl, hsz⟩ := okWide_struct Try.underlying24 hv'
  obtain ⟨c0, c1, c2, c3, c4, rfl⟩ := array5 (hsz.trans cellsGram)
  obtain ⟨fuel, hf⟩ := h
  obtain ⟨xs, n, _, _, _, hlen, hg⟩ := DataW.trod_struct Try.underlying24 hf
  have hl5 : xs.length = 5 := hlen
  have g0 := hg 0 _ rfl
  obtain ⟨y0, e0⟩ := some_of hl5 (i := 0) (by decide)
  rw [e0] at g0
  obtain ⟨src, q0, _, w0⟩ := DataW.trod_int Try.underlying22 g0
  simp [Value.cells, cells_uint32] at q0
  have g1 := hg 1 _ rfl
  obtain ⟨y1, e1⟩ := some_of hl5 (i := 1) (by decide)
  rw [e1] at g1
  obtain ⟨dst, q1, _, w1⟩ := DataW.trod_int Try.underlying22 g1
  simp [Value.cells, cells_uint32] at q1
  have g2 := hg 2 _ rfl
  obtain ⟨y2, e2⟩ := some_of hl5 (i := 2) (by decide)
  rw [e2] at g2
  obtain ⟨fr, q2, _, w2⟩ := DataW.trod_int Try.underlying3 g2
  simp [Value.cells, cells_int] at q2
  have g3 := hg 3 _ rfl
  obtain ⟨y3, e3⟩ := some_of hl5 (i := 3) (by decide)
  rw [e3] at g3
  obtain ⟨to, q3, _, w3⟩ := DataW.trod_int Try.underlying3 g3
  simp [Value.cells, cells_int] at q3
  have g4 := hg 4 _ rfl
  obtain ⟨y4, e4⟩ := some_of hl5 (i := 4) (by decide)
  rw [e4] at g4
  obtain ⟨data, q4, _, w4⟩ := DataW.trod_string Try.underlying9 g4
  simp [Value.cells, cells_string] at q4
  subst q0 q1 q2 q3 q4
  have b0 := bounds_u32 w0
  have b1 := bounds_u32 w1
  exact ⟨src, dst, fr, to, data, rfl, b0.1, by omega, b1.1, by omega, w4⟩
/-- A datagram in a block. -/
structure GBox (w : World) (A : Nat) (src dst fr to : Int) (data : ByteArray) : Prop where
  lt : A < w.heap.size
  c0 : w.cell? ⟨A, 0, none⟩ = some (.int .u32 src)
  c1 : w.cell? ⟨A, 1, none⟩ = some (.int .u32 dst)
  c2 : w.cell? ⟨A, 2, none⟩ = some (.int .i64 fr)
  c3 : w.cell? ⟨A, 3, none⟩ = some (.int .i64 to)
  c4 : w.cell? ⟨A, 4, none⟩ = some (.string data)
theorem GBox.keep {w w' : World} {A B : Nat} {src dst fr to : Int} {data : ByteArray} (h : GBox w A src dst fr to data) (hA : A < B) (k : Below B w w') : GBox w' A src dst fr to data :=
  ⟨Nat.lt_of_lt_of_le h.lt k.size, (k.cell hA).trans h.c0, (k.cell hA).trans h.c1, (k.cell hA).trans h.c2, (k.cell hA).trans h.c3, (k.cell hA).trans h.c4⟩
theorem gbox_new (w : World) (src dst fr to : Int) (data : ByteArray) :
    GBox (w.alloc (.cells #[.int .u32 src, .int .u32 dst, .int .i64 fr, .int .i64 to, .string data] 24)) w.heap.size src dst fr to data := by
  refine ⟨by simp, ?_, ?_, ?_, ?_, ?_⟩ <;> rw [World.cell?_alloc_new] <;> rfl
end Go.Proofs.Ytaloccmfpehhcaa
