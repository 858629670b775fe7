/-
  A header that is handed in, as the program holds it: eight fields of one cell each. No condition.
-/
import Derived.Test.YtaloccmfpehhcabIpHead
import Derived.ProofKit
import Derived.OpenShut
import Derived.ShutString
import Derived.Deep.DeepHandedRow
import Derived.Deep.Fields
namespace Go.Proofs.Ytaloccmfpehhcab
open Go.ChangeShapes Go.WideShapes Go.ChangeAt Go.RowKit
theorem own : ownKnob Try.prog.godebug = none := by kernel_rfl
theorem laidOut : laidOutB Try.prog = true := by kernel_rfl
theorem cellsHdr : Try.prog.cellsOf 24 = 8 := by kernel_rfl
theorem cells_int : Try.prog.cellsOf 3 = 1 := by kernel_rfl
theorem cells_uint32 : Try.prog.cellsOf 22 = 1 := by kernel_rfl
theorem cells_string : Try.prog.cellsOf 9 = 1 := by kernel_rfl
/-- A world for the witness: the settled one. -/
def startWorld (P : Program) (os : Os) : World := World.holding P os ⟨#[], #[], []⟩
theorem array8 {α : Type} {cs : Array α} (h : cs.size = 8) : ∃ c0 c1 c2 c3 c4 c5 c6 c7, cs = #[c0, c1, c2, c3, c4, c5, c6, c7] := by
  obtain ⟨l⟩ := cs
  match l, h with
  | [c0, c1, c2, c3, c4, c5, c6, c7], _ => exact ⟨c0, c1, c2, c3, c4, c5, c6, c7, rfl⟩
theorem some_of {α : Type} {l : List α} {n i : Nat} (hl : l.length = n) (hi : i < n) : ∃ y, l[i]? = some y := ⟨l[i], List.getElem?_eq_getElem (by omega)⟩
theorem open_hdr {H : Type} {enc : TypeId × Value → H} {W : World} {base : Nat} {v : Value} {d : DataW H} {p : List MemPlace} (hv' : Value.okWide Try.prog W .any base 24 v)
    (h : DataW.Trod enc Try.prog W 0 (fun _ => true) true 24 v d p) :
    ∃ (tos id frag ttl proto src dst : Int) (data : ByteArray), v = hv tos id frag ttl proto src dst data ∧ 0 ≤ src ∧ src < 4294967296 ∧ 0 ≤ dst ∧ dst < 4294967296 ∧ data.size ≤ 9223372036854775807 := by
  obtain ⟨cs, rfl, hsz⟩ := okWide_struct Try.underlying24 hv'
  obtain ⟨c0, c1, c2, c3, c4, c5, c6, c7, rfl⟩ := array8 (hsz.trans cellsHdr)
  obtain ⟨fuel, hf⟩ := h
  obtain ⟨xs, n, _, _, _, hlen, hg⟩ := DataW.trod_struct Try.underlying24 hf
  have hl8 : xs.length = 8 := hlen
  have g0 := hg 0 _ rfl
  obtain ⟨y0, e0⟩ := some_of hl8 (i := 0) (by decide)
  rw [e0] at g0
  obtain ⟨tos, q0, _, w0⟩ := DataW.trod_int Try.underlying3 g0
  simp [Value.cells, cells_int] at q0
  have g1 := hg 1 _ rfl
  obtain ⟨y1, e1⟩ := some_of hl8 (i := 1) (by decide)
  rw [e1] at g1
  obtain ⟨id, q1, _, w1⟩ := DataW.trod_int Try.underlying3 g1
  simp [Value.cells, cells_int] at q1
  have g2 := hg 2 _ rfl
  obtain ⟨y2, e2⟩ := some_of hl8 (i := 2) (by decide)
  rw [e2] at g2
  obtain ⟨frag, q2, _, w2⟩ := DataW.trod_int Try.underlying3 g2
  simp [Value.cells, cells_int] at q2
  have g3 := hg 3 _ rfl
  obtain ⟨y3, e3⟩ := some_of hl8 (i := 3) (by decide)
  rw [e3] at g3
  obtain ⟨ttl, q3, _, w3⟩ := DataW.trod_int Try.underlying3 g3
  simp [Value.cells, cells_int] at q3
  have g4 := hg 4 _ rfl
  obtain ⟨y4, e4⟩ := some_of hl8 (i := 4) (by decide)
  rw [e4] at g4
  obtain ⟨proto, q4, _, w4⟩ := DataW.trod_int Try.underlying3 g4
  simp [Value.cells, cells_int] at q4
  have g5 := hg 5 _ rfl
  obtain ⟨y5, e5⟩ := some_of hl8 (i := 5) (by decide)
  rw [e5] at g5
  obtain ⟨src, q5, _, w5⟩ := DataW.trod_int Try.underlying22 g5
  simp [Value.cells, cells_uint32] at q5
  have g6 := hg 6 _ rfl
  obtain ⟨y6, e6⟩ := some_of hl8 (i := 6) (by decide)
  rw [e6] at g6
  obtain ⟨dst, q6, _, w6⟩ := DataW.trod_int Try.underlying22 g6
  simp [Value.cells, cells_uint32] at q6
  have g7 := hg 7 _ rfl
  obtain ⟨y7, e7⟩ := some_of hl8 (i := 7) (by decide)
  rw [e7] at g7
  obtain ⟨data, q7, _, w7⟩ := DataW.trod_string Try.underlying9 g7
  simp [Value.cells, cells_string] at q7
  subst q0 q1 q2 q3 q4 q5 q6 q7
  have b5 := bounds_u32 w5
  have b6 := bounds_u32 w6
  exact ⟨tos, id, frag, ttl, proto, src, dst, data, rfl, b5.1, by omega, b6.1, by omega, w7⟩
end Go.Proofs.Ytaloccmfpehhcab
