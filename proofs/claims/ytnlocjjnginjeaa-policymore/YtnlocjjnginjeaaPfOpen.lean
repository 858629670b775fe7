/-
  A prefix that is handed in, as the program holds it: two fields of one cell each. No condition.
-/
import Derived.Test.YtnlocjjnginjeaaPfMath
import Derived.ProofKit
import Derived.OpenShut
import Derived.ShutString
import Derived.Deep.DeepHandedRow
import Derived.Deep.Fields
namespace Go.Proofs.Ytnlocjjnginjeaa
open Go.ChangeShapes Go.WideShapes Go.ChangeAt Go.RowKit
theorem own : ownKnob Try.prog.godebug = none := by kernel_rfl
theorem laidOut : laidOutB Try.prog = true := by kernel_rfl
theorem cellsPfx : Try.prog.cellsOf 38 = 2 := by kernel_rfl
theorem cells_int : Try.prog.cellsOf 3 = 1 := by kernel_rfl
theorem cells_uint32 : Try.prog.cellsOf 23 = 1 := by kernel_rfl
/-- A world for the witness: the settled one. -/
def startWorld (P : Program) (os : Os) : World := World.holding P os ⟨#[], #[], []⟩
theorem array2 {α : Type} {cs : Array α} (h : cs.size = 2) : ∃ c0 c1, cs = #[c0, c1] := by
  obtain ⟨l⟩ := cs
  match l, h with
  | [c0, c1], _ => exact ⟨c0, c1, rfl⟩
theorem some_of {α : Type} {l : List α} {n i : Nat} (hl : l.length = n) (hi : i < n) : ∃ y, l[i]? = some y := ⟨l[i], List.getElem?_eq_getElem (by omega)⟩
set_option maxRecDepth 100000 in
theorem open_pfx {H : Type} {enc : TypeId × Value → H} {W : World} {base : Nat} {v : Value} {d : DataW H} {p : List MemPlace} (hv' : Value.okWide Try.prog W .any base 38 v)
    (h : DataW.Trod enc Try.prog W 0 (fun _ => true) true 38 v d p) :
    ∃ (addr bits : Int), v = pv addr bits ∧ 0 ≤ addr ∧ addr < 4294967296 ∧ -9223372036854775808 ≤ bits ∧ bits ≤ 9223372036854775807 := by
  obtain ⟨cs, rfl, hsz⟩ := okWide_struct Try.underlying38 hv'
  obtain ⟨c0, c1, rfl⟩ := array2 (hsz.trans cellsPfx)
  obtain ⟨fuel, hf⟩ := h
  obtain ⟨xs, n, _, _, _, hlen, hg⟩ := DataW.trod_struct Try.underlying38 hf
  have hl2 : xs.length = 2 := hlen
  have g0 := hg 0 _ rfl
  obtain ⟨y0, e0⟩ := some_of hl2 (i := 0) (by decide)
  rw [e0] at g0
  obtain ⟨addr, q0, _, w0⟩ := DataW.trod_int Try.underlying23 g0
  simp [Value.cells, cells_uint32] at q0
  have g1 := hg 1 _ rfl
  obtain ⟨y1, e1⟩ := some_of hl2 (i := 1) (by decide)
  rw [e1] at g1
  obtain ⟨bits, q1, _, w1⟩ := DataW.trod_int Try.underlying3 g1
  simp [Value.cells, cells_int] at q1
  subst q0 q1
  have b0 := bounds_u32 w0
  have b1 := bounds_i64 w1
  exact ⟨addr, bits, rfl, b0.1, by omega, by omega, by omega⟩
end Go.Proofs.Ytnlocjjnginjeaa
