/-
  A row of acts on a bucket that is handed in, as the program holds it. No condition but the form's own reach.
-/
import Derived.Test.YteednkonmnngkaaObOpen
import Derived.Test.YteednkonmnngkaaBkMath
namespace Go.Proofs.Yteednkonmnngkaa
set_option maxRecDepth 100000
open Go.ChangeShapes Go.WideShapes Go.ChangeAt Go.RowKit

structure BOp where
  tick : Bool
  n : Int
def boC (x : BOp) : List Value := [.bool x.tick, .int .i64 x.n]
def bo0 : BOp := ⟨false, 0⟩
def BoB (x : BOp) : Prop := -9223372036854775808 ≤ x.n ∧ x.n ≤ 9223372036854775807
theorem bo_core {H : Type} {enc : TypeId × Value → H} {W : World} (fuel : Nat) (cs : List Value) (x : DataW H × List MemPlace) (h : DataW.trod enc Try.prog W 0 (fun _ => true) true fuel 28 cs = some x) : ∃ f : BOp, cs = boC f ∧ BoB f := by
  obtain ⟨xs, n, _, _, hlen, hxl, hf⟩ := DataW.trod_struct Try.underlying28 h
  have cN : Try.prog.cellsOf 28 = 2 := by kernel_rfl
  rw [cN] at hlen
  match xs, hxl, cs, hlen with
  | [y0, y1], _, [v0, v1], _ =>
    have g0 := hf 0 _ rfl
    have g1 := hf 1 _ rfl
    have c_i : Try.prog.cellsOf 3 = 1 := by kernel_rfl
    have c_b : Try.prog.cellsOf 4 = 1 := by kernel_rfl
    simp [c_i, c_b] at g0 g1
    obtain ⟨n0, e0, _⟩ := DataW.trod_bool Try.underlying4 g0
    obtain ⟨n1, e1, _, w1⟩ := DataW.trod_int Try.underlying3 g1
    injection e0 with e0 _
    injection e1 with e1 _
    subst e0 e1
    have b1 := bounds_i64 w1
    exact ⟨⟨n0, n1⟩, rfl, b1.1, b1.2⟩
/-- Acts, where they stand. -/
def BosAt (w : World) (v : Value) (l : List BOp) : Prop := RowAt 2 boC bo0 w v l
theorem open_bops {H : Type} {enc : TypeId × Value → H} {W : World} {base : Nat} {v : Value} {d : DataW H} {p : List MemPlace} (hv : Value.okWide Try.prog W .any base 22 v)
    (h : DataW.Trod enc Try.prog W 0 (fun _ => true) true 22 v d p) (hw : ∀ n ∈ d.weights Try.prog 22, n ≤ reachBytes) :
    ∃ l : List BOp, BosAt W v l ∧ l.length * 16 ≤ 140737488351232 ∧ ∀ x ∈ l, BoB x := by
  have hb : Try.prog.bytesOf 28 = 16 := by kernel_rfl
  have := open_row 2 (by decide) boC (fun _ => rfl) bo0 BoB Try.underlying22 (by kernel_rfl) bo_core hv h hw
  rw [hb] at this
  exact this
theorem at_bops (B o N cap i : Nat) (w : World) (h : i < N) (z : Int) (hz : z = i) (p : Nat) (hp : p = o + 2 * i) :
    (Instr.indexAt 22 (.slice (some ⟨B, o, none⟩) N cap) (.int .i64 z)).run Try.prog w = .ok (.pointer (some ⟨B, p, none⟩)) w := by
  subst hz hp
  have e : Try.prog.elem 22 = 28 := by kernel_rfl
  rw [run_indexAt_slice (P := Try.prog) w 22 ⟨B, o, none⟩ N cap .i64 i (by rw [e]; exact Try.underlying22), if_pos (by omega), e]
  have s : (sizeOf 28).run Try.prog w = .ok 2 w := Try.sizeOf28 w
  rw [s]
  simp [Addr.add_mid, Nat.mul_comm]
/-- An act's cells. -/
theorem BosAt.get {w : World} {a : Option Addr} {n cap : Nat} {l : List BOp} (h : BosAt w (.slice a n cap) l) (i : Nat) (hi : i < n) : ∃ g o, a = some ⟨g, o, none⟩ ∧ g < w.heap.size ∧ w.cell? ⟨g, o + 2 * i, none⟩ = some (.bool (l.getD i bo0).tick) ∧ w.cell? ⟨g, o + 2 * i + 1, none⟩ = some (.int .i64 (l.getD i bo0).n) := by
  obtain ⟨a', cap', e, _, hc⟩ := h
  injection e with e1 e2 _
  subst e1 e2
  obtain ⟨g, o, e, hg, c⟩ := hc i hi
  exact ⟨g, o, e, hg, c 0 (by decide), c 1 (by decide)⟩
end Go.Proofs.Yteednkonmnngkaa
