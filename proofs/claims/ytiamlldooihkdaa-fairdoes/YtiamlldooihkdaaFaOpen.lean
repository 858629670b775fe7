/-
  Rows of acts, of numbers and of texts that are handed in, as the program holds them. No condition but the form's own reach.
-/
import Derived.Test.YtiamlldooihkdaaObOpen
import Derived.Test.YtiamlldooihkdaaFaRep
namespace Go.Proofs.Ytiamlldooihkdaa
set_option maxRecDepth 100000
open Go.ChangeShapes Go.WideShapes Go.ChangeAt Go.RowKit

structure FOp where
  kind : Int
  id : Int
  s : ByteArray
def foC (x : FOp) : List Value := [.int .i64 x.kind, .int .i64 x.id, .string x.s]
def fo0 : FOp := ⟨0, 0, ⟨#[]⟩⟩
def FoB (x : FOp) : Prop := In64 x.kind ∧ In64 x.id ∧ x.s.size ≤ 9223372036854775807
theorem fo_core {H : Type} {enc : TypeId × Value → H} {W : World} (fuel : Nat) (cs : List Value) (x : DataW H × List MemPlace) (h : DataW.trod enc Try.prog W 0 (fun _ => true) true fuel 28 cs = some x) : ∃ f : FOp, cs = foC f ∧ FoB f := by
  obtain ⟨xs, n, _, _, hlen, hxl, hf⟩ := DataW.trod_struct Try.underlying28 h
  have cN : Try.prog.cellsOf 28 = 3 := by kernel_rfl
  rw [cN] at hlen
  match xs, hxl, cs, hlen with
  | [y0, y1, y2], _, [v0, v1, v2], _ =>
    have g0 := hf 0 _ rfl
    have g1 := hf 1 _ rfl
    have g2 := hf 2 _ rfl
    have c_i : Try.prog.cellsOf 3 = 1 := by kernel_rfl
    have c_j : Try.prog.cellsOf 2 = 1 := by kernel_rfl
    have c_s : Try.prog.cellsOf 9 = 1 := by kernel_rfl
    simp [c_i, c_j, c_s] at g0 g1 g2
    obtain ⟨n0, e0, _, w0⟩ := DataW.trod_int Try.underlying3 g0
    obtain ⟨n1, e1, _, w1⟩ := DataW.trod_int Try.underlying2 g1
    obtain ⟨n2, e2, _, w2⟩ := DataW.trod_string Try.underlying9 g2
    injection e0 with e0 _
    injection e1 with e1 _
    injection e2 with e2 _
    subst e0 e1 e2
    have b0 := bounds_i64 w0
    have b1 := bounds_i64 w1
    exact ⟨⟨n0, n1, n2⟩, rfl, b0, b1, Nat.le_trans w2 (by unfold maxLen; decide)⟩
theorem open_fops {H : Type} {enc : TypeId × Value → H} {W : World} {base : Nat} {v : Value} {d : DataW H} {p : List MemPlace} (hv : Value.okWide Try.prog W .any base 22 v)
    (h : DataW.Trod enc Try.prog W 0 (fun _ => true) true 22 v d p) (hw : ∀ n ∈ d.weights Try.prog 22, n ≤ reachBytes) :
    ∃ l : List FOp, RowAt 3 foC fo0 W v l ∧ l.length * 32 ≤ 140737488351232 ∧ ∀ x ∈ l, FoB x := by
  have hb : Try.prog.bytesOf 28 = 32 := by kernel_rfl
  have := open_row 3 (by decide) foC (fun _ => rfl) fo0 FoB Try.underlying22 (by kernel_rfl) fo_core hv h hw
  rw [hb] at this
  exact this
def KN : RowK Int := ⟨40, 3, 1, 8, fun x => [.int .i64 x], 0⟩
theorem kn_ok : KN.Ok := ⟨Try.underlying40, info_of (z := .int .i64 0) (by kernel_rfl) rfl, by decide, fun _ => rfl, fun x u hu => by
  simp [KN] at hu
  subst hu
  rfl⟩
theorem open_nums {H : Type} {enc : TypeId × Value → H} {W : World} {base : Nat} {v : Value} {d : DataW H} {p : List MemPlace} (hv : Value.okWide Try.prog W .any base 40 v)
    (h : DataW.Trod enc Try.prog W 0 (fun _ => true) true 40 v d p) (hw : ∀ n ∈ d.weights Try.prog 40, n ≤ reachBytes) :
    ∃ l : List Int, RowAt 1 KN.cells 0 W v l ∧ l.length * 8 ≤ 140737488351232 ∧ ∀ x ∈ l, In64 x := by
  have hb : Try.prog.bytesOf 3 = 8 := by kernel_rfl
  have := open_row 1 (by decide) KN.cells (fun _ => rfl) 0 In64 Try.underlying40 (by kernel_rfl) (fun fuel cs x h => by
    obtain ⟨n0, e0, _, w0⟩ := DataW.trod_int Try.underlying3 h
    exact ⟨n0, e0, bounds_i64 w0⟩) hv h hw
  rw [hb] at this
  exact this
theorem open_strl {H : Type} {enc : TypeId × Value → H} {W : World} {base : Nat} {v : Value} {d : DataW H} {p : List MemPlace} (hv : Value.okWide Try.prog W .any base 39 v)
    (h : DataW.Trod enc Try.prog W 0 (fun _ => true) true 39 v d p) (hw : ∀ n ∈ d.weights Try.prog 39, n ≤ reachBytes) :
    ∃ l : List ByteArray, RowAt 1 KS.cells ByteArray.empty W v l ∧ l.length * 16 ≤ 140737488351232 ∧ ∀ x ∈ l, x.size ≤ 9223372036854775807 := by
  have hb : Try.prog.bytesOf 9 = 16 := by kernel_rfl
  have := open_row 1 (by decide) KS.cells (fun _ => rfl) ByteArray.empty (fun s => s.size ≤ 9223372036854775807) Try.underlying39 (by kernel_rfl) (fun fuel cs x h => by
    obtain ⟨n0, e0, _, w0⟩ := DataW.trod_string Try.underlying9 h
    exact ⟨n0, e0, Nat.le_trans w0 (by unfold maxLen; decide)⟩) hv h hw
  rw [hb] at this
  exact this
/-- The place of an entry of any row that is handed in. -/
theorem at_R {st e : TypeId} {n : Nat} (ht : Try.prog.underlying st = some (.slice e)) (hn : ∀ w, (sizeOf e).run Try.prog w = .ok n w) (B o N cap i : Nat) (w : World) (h : i < N) (z : Int) (hz : z = i) (p : Nat) (hp : p = o + n * i) :
    (Instr.indexAt st (.slice (some ⟨B, o, none⟩) N cap) (.int .i64 z)).run Try.prog w = .ok (.pointer (some ⟨B, p, none⟩)) w := by
  subst hz hp
  have e' : Try.prog.elem st = e := by simp [Program.elem, ht]
  rw [run_indexAt_slice (P := Try.prog) w st ⟨B, o, none⟩ N cap .i64 i (by rw [e']; exact ht), if_pos (by omega), e', hn]
  simp [Addr.add_mid, Nat.mul_comm]
theorem RowAt.get {X : Type} {m : Nat} {cells : X → List Value} {x0 : X} {w : World} {a : Option Addr} {n cap : Nat} {l : List X} (h : RowAt m cells x0 w (.slice a n cap) l) (i : Nat) (hi : i < n) : ∃ g o, a = some ⟨g, o, none⟩ ∧ g < w.heap.size ∧ ∀ j, j < m → w.cell? ⟨g, o + m * i + j, none⟩ = (cells (l.getD i x0))[j]? := by
  obtain ⟨a', cap', e, _, hc⟩ := h
  injection e with e1 e2 _
  subst e1 e2
  exact hc i hi
end Go.Proofs.Ytiamlldooihkdaa
