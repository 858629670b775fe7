/-
  A row of numbers that is handed in; whose a tick is, whose the next one, how far apart, plain. No condition but the form's own reach.
-/
import Derived.Test.YthdajlaeacfcpaaObOpen
import Derived.Test.YthdajlaeacfcpaaSlMath
namespace Go.Proofs.Ythdajlaeacfcpaa
set_option maxRecDepth 100000
open Go.ChangeShapes Go.WideShapes Go.ChangeAt Go.RowKit

def In64 (x : Int) : Prop := -9223372036854775808 ≤ x ∧ x ≤ 9223372036854775807
theorem wrap_in {x y : Int} (e : x = y) (h0 : -9223372036854775808 ≤ y) (h1 : y ≤ 9223372036854775807) : wrap64 x = y := by subst e; unfold wrap64; omega
def KN : RowK Int := ⟨22, 3, 1, 8, fun x => [.int .i64 x], 0⟩
theorem kn_ok : KN.Ok := ⟨Try.underlying22, info_of (z := .int .i64 0) (by kernel_rfl) rfl, by decide, fun _ => rfl, fun x u hu => by
  simp [KN] at hu
  subst hu
  rfl⟩
theorem open_nums {H : Type} {enc : TypeId × Value → H} {W : World} {base : Nat} {v : Value} {d : DataW H} {p : List MemPlace} (hv : Value.okWide Try.prog W .any base 22 v)
    (h : DataW.Trod enc Try.prog W 0 (fun _ => true) true 22 v d p) (hw : ∀ n ∈ d.weights Try.prog 22, n ≤ reachBytes) :
    ∃ l : List Int, RowAt 1 KN.cells 0 W v l ∧ l.length * 8 ≤ 140737488351232 ∧ ∀ x ∈ l, In64 x := by
  have hb : Try.prog.bytesOf 3 = 8 := by kernel_rfl
  have := open_row 1 (by decide) KN.cells (fun _ => rfl) 0 In64 Try.underlying22 (by kernel_rfl) (fun fuel cs x h => by
    obtain ⟨n0, e0, _, w0⟩ := DataW.trod_int Try.underlying3 h
    exact ⟨n0, e0, bounds_i64 w0⟩) hv h hw
  rw [hb] at this
  exact this
/-- The place of an entry of any row that is handed in. -/
theorem at_R {st e : TypeId} {n : Nat} (ht : Try.prog.underlying st = some (.slice e)) (hn : ∀ w, (sizeOf e).run Try.prog w = .ok n w) (B o N cap i : Nat) (w : World) (h : i < N) (z : Int) (hz : z = i) (p : Nat) (hp : p = o + n * i) :
    (Instr.indexAt st (.slice (some ⟨B, o, none⟩) N cap) (.int .i64 z)).run Try.prog w = .ok (.pointer (some ⟨B, p, none⟩)) w := by
  subst hz hp
  have e' : Try.prog.elem st = e := by simp [Program.elem, ht]
  rw [run_indexAt_slice (P := Try.prog) w st ⟨B, o, none⟩ N cap .i64 i (by rw [e']; exact ht), if_pos (by omega), e', hn]
  simp [Addr.add_mid, Nat.mul_comm]
theorem RowAt.get {X : Type} {m : Nat} {cells : X → List Value} {x0 : X} {w : World} {a : Option Addr} {n cap : Nat} {l : List X} (h : RowAt m cells x0 w (.slice a n cap) l) (i : Nat) (hi : i < n) : ∃ g o, a = some ⟨g, o, none⟩ ∧ g < w.heap.size ∧ ∀ j, j < m → w.cell? ⟨g, o + m * i + j, none⟩ = (cells (l.getD i x0))[j]? := by
  obtain ⟨a', cap', e, _, hc⟩ := h
  injection e with e1 e2 _
  subst e1 e2
  exact hc i hi
def ownV (l : List Int) (t : Int) : Int := if t < 0 ∨ l.length = 0 then -1 else max (-1) (l.getD (t.toNat % l.length) 0)
def prp (l : List Int) (who : Int) : Nat → Bool := fun i => decide (ownV l (i : Int) = who)
theorem prp_per (l : List Int) (who : Int) : Per (prp l who) l.length := fun i => by
  unfold prp ownV
  have e1 : ¬ ((i + l.length : Nat) : Int) < 0 := by omega
  have e2 : ¬ ((i : Nat) : Int) < 0 := by omega
  simp only [e1, e2, false_or, Int.toNat_natCast, Nat.add_mod_right]
def turnV (l : List Int) (t who : Int) : Int := if who < 0 ∨ 65536 < l.length ∨ t < 0 ∨ 4611686018427387903 < t then -1 else match fstP (prp l who) t.toNat l.length with | some u => (u : Int) | none => -1
def roundV (l : List Int) (who : Int) : Int := if who < 0 ∨ 65536 < l.length then 0 else (gapP (prp l who) l.length : Int)
def classV (n : Int) : Int := if n < 0 then 0 else if n ≤ 128 then 128 else if n ≤ 256 then 256 else if n ≤ 512 then 512 else if n ≤ 1200 then 1200 else 0
/-- A row as a call takes it: its entries, and how many they may be. -/
structure Tb (w : World) (v : Value) (l : List Int) : Prop where
  r : RowAt 1 KN.cells 0 w v l
  z : l.length ≤ 17592186044416
theorem Tb.slice {w : World} {v : Value} {l : List Int} (h : Tb w v l) : ∃ a c, v = .slice a l.length c := by
  obtain ⟨a, c, e, -⟩ := h.r
  exact ⟨a, c, e⟩
theorem Tb.keep {w w' : World} {v : Value} {l : List Int} (h : Tb w v l) (b : Below w.heap.size w w') : Tb w' v l := ⟨h.r.keep b, h.z⟩
theorem Tb.at {w : World} {a : Option Addr} {n c : Nat} {l : List Int} (h : Tb w (.slice a n c) l) (i : Nat) (hi : i < n) : ∃ g o, a = some ⟨g, o, none⟩ ∧ (∀ w' (z : Int), z = i → (Instr.indexAt 22 (.slice a n c) (.int .i64 z)).run Try.prog w' = .ok (.pointer (some ⟨g, o + i, none⟩)) w') ∧ w.cell? ⟨g, o + i, none⟩ = some (.int .i64 (l.getD i 0)) := by
  obtain ⟨g, o, e, hg, hc⟩ := h.r.get i hi
  have := hc 0 (by decide)
  rw [Nat.one_mul, Nat.add_zero] at this
  refine ⟨g, o, e, fun w' z hz => ?_, this⟩
  rw [e]
  exact at_R (n := 1) Try.underlying22 (by intro w; kernel_rfl) g o n c i w' hi z hz (o + i) (by omega)
end Go.Proofs.Ythdajlaeacfcpaa
