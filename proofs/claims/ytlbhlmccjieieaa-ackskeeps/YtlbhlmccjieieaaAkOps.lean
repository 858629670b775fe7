/-
  A row of acts that is handed in, as the program holds it: how many, and where each stands. No condition.
-/
import Derived.Test.YtlbhlmccjieieaaRpOpen
import Derived.Deep.Slices
import Derived.Deep.SlicePairs
import Derived.Deep.MidRow
namespace Go.Proofs.Ytlbhlmccjieieaa
set_option maxRecDepth 100000
open Go.ChangeShapes Go.WideShapes Go.ChangeAt Go.RowKit

/-- The n acts of a row, where they stand. -/
def Ops (w : World) (a : Option Addr) (n : Nat) (f : Nat → Bool × Int × Int) : Prop :=
  n = 0 ∨ ∃ b off, a = some ⟨b, off, none⟩ ∧ b < w.heap.size ∧ ∀ i, i < n → w.cell? ⟨b, off + 3 * i, none⟩ = some (.bool (f i).1) ∧ w.cell? ⟨b, off + 3 * i + 1, none⟩ = some (.int .i64 (f i).2.1) ∧ w.cell? ⟨b, off + 3 * i + 2, none⟩ = some (.int .i64 (f i).2.2)
theorem open_ops {H : Type} {enc : TypeId × Value → H} {W : World} {base : Nat} {v : Value} {d : DataW H} {p : List MemPlace} (hv : Value.okWide Try.prog W .any base 22 v)
    (h : DataW.Trod enc Try.prog W 0 (fun _ => true) true 22 v d p) :
    ∃ (a : Option Addr) (n cap : Nat) (f : Nat → Bool × Int × Int), v = .slice a n cap ∧ n ≤ maxLen ∧ (∀ i, i < n → (-9223372036854775808 ≤ (f i).2.1 ∧ (f i).2.1 ≤ 9223372036854775807) ∧ (-9223372036854775808 ≤ (f i).2.2 ∧ (f i).2.2 ≤ 9223372036854775807)) ∧ Ops W a n f := by
  obtain ⟨a, len, cap, rfl⟩ := okWide_slice Try.underlying22 hv
  obtain ⟨fuel, hf⟩ := h
  rcases Go.Deep.open_slice Try.underlying22 hf with ⟨hcs, _⟩ | ⟨x, l, c, m, n, D, Pl, hcs, _, hl, hm, hmm, _, hx⟩
  · simp [Value.cells] at hcs
    obtain ⟨rfl, rfl, rfl⟩ := hcs
    exact ⟨_, _, _, fun _ => (false, 0, 0), rfl, Nat.zero_le _, fun i hi => by omega, .inl rfl⟩
  · simp [Value.cells] at hcs
    obtain ⟨rfl, rfl, rfl⟩ := hcs
    have hmc : m = cap := by simpa using hmm
    have ce : Try.prog.cellsOf 31 = 3 := by kernel_rfl
    have each : ∀ i, i < len → ∃ q : Bool × Int × Int, W.cell? (x.add (i * 3)) = some (.bool q.1) ∧ W.cell? (x.add (i * 3 + 1)) = some (.int .i64 q.2.1) ∧ W.cell? (x.add (i * 3 + 2)) = some (.int .i64 q.2.2) ∧ (Lit.int .i64 q.2.1).wf = true ∧ (Lit.int .i64 q.2.2).wf = true := fun i hi => by
      obtain ⟨cs', h1, h2⟩ := hx i (by omega)
      rw [ce] at h1
      obtain ⟨_, hlen, hcell⟩ := World.cells?_some h1
      obtain ⟨xs, k, hk, hxy, _, hxl, hf⟩ := DataW.trod_struct Try.underlying31 h2
      match xs, hxl, cs', hlen with
      | [y0, y1, y2], _, [v0, v1, v2], _ =>
        have g0 := hf 0 _ rfl
        have g1 := hf 1 _ rfl
        have g2 := hf 2 _ rfl
        have c4 : Try.prog.cellsOf 4 = 1 := by kernel_rfl
        have c2 : Try.prog.cellsOf 2 = 1 := by kernel_rfl
        simp [c4, c2] at g0 g1 g2
        obtain ⟨b0, e0, _⟩ := DataW.trod_bool Try.underlying4 g0
        obtain ⟨n1, e1, _, w1⟩ := DataW.trod_int Try.underlying2 g1
        obtain ⟨n2, e2, _, w2⟩ := DataW.trod_int Try.underlying2 g2
        injection e0 with e0 _
        injection e1 with e1 _
        injection e2 with e2 _
        have a0 := hcell 0 (by omega)
        have a1 := hcell 1 (by omega)
        have a2 := hcell 2 (by omega)
        rw [Go.Deep.add_add] at a0 a1 a2
        subst e0 e1 e2
        exact ⟨(b0, n1, n2), by simpa using a0, by simpa using a1, by simpa using a2, w1, w2⟩
    obtain ⟨q, hq⟩ := Go.Deep.choose_lt each
    refine ⟨_, _, _, q, rfl, by omega, fun i hi => ?_, ?_⟩
    · obtain ⟨_, _, _, w1, w2⟩ := hq i hi
      have b1 := bounds_i64 w1
      have b2 := bounds_i64 w2
      omega
    · rcases Nat.eq_zero_or_pos len with h0 | h0
      · exact .inl h0
      · right
        obtain ⟨b, off, spot⟩ := x
        have hc := (hq 0 (by omega)).1
        have hspot : spot = none := by simpa [Addr.add] using World.cell?_spot hc
        subst hspot
        refine ⟨b, off, rfl, ?_, fun i hi => ?_⟩
        · exact cell_block (o := off) (by simpa [Addr.add] using hc)
        · obtain ⟨h1, h2, h3, _⟩ := hq i hi
          rw [Addr.add_mid, Nat.mul_comm] at h1 h2 h3
          exact ⟨h1, by rw [Nat.add_assoc]; exact h2, by rw [Nat.add_assoc]; exact h3⟩
end Go.Proofs.Ytlbhlmccjieieaa
