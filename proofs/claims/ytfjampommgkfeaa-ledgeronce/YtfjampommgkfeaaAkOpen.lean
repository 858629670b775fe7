/-
  A row of ranges that is handed in, as the program holds it. No condition.
-/
import Derived.Test.YtfjampommgkfeaaRpOpen
import Derived.Test.YtfjampommgkfeaaAkRef
import Derived.Deep.SlicePairs
namespace Go.Proofs.Ytfjampommgkfeaa
set_option maxRecDepth 100000
open Go.ChangeShapes Go.WideShapes Go.ChangeAt Go.RowKit

/-- The number that a value is. -/
def numV : Value → Int
  | .int _ n => n
  | _ => 0
theorem open_rgs {H : Type} {enc : TypeId × Value → H} {W : World} {base : Nat} {v : Value} {d : DataW H} {p : List MemPlace} (hv : Value.okWide Try.prog W .any base 27 v)
    (h : DataW.Trod enc Try.prog W 0 (fun _ => true) true 27 v d p) : ∃ l : List Rg, RgAt W v l ∧ l.length ≤ maxLen ∧ ∀ x ∈ l, (-9223372036854775808 ≤ x.1 ∧ x.1 ≤ 9223372036854775807) ∧ (-9223372036854775808 ≤ x.2 ∧ x.2 ≤ 9223372036854775807) := by
  obtain ⟨a, len, cap, rfl⟩ := okWide_slice Try.underlying27 hv
  obtain ⟨fuel, hf⟩ := h
  rcases Go.Deep.open_slice_pairs Try.underlying27 Try.underlying50 (by kernel_rfl) rfl rfl (by kernel_rfl) (by kernel_rfl) hf with ⟨hcs, _⟩ | ⟨b, l, c, m, n, V0, V1, D0, D1, P0, P1, hcs, _, hl, hm, hmm, _, hc⟩
  · simp [Value.cells] at hcs
    obtain ⟨rfl, rfl, rfl⟩ := hcs
    exact ⟨[], ⟨none, 0, rfl, .inl rfl⟩, Nat.zero_le _, fun x hx => by cases hx⟩
  · simp [Value.cells] at hcs
    obtain ⟨rfl, rfl, rfl⟩ := hcs
    have hmc : m = cap := by simpa using hmm
    have each : ∀ i, i < len → (V0 i = .int .i64 (numV (V0 i)) ∧ V1 i = .int .i64 (numV (V1 i))) ∧ ((Lit.int .i64 (numV (V0 i))).wf = true ∧ (Lit.int .i64 (numV (V1 i))).wf = true) := fun i hi => by
      obtain ⟨_, _, h3, h4⟩ := hc i (by omega)
      obtain ⟨n0, e0, _, w0⟩ := DataW.trod_int Try.underlying2 h3
      obtain ⟨n1, e1, _, w1⟩ := DataW.trod_int Try.underlying2 h4
      injection e0 with e0 _
      injection e1 with e1 _
      rw [e0, e1]
      exact ⟨⟨rfl, rfl⟩, w0, w1⟩
    obtain ⟨L, hL⟩ : ∃ L : List Rg, L = (List.range len).map fun i => (numV (V0 i), numV (V1 i)) := ⟨_, rfl⟩
    have hlen : L.length = len := by rw [hL]; simp
    have hget : ∀ k, k < len → L.getD k (0, 0) = (numV (V0 k), numV (V1 k)) := fun k hk => by
      rw [hL]
      simp [List.getD, hk]
    refine ⟨L, ⟨some b, cap, by rw [hlen], ?_⟩, by omega, fun x hx => ?_⟩
    · rcases Nat.eq_zero_or_pos len with h0 | h0
      · exact .inl (List.eq_nil_of_length_eq_zero (by omega))
      · right
        obtain ⟨g, off, spot⟩ := b
        have hc0 := (hc 0 (by omega)).1
        have hspot : spot = none := by simpa [Addr.add] using World.cell?_spot hc0
        subst hspot
        refine ⟨g, off, rfl, fun k hk => ?_⟩
        rw [hlen] at hk
        obtain ⟨h1, h2, _, _⟩ := hc k (by omega)
        obtain ⟨⟨e0, e1⟩, _⟩ := each k hk
        rw [hget k hk]
        have a1 : (⟨g, off, none⟩ : Addr).add (k * 2) = ⟨g, off + 2 * k, none⟩ := by rw [Addr.add_mid, Nat.mul_comm]
        have a2 : (⟨g, off, none⟩ : Addr).add (k * 2 + 1) = ⟨g, off + 2 * k + 1, none⟩ := by rw [Addr.add_mid, Nat.mul_comm, Nat.add_assoc]
        rw [a1, e0] at h1
        rw [a2, e1] at h2
        exact ⟨h1, h2⟩
    · rw [hL] at hx
      obtain ⟨i, hi, rfl⟩ := List.mem_map.1 hx
      obtain ⟨_, w0, w1⟩ := each i (List.mem_range.1 hi)
      have b0 := bounds_i64 w0
      have b1 := bounds_i64 w1
      simp only
      omega
end Go.Proofs.Ytfjampommgkfeaa
