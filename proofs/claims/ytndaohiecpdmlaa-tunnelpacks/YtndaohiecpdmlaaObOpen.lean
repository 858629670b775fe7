/-
  A row of structs that is handed in, by the cells of an entry and one lemma on a struct. No condition but the form's own reach.
-/
import Derived.Test.YtndaohiecpdmlaaObRow
import Derived.Test.YtndaohiecpdmlaaRows
import Derived.ProofKit
import Derived.OpenShut
import Derived.ShutString
import Derived.ChangeSlices
import Derived.SizedLaws
import Derived.Deep.Slices
import Derived.Deep.DeepHandedRow
namespace Go.Proofs.Ytndaohiecpdmlaa
set_option maxRecDepth 100000
open Go.ChangeShapes Go.WideShapes Go.ChangeAt Go.RowKit

theorem own : ownKnob Try.prog.godebug = none := by kernel_rfl
theorem laidOut : laidOutB Try.prog = true := by kernel_rfl
/-- A world for the witness: the settled one. -/
def startWorld (P : Program) (os : Os) : World := World.holding P os ⟨#[], #[], []⟩
theorem cell_block {W : World} {b o : Nat} {v : Value} (h : W.cell? ⟨b, o, none⟩ = some v) : b < W.heap.size := by
  rcases Nat.lt_or_ge b W.heap.size with hp | hp
  · exact hp
  · have e : W.heap[b]? = none := Array.getElem?_eq_none hp
    simp [World.cell?, e] at h
theorem sized_len {t e : TypeId} (ht : Try.prog.underlying t = some (.slice e)) {H : Type} {enc : TypeId × Value → H} {W : World} {a : Option Addr} {n cap : Nat} {d : DataW H} {p : List MemPlace}
    (h : DataW.Trod enc Try.prog W 0 (fun _ => true) true t (.slice a n cap) d p) (hw : ∀ k ∈ d.weights Try.prog t, k ≤ reachBytes) : n * Try.prog.bytesOf e ≤ 140737488351232 := by
  obtain ⟨fuel, hf⟩ := h
  rcases Go.Deep.open_slice ht hf with ⟨hcs, _⟩ | ⟨x, l, c, m, k, D, Pl, hcs, _, hl, hm, hmm, hx, _⟩
  · simp [Value.cells] at hcs
    obtain ⟨rfl, rfl, rfl⟩ := hcs
    simp
  · simp [Value.cells] at hcs
    obtain ⟨rfl, rfl, rfl⟩ := hcs
    injection hx with hx _
    subst hx
    have q := hw _ (by simp only [DataW.weights, ht]; exact List.mem_cons_self ..)
    simp at q
    refine Nat.le_trans (Nat.mul_le_mul_right _ (Nat.le_add_right n (m - n))) ?_
    simpa [reachBytes] using q
/-- A row of structs that is handed in (the cells of an entry and one lemma a struct). -/
theorem open_row {X : Type} (n : Nat) (hn : 0 < n) (cells : X → List Value) (hc : ∀ x, (cells x).length = n) (x0 : X) (B : X → Prop) {t e : TypeId} (ht : Try.prog.underlying t = some (.slice e)) (ce : Try.prog.cellsOf e = n)
    {H : Type} {enc : TypeId × Value → H} {W : World} {base : Nat} {v : Value} {d : DataW H} {p : List MemPlace}
    (core : ∀ (fuel : Nat) (cs : List Value) (x : DataW H × List MemPlace), DataW.trod enc Try.prog W 0 (fun _ => true) true fuel e cs = some x → ∃ f : X, cs = cells f ∧ B f)
    (hv : Value.okWide Try.prog W .any base t v) (h : DataW.Trod enc Try.prog W 0 (fun _ => true) true t v d p) (hw : ∀ n ∈ d.weights Try.prog t, n ≤ reachBytes) :
    ∃ l : List X, RowAt n cells x0 W v l ∧ l.length * Try.prog.bytesOf e ≤ 140737488351232 ∧ ∀ x ∈ l, B x := by
  obtain ⟨a, len, cap, rfl⟩ := okWide_slice ht hv
  have hlen := sized_len ht h hw
  obtain ⟨fuel, hf⟩ := h
  rcases Go.Deep.open_slice ht hf with ⟨hcs, _⟩ | ⟨x, l, c, m, k, D, Pl, hcs, _, hl, hm, hmm, hx0, hx⟩
  · simp [Value.cells] at hcs
    obtain ⟨rfl, rfl, rfl⟩ := hcs
    exact ⟨[], .nil W none 0, by simp, fun f hf => by cases hf⟩
  · simp [Value.cells] at hcs
    obtain ⟨rfl, rfl, rfl⟩ := hcs
    have hmc : m = cap := by simpa using hmm
    have each : ∀ i, i < len → ∃ q : X, (∀ j, j < n → W.cell? (x.add (i * n + j)) = (cells q)[j]?) ∧ B q := fun i hi => by
      obtain ⟨cs', h1, h2⟩ := hx i (by omega)
      rw [ce] at h1
      obtain ⟨_, hlen7, hcell⟩ := World.cells?_some h1
      obtain ⟨f, e', k3⟩ := core _ _ _ h2
      refine ⟨f, fun j hj => ?_, k3⟩
      have := hcell j (by omega)
      rw [Go.Deep.add_add] at this
      rw [this, e']
    have : Inhabited X := ⟨x0⟩
    obtain ⟨q, hq⟩ := Go.Deep.choose_lt each
    obtain ⟨L, hL⟩ : ∃ L : List X, L = (List.range len).map fun i => q i := ⟨_, rfl⟩
    have hll : L.length = len := by rw [hL]; simp
    have hget : ∀ k, k < len → L.getD k x0 = q k := fun k hk => by
      rw [hL]
      simp [List.getD, hk]
    refine ⟨L, ⟨some x, cap, by rw [hll], by rw [hll]; omega, fun k hk => ?_⟩, by rw [hll]; exact hlen, fun f hf => ?_⟩
    · rw [hll] at hk
      obtain ⟨g, off, spot⟩ := x
      have hc0 := (hq 0 (by omega)).1 0 hn
      have h0 : 0 < (cells (q 0)).length := by rw [hc]; exact hn
      rw [List.getElem?_eq_getElem h0] at hc0
      have hspot : spot = none := by simpa [Addr.add] using World.cell?_spot hc0
      subst hspot
      refine ⟨g, off, rfl, cell_block (o := off) (v := (cells (q 0))[0]) (by simpa [Addr.add] using hc0), fun j hj => ?_⟩
      rw [hget k hk]
      have := (hq k hk).1 j hj
      rw [Addr.add_mid, ← Nat.add_assoc, Nat.mul_comm] at this
      exact this
    · rw [hL] at hf
      obtain ⟨i, hi, rfl⟩ := List.mem_map.1 hf
      exact (hq i (List.mem_range.1 hi)).2
end Go.Proofs.Ytndaohiecpdmlaa
