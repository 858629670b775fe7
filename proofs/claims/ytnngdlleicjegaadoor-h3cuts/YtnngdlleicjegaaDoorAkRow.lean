/-
  Ranges in a row of one's own. No condition.
-/
import Derived.Test.YtnngdlleicjegaaDoorAkRef
import Derived.Laws.OwnMore
import Derived.OwnWalk
import Derived.Deep.Onto
namespace Go.Proofs.YtnngdlleicjegaaDoor
set_option maxRecDepth 100000
open Go.RowKit Go.Sort

/-- Ranges as cells. -/
def rgs (l : List Rg) : List Value := l.flatMap fun x => [.int .i64 x.1, .int .i64 x.2]
theorem rgs_nil : rgs [] = [] := rfl
theorem rgs_cons (x : Rg) (l : List Rg) : rgs (x :: l) = .int .i64 x.1 :: .int .i64 x.2 :: rgs l := rfl
theorem rgs_append (l m : List Rg) : rgs (l ++ m) = rgs l ++ rgs m := by simp [rgs, List.flatMap_append]
theorem rgs_snoc (l : List Rg) (x : Rg) : rgs (l ++ [x]) = rgs l ++ [.int .i64 x.1, .int .i64 x.2] := by rw [rgs_append]; rfl
theorem rgs_get (l : List Rg) : ∀ k, k < l.length → (rgs l)[2 * k]? = some (.int .i64 (l.getD k (0, 0)).1) ∧ (rgs l)[2 * k + 1]? = some (.int .i64 (l.getD k (0, 0)).2) := by
  induction l with
  | nil => intro k hk; simp at hk
  | cons x l ih =>
    intro k hk
    cases k with
    | zero => exact ⟨rfl, rfl⟩
    | succ k =>
      have := ih k (by simpa using hk)
      rw [rgs_cons, show 2 * (k + 1) = 2 * k + 1 + 1 by omega]
      simpa using this
theorem own_rgAt {w : World} {b : Nat} {sv : Value} {l : List Rg} (h : w.ownsRow b 63 2 sv l.length (rgs l)) : RgAt w sv l := by
  rcases h.2 with ⟨rfl, h0⟩ | ⟨g, cap, cur, rfl, hr⟩
  · have e : l = [] := List.eq_nil_of_length_eq_zero h0
    subst e
    exact ⟨none, 0, rfl, .inl rfl⟩
  · refine ⟨_, cap, rfl, .inr ⟨g, 0, rfl, fun k hk => ?_⟩⟩
    have h1 := h.cellAt (2 * k) (by omega)
    have h2 := h.cellAt (2 * k + 1) (by omega)
    rw [(rgs_get l k hk).1] at h1
    rw [(rgs_get l k hk).2] at h2
    rw [Nat.zero_add]
    exact ⟨h1, h2⟩
theorem rows_block {w w' : World} {base size n : Nat} {e : TypeId} {v : Value} {xs : List Value} (h : w.ownsRow base e size v n xs) (b : ∀ k, v.ownBlock = some k → w'.heap[k]? = w.heap[k]?) : w'.ownsRow base e size v n xs := by
  refine ⟨h.1, ?_⟩
  rcases h.2 with h | ⟨g, cap, cur, h1, h2, h3, h4⟩
  · exact .inl h
  · exact .inr ⟨g, cap, cur, h1, h2, (b g (by rw [h1]; rfl)).trans h3, h4⟩
theorem info_rg : ∃ i, Tryd.prog.info? 63 = some i ∧ i.zero = some (.agg #[.int .i64 0, .int .i64 0]) ∧ i.size = 2 ∧ i.bytes = 16 := by
  have h : (Tryd.prog.info? 63).map (fun i => (i.zero, i.size, i.bytes)) = some (some (.agg #[.int .i64 0, .int .i64 0]), 2, 16) := by kernel_rfl
  obtain ⟨i, hi, e⟩ := Option.map_eq_some_iff.1 h
  injection e with e1 e2
  injection e2 with e2 e3
  exact ⟨i, hi, e1, e2, e3⟩
end Go.Proofs.YtnngdlleicjegaaDoor
