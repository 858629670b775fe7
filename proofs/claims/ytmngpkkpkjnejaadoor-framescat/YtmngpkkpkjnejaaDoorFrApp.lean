/-
  append of frames, none too, onto a row of one's own. No condition but how many there are.
-/
import Derived.Test.YtmngpkkpkjnejaaDoorFrCopy
namespace Go.Proofs.YtmngpkkpkjnejaaDoor
set_option maxRecDepth 100000
open Go.RowKit Go.Sort

theorem frs_cells {w : World} {v : Value} {l : List Fr} (h : FrsAt w v l) : ∃ xs : List FX, xs.map (·.1) = l ∧ (∀ x ∈ xs, FG w (fun _ => False) x) ∧ ∃ a c, v = .slice a xs.length c ∧ (xs = [] ∨ ∃ p, a = some p ∧ ∀ j u, (fcells xs)[j]? = some u → w.cell? (p.add j) = some u) := by
  obtain ⟨a, cap, rfl, hc⟩ := h
  rcases hc with rfl | ⟨g, o, rfl, hc⟩
  · exact ⟨[], rfl, (fun x hx => by cases hx), a, cap, rfl, .inl rfl⟩
  · have each : ∀ k, k < l.length → ∃ q : ByteArray × Option Addr × Nat, toL q.1 = (l.getD k fr0).data ∧ RgAt w (.slice q.2.1 (l.getD k fr0).rg.length q.2.2) (l.getD k fr0).rg ∧ C7 w g (o + 7 * k) (l.getD k fr0) q.1 (.slice q.2.1 (l.getD k fr0).rg.length q.2.2) := fun k hk => by
      obtain ⟨d, s, cp, h1, h2, h3⟩ := hc k hk
      exact ⟨(d, s, cp), h1, h2, h3⟩
    obtain ⟨q, hq⟩ := Go.Deep.choose_lt each
    obtain ⟨xs, hxs⟩ : ∃ xs : List FX, xs = (List.range l.length).map fun k => (l.getD k fr0, (q k).1, Value.slice (q k).2.1 (l.getD k fr0).rg.length (q k).2.2) := ⟨_, rfl⟩
    have hlen : xs.length = l.length := by rw [hxs]; simp
    have hget : ∀ k, k < l.length → xs[k]? = some (l.getD k fr0, (q k).1, Value.slice (q k).2.1 (l.getD k fr0).rg.length (q k).2.2) := fun k hk => by rw [hxs]; simp [hk]
    refine ⟨xs, ?_, fun x hx => ?_, some ⟨g, o, none⟩, cap, by rw [hlen], .inr ⟨_, rfl, fun j u hj => ?_⟩⟩
    · rw [hxs, List.map_map]
      apply List.ext_getElem
      · simp
      · intro i h1 h2
        simp [List.getD, List.getElem?_eq_getElem h2]
    · rw [hxs] at hx
      obtain ⟨k, hk, rfl⟩ := List.mem_map.1 hx
      obtain ⟨h1, h2, -⟩ := hq k (List.mem_range.1 hk)
      exact ⟨h1, (q k).2.1, (q k).2.2, rfl, h2, fun _ _ _ e => e⟩
    · have hj7 : j < xs.length * 7 := by rw [← fcells_len]; exact (List.getElem?_eq_some_iff.1 hj).1
      rw [hlen] at hj7
      have hk : j / 7 < l.length := by omega
      have e : 7 * (j / 7) + j % 7 = j := by omega
      have hc7 := (hq (j / 7) hk).2.2
      have f := fcells_get xs (j / 7) _ (hget _ hk) (j % 7) (by omega)
      rw [e, hj] at f
      rw [Addr.add_lit, ← e, ← Nat.add_assoc]
      have hm : j % 7 < 7 := by omega
      generalize j % 7 = r at *
      match r, hm, f with
      | 0, _, f => exact hc7.c0.trans f.symm
      | 1, _, f => exact hc7.c1.trans f.symm
      | 2, _, f => exact hc7.c2.trans f.symm
      | 3, _, f => exact hc7.c3.trans f.symm
      | 4, _, f => exact hc7.c4.trans f.symm
      | 5, _, f => exact hc7.c5.trans f.symm
      | 6, _, f => exact hc7.c6.trans f.symm
theorem fcell_one {x : FX} {w : World} {no : Nat → Prop} (h : FG w no x) : ∀ u ∈ fcell x, u.oneCell' = true := fun u hu => by
  obtain ⟨-, a, cp, e, -⟩ := h
  simp [fcell, e] at hu
  rcases hu with rfl | rfl | rfl | rfl | rfl | rfl | rfl <;> rfl
end Go.Proofs.YtmngpkkpkjnejaaDoor
