/-
  Plain facts: a reader never holds more bytes than it was fed; events in a row of one's own are events in memory. No condition.
-/
import Derived.Test.YtnngdlleicjegaaDoorH3Face
namespace Go.Proofs.YtnngdlleicjegaaDoor
set_option maxRecDepth 100000
open Go.RowKit

theorem head_bd {s : L} {k z n : Nat} (h : headL s = some (k, z, n)) : z ≤ 4611686018427387903 := by
  unfold headL at h
  split at h
  · cases h
  · rename_i k' n' h1
    split at h
    · cases h
    · rename_i z' m h2
      injection h with h
      injection h with e1 h
      injection h with e2 _
      subst e1 e2
      have := (getL_bound h2).1
      omega
/-- What a step leaves. -/
def Small (n : Nat) (r : Hr) : Prop := r.s.length ≤ n ∧ r.left ≤ 4611686018427387903
theorem step_small {n : Nat} {r q : Hr} {e : List Ev} (hr : Small n r) (h : r.step = some (q, e)) : Small n q := by
  obtain ⟨h1, h2⟩ := hr
  unfold Hr.step at h
  split at h
  · split at h
    · injection h with h
      injection h with h _
      subst h
      exact ⟨by show (r.s.drop 1).length ≤ n; rw [List.length_drop]; omega, h2⟩
    · injection h with h
      injection h with h _
      subst h
      exact ⟨h1, h2⟩
  · split at h
    · injection h with h
      injection h with h _
      subst h
      exact ⟨by show (r.s.drop _).length ≤ n; rw [List.length_drop]; omega, by show r.left - _ ≤ _; omega⟩
    · split at h
      · cases h
      · rename_i k z m hh
        have hz := head_bd hh
        split at h
        · injection h with h
          injection h with h _
          subst h
          exact ⟨h1, h2⟩
        · split at h
          · split at h
            · injection h with h
              injection h with h _
              subst h
              exact ⟨h1, h2⟩
            · split at h
              · cases h
              · split at h
                · injection h with h
                  injection h with h _
                  subst h
                  exact ⟨h1, h2⟩
                · injection h with h
                  injection h with h _
                  subst h
                  exact ⟨by show (r.s.drop _).length ≤ n; rw [List.length_drop]; omega, h2⟩
          · injection h with h
            injection h with h _
            subst h
            exact ⟨by show (r.s.drop _).length ≤ n; rw [List.length_drop]; omega, hz⟩
theorem run_small {n : Nat} : ∀ (k : Nat) (r : Hr), Small n r → Small n (Hr.run k r).1
  | 0, _, h => h
  | k + 1, r, h => by
    rw [Hr.run_succ]
    split
    · exact h
    · split
      · exact h
      · rename_i q e hq
        exact run_small k q (step_small h hq)
theorem feed_small {n : Nat} {r : Hr} (t : L) (h : Small n r) : Small (n + t.length) (r.feed t).1 := by
  unfold Hr.feed
  split
  · exact ⟨Nat.le_trans h.1 (Nat.le_add_right _ _), h.2⟩
  · exact run_small _ _ ⟨by show (r.s ++ t).length ≤ _; rw [List.length_append]; have := h.1; omega, h.2⟩
theorem feeds_small : ∀ (ts : List L) (n : Nat) (r : Hr), Small n r → Small (n + bytesL ts) (r.feeds ts).1
  | [], n, r, h => by
    show Small (n + 0) r
    exact h
  | a :: ts, n, r, h => by
    have := feeds_small ts (n + a.length) (r.feed a).1 (feed_small a h)
    have e : n + bytesL (a :: ts) = n + a.length + bytesL ts := by
      unfold bytesL
      rw [List.flatten_cons, List.length_append]
      omega
    rw [e]
    exact this
theorem fed_small (c : Bool) (ts : List L) : (fed c ts).s.length ≤ bytesL ts ∧ (fed c ts).left ≤ 4611686018427387903 := by
  have := feeds_small ts 0 (Hr.new c) ⟨Nat.le_refl _, by show 0 ≤ _; omega⟩
  rw [Nat.zero_add] at this
  exact this
/-- Each event costs a byte. -/
theorem step_few {r q : Hr} {e : List Ev} (h0 : r.s ≠ []) (h : r.step = some (q, e)) : q.code ≠ 0 ∧ e = [] ∨ e.length + q.s.length ≤ r.s.length := by
  have hp := List.length_pos_iff.2 h0
  have hl := Hr.step_less h0 h
  unfold Hr.step at h
  split at h
  · split at h <;> (
      injection h with h
      injection h with h he
      subst h he
      simp only [List.length_nil, Nat.zero_add]
      first
      | (right; show (r.s.drop 1).length ≤ _; rw [List.length_drop]; omega)
      | (right; exact Nat.le_refl _))
  · split at h
    · injection h with h
      injection h with h he
      subst h he
      right
      show _ + (r.s.drop _).length ≤ _
      rw [List.length_drop]
      split
      · simp
      · simp
        omega
    · split at h
      · cases h
      · rename_i k z m hh
        have hm := head_len hh
        split at h
        · rename_i hw
          injection h with h
          injection h with h he
          subst h he
          exact .inl ⟨hw, rfl⟩
        · split at h
          · split at h
            · injection h with h
              injection h with h he
              subst h he
              exact .inl ⟨by show hFrame ≠ 0; decide, rfl⟩
            · split at h
              · cases h
              · split at h
                · rename_i hc
                  injection h with h
                  injection h with h he
                  subst h he
                  exact .inl ⟨hc, rfl⟩
                · injection h with h
                  injection h with h he
                  subst h he
                  right
                  show 1 + (r.s.drop _).length ≤ _
                  rw [List.length_drop]
                  omega
          · injection h with h
            injection h with h he
            subst h he
            right
            show 0 + (r.s.drop _).length ≤ _
            rw [List.length_drop]
            omega
theorem run_few : ∀ (k : Nat) (r : Hr), (Hr.run k r).2.length ≤ r.s.length
  | 0, _ => Nat.zero_le _
  | k + 1, r => by
    rw [Hr.run_succ]
    split
    · exact Nat.zero_le _
    · rename_i hn
      split
      · exact Nat.zero_le _
      · rename_i q e hq
        show (e ++ (Hr.run k q).2).length ≤ _
        rw [List.length_append]
        have ih := run_few k q
        rcases step_few (fun c => hn (.inl c)) hq with ⟨h1, h2⟩ | h1
        · rw [Hr.run_coded k q (.inr h1), h2]
          exact Nat.zero_le _
        · omega
theorem feed_few (r : Hr) (t : L) : (r.feed t).2.length ≤ r.s.length + t.length := by
  unfold Hr.feed
  split
  · exact Nat.zero_le _
  · have := run_few ((r.more t).s.length + 1) (r.more t)
    have e : (r.more t).s.length = r.s.length + t.length := by
      show (r.s ++ t).length = _
      rw [List.length_append]
    rw [e] at this
    unfold Hr.go
    rw [e]
    exact this
theorem bytes_snoc (ts : List L) (t : L) : bytesL (ts ++ [t]) = bytesL ts + t.length := by
  unfold bytesL
  simp
theorem evv_get : ∀ (l : List Ev) (k : Nat), k < l.length → (evv l)[2 * k]? = some (.int .i64 ((l.getD k (0, [])).1 : Int)) ∧ (evv l)[2 * k + 1]? = some (.string (strL (l.getD k (0, [])).2))
  | [], k, h => absurd h (Nat.not_lt_zero _)
  | x :: l, 0, _ => ⟨rfl, rfl⟩
  | x :: l, k + 1, h => by
    have := evv_get l k (Nat.lt_of_succ_lt_succ h)
    exact this
theorem EvR.at {base : Nat} {w : World} {v : Value} {l : List Ev} (h : EvR base w v l) : EvAt w v l := by
  obtain ⟨h1, h2⟩ := h.row
  rcases h2 with ⟨rfl, e⟩ | ⟨g, cap, cur, rfl, e2, e3, e4, e5, e6, e7⟩
  · have : l = [] := List.eq_nil_of_length_eq_zero e
    subst this
    exact ⟨_, _, rfl, .inl rfl⟩
  · have get : ∀ i x, (evv l)[i]? = some x → w.cell? ⟨g, i, none⟩ = some x := fun i x hx => by
      rw [← e7, List.getElem?_take] at hx
      split at hx
      · rw [Array.getElem?_toList] at hx
        simp [World.cell?, e3, hx]
      · cases hx
    refine ⟨_, _, rfl, .inr ⟨g, 0, rfl, fun k hk => ?_⟩⟩
    have := evv_get l k hk
    rw [Nat.zero_add]
    exact ⟨get _ _ this.1, get _ _ this.2⟩
end Go.Proofs.YtnngdlleicjegaaDoor
