/-
  A row of numbers that was handed out is put behind a row of the law's own. No condition.
-/
import Derived.Test.YtfjampommgkfeaaLgFace
import Derived.Laws.AppendOwnNone
namespace Go.Proofs.Ytfjampommgkfeaa
set_option maxRecDepth 100000
open Go.RowKit Go.Sort

theorem n64_get (xs : List Int) (k : Nat) (u : Value) (h : (n64 xs)[k]? = some u) : k < xs.length ∧ u = .int .i64 (xs.getD k 0) := by
  unfold n64 at h
  rw [List.getElem?_map] at h
  rcases Nat.lt_or_ge k xs.length with q | q
  · refine ⟨q, ?_⟩
    rw [List.getElem?_eq_getElem q] at h
    simp at h
    rw [← h]
    simp [List.getD, q]
  · rw [List.getElem?_eq_none q] at h
    simp at h
theorem wpList_app64 {A : Nat → Prop} {w : World} {ops : Array Oper} {rest : List Oper} {o : Oper} {a : Act} {Q : Exit → Act → World → Prop} (hgd : o.guard = none) (s x : Operand)
    (ho : o.op = .call { callee := .builtin .append, args := #[s, x], argTypes := #[32, 32] }) (base : Nat) (v y : Value) (xs ys : List Int) (hs : a.eval s = v) (hown : w.ownsRow base 2 1 v xs.length (n64 xs)) (hx : a.eval x = y) (hy : N64 w A y ys)
    (hl : xs.length + ys.length < 1048576) (hbase : base ≤ w.heap.size)
    (h : ∀ v' w', w'.ownsRow base 2 1 v' (xs ++ ys).length (n64 (xs ++ ys)) → w.grownBy w' v.ownBlock → wpList Try.prog ops Q rest (a.put o.dst v') w') : wpList Try.prog ops Q (o :: rest) a w := by
  obtain ⟨i0, hi0, hz0, hz1, hz2⟩ := info_i64
  obtain ⟨ya, yc, rfl, hn, hc⟩ := hy
  cases ya with
  | none =>
    have hy0 : ys = [] := by
      rcases hc with e | ⟨g, p, e, -⟩
      · exact e
      · cases e
    have hc0 := hn rfl
    subst hy0 hc0
    refine wpList_append_own_none hgd s x 32 ho base 2 i0 1 Try.underlying32 hi0 v _ _ hs hown hx (h v w ?_ ?_)
    · simpa using hown
    · exact ⟨rfl, rfl, rfl, Nat.le_refl _, fun _ _ _ => rfl⟩
  | some ad =>
    refine wpList_append_own _ hgd s x 32 ho base 2 i0 (.int .i64 0) 1 8 Try.underlying32 hi0 hz0 hz1 hz2 rfl (by decide) v _ _ hs hown ad ys.length yc (n64 ys) hx (by simp [n64]) (fun j u hj => ?_) (fun u hu => ?_) (by unfold maxLen; omega) (by omega) hbase (fun v' w' h1 h2 _ => h v' w' ?_ h2)
    · obtain ⟨q, rfl⟩ := n64_get ys j u hj
      rcases hc with e | ⟨g, p, e, -, hc⟩
      · rw [e] at q; simp at q
      · injection e with e
        subst e
        rw [Addr.add_mid]
        exact hc j q
    · unfold n64 at hu
      obtain ⟨z, _, rfl⟩ := List.mem_map.1 hu
      rfl
    · simpa [n64] using h1
end Go.Proofs.Ytfjampommgkfeaa
