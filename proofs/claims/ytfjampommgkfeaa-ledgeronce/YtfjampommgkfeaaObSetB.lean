/-
  A map from numbers to yes or no that the call itself makes and fills with yes alone: a set, with its number of entries. No condition.
-/
import Derived.Test.YtfjampommgkfeaaObMapB
import Derived.Maps.OwnSet
namespace Go.Proofs.Ytfjampommgkfeaa
set_option maxRecDepth 100000
open Go.RowKit Go.Maps

/-- The map in block b holds yes for each number of S, and nothing else. -/
structure SetB (w : World) (b : Nat) (S : List Int) : Prop where
  ex : ∃ D : DataW Unit, w.ownsMap Try.prog 2 (plainElem Try.prog 4) b S.length D ∧ (∀ x, D.atKey (.int .i64 x) (.lit (.bool false)) = .lit (.bool (decide (x ∈ S)))) ∧ (∀ x, Maps.has D (.int .i64 x) = decide (x ∈ S)) ∧ Maps.size D = S.length
theorem SetB.made (w : World) : SetB (w.alloc (.map #[] 0)) w.heap.size [] := ⟨_, World.ownsMap_made w _ _ _, fun x => by simp [DataW.atKey], fun x => by simp [Maps.has], rfl⟩
theorem SetB.lt {w : World} {b : Nat} {S : List Int} (h : SetB w b S) : b < w.heap.size := by
  obtain ⟨D, h, _⟩ := h.ex
  exact h.lt
theorem SetB.of_block {w w' : World} {b : Nat} {S : List Int} (h : SetB w b S) (e : w'.heap[b]? = w.heap[b]?) : SetB w' b S := by
  obtain ⟨D, ⟨es, clock, hb, F, hs, hD⟩, hS⟩ := h.ex
  exact ⟨D, ⟨es, clock, e.trans hb, F, hs, hD⟩, hS⟩
theorem SetB.look {w : World} {b : Nat} {S : List Int} (h : SetB w b S) {x : Int} (hx : -9223372036854775808 ≤ x ∧ x ≤ 9223372036854775807) : (Instr.lookup 46 (.map (some b)) (.int .i64 x) false).run Try.prog w = .ok (.bool (decide (x ∈ S))) w := by
  obtain ⟨D, h, hS, -, -⟩ := h.ex
  exact MapB.look (n := S.length) (S := fun x => decide (x ∈ S)) ⟨D, h, hS⟩ hx
theorem SetB.len {w : World} {b : Nat} {S : List Int} (h : SetB w b S) (ty : TypeId) : (Builtin.len_ #[46] ty #[.map (some b)]).run Try.prog w = .ok (.int .i64 S.length) w := by
  obtain ⟨D, h, -, -, hs⟩ := h.ex
  rw [← hs]
  exact h.len Try.underlying46 ty
theorem SetB.put {w : World} {b : Nat} {S : List Int} (h : SetB w b S) (hn : S.length < maxLen) {x : Int} (hx : -9223372036854775808 ≤ x ∧ x ≤ 9223372036854775807) (hS : x ∉ S) :
    ∃ w', (Instr.mapUpdate 46 (.map (some b)) (.int .i64 x) (.bool true)).run Try.prog w = .ok () w' ∧ SetB w' b (S ++ [x]) ∧ w.grownBy w' (some b) := by
  obtain ⟨D, h, h1, h2, h3⟩ := h.ex
  obtain ⟨w', hrun, ho, hg⟩ := h.update mapKey64 Try.underlying46 hn (keyOf_int_mk Try.underlying2 (lit64 hx)) (plainElem_bool Try.underlying4 true)
  have ht := h.tidy mapKey64
  have hk : WideAt.IsKeyLit (Lit.int .i64 x) := trivial
  refine ⟨w', hrun, ⟨_, by simpa using ho, fun y => ?_, fun y => ?_, ?_⟩, hg⟩
  · by_cases q : y = x
    · subst q
      rw [decide_eq_true (by simp)]
      exact atKey_put_same ht.isMap hk _ _
    · have e : decide (y ∈ S ++ [x]) = decide (y ∈ S) := by simp [q]
      rw [e, ← h1 y]
      exact atKey_put_other (fun e => q (by injection e)) _ _
  · by_cases q : y = x
    · subst q
      rw [decide_eq_true (by simp)]
      exact has_put_same ht.isMap hk _
    · have e : decide (y ∈ S ++ [x]) = decide (y ∈ S) := by simp [q]
      rw [e, ← h2 y]
      exact has_put_other (fun e => q (by injection e)) _
  · rw [size_put ht, h2 x, decide_eq_false hS]
    simp [h3]
theorem SetB.wput {w : World} {b : Nat} {S : List Int} (h : SetB w b S) (hn : S.length < maxLen) {ops : Array Oper} {rest : List Oper} {o : Oper} {a : Act} {Q : Exit → Act → World → Prop} (hg : o.guard = none) (m k u : Operand)
    (hop : o.op = .mapUpdate 46 m k u) {x : Int} (hx : -9223372036854775808 ≤ x ∧ x ≤ 9223372036854775807) (hS : x ∉ S) (hm : a.eval m = .map (some b)) (hk : a.eval k = .int .i64 x) (hu : a.eval u = .bool true)
    (hK : ∀ w', SetB w' b (S ++ [x]) → w.grownBy w' (some b) → wpList Try.prog ops Q rest (a.put o.dst undef) w') : wpList Try.prog ops Q (o :: rest) a w := by
  refine wpList_plain hg fun K' hK' => ?_
  obtain ⟨w', hrun, r1, r2⟩ := h.put hn hx hS
  unfold Oper.wp
  simp [execOp, hop, hm, hk, hu, hrun, Result.andThen]
  exact hK' _ _ (hK w' r1 r2)
end Go.Proofs.Ytfjampommgkfeaa
