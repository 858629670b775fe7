/-
  A map from numbers to yes or no that the call itself makes: what it tells, read and written. No condition.
-/
import Derived.Test.YtfjampommgkfeaaChecked
import Derived.Maps.Own
import Derived.Maps.Views
import Derived.WalkKit
namespace Go.Proofs.Ytfjampommgkfeaa
set_option maxRecDepth 100000
open Go.RowKit Go.Maps

/-- The map in block b tells S, of every number; at most n entries. -/
structure MapB (w : World) (b n : Nat) (S : Int → Bool) : Prop where
  ex : ∃ D : DataW Unit, w.ownsMap Try.prog 2 (plainElem Try.prog 4) b n D ∧ ∀ x, D.atKey (.int .i64 x) (.lit (.bool false)) = .lit (.bool (S x))
theorem mapKey64 : Keyed Try.prog 2 := int_keyed Try.underlying2
theorem zeroB (w : World) : (zeroValue 4).run Try.prog w = .ok (.bool false) w := by kernel_rfl
theorem MapB.made (w : World) : MapB (w.alloc (.map #[] 0)) w.heap.size 0 fun _ => false := ⟨_, World.ownsMap_made w _ _ _, fun _ => rfl⟩
theorem MapB.lt {w : World} {b n : Nat} {S : Int → Bool} (h : MapB w b n S) : b < w.heap.size := by
  obtain ⟨D, h, _⟩ := h.ex
  exact h.lt
theorem MapB.of_block {w w' : World} {b n : Nat} {S : Int → Bool} (h : MapB w b n S) (e : w'.heap[b]? = w.heap[b]?) : MapB w' b n S := by
  obtain ⟨D, ⟨es, clock, hb, F, hs, hD⟩, hS⟩ := h.ex
  exact ⟨D, ⟨es, clock, e.trans hb, F, hs, hD⟩, hS⟩
theorem lit64 {x : Int} (h : -9223372036854775808 ≤ x ∧ x ≤ 9223372036854775807) : (Lit.int .i64 x).wf = true := WalkArith.wf_i64 (by omega)
theorem plainElem_bool_inv {v : Value} {z : DataW Unit × List MemPlace} (h : plainElem Try.prog 4 v = some z) : ∃ c, v = .bool c ∧ z = (.lit (.bool c), []) := by
  unfold plainElem at h
  rw [Try.underlying4] at h
  cases v <;> simp at h
  exact ⟨_, rfl, h.symm⟩
theorem MapB.look {w : World} {b n : Nat} {S : Int → Bool} (h : MapB w b n S) {x : Int} (hx : -9223372036854775808 ≤ x ∧ x ≤ 9223372036854775807) : (Instr.lookup 46 (.map (some b)) (.int .i64 x) false).run Try.prog w = .ok (.bool (S x)) w := by
  obtain ⟨D, h, hS⟩ := h.ex
  obtain ⟨v, ps, hrun, hv⟩ := h.lookup mapKey64 Try.underlying46 (zeroB w) (plainElem_bool Try.underlying4 false) (keyOf_int_mk Try.underlying2 (lit64 hx))
  obtain ⟨c, rfl, hc⟩ := plainElem_bool_inv hv
  rw [hS] at hc
  injection hc with h1 _
  injection h1 with h1
  injection h1 with h1
  rw [h1]
  exact hrun
theorem MapB.put {w : World} {b n : Nat} {S : Int → Bool} (h : MapB w b n S) (hn : n < maxLen) {x : Int} (hx : -9223372036854775808 ≤ x ∧ x ≤ 9223372036854775807) (v : Bool) :
    ∃ w', (Instr.mapUpdate 46 (.map (some b)) (.int .i64 x) (.bool v)).run Try.prog w = .ok () w' ∧ MapB w' b (n + 1) (fun y => if y = x then v else S y) ∧ w.grownBy w' (some b) := by
  obtain ⟨D, h, hS⟩ := h.ex
  obtain ⟨w', hrun, ho, hg⟩ := h.update mapKey64 Try.underlying46 hn (keyOf_int_mk Try.underlying2 (lit64 hx)) (plainElem_bool Try.underlying4 v)
  refine ⟨w', hrun, ⟨_, ho, fun y => ?_⟩, hg⟩
  have hm : IsMap D := by obtain ⟨es, clock, _, _, _, e⟩ := h; exact ⟨_, e⟩
  by_cases q : y = x
  · subst q
    rw [if_pos rfl]
    exact atKey_put_same hm (show WideAt.IsKeyLit (Lit.int .i64 y) from trivial) _ _
  · rw [if_neg q, ← hS y]
    exact atKey_put_other (fun e => q (by injection e)) _ _
/-- The two operations that write, at a walk. -/
theorem MapB.wput {w : World} {b n : Nat} {S : Int → Bool} (h : MapB w b n S) (hn : n < maxLen) {ops : Array Oper} {rest : List Oper} {o : Oper} {a : Act} {Q : Exit → Act → World → Prop} (hg : o.guard = none) (m k u : Operand)
    (hop : o.op = .mapUpdate 46 m k u ∨ o.op = .insert 46 m k u) {x : Int} (hx : -9223372036854775808 ≤ x ∧ x ≤ 9223372036854775807) {v : Bool} (hm : a.eval m = .map (some b)) (hk : a.eval k = .int .i64 x) (hu : a.eval u = .bool v)
    (hK : ∀ w', MapB w' b (n + 1) (fun y => if y = x then v else S y) → w.grownBy w' (some b) → wpList Try.prog ops Q rest (a.put o.dst undef) w') : wpList Try.prog ops Q (o :: rest) a w := by
  refine wpList_plain hg fun K' hK' => ?_
  obtain ⟨w', hrun, r1, r2⟩ := h.put hn hx v
  unfold Oper.wp
  rcases hop with hop | hop <;> simp [execOp, hop, hm, hk, hu, hrun, Result.andThen] <;> exact hK' _ _ (hK w' r1 r2)
end Go.Proofs.Ytfjampommgkfeaa
