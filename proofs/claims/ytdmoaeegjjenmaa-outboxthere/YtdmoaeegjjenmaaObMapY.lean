/-
  A map from numbers to bytes that the call itself makes: what it tells, read, written and taken out. No condition.
-/
import Derived.Test.YtdmoaeegjjenmaaChecked
import Derived.Maps.Own
import Derived.Maps.Views
import Derived.Maps.OwnSet
import Derived.WalkKit
namespace Go.Proofs.Ytdmoaeegjjenmaa
set_option maxRecDepth 100000
open Go.RowKit Go.Maps Go.ChangeMaps Go.MapKept

/-- The map in block b tells S, of every number; at most n entries. -/
structure MapY (w : World) (b n : Nat) (S : Int → Option Int) : Prop where
  ex : ∃ D : DataW Unit, w.ownsMap Try.prog 2 (plainElem Try.prog 5) b n D ∧ (∀ x, Maps.has D (.int .i64 x) = (S x).isSome) ∧ ∀ x, D.atKey (.int .i64 x) (.lit (.int .u8 0)) = .lit (.int .u8 ((S x).getD 0))
theorem keyY : Keyed Try.prog 2 := int_keyed Try.underlying2
theorem zeroY (w : World) : (zeroValue 5).run Try.prog w = .ok (.int .u8 0) w := by kernel_rfl
theorem MapY.made (w : World) : MapY (w.alloc (.map #[] 0)) w.heap.size 0 fun _ => none := ⟨_, World.ownsMap_made w _ _ _, fun _ => by simp [Maps.has], fun _ => rfl⟩
theorem MapY.lt {w : World} {b n : Nat} {S : Int → Option Int} (h : MapY w b n S) : b < w.heap.size := by
  obtain ⟨D, h, _⟩ := h.ex
  exact h.lt
theorem MapY.of_block {w w' : World} {b n : Nat} {S : Int → Option Int} (h : MapY w b n S) (e : w'.heap[b]? = w.heap[b]?) : MapY w' b n S := by
  obtain ⟨D, ⟨es, clock, hb, F, hs, hD⟩, hS⟩ := h.ex
  exact ⟨D, ⟨es, clock, e.trans hb, F, hs, hD⟩, hS⟩
theorem MapY.mono {w : World} {b n n' : Nat} {S : Int → Option Int} (h : MapY w b n S) (hn : n ≤ n') : MapY w b n' S := by
  obtain ⟨D, h, hS⟩ := h.ex
  exact ⟨D, h.mono hn, hS⟩
theorem wfY64 {x : Int} (h : -9223372036854775808 ≤ x ∧ x ≤ 9223372036854775807) : (Lit.int .i64 x).wf = true := WalkArith.wf_i64 (by omega)
theorem wfY8 {x : Int} (h : 0 ≤ x ∧ x ≤ 255) : (Lit.int .u8 x).wf = true := by
  have e1 : IntKind.u8.min = 0 := by decide
  have e2 : IntKind.u8.max = 255 := by decide
  simp [Lit.wf, e1, e2]
  omega
theorem MapY.look {w : World} {b n : Nat} {S : Int → Option Int} (h : MapY w b n S) {x : Int} (hx : -9223372036854775808 ≤ x ∧ x ≤ 9223372036854775807) : (Instr.lookup 72 (.map (some b)) (.int .i64 x) true).run Try.prog w = .ok (.tuple #[.int .u8 ((S x).getD 0), .bool (S x).isSome]) w := by
  obtain ⟨D, h, h1, h2⟩ := h.ex
  obtain ⟨v, ps, hrun, hv⟩ := h.look_ok keyY Try.underlying72 (zeroY w) (plainElem_int Try.underlying5 (by decide)) (keyOf_int_mk Try.underlying2 (wfY64 hx))
  obtain ⟨c, rfl, hc, -⟩ := plainElem_int_inv Try.underlying5 hv
  rw [h2] at hc
  injection hc with q1 _
  injection q1 with q1
  injection q1 with _ q1
  rw [h1] at hrun
  rw [q1]
  exact hrun
theorem MapY.put {w : World} {b n : Nat} {S : Int → Option Int} (h : MapY w b n S) (hn : n < maxLen) {x : Int} (hx : -9223372036854775808 ≤ x ∧ x ≤ 9223372036854775807) {c : Int} (hc : 0 ≤ c ∧ c ≤ 255) :
    ∃ w', (Instr.mapUpdate 72 (.map (some b)) (.int .i64 x) (.int .u8 c)).run Try.prog w = .ok () w' ∧ MapY w' b (n + 1) (fun y => if y = x then some c else S y) ∧ w.grownBy w' (some b) := by
  obtain ⟨D, h, h1, h2⟩ := h.ex
  obtain ⟨w', hrun, ho, hg⟩ := h.update keyY Try.underlying72 hn (keyOf_int_mk Try.underlying2 (wfY64 hx)) (plainElem_int Try.underlying5 (wfY8 hc))
  have hk : WideAt.IsKeyLit (Lit.int .i64 x) := trivial
  have hm := h.isMap
  refine ⟨w', hrun, ⟨_, ho, fun y => ?_, fun y => ?_⟩, hg⟩
  · by_cases q : y = x
    · subst q
      rw [if_pos rfl]
      exact has_put_same hm hk _
    · rw [if_neg q, ← h1 y]
      exact has_put_other (fun e => q (by injection e)) _
  · by_cases q : y = x
    · subst q
      rw [if_pos rfl]
      exact atKey_put_same hm hk _ _
    · rw [if_neg q, ← h2 y]
      exact atKey_put_other (fun e => q (by injection e)) _ _
theorem MapY.drop {w : World} {b n : Nat} {S : Int → Option Int} (h : MapY w b n S) {x : Int} (hx : -9223372036854775808 ≤ x ∧ x ≤ 9223372036854775807) (ty : TypeId) :
    ∃ w', (Builtin.delete_ #[72, 2] ty #[.map (some b), .int .i64 x]).run Try.prog w = .ok (.tuple #[]) w' ∧ MapY w' b n (fun y => if y = x then none else S y) ∧ w.mapTurned w' b := by
  obtain ⟨D, h, h1, h2⟩ := h.ex
  obtain ⟨w', hrun, ho, hg⟩ := h.drop keyY Try.underlying72 (keyOf_int_mk Try.underlying2 (wfY64 hx)) ty
  refine ⟨w', hrun, ⟨_, ho, fun y => ?_, fun y => ?_⟩, hg⟩
  · by_cases q : y = x
    · subst q
      rw [if_pos rfl]
      exact has_del_same
    · rw [if_neg q, ← h1 y]
      exact has_del_other (fun e => q (by injection e))
  · by_cases q : y = x
    · subst q
      rw [if_pos rfl]
      exact atKey_del_same _
    · rw [if_neg q, ← h2 y]
      exact atKey_del_other (fun e => q (by injection e)) _
/-- The operation that writes, at a walk. -/
theorem MapY.wput {w : World} {b n : Nat} {S : Int → Option Int} (h : MapY w b n S) (hn : n < maxLen) {ops : Array Oper} {rest : List Oper} {o : Oper} {a : Act} {Q : Exit → Act → World → Prop} (hg : o.guard = none) (m k u : Operand)
    (hop : o.op = .mapUpdate 72 m k u) {x c : Int} (hx : -9223372036854775808 ≤ x ∧ x ≤ 9223372036854775807) (hc : 0 ≤ c ∧ c ≤ 255) (hm : a.eval m = .map (some b)) (hk : a.eval k = .int .i64 x) (hu : a.eval u = .int .u8 c)
    (hK : ∀ w', MapY w' b (n + 1) (fun y => if y = x then some c else S y) → w.grownBy w' (some b) → wpList Try.prog ops Q rest (a.put o.dst undef) w') : wpList Try.prog ops Q (o :: rest) a w := by
  refine wpList_plain hg fun K' hK' => ?_
  obtain ⟨w', hrun, r1, r2⟩ := h.put hn hx hc
  unfold Oper.wp
  simp [execOp, hop, hm, hk, hu, hrun, Result.andThen]
  exact hK' _ _ (hK w' r1 r2)
theorem turned_grown {w w' : World} {b : Nat} (h : w.mapTurned w' b) : w.grownBy w' (some b) := by
  obtain ⟨es, clock, es', clock', hb, rfl⟩ := h
  exact ⟨rfl, rfl, rfl, by simp [setBlock], fun i _ hi => heap_setBlock_other hb _ (fun e => hi (by rw [e]))⟩
/-- .. and the one that takes out. -/
theorem MapY.wdel {w : World} {b n : Nat} {S : Int → Option Int} (h : MapY w b n S) {ops : Array Oper} {rest : List Oper} {o : Oper} {a : Act} {Q : Exit → Act → World → Prop} (hg : o.guard = none) (m k : Operand)
    (hop : o.op = Op.call { callee := Callee.builtin Builtin.delete, args := #[m, k], argTypes := #[72, 2] }) {x : Int} (hx : -9223372036854775808 ≤ x ∧ x ≤ 9223372036854775807) (hm : a.eval m = .map (some b)) (hk : a.eval k = .int .i64 x)
    (hK : ∀ w', MapY w' b n (fun y => if y = x then none else S y) → w.grownBy w' (some b) → wpList Try.prog ops Q rest (a.put o.dst (.tuple #[])) w') : wpList Try.prog ops Q (o :: rest) a w := by
  refine wpList_plain hg fun K' hK' => ?_
  obtain ⟨w', hrun, r1, r2⟩ := h.drop hx o.type
  unfold Oper.wp
  simp [execOp, hop, resolve, invoke, builtin, hm, hk, hrun, Result.andThen]
  exact hK' _ _ (hK w' r1 (turned_grown r2))
theorem MapY.clr {w : World} {b n : Nat} {S : Int → Option Int} (h : MapY w b n S) (ty : TypeId) :
    ∃ w', (Builtin.clear_ #[72] ty #[.map (some b)]).run Try.prog w = .ok (.tuple #[]) w' ∧ MapY w' b 0 (fun _ => none) ∧ w.mapTurned w' b := by
  obtain ⟨D, ⟨es, clock, hb, F, hs, hD⟩, h1, h2⟩ := h.ex
  refine ⟨setBlock w b (.map #[] clock), ?_, ⟨.map [], ⟨#[], clock, heap_setBlock_same hb _, ⟨by simp, stamped_empty _, by simp⟩, Nat.le_refl _, rfl⟩, fun _ => by simp [Maps.has], fun _ => rfl⟩, ⟨es, clock, #[], clock, hb, rfl⟩⟩
  simp [Builtin.clear_, run_underlying Try.underlying72, Go.MapKept.run_getObj_map hb, Go.MapKept.run_setObj_map _ hb, Result.andThen, setBlock]
/-- The operation that clears, at a walk. -/
theorem MapY.wclr {w : World} {b n : Nat} {S : Int → Option Int} (h : MapY w b n S) {ops : Array Oper} {rest : List Oper} {o : Oper} {a : Act} {Q : Exit → Act → World → Prop} (hg : o.guard = none) (m : Operand)
    (hop : o.op = Op.call { callee := Callee.builtin Builtin.clear, args := #[m], argTypes := #[72] }) (hm : a.eval m = .map (some b))
    (hK : ∀ w', MapY w' b 0 (fun _ => none) → w.grownBy w' (some b) → wpList Try.prog ops Q rest (a.put o.dst (.tuple #[])) w') : wpList Try.prog ops Q (o :: rest) a w := by
  refine wpList_plain hg fun K' hK' => ?_
  obtain ⟨w', hrun, r1, r2⟩ := h.clr o.type
  unfold Oper.wp
  simp [execOp, hop, resolve, invoke, builtin, hm, hrun, Result.andThen]
  exact hK' _ _ (hK w' r1 (turned_grown r2))
end Go.Proofs.Ytdmoaeegjjenmaa
