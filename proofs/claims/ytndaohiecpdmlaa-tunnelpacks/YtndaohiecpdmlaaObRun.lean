/-
  A builtin's operation in a walk, by what the builtin does; cells laid over a row. No condition.
-/
import Derived.Test.YtndaohiecpdmlaaObCells
import Derived.OwnWalk
import Derived.Laws.CopyRow
import Derived.Laws.OwnMore
import Derived.Deep.AppendSrc
import Derived.Deep.RegionLaw
import Derived.Laws.NewBlocks
import Derived.Laws.LoneSync
namespace Go.Proofs.Ytndaohiecpdmlaa
set_option maxRecDepth 100000
open Go.RowKit

section
variable {P : Program}
/-- A builtin's operation, by what the builtin does. -/
theorem obB2 (w : World) {o : Oper} {a : Act} {K : Act → World → Prop} {Q : Exit → Act → World → Prop} (b : Builtin) (x y : Operand) (t t' : TypeId) (ho : o.op = .call { callee := .builtin b, args := #[x, y], argTypes := #[t, t'] }) (v u : Value) (hx : a.eval x = v) (hy : a.eval y = u)
    {v' : Value} {w' : World} (hr : ∀ z, (builtin b #[t, t'] o.type z #[v, u]).run P w = .ok (.value v') w') (h : K (a.put o.dst v') w') : o.wp P a w K Q := by
  have hr' : (execOp a.eval o).run P w = .ok (.value v') w' := by
    unfold execOp
    rw [ho]
    simp only [resolve, invoke, Sem.run_bind, Sem.run_pure, Result.andThen_ok, List.map_toArray, List.map_cons, List.map_nil, hx, hy, hr]
  unfold Oper.wp
  rw [hr']
  exact h
theorem obB1 (w : World) {o : Oper} {a : Act} {K : Act → World → Prop} {Q : Exit → Act → World → Prop} (b : Builtin) (x : Operand) (t : TypeId) (ho : o.op = .call { callee := .builtin b, args := #[x], argTypes := #[t] }) (v : Value) (hx : a.eval x = v)
    {v' : Value} {w' : World} (hr : ∀ z, (builtin b #[t] o.type z #[v]).run P w = .ok (.value v') w') (h : K (a.put o.dst v') w') : o.wp P a w K Q := by
  have hr' : (execOp a.eval o).run P w = .ok (.value v') w' := by
    unfold execOp
    rw [ho]
    simp only [resolve, invoke, Sem.run_bind, Sem.run_pure, Result.andThen_ok, List.map_toArray, List.map_cons, List.map_nil, hx, hr]
  unfold Oper.wp
  rw [hr']
  exact h
theorem obB2L (w : World) {ops : Array Oper} {rest : List Oper} {o : Oper} {a : Act} {Q : Exit → Act → World → Prop} (hgd : o.guard = none) (b : Builtin) (x y : Operand) (t t' : TypeId) (ho : o.op = .call { callee := .builtin b, args := #[x, y], argTypes := #[t, t'] }) (v u : Value) (hx : a.eval x = v) (hy : a.eval y = u)
    {v' : Value} {w' : World} (hr : ∀ z, (builtin b #[t, t'] o.type z #[v, u]).run P w = .ok (.value v') w') (h : wpList P ops Q rest (a.put o.dst v') w') : wpList P ops Q (o :: rest) a w :=
  wpList_plain hgd fun _ hK => obB2 w b x y t t' ho v u hx hy hr (hK _ _ h)
theorem obB1L (w : World) {ops : Array Oper} {rest : List Oper} {o : Oper} {a : Act} {Q : Exit → Act → World → Prop} (hgd : o.guard = none) (b : Builtin) (x : Operand) (t : TypeId) (ho : o.op = .call { callee := .builtin b, args := #[x], argTypes := #[t] }) (v : Value) (hx : a.eval x = v)
    {v' : Value} {w' : World} (hr : ∀ z, (builtin b #[t] o.type z #[v]).run P w = .ok (.value v') w') (h : wpList P ops Q rest (a.put o.dst v') w') : wpList P ops Q (o :: rest) a w :=
  wpList_plain hgd fun _ hK => obB1 w b x t ho v hx hr (hK _ _ h)
/-- .. in a region that draws its order. -/
theorem obB2S {ops : Array Oper} {o : Oper} {a : Act} {w : World} {K : Act → World → Prop} {Q : Exit → Act → World → Prop} {E : Prop} (hg : o.guard = none) (b : Builtin) (x y : Operand) (t t' : TypeId) (ho : o.op = .call { callee := .builtin b, args := #[x, y], argTypes := #[t, t'] }) (v u : Value) (hx : a.eval x = v) (hy : a.eval y = u)
    {v' : Value} {w' : World} (hr : ∀ z, (builtin b #[t, t'] o.type z #[v, u]).run P w = .ok (.value v') w') (h : K (a.put o.dst v') w') : if Region.wanted o (yielded ops a.tmps) = true then Oper.wp P o a w K Q else E := by
  rw [if_pos (by simp [Region.wanted, hg])]
  exact obB2 w b x y t t' ho v u hx hy hr h
end
/-- Cells laid over a row. -/
def spl (cur : Array Value) (o : Nat) (cs : List Value) : Array Value := (cur.toList.take o ++ cs ++ cur.toList.drop (o + cs.length)).toArray
theorem spl_size {cur : Array Value} {o : Nat} {cs : List Value} (h : o + cs.length ≤ cur.size) : (spl cur o cs).size = cur.size := by
  unfold spl
  simp
  omega
theorem spl_get {cur : Array Value} {o : Nat} {cs : List Value} (h : o + cs.length ≤ cur.size) (k : Nat) : (spl cur o cs)[k]? = if k < o then cur[k]? else if k < o + cs.length then cs[k - o]? else cur[k]? := by
  unfold spl
  have e : min o cur.size = o := by omega
  rw [List.getElem?_toArray, List.append_assoc, List.getElem?_append, List.length_take, Array.length_toList, e]
  by_cases h1 : k < o
  · rw [if_pos h1, if_pos h1, List.getElem?_take, if_pos h1, Array.getElem?_toList]
  · rw [if_neg h1, if_neg h1, List.getElem?_append]
    by_cases h2 : k < o + cs.length
    · rw [if_pos (by omega), if_pos h2]
    · rw [if_neg (by omega), if_neg h2, List.getElem?_drop, Array.getElem?_toList]
      congr 1
      omega
end Go.Proofs.Ytndaohiecpdmlaa
