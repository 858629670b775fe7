/-
  A map from numbers to values of any kind that the call itself makes: what it tells, read, written, taken out. No condition.
-/
import Derived.Test.YtiamlldooihkdaaObCells
import Derived.Maps.Own
import Derived.Maps.Views
import Derived.Maps.OwnSet
import Derived.WalkKit
namespace Go.Proofs.Ytiamlldooihkdaa
set_option maxRecDepth 100000
open Go.RowKit Go.Maps Go.ChangeMaps Go.MapKept

/-- A kind of maps: the types of the map, its keys (numbers of 64 bits), its elements; an element's zero. -/
structure MapK where
  t : TypeId
  k : TypeId
  e : TypeId
  z : Value
structure MapK.Ok (M : MapK) : Prop where
  ht : Try.prog.underlying M.t = some (.map M.k M.e)
  hk : Try.prog.underlying M.k = some (.int .i64)
  hz : ∀ w, (zeroValue M.e).run Try.prog w = .ok M.z w
/-- A value, told as itself. -/
def anyV (v : Value) : Option (DataW Value × List MemPlace) := some (.held v, [])
/-- The map in block b tells S, of every number; at most n entries. -/
structure MapV (M : MapK) (w : World) (b n : Nat) (S : Int → Option Value) : Prop where
  ex : ∃ D : DataW Value, w.ownsMap Try.prog M.k anyV b n D ∧ (∀ x, Maps.has D (.int .i64 x) = (S x).isSome) ∧ ∀ x, D.atKey (.int .i64 x) (.held M.z) = .held ((S x).getD M.z)
section
variable {M : MapK}
theorem MapV.made (w : World) : MapV M (w.alloc (.map #[] 0)) w.heap.size 0 fun _ => none := ⟨_, World.ownsMap_made w _ _ _, fun _ => by simp [Maps.has], fun _ => rfl⟩
theorem MapV.lt {w : World} {b n : Nat} {S : Int → Option Value} (h : MapV M w b n S) : b < w.heap.size := by
  obtain ⟨D, h, _⟩ := h.ex
  exact h.lt
theorem MapV.of_block {w w' : World} {b n : Nat} {S : Int → Option Value} (h : MapV M w b n S) (e : w'.heap[b]? = w.heap[b]?) : MapV M w' b n S := by
  obtain ⟨D, ⟨es, clock, hb, F, hs, hD⟩, hS⟩ := h.ex
  exact ⟨D, ⟨es, clock, e.trans hb, F, hs, hD⟩, hS⟩
theorem MapV.keep {w w' : World} {b n : Nat} {S : Int → Option Value} (h : MapV M w b n S) (k : Below w.heap.size w w') : MapV M w' b n S := h.of_block (k.block b h.lt)
theorem MapV.more {w : World} {b n n' : Nat} {S : Int → Option Value} (h : MapV M w b n S) (hn : n ≤ n') : MapV M w b n' S := by
  obtain ⟨D, h, hS⟩ := h.ex
  exact ⟨D, h.mono hn, hS⟩
theorem litV {x : Int} (h : -9223372036854775808 ≤ x ∧ x ≤ 9223372036854775807) : (Lit.int .i64 x).wf = true := WalkArith.wf_i64 (by omega)
theorem MapK.Ok.key (hM : M.Ok) : Keyed Try.prog M.k := int_keyed hM.hk
theorem MapV.look (hM : M.Ok) {w : World} {b n : Nat} {S : Int → Option Value} (h : MapV M w b n S) {x : Int} (hx : -9223372036854775808 ≤ x ∧ x ≤ 9223372036854775807) : (Instr.lookup M.t (.map (some b)) (.int .i64 x) false).run Try.prog w = .ok ((S x).getD M.z) w := by
  obtain ⟨D, h, h1, h2⟩ := h.ex
  obtain ⟨v, ps, hrun, hv⟩ := h.lookup hM.key hM.ht (hM.hz w) (zd := .held M.z) (zp := []) rfl (keyOf_int_mk hM.hk (litV hx))
  rw [h2] at hv
  unfold anyV at hv
  injection hv with hv
  injection hv with hv _
  injection hv with hv
  rw [← hv]
  exact hrun
theorem MapV.look_ok (hM : M.Ok) {w : World} {b n : Nat} {S : Int → Option Value} (h : MapV M w b n S) {x : Int} (hx : -9223372036854775808 ≤ x ∧ x ≤ 9223372036854775807) : (Instr.lookup M.t (.map (some b)) (.int .i64 x) true).run Try.prog w = .ok (.tuple #[(S x).getD M.z, .bool (S x).isSome]) w := by
  obtain ⟨D, h, h1, h2⟩ := h.ex
  obtain ⟨v, ps, hrun, hv⟩ := h.look_ok hM.key hM.ht (hM.hz w) (zd := .held M.z) (zp := []) rfl (keyOf_int_mk hM.hk (litV hx))
  rw [h2] at hv
  unfold anyV at hv
  injection hv with hv
  injection hv with hv _
  injection hv with hv
  rw [← hv, ← h1]
  exact hrun
theorem MapV.put (hM : M.Ok) {w : World} {b n : Nat} {S : Int → Option Value} (h : MapV M w b n S) (hn : n < maxLen) {x : Int} (hx : -9223372036854775808 ≤ x ∧ x ≤ 9223372036854775807) (v : Value) :
    ∃ w', (Instr.mapUpdate M.t (.map (some b)) (.int .i64 x) v).run Try.prog w = .ok () w' ∧ MapV M w' b (n + 1) (fun y => if y = x then some v else S y) ∧ w.grownBy w' (some b) := by
  obtain ⟨D, h, h1, h2⟩ := h.ex
  obtain ⟨w', hrun, ho, hg⟩ := h.update hM.key hM.ht hn (keyOf_int_mk hM.hk (litV hx)) (show anyV v = some (.held v, []) from rfl)
  have hk : WideAt.IsKeyLit (Lit.int .i64 x) := trivial
  have hm := h.isMap
  refine ⟨w', hrun, ⟨_, ho, fun y => ?_, fun y => ?_⟩, hg⟩
  · by_cases q : y = x
    · subst q
      rw [if_pos rfl]
      exact has_put_same hm hk _
    · rw [if_neg q, ← h1 y]
      exact has_put_other (fun e => q (by injection e)) _
  · by_cases q : y = x
    · subst q
      rw [if_pos rfl]
      exact atKey_put_same hm hk _ _
    · rw [if_neg q, ← h2 y]
      exact atKey_put_other (fun e => q (by injection e)) _ _
theorem mapTurned_grown {w w' : World} {b : Nat} (h : w.mapTurned w' b) : w.grownBy w' (some b) := by
  obtain ⟨es, clock, es', clock', hb, rfl⟩ := h
  exact ⟨rfl, rfl, rfl, by simp [setBlock], fun i _ hi => heap_setBlock_other hb _ (fun e => hi (by rw [e]))⟩
theorem MapV.drop (hM : M.Ok) {w : World} {b n : Nat} {S : Int → Option Value} (h : MapV M w b n S) {x : Int} (hx : -9223372036854775808 ≤ x ∧ x ≤ 9223372036854775807) (ty : TypeId) :
    ∃ w', (Builtin.delete_ #[M.t, M.k] ty #[.map (some b), .int .i64 x]).run Try.prog w = .ok (.tuple #[]) w' ∧ MapV M w' b n (fun y => if y = x then none else S y) ∧ w.grownBy w' (some b) := by
  obtain ⟨D, h, h1, h2⟩ := h.ex
  obtain ⟨w', hrun, ho, hg⟩ := h.drop hM.key hM.ht (keyOf_int_mk hM.hk (litV hx)) ty
  refine ⟨w', hrun, ⟨_, ho, fun y => ?_, fun y => ?_⟩, mapTurned_grown hg⟩
  · by_cases q : y = x
    · subst q
      rw [if_pos rfl]
      exact has_del_same
    · rw [if_neg q, ← h1 y]
      exact has_del_other (fun e => q (by injection e))
  · by_cases q : y = x
    · subst q
      rw [if_pos rfl]
      exact atKey_del_same _
    · rw [if_neg q, ← h2 y]
      exact atKey_del_other (fun e => q (by injection e)) _
/-- The operations that write, at a walk. -/
theorem MapV.wput (hM : M.Ok) {w : World} {b n : Nat} {S : Int → Option Value} (h : MapV M w b n S) (hn : n < maxLen) {ops : Array Oper} {rest : List Oper} {o : Oper} {a : Act} {Q : Exit → Act → World → Prop} (hg : o.guard = none) (m k u : Operand)
    (hop : o.op = .mapUpdate M.t m k u ∨ o.op = .insert M.t m k u) {x : Int} (hx : -9223372036854775808 ≤ x ∧ x ≤ 9223372036854775807) {v : Value} (hm : a.eval m = .map (some b)) (hk : a.eval k = .int .i64 x) (hu : a.eval u = v)
    (hK : ∀ w', MapV M w' b (n + 1) (fun y => if y = x then some v else S y) → w.grownBy w' (some b) → wpList Try.prog ops Q rest (a.put o.dst undef) w') : wpList Try.prog ops Q (o :: rest) a w := by
  refine wpList_plain hg fun K' hK' => ?_
  obtain ⟨w', hrun, r1, r2⟩ := h.put hM hn hx v
  unfold Oper.wp
  rcases hop with hop | hop <;> simp [execOp, hop, hm, hk, hu, hrun, Result.andThen] <;> exact hK' _ _ (hK w' r1 r2)
/-- .. and the one that takes out. -/
theorem MapV.wdel (hM : M.Ok) {w : World} {b n : Nat} {S : Int → Option Value} (h : MapV M w b n S) {ops : Array Oper} {rest : List Oper} {o : Oper} {a : Act} {Q : Exit → Act → World → Prop} (hg : o.guard = none) (m k : Operand)
    (hop : o.op = Op.call { callee := Callee.builtin Builtin.delete, args := #[m, k], argTypes := #[M.t, M.k] }) {x : Int} (hx : -9223372036854775808 ≤ x ∧ x ≤ 9223372036854775807) (hm : a.eval m = .map (some b)) (hk : a.eval k = .int .i64 x)
    (hK : ∀ w', MapV M w' b n (fun y => if y = x then none else S y) → w.grownBy w' (some b) → wpList Try.prog ops Q rest (a.put o.dst (.tuple #[])) w') : wpList Try.prog ops Q (o :: rest) a w := by
  refine wpList_plain hg fun K' hK' => ?_
  obtain ⟨w', hrun, r1, r2⟩ := h.drop hM hx o.type
  unfold Oper.wp
  simp [execOp, hop, resolve, invoke, builtin, hm, hk, hrun, Result.andThen]
  exact hK' _ _ (hK w' r1 r2)
end
end Go.Proofs.Ytiamlldooihkdaa
