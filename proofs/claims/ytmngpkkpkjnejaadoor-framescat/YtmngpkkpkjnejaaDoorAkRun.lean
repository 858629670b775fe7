/-
  copy, clear and append at ranges that lie in a row of one's own: what they leave. No condition.
-/
import Derived.Test.YtmngpkkpkjnejaaDoorAkRow
import Derived.Laws.CopyRow
import Derived.Lib.Overlaps
import Derived.Lib.AppendZerosOnto
import Derived.Lib.SliceRun
import Derived.Deep.RegionLaw
import Derived.Laws.NewBlocks
import Derived.Laws.LoneSync
namespace Go.Proofs.YtmngpkkpkjnejaaDoor
set_option maxRecDepth 100000
open Go.RowKit Go.Sort

section
variable {P : Program}
/-- A builtin's operation, by what the builtin does. -/
theorem obB2 (w : World) {o : Oper} {a : Act} {K : Act → World → Prop} {Q : Exit → Act → World → Prop} (b : Builtin) (x y : Operand) (t t' : TypeId) (ho : o.op = .call { callee := .builtin b, args := #[x, y], argTypes := #[t, t'] }) (v u : Value) (hx : a.eval x = v) (hy : a.eval y = u)
    {v' : Value} {w' : World} (hr : ∀ z, (builtin b #[t, t'] o.type z #[v, u]).run P w = .ok (.value v') w') (h : K (a.put o.dst v') w') : o.wp P a w K Q := by
  have hr' : (execOp a.eval o).run P w = .ok (.value v') w' := by
    unfold execOp
    rw [ho]
    simp only [resolve, invoke, Sem.run_bind, Sem.run_pure, Result.andThen_ok, List.map_toArray, List.map_cons, List.map_nil, hx, hy, hr]
  unfold Oper.wp
  rw [hr']
  exact h
theorem obB1 (w : World) {o : Oper} {a : Act} {K : Act → World → Prop} {Q : Exit → Act → World → Prop} (b : Builtin) (x : Operand) (t : TypeId) (ho : o.op = .call { callee := .builtin b, args := #[x], argTypes := #[t] }) (v : Value) (hx : a.eval x = v)
    {v' : Value} {w' : World} (hr : ∀ z, (builtin b #[t] o.type z #[v]).run P w = .ok (.value v') w') (h : K (a.put o.dst v') w') : o.wp P a w K Q := by
  have hr' : (execOp a.eval o).run P w = .ok (.value v') w' := by
    unfold execOp
    rw [ho]
    simp only [resolve, invoke, Sem.run_bind, Sem.run_pure, Result.andThen_ok, List.map_toArray, List.map_cons, List.map_nil, hx, hr]
  unfold Oper.wp
  rw [hr']
  exact h
theorem obB2L (w : World) {ops : Array Oper} {rest : List Oper} {o : Oper} {a : Act} {Q : Exit → Act → World → Prop} (hgd : o.guard = none) (b : Builtin) (x y : Operand) (t t' : TypeId) (ho : o.op = .call { callee := .builtin b, args := #[x, y], argTypes := #[t, t'] }) (v u : Value) (hx : a.eval x = v) (hy : a.eval y = u)
    {v' : Value} {w' : World} (hr : ∀ z, (builtin b #[t, t'] o.type z #[v, u]).run P w = .ok (.value v') w') (h : wpList P ops Q rest (a.put o.dst v') w') : wpList P ops Q (o :: rest) a w :=
  wpList_plain hgd fun _ hK => obB2 w b x y t t' ho v u hx hy hr (hK _ _ h)
theorem obB1L (w : World) {ops : Array Oper} {rest : List Oper} {o : Oper} {a : Act} {Q : Exit → Act → World → Prop} (hgd : o.guard = none) (b : Builtin) (x : Operand) (t : TypeId) (ho : o.op = .call { callee := .builtin b, args := #[x], argTypes := #[t] }) (v : Value) (hx : a.eval x = v)
    {v' : Value} {w' : World} (hr : ∀ z, (builtin b #[t] o.type z #[v]).run P w = .ok (.value v') w') (h : wpList P ops Q rest (a.put o.dst v') w') : wpList P ops Q (o :: rest) a w :=
  wpList_plain hgd fun _ hK => obB1 w b x t ho v hx hr (hK _ _ h)
/-- .. in a region that draws its order. -/
theorem obB2S {ops : Array Oper} {o : Oper} {a : Act} {w : World} {K : Act → World → Prop} {Q : Exit → Act → World → Prop} {E : Prop} (hg : o.guard = none) (b : Builtin) (x y : Operand) (t t' : TypeId) (ho : o.op = .call { callee := .builtin b, args := #[x, y], argTypes := #[t, t'] }) (v u : Value) (hx : a.eval x = v) (hy : a.eval y = u)
    {v' : Value} {w' : World} (hr : ∀ z, (builtin b #[t, t'] o.type z #[v, u]).run P w = .ok (.value v') w') (h : K (a.put o.dst v') w') : if Region.wanted o (yielded ops a.tmps) = true then Oper.wp P o a w K Q else E := by
  rw [if_pos (by simp [Region.wanted, hg])]
  exact obB2 w b x y t t' ho v u hx hy hr h
end
/-- Cells laid over a row. -/
def spl (cur : Array Value) (o : Nat) (cs : List Value) : Array Value := (cur.toList.take o ++ cs ++ cur.toList.drop (o + cs.length)).toArray
theorem spl_size {cur : Array Value} {o : Nat} {cs : List Value} (h : o + cs.length ≤ cur.size) : (spl cur o cs).size = cur.size := by
  unfold spl
  simp
  omega
theorem spl_get {cur : Array Value} {o : Nat} {cs : List Value} (h : o + cs.length ≤ cur.size) (k : Nat) : (spl cur o cs)[k]? = if k < o then cur[k]? else if k < o + cs.length then cs[k - o]? else cur[k]? := by
  unfold spl
  have e : min o cur.size = o := by omega
  rw [List.getElem?_toArray, List.append_assoc, List.getElem?_append, List.length_take, Array.length_toList, e]
  by_cases h1 : k < o
  · rw [if_pos h1, if_pos h1, List.getElem?_take, if_pos h1, Array.getElem?_toList]
  · rw [if_neg h1, if_neg h1, List.getElem?_append]
    by_cases h2 : k < o + cs.length
    · rw [if_pos (by omega), if_pos h2]
    · rw [if_neg (by omega), if_neg h2, List.getElem?_drop, Array.getElem?_toList]
      congr 1
      omega
theorem rgs_len (l : List Rg) : (rgs l).length = 2 * l.length := by
  induction l with
  | nil => rfl
  | cons x l ih => rw [rgs_cons, List.length_cons, List.length_cons, ih, List.length_cons]; omega
theorem rgs_tk (l : List Rg) : ∀ i, rgs (l.take i) = (rgs l).take (2 * i) := by
  induction l with
  | nil => intro i; simp [rgs_nil]
  | cons x l ih =>
    intro i
    cases i with
    | zero => rfl
    | succ i => rw [List.take_succ_cons, rgs_cons, rgs_cons, ih, show 2 * (i + 1) = 2 * i + 1 + 1 by omega, List.take_succ_cons, List.take_succ_cons]
theorem rgs_drop (l : List Rg) : ∀ i, rgs (l.drop i) = (rgs l).drop (2 * i) := by
  induction l with
  | nil => intro i; simp [rgs_nil]
  | cons x l ih =>
    intro i
    cases i with
    | zero => rfl
    | succ i => rw [List.drop_succ_cons, rgs_cons, ih, show 2 * (i + 1) = 2 * i + 1 + 1 by omega, List.drop_succ_cons, List.drop_succ_cons]
theorem rgs_one (l : List Rg) : ∀ v ∈ rgs l, v.oneCell' = true := by
  intro v hv
  unfold rgs at hv
  obtain ⟨x, _, hx⟩ := List.mem_flatMap.1 hv
  simp at hx
  rcases hx with rfl | rfl <;> rfl
/-- A row of one's own, told by its cells. -/
theorem own_of {w : World} {g cap n : Nat} {cur : Array Value} {l : List Rg} (hg : w.heap[g]? = some (.cells cur 67 (0, 0))) (hs : cur.size = cap * 2) (hl : l.length = n) (hn : n ≤ cap) (hm : cap ≤ maxLen) (h : ∀ k, k < 2 * n → cur[k]? = (rgs l)[k]?) : w.ownsRow 0 67 2 (.slice (some ⟨g, 0, none⟩) n cap) n (rgs l) := by
  refine ⟨by rw [rgs_len]; omega, .inr ⟨g, cap, cur, rfl, Nat.zero_le _, hg, hn, hm, hs, ?_⟩⟩
  apply List.ext_getElem?
  intro k
  rw [List.getElem?_take]
  by_cases q : k < n * 2
  · rw [if_pos q, Array.getElem?_toList]; exact h k (by omega)
  · rw [if_neg q, List.getElem?_eq_none (by rw [rgs_len]; omega)]
theorem own_get {w : World} {g cap n : Nat} {l : List Rg} (h : w.ownsRow 0 67 2 (.slice (some ⟨g, 0, none⟩) n cap) n (rgs l)) : ∃ cur, w.heap[g]? = some (.cells cur 67 (0, 0)) ∧ cur.size = cap * 2 ∧ n ≤ cap ∧ cap ≤ maxLen ∧ ∀ k, k < 2 * n → cur[k]? = (rgs l)[k]? := by
  rcases h.2 with ⟨e, -⟩ | ⟨g', cap', cur, e, -, h1, h2, h3, h4, h5⟩
  · cases e
  · injection e with e1 _ e2
    injection e1 with e1
    injection e1 with e1
    subst e1 e2
    refine ⟨cur, h1, h4, h2, h3, fun k hk => ?_⟩
    rw [← h5, List.getElem?_take, if_pos (by omega), Array.getElem?_toList]
theorem size_rg : (Tryd.prog.info? 67).map (·.size) = some 2 := by kernel_rfl
/-- copy of ranges over a row. -/
theorem run_copy2 (w : World) (ty : TypeId) (g o dLen dCap : Nat) (a : Addr) (sLen sCap : Nat) (cur : Array Value) (cs : List Value) (hg : w.heap[g]? = some (.cells cur 67 (0, 0))) (hn : cs.length = 2 * Nat.min sLen dLen)
    (hsrc : ∀ j v, cs[j]? = some v → w.cell? (a.add j) = some v) (hfit : o + cs.length ≤ cur.size) (h1 : ∀ v ∈ cs, v.oneCell' = true) :
    ∀ z, (builtin .copy #[22, 22] ty z #[.slice (some ⟨g, o, none⟩) dLen dCap, .slice (some a) sLen sCap]).run Tryd.prog w = .ok (.value (goInt (Nat.min sLen dLen))) (w.setRow g (spl cur o cs)) := by
  have hl := run_loadCells_list (P := Tryd.prog) w a cs hsrc
  rw [hn] at hl
  have hst := run_storeCells_at Tryd.prog g o 67 cs 0 cur w hg (by simpa using hfit) h1
  obtain ⟨i, hi, -, h2, -⟩ := info_rg
  have hl' : (loadCells a (Nat.min sLen dLen * 2)).run Tryd.prog w = .ok cs.toArray w := by rw [Nat.mul_comm]; exact hl
  intro z
  simp only [Nat.add_zero] at hst
  simp [builtin, Builtin.copy_, run_underlying Tryd.underlying22, Builtin.lenOf, Builtin.firstCells, sizeOf, typeInfo, hi, h2, hl', hst, spl]
def zer (n : Nat) : List Value := (Builtin.zeroCells (Value.agg #[.int .i64 0, .int .i64 0]).cells n).toList
theorem zer_len (n : Nat) : (zer n).length = 2 * n := by
  unfold zer
  simp [Builtin.zeroCells, Value.cells]
  omega
theorem zer_one (n : Nat) : ∀ v ∈ zer n, v.oneCell' = true := by
  intro v hv
  unfold zer at hv
  simp [Builtin.zeroCells, Value.cells] at hv
  obtain ⟨k, hk, rfl⟩ := hv
  rcases Nat.mod_two_eq_zero_or_one k with e | e <;> simp [e] <;> rfl
/-- clear over a row. -/
theorem run_clear2 (w : World) (ty : TypeId) (g o n c : Nat) (cur : Array Value) (hg : w.heap[g]? = some (.cells cur 67 (0, 0))) (hn : 0 < n) (hfit : o + 2 * n ≤ cur.size) :
    ∀ z, (builtin .clear #[22] ty z #[.slice (some ⟨g, o, none⟩) n c]).run Tryd.prog w = .ok (.value (.tuple #[])) (w.setRow g (spl cur o (zer n))) := by
  have hst := run_storeCells_at Tryd.prog g o 67 (zer n) 0 cur w hg (by rw [zer_len]; omega) (zer_one n)
  obtain ⟨i, hi, hz, h2, -⟩ := info_rg
  simp only [Nat.add_zero] at hst
  intro z
  obtain ⟨m, rfl⟩ : ∃ m, n = m + 1 := ⟨n - 1, by omega⟩
  have hv : (zeroValue 67).run Tryd.prog w = .ok (.agg #[.int .i64 0, .int .i64 0]) w := by simp [zeroValue, typeInfo, hi, hz]
  unfold zer at hst
  simp [builtin, Builtin.clear_, run_underlying Tryd.underlying22, hv, hst, spl, zer]
theorem run_clear0 (w : World) (ty : TypeId) (a : Option Addr) (c : Nat) : ∀ z, (builtin .clear #[22] ty z #[.slice a 0 c]).run Tryd.prog w = .ok (.value (.tuple #[])) w := by
  intro z
  cases a <;> simp [builtin, Builtin.clear_, run_underlying Tryd.underlying22]
/-- append of one range where there is room. -/
theorem run_app2 (w : World) (ty : TypeId) (g n c : Nat) (a : Addr) (m : Nat) (cur : Array Value) (cs : List Value) (hg : w.heap[g]? = some (.cells cur 67 (0, 0))) (hcs : cs.length = 2)
    (hsrc : ∀ j v, cs[j]? = some v → w.cell? (a.add j) = some v) (hroom : n + 1 ≤ c) (hs : cur.size = c * 2) (h1 : ∀ v ∈ cs, v.oneCell' = true) :
    ∀ z, (builtin .append #[22, 22] ty z #[.slice (some ⟨g, 0, none⟩) n c, .slice (some a) 1 m]).run Tryd.prog w = .ok (.value (.slice (some ⟨g, 0, none⟩) (n + 1) c)) (w.setRow g (spl cur (2 * n) cs)) := by
  have hl := run_loadCells_list (P := Tryd.prog) w a cs hsrc
  rw [hcs] at hl
  have hst := run_storeCells_at Tryd.prog g (2 * n) 67 cs 0 cur w hg (by omega) h1
  obtain ⟨i, hi, -, h2, -⟩ := info_rg
  simp only [Nat.add_zero] at hst
  intro z
  have e : n * 2 = 2 * n := by omega
  simp [builtin, Builtin.append_, run_underlying Tryd.underlying22, Builtin.lenOf, Builtin.firstCells, sizeOf, typeInfo, hi, h2, hroom, hl, Addr.add_lit, e, hst, spl]
/-- .. where there is none. -/
theorem run_app2g (w : World) (ty : TypeId) (b : Option Addr) (n c : Nat) (a : Addr) (m : Nat) (l : List Rg) (cs : List Value) (hl : l.length = n) (hb : b = none → n = 0) (hold : ∀ p, b = some p → ∀ j v, (rgs l)[j]? = some v → w.cell? (p.add j) = some v) (hcs : cs.length = 2)
    (hsrc : ∀ j v, cs[j]? = some v → w.cell? (a.add j) = some v) (hroom : c < n + 1) (hn : n ≤ 16) (h1 : ∀ v ∈ cs, v.oneCell' = true) :
    ∀ z, (builtin .append #[22, 22] ty z #[.slice b n c, .slice (some a) 1 m]).run Tryd.prog w = .ok (.value (.slice (some ⟨w.heap.size, 0, none⟩) (n + 1) (grownCap w (n + 1) c 67))) (w.drew.alloc (.cells ((rgs l ++ cs).toArray ++ (zer (grownCap w (n + 1) c 67 - (n + 1))).toArray) 67)) := by
  intro z
  obtain ⟨i, hi, hz, h2, h3⟩ := info_rg
  have hd : (Builtin.firstCells i.size n (.slice b n c)).run Tryd.prog w.drew = .ok (rgs l).toArray w.drew := by
    rw [h2]
    cases b with
    | none =>
      have h0 := hb rfl
      subst h0
      rw [List.eq_nil_of_length_eq_zero hl]
      exact run_firstCells_none w.drew 2 0 0 c
    | some p => exact run_firstCells_some w.drew 2 n p n c (rgs l) (by rw [rgs_len]; omega) (fun j v hj => hold p rfl j v hj)
  have hS : Src Tryd.prog i.size 22 (.slice (some a) 1 m) 1 cs w := by
    rw [h2]
    exact Src.ofSlice w Tryd.underlying22 a 1 m cs (by omega) hsrc h1
  have h := run_append_grow_src w 22 22 ty 67 i _ Tryd.underlying22 hi hz b n c (rgs l) hd (.slice (some a) 1 m) 1 cs hS hroom (by omega) (by rw [h3]; exact growslice_fits hroom (by omega))
  simp only [builtin, Sem.run_bind, Sem.run_pure, h, Result.andThen_ok, zer, Array.toArray_toList]
/-- append of a make of ranges where there is no room. -/
theorem run_mk2g (w : World) (ty : TypeId) (p : Addr) (n c k : Nat) (l : List Rg) (hl : l.length = n) (hold : ∀ j v, (rgs l)[j]? = some v → w.cell? (p.add j) = some v) (hk : 0 < k) (hroom : c < n + k) (hn : n + k ≤ 100) :
    ∀ z, (builtin .append #[22, 3] ty z #[.slice (some p) n c, .int .i64 (k : Int)]).run Tryd.prog w = .ok (.value (.slice (some ⟨w.heap.size, 0, none⟩) (n + k) (grownCap w (n + k) c 67))) (w.drew.alloc (.cells ((rgs l).toArray ++ (zer k).toArray ++ (zer (grownCap w (n + k) c 67 - (n + k))).toArray) 67)) := by
  intro z
  obtain ⟨i, hi, hz, h2, h3⟩ := info_rg
  have hd : (Builtin.firstCells i.size n (.slice (some p) n c)).run Tryd.prog w.drew = .ok (rgs l).toArray w.drew := by
    rw [h2]
    exact run_firstCells_some w.drew 2 n p n c (rgs l) (by rw [rgs_len]; omega) (fun j v hj => hold j v hj)
  have h := Lib.run_append_grow_zeros w 22 3 ty 67 i _ .i64 .i64 Tryd.underlying22 Tryd.underlying3 hi hz (some p) n c (rgs l) hd k hk (by omega) hroom (by omega) (by rw [h3]; omega) (by rw [h3]; exact growslice_fits hroom (by omega))
  simp only [builtin, Sem.run_bind, Sem.run_pure, h, Result.andThen_ok, zer, Array.toArray_toList]
theorem heap_new (w : World) (o : Obj) : (w.drew.alloc o).heap[w.heap.size]? = some o := by
  show (w.heap.push o)[w.heap.size]? = some o
  simp
end Go.Proofs.YtmngpkkpkjnejaaDoor
