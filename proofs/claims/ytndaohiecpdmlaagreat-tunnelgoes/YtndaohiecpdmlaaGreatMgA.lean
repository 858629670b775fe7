/-
  Plain facts: cells that lie in a block from its beginning, and may be written; a world in which only the blocks named, and new ones, have changed. No condition. In a region that draws its order: an operation that yields its value in whatever world may be taken first; one that is guarded, too; a call of two arguments by what it answers. No condition. A builtin's operation in a walk, by what the builtin does; cells laid over a row. No condition. Rows of entries of some cells each, whatever they are: where they stand; rows of one's own; append of a row, none too; an entry's cell turned. No condition but how many there are. A row of structs that is handed in, by the cells of an entry and one lemma on a struct. No condition but the form's own reach. Rows of entries: several from a block that is made for them; a new row of some. No condition but how many there are.
-/
import Derived.Test.YtndaohiecpdmlaaGreatChecked
import Derived.WalkSpells
import Derived.WalkLawsBesides
import Derived.Handy
import Derived.ProofKit
import Derived.Deep.MidRow
import Derived.Lib.Hide
import Derived.Orders
import Derived.OrdersHeld
import Derived.RegionTactic
import Derived.OwnWalk
import Derived.Laws.CopyRow
import Derived.Laws.OwnMore
import Derived.Deep.AppendSrc
import Derived.Deep.RegionLaw
import Derived.Laws.NewBlocks
import Derived.Laws.LoneSync
import Derived.Maps.AppendAt
import Derived.Laws.AppendOwnNone
import Derived.Test.YtndaohiecpdmlaaGreatRows
import Derived.OpenShut
import Derived.ShutString
import Derived.ChangeSlices
import Derived.SizedLaws
import Derived.Deep.Slices
import Derived.Deep.DeepHandedRow
namespace Go.Proofs.YtndaohiecpdmlaaGreat
set_option maxRecDepth 100000
open Go.RowKit

/-- Cells that lie in a block from its beginning, and may be written. -/
structure Lies (w : World) (B : Nat) (vs : List Value) : Prop where
  r : w.rangeAt B 0 vs
  t : w.there B 0 vs.length
theorem Lies.cell {w : World} {B : Nat} {vs : List Value} (h : Lies w B vs) (j : Nat) {v : Value} (hv : vs[j]? = some v) : w.cell? ⟨B, j, none⟩ = some v := by
  have := h.r j v hv
  rwa [Nat.zero_add] at this
theorem Lies.free {w : World} {B : Nat} {vs : List Value} (h : Lies w B vs) (j : Nat) (hj : j < vs.length) : w.frozen? ⟨B, j, none⟩ = false := by
  have := (h.t j hj).2
  rwa [Nat.zero_add] at this
theorem Lies.of_block {w w' : World} {B : Nat} {vs : List Value} (h : Lies w B vs) (e : w'.heap[B]? = w.heap[B]?) : Lies w' B vs :=
  ⟨fun j v hv => (World.cell?_of_block (w := w) (a := ⟨B, 0 + j, none⟩) e).trans (h.r j v hv), fun j hj => by
    rw [World.cell?_of_block (w := w) (a := ⟨B, 0 + j, none⟩) e, World.frozen?_of_block (w := w) (a := ⟨B, 0 + j, none⟩) e]
    exact h.t j hj⟩
theorem Lies.put {w : World} {B : Nat} {vs : List Value} (h : Lies w B vs) (i : Nat) (hi : i < vs.length) (x : Value) : Lies (w.setCell ⟨B, i, none⟩ x) B (vs.set i x) := by
  have hc : w.cell? ⟨B, i, none⟩ = some vs[i] := h.cell i (List.getElem?_eq_getElem hi)
  refine ⟨fun j v hv => ?_, fun j hj => ?_⟩
  · rw [Nat.zero_add]
    by_cases e : i = j
    · subst e
      rw [World.cell?_setCell_same _ _ _ hc]
      rw [List.getElem?_set_self hi] at hv
      exact hv
    · rw [World.cell?_setCell_other _ _ _ _ (by intro q; injection q with _ q; exact e q)]
      rw [List.getElem?_set_ne e] at hv
      exact h.cell j hv
  · rw [List.length_set] at hj
    rw [Nat.zero_add]
    refine ⟨?_, by rw [World.frozen?_setCell]; exact h.free j hj⟩
    by_cases e : i = j
    · subst e
      rw [World.cell?_setCell_same _ _ _ hc]; rfl
    · rw [World.cell?_setCell_other _ _ _ _ (by intro q; injection q with _ q; exact e q), h.cell j (List.getElem?_eq_getElem hj)]
      rfl
theorem Lies.lt {w : World} {B : Nat} {vs : List Value} (h : Lies w B vs) (hl : 0 < vs.length) : B < w.heap.size := World.block_lt_of_cell? w _ (h.cell 0 (List.getElem?_eq_getElem hl))
theorem Lies.keep {w w' : World} {B : Nat} {vs : List Value} (h : Lies w B vs) (hl : 0 < vs.length) (b : Below w.heap.size w w') : Lies w' B vs := h.of_block (b.block B (h.lt hl))
theorem Lies.new (w : World) (vs : List Value) (t : TypeId) : Lies (w.alloc (.cells vs.toArray t)) w.heap.size vs := by
  refine ⟨fun j v hv => ?_, fun j hj => ⟨?_, by simp⟩⟩
  · rw [Nat.zero_add, World.cell?_alloc_new]
    simpa using hv
  · rw [Nat.zero_add, World.cell?_alloc_new]
    simp [hj]
/-- All but the blocks named is as before; new ones may have come. -/
structure Kept (F : Nat → Prop) (w w' : World) : Prop where
  os : w'.os = w.os
  tape : w'.tape = w.tape
  output : w'.output = w.output
  size : w.heap.size ≤ w'.heap.size
  block : ∀ k, k < w.heap.size → ¬ F k → w'.heap[k]? = w.heap[k]?
theorem Kept.of {w w' : World} (F : Nat → Prop) (h : Below w.heap.size w w') : Kept F w w' := ⟨h.os, h.tape, h.output, h.size, fun k hk _ => h.block k hk⟩
theorem Kept.below {F : Nat → Prop} {w w' : World} (h : Kept F w w') {B : Nat} (hB : B ≤ w.heap.size) (hF : ∀ k, F k → B ≤ k) : Below B w w' :=
  ⟨h.os, h.tape, h.output, h.size, fun k hk => h.block k (by omega) fun hf => by have := hF k hf; omega⟩
theorem Kept.refl (F : Nat → Prop) (w : World) : Kept F w w := ⟨rfl, rfl, rfl, Nat.le_refl _, fun _ _ _ => rfl⟩
theorem Kept.trans {F : Nat → Prop} {a b c : World} (h : Kept F a b) (g : Kept F b c) : Kept F a c :=
  ⟨g.os.trans h.os, g.tape.trans h.tape, g.output.trans h.output, Nat.le_trans h.size g.size, fun k hk hf => (g.block k (Nat.lt_of_lt_of_le hk h.size) hf).trans (h.block k hk hf)⟩
theorem Kept.add {F : Nat → Prop} {a b c : World} (h : Kept F a b) (g : Below b.heap.size b c) : Kept F a c := h.trans (.of F g)
theorem Kept.mono {F G : Nat → Prop} {a b : World} (h : Kept F a b) (g : ∀ k, k < a.heap.size → F k → G k) : Kept G a b := ⟨h.os, h.tape, h.output, h.size, fun k hk hf => h.block k hk fun q => hf (g k hk q)⟩
theorem Kept.set {F : Nat → Prop} {a b : World} (h : Kept F a b) (p : Addr) (hp : F p.block) (v : Value) : Kept F a (b.setCell p v) :=
  ⟨h.os, h.tape, h.output, by simpa using h.size, fun k hk hf => (Below.heap_setCell _ _ _ _ (by intro e; exact hf (e ▸ hp))).trans (h.block k hk hf)⟩
theorem Kept.drew {F : Nat → Prop} {a b : World} (h : Kept F a b) : Kept F a b.drew := ⟨h.os, h.tape, h.output, h.size, h.block⟩
theorem Kept.grown {F : Nat → Prop} {a b c : World} {row : Option Nat} (h : Kept F a b) (g : b.grownBy c row) (hr : ∀ k, row = some k → k < a.heap.size → F k) : Kept F a c :=
  ⟨g.os.trans h.os, g.tape.trans h.tape, g.output.trans h.output, Nat.le_trans h.size g.size, fun k hk hf => (g.block k (Nat.lt_of_lt_of_le hk h.size) (by intro e; exact hf (hr k e.symm hk))).trans (h.block k hk hf)⟩
theorem drewB (B : Nat) (w : World) : Below B w w.drew := ⟨rfl, rfl, rfl, Nat.le_refl _, fun _ _ => rfl⟩
end Go.Proofs.YtndaohiecpdmlaaGreat
namespace Go.Proofs.YtndaohiecpdmlaaGreat
set_option maxRecDepth 100000
section
variable {P : Program} {ops : Array Oper} {Q : Exit → Act → World → Prop} {md : Region.Mode}
theorem obTake {i d : Nat} {oi : Oper} {v : Value} {fuel : Nat} {listed : Array Bool} {a : Act} {w : World} (hi : ops[i]? = some oi) (hd : oi.dst = some d)
    (hs : Region.noSelect ops = true) (hf : Region.free md ops listed i = true) (hr : (Region.ready md ops listed).contains i = true)
    (hQ : ∀ c a w, Q (.panic c) (a.put (some d) v) w → Q (.panic c) a w) (hg : oi.guard = none) (hy : ∀ w, (execOp a.eval oi).run P w = .ok (.value v) w)
    (h : wpAny P md ops Q fuel (listed.setIfInBounds i true) (a.put (some d) v) w) : wpAny P md ops Q (fuel + 1) listed a w :=
  wpAny_take hi hs hf hr (by rw [hd]; exact hQ) (.inl ⟨by simp [Region.wanted, hg], hy⟩) (by rw [hd]; exact h)
theorem obTakeG {i d : Nat} {oi : Oper} {v : Value} {fuel : Nat} {listed : Array Bool} {a : Act} {w : World} (hi : ops[i]? = some oi) (hd : oi.dst = some d)
    (hs : Region.noSelect ops = true) (hf : Region.free md ops listed i = true) (hr : (Region.ready md ops listed).contains i = true)
    (hQ : ∀ c a w, Q (.panic c) (a.put (some d) v) w → Q (.panic c) a w) (hw : Region.wanted oi (yielded ops a.tmps) = true) (hy : ∀ w, (execOp a.eval oi).run P w = .ok (.value v) w)
    (h : wpAny P md ops Q fuel (listed.setIfInBounds i true) (a.put (some d) v) w) : wpAny P md ops Q (fuel + 1) listed a w :=
  wpAny_take hi hs hf hr (by rw [hd]; exact hQ) (.inl ⟨hw, hy⟩) (by rw [hd]; exact h)
/-- Where a condition on the world is held: an operation that yields its value in every world that meets it. -/
theorem obTakeH {S : World → Prop} {i d : Nat} {oi : Oper} {v : Value} {fuel : Nat} {listed : Array Bool} {a : Act} {w : World} (hi : ops[i]? = some oi) (hd : oi.dst = some d)
    (hs : Region.noSelect ops = true) (hf : Region.free md ops listed i = true) (hr : (Region.ready md ops listed).contains i = true)
    (hQ : ∀ c a w, Q (.panic c) (a.put (some d) v) w → Q (.panic c) a w) (hg : oi.guard = none) (hy : ∀ w, S w → (execOp a.eval oi).run P w = .ok (.value v) w) (hS : S w)
    (h : wpAnyH P md ops Q S fuel (listed.setIfInBounds i true) (a.put (some d) v) w) : wpAnyH P md ops Q S (fuel + 1) listed a w :=
  wpAnyH_take hi hs hf hr (by rw [hd]; exact hQ) (.inl ⟨by simp [Region.wanted, hg], hy⟩) hS (by rw [hd]; exact h)
/-- .. one that is guarded, and wanted. -/
theorem obTakeHG {S : World → Prop} {i d : Nat} {oi : Oper} {v : Value} {fuel : Nat} {listed : Array Bool} {a : Act} {w : World} (hi : ops[i]? = some oi) (hd : oi.dst = some d)
    (hs : Region.noSelect ops = true) (hf : Region.free md ops listed i = true) (hr : (Region.ready md ops listed).contains i = true)
    (hQ : ∀ c a w, Q (.panic c) (a.put (some d) v) w → Q (.panic c) a w) (hw : Region.wanted oi (yielded ops a.tmps) = true) (hy : ∀ w, S w → (execOp a.eval oi).run P w = .ok (.value v) w) (hS : S w)
    (h : wpAnyH P md ops Q S fuel (listed.setIfInBounds i true) (a.put (some d) v) w) : wpAnyH P md ops Q S (fuel + 1) listed a w :=
  wpAnyH_take hi hs hf hr (by rw [hd]; exact hQ) (.inl ⟨hw, hy⟩) hS (by rw [hd]; exact h)
/-- .. one that is guarded, and not wanted. -/
theorem obSkipH {S : World → Prop} {i d : Nat} {oi : Oper} {fuel : Nat} {listed : Array Bool} {a : Act} {w : World} (hi : ops[i]? = some oi) (hd : oi.dst = some d)
    (hs : Region.noSelect ops = true) (hf : Region.free md ops listed i = true) (hr : (Region.ready md ops listed).contains i = true)
    (hQ : ∀ c a w, Q (.panic c) (a.put (some d) undef) w → Q (.panic c) a w) (hw : Region.wanted oi (yielded ops a.tmps) = false) (hS : S w)
    (h : wpAnyH P md ops Q S fuel (listed.setIfInBounds i true) (a.put (some d) undef) w) : wpAnyH P md ops Q S (fuel + 1) listed a w :=
  wpAnyH_take hi hs hf hr (by rw [hd]; exact hQ) (.inr ⟨hw, rfl⟩) hS (by rw [hd]; exact h)
theorem obStepG {i : Nat} {o : Oper} {K : Act → World → Prop} {a : Act} {w : World} (ho : ops[i]? = some o) (hw : Region.wanted o (yielded ops a.tmps) = true)
    (h : ∀ K' : Act → World → Prop, (∀ a w, K a w → K' a w) → Oper.wp P o a w K' Q) : wpOp P ops Q i K a w :=
  wpOp_step ho fun K' hK => by rw [if_pos hw]; exact h K' hK
end
theorem obCall2 (f : FuncId) (o : Oper) {k1 k2 d : Nat} {tys : Array TypeId} {x1 x2 : Value} {R : Ending → World → Prop} (ho : o.op = .call { callee := .value (.func f), args := #[.tmp k1, .tmp k2], argTypes := tys }) (hd : o.dst = some d) (a : Act) (w : World) (K : Act → World → Prop) (Q : Exit → Act → World → Prop)
    (hcf : ∀ w, (callFunc f #[x1, x2]).run Tryz.prog w = .ok (.enter f #[x1, x2]) w) (h1 : a.eval (.tmp k1) = x1) (h2 : a.eval (.tmp k2) = x2) (C : Calls Tryz.prog f #[x1, x2] w R) (hK : ∀ e w', R e w' → ∃ v, e = .returned v ∧ K (a.put (some d) v) w') : o.wp Tryz.prog a w K Q := by
  unfold Oper.wp
  have hr : (execOp a.eval o).run Tryz.prog w = .ok (.enter f #[x1, x2]) w := by
    unfold execOp
    rw [ho]
    simp only [go_sem] at h1 h2 ⊢
    simp [go_sem, h1, h2, hcf]
  rw [hr]
  exact C.mono fun e w' h => by
    obtain ⟨v, rfl, hk⟩ := hK e w' h
    rw [hd]
    exact hk
theorem obCall3 (f : FuncId) (o : Oper) {k1 k2 k3 d : Nat} {tys : Array TypeId} {x1 x2 x3 : Value} {R : Ending → World → Prop} (ho : o.op = .call { callee := .value (.func f), args := #[.tmp k1, .tmp k2, .tmp k3], argTypes := tys }) (hd : o.dst = some d) (a : Act) (w : World) (K : Act → World → Prop) (Q : Exit → Act → World → Prop)
    (hcf : ∀ w, (callFunc f #[x1, x2, x3]).run Tryz.prog w = .ok (.enter f #[x1, x2, x3]) w) (h1 : a.eval (.tmp k1) = x1) (h2 : a.eval (.tmp k2) = x2) (h3 : a.eval (.tmp k3) = x3) (C : Calls Tryz.prog f #[x1, x2, x3] w R) (hK : ∀ e w', R e w' → ∃ v, e = .returned v ∧ K (a.put (some d) v) w') : o.wp Tryz.prog a w K Q := by
  unfold Oper.wp
  have hr : (execOp a.eval o).run Tryz.prog w = .ok (.enter f #[x1, x2, x3]) w := by
    unfold execOp
    rw [ho]
    simp only [go_sem] at h1 h2 h3 ⊢
    simp [go_sem, h1, h2, h3, hcf]
  rw [hr]
  exact C.mono fun e w' h => by
    obtain ⟨v, rfl, hk⟩ := hK e w' h
    rw [hd]
    exact hk
end Go.Proofs.YtndaohiecpdmlaaGreat
namespace Go.Proofs.YtndaohiecpdmlaaGreat
set_option maxRecDepth 100000
open Go.RowKit

section
variable {P : Program}
/-- A builtin's operation, by what the builtin does. -/
theorem obB2 (w : World) {o : Oper} {a : Act} {K : Act → World → Prop} {Q : Exit → Act → World → Prop} (b : Builtin) (x y : Operand) (t t' : TypeId) (ho : o.op = .call { callee := .builtin b, args := #[x, y], argTypes := #[t, t'] }) (v u : Value) (hx : a.eval x = v) (hy : a.eval y = u)
    {v' : Value} {w' : World} (hr : ∀ z, (builtin b #[t, t'] o.type z #[v, u]).run P w = .ok (.value v') w') (h : K (a.put o.dst v') w') : o.wp P a w K Q := by
  have hr' : (execOp a.eval o).run P w = .ok (.value v') w' := by
    unfold execOp
    rw [ho]
    simp only [resolve, invoke, Sem.run_bind, Sem.run_pure, Result.andThen_ok, List.map_toArray, List.map_cons, List.map_nil, hx, hy, hr]
  unfold Oper.wp
  rw [hr']
  exact h
theorem obB1 (w : World) {o : Oper} {a : Act} {K : Act → World → Prop} {Q : Exit → Act → World → Prop} (b : Builtin) (x : Operand) (t : TypeId) (ho : o.op = .call { callee := .builtin b, args := #[x], argTypes := #[t] }) (v : Value) (hx : a.eval x = v)
    {v' : Value} {w' : World} (hr : ∀ z, (builtin b #[t] o.type z #[v]).run P w = .ok (.value v') w') (h : K (a.put o.dst v') w') : o.wp P a w K Q := by
  have hr' : (execOp a.eval o).run P w = .ok (.value v') w' := by
    unfold execOp
    rw [ho]
    simp only [resolve, invoke, Sem.run_bind, Sem.run_pure, Result.andThen_ok, List.map_toArray, List.map_cons, List.map_nil, hx, hr]
  unfold Oper.wp
  rw [hr']
  exact h
theorem obB2L (w : World) {ops : Array Oper} {rest : List Oper} {o : Oper} {a : Act} {Q : Exit → Act → World → Prop} (hgd : o.guard = none) (b : Builtin) (x y : Operand) (t t' : TypeId) (ho : o.op = .call { callee := .builtin b, args := #[x, y], argTypes := #[t, t'] }) (v u : Value) (hx : a.eval x = v) (hy : a.eval y = u)
    {v' : Value} {w' : World} (hr : ∀ z, (builtin b #[t, t'] o.type z #[v, u]).run P w = .ok (.value v') w') (h : wpList P ops Q rest (a.put o.dst v') w') : wpList P ops Q (o :: rest) a w :=
  wpList_plain hgd fun _ hK => obB2 w b x y t t' ho v u hx hy hr (hK _ _ h)
theorem obB1L (w : World) {ops : Array Oper} {rest : List Oper} {o : Oper} {a : Act} {Q : Exit → Act → World → Prop} (hgd : o.guard = none) (b : Builtin) (x : Operand) (t : TypeId) (ho : o.op = .call { callee := .builtin b, args := #[x], argTypes := #[t] }) (v : Value) (hx : a.eval x = v)
    {v' : Value} {w' : World} (hr : ∀ z, (builtin b #[t] o.type z #[v]).run P w = .ok (.value v') w') (h : wpList P ops Q rest (a.put o.dst v') w') : wpList P ops Q (o :: rest) a w :=
  wpList_plain hgd fun _ hK => obB1 w b x t ho v hx hr (hK _ _ h)
/-- .. in a region that draws its order. -/
theorem obB2S {ops : Array Oper} {o : Oper} {a : Act} {w : World} {K : Act → World → Prop} {Q : Exit → Act → World → Prop} {E : Prop} (hg : o.guard = none) (b : Builtin) (x y : Operand) (t t' : TypeId) (ho : o.op = .call { callee := .builtin b, args := #[x, y], argTypes := #[t, t'] }) (v u : Value) (hx : a.eval x = v) (hy : a.eval y = u)
    {v' : Value} {w' : World} (hr : ∀ z, (builtin b #[t, t'] o.type z #[v, u]).run P w = .ok (.value v') w') (h : K (a.put o.dst v') w') : if Region.wanted o (yielded ops a.tmps) = true then Oper.wp P o a w K Q else E := by
  rw [if_pos (by simp [Region.wanted, hg])]
  exact obB2 w b x y t t' ho v u hx hy hr h
end
/-- Cells laid over a row. -/
def spl (cur : Array Value) (o : Nat) (cs : List Value) : Array Value := (cur.toList.take o ++ cs ++ cur.toList.drop (o + cs.length)).toArray
theorem spl_size {cur : Array Value} {o : Nat} {cs : List Value} (h : o + cs.length ≤ cur.size) : (spl cur o cs).size = cur.size := by
  unfold spl
  simp
  omega
theorem spl_get {cur : Array Value} {o : Nat} {cs : List Value} (h : o + cs.length ≤ cur.size) (k : Nat) : (spl cur o cs)[k]? = if k < o then cur[k]? else if k < o + cs.length then cs[k - o]? else cur[k]? := by
  unfold spl
  have e : min o cur.size = o := by omega
  rw [List.getElem?_toArray, List.append_assoc, List.getElem?_append, List.length_take, Array.length_toList, e]
  by_cases h1 : k < o
  · rw [if_pos h1, if_pos h1, List.getElem?_take, if_pos h1, Array.getElem?_toList]
  · rw [if_neg h1, if_neg h1, List.getElem?_append]
    by_cases h2 : k < o + cs.length
    · rw [if_pos (by omega), if_pos h2]
    · rw [if_neg (by omega), if_neg h2, List.getElem?_drop, Array.getElem?_toList]
      congr 1
      omega
end Go.Proofs.YtndaohiecpdmlaaGreat
namespace Go.Proofs.YtndaohiecpdmlaaGreat
set_option maxRecDepth 100000
open Go.RowKit

/-- Entries of n cells each, where they stand. -/
def RowAt {X : Type} (n : Nat) (cells : X → List Value) (x0 : X) (w : World) (v : Value) (l : List X) : Prop :=
  ∃ a cap, v = .slice a l.length cap ∧ l.length ≤ cap ∧ ∀ k, k < l.length → ∃ g o, a = some ⟨g, o, none⟩ ∧ g < w.heap.size ∧ ∀ j, j < n → w.cell? ⟨g, o + n * k + j, none⟩ = (cells (l.getD k x0))[j]?
theorem RowAt.keep {X : Type} {n : Nat} {cells : X → List Value} {x0 : X} {w w' : World} {v : Value} {l : List X} (h : RowAt n cells x0 w v l) (b : Below w.heap.size w w') : RowAt n cells x0 w' v l := by
  obtain ⟨a, cap, e, hc, h⟩ := h
  refine ⟨a, cap, e, hc, fun k hk => ?_⟩
  obtain ⟨g, o, ha, hg, c⟩ := h k hk
  exact ⟨g, o, ha, Nat.lt_of_lt_of_le hg b.size, fun j hj => (b.cell hg).trans (c j hj)⟩
theorem RowAt.nil {X : Type} {n : Nat} {cells : X → List Value} {x0 : X} (w : World) (a : Option Addr) (cap : Nat) : RowAt n cells x0 w (.slice a 0 cap) [] := ⟨a, cap, rfl, Nat.zero_le _, fun _ hk => absurd hk (Nat.not_lt_zero _)⟩
theorem flat_get {X : Type} {n : Nat} {cells : X → List Value} {x0 : X} (hlen : ∀ x, (cells x).length = n) : ∀ (l : List X) (k j : Nat), k < l.length → j < n → (l.flatMap cells)[n * k + j]? = (cells (l.getD k x0))[j]?
  | [], k, j, hk, _ => absurd hk (Nat.not_lt_zero _)
  | x :: l, 0, j, _, hj => by
    rw [List.flatMap_cons, Nat.mul_zero, Nat.zero_add, List.getElem?_append_left (by rw [hlen]; exact hj)]
    rfl
  | x :: l, k + 1, j, hk, hj => by
    rw [List.flatMap_cons, List.getElem?_append_right (by rw [hlen, Nat.mul_succ]; omega), hlen, show n * (k + 1) + j - n = n * k + j by rw [Nat.mul_succ]; omega, flat_get hlen l k j (by simpa using hk) hj]
    rfl
theorem flat_len {X : Type} {n : Nat} {cells : X → List Value} (hlen : ∀ x, (cells x).length = n) : ∀ (l : List X), (l.flatMap cells).length = l.length * n
  | [] => by simp
  | x :: l => by rw [List.flatMap_cons, List.length_append, hlen, flat_len hlen l, List.length_cons, Nat.succ_mul]; omega

/-- A kind of rows: its types, how many cells and bytes an entry has, and which. -/
structure RowK (X : Type) where
  st : TypeId
  e : TypeId
  n : Nat
  bytes : Nat
  cells : X → List Value
  x0 : X
structure RowK.Ok {X : Type} (K : RowK X) : Prop where
  ht : Tryz.prog.underlying K.st = some (.slice K.e)
  info : ∃ i z, Tryz.prog.info? K.e = some i ∧ i.zero = some z ∧ i.size = K.n ∧ i.bytes = K.bytes ∧ z.cells.size = K.n
  pos : 0 < K.n
  len : ∀ x, (K.cells x).length = K.n
  one : ∀ x u, u ∈ K.cells x → u.oneCell' = true
theorem info_of {e : TypeId} {z : Value} {n bytes : Nat} (h : (Tryz.prog.info? e).map (fun i => (i.zero, i.size, i.bytes)) = some (some z, n, bytes)) (hz : z.cells.size = n) : ∃ i z, Tryz.prog.info? e = some i ∧ i.zero = some z ∧ i.size = n ∧ i.bytes = bytes ∧ z.cells.size = n := by
  obtain ⟨i, hi, e⟩ := Option.map_eq_some_iff.1 h
  injection e with e1 e2
  injection e2 with e2 e3
  exact ⟨i, z, hi, e1, e2, e3, hz⟩
/-- Entries in a row of one's own. -/
def OwnK {X : Type} (K : RowK X) (w : World) (base : Nat) (v : Value) (d : List X) : Prop := w.ownsRow base K.e K.n v d.length (d.flatMap K.cells)
section
variable {X : Type} {K : RowK X}
theorem OwnK.nil (w : World) (base : Nat) : OwnK K w base (.slice none 0 0) [] := World.ownsRow_nil _ _ _ _
theorem OwnK.form {w : World} {base : Nat} {v : Value} {d : List X} (h : OwnK K w base v d) : (v = .slice none 0 0 ∧ d = []) ∨ ∃ g c, v = .slice (some ⟨g, 0, none⟩) d.length c ∧ d.length ≤ c ∧ base ≤ g ∧ g < w.heap.size := by
  rcases h.2 with ⟨rfl, h0⟩ | ⟨g, cap, cur, rfl, hb, hr, hc, _⟩
  · exact .inl ⟨rfl, List.eq_nil_of_length_eq_zero h0⟩
  · refine .inr ⟨_, _, rfl, hc, hb, ?_⟩
    rcases Nat.lt_or_ge g w.heap.size with hp | hp
    · exact hp
    · rw [Array.getElem?_eq_none hp] at hr
      cases hr
theorem OwnK.slice {w : World} {base : Nat} {v : Value} {d : List X} (h : OwnK K w base v d) : ∃ a c, v = .slice a d.length c := by
  rcases h.form with ⟨rfl, rfl⟩ | ⟨g, c, rfl, _⟩
  · exact ⟨_, _, rfl⟩
  · exact ⟨_, _, rfl⟩
theorem OwnK.lt {w : World} {base : Nat} {v : Value} {d : List X} (h : OwnK K w base v d) : ∀ k, v.ownBlock = some k → base ≤ k ∧ k < w.heap.size := fun k hk => World.ownsRow.lt h k hk
theorem OwnK.of {w w' : World} {base : Nat} {v : Value} {d : List X} (h : OwnK K w base v d) (b : ∀ k, v.ownBlock = some k → w'.heap[k]? = w.heap[k]?) : OwnK K w' base v d := by
  refine ⟨h.1, ?_⟩
  rcases h.2 with h | ⟨g, cap, cur, h1, h2, h3, h4⟩
  · exact .inl h
  · exact .inr ⟨g, cap, cur, h1, h2, (b g (by rw [h1]; rfl)).trans h3, h4⟩
theorem OwnK.keep {w w' : World} {base : Nat} {v : Value} {d : List X} (h : OwnK K w base v d) (b : Below w.heap.size w w') : OwnK K w' base v d := h.of fun k hk => b.block k (h.lt k hk).2
theorem OwnK.row (hK : K.Ok) {w : World} {base : Nat} {v : Value} {d : List X} (h : OwnK K w base v d) : RowAt K.n K.cells K.x0 w v d := by
  rcases h.form with ⟨rfl, rfl⟩ | ⟨g, c, rfl, hc, _, hg⟩
  · exact .nil w _ _
  · refine ⟨_, c, rfl, hc, fun k hk => ⟨g, 0, rfl, hg, fun j hj => ?_⟩⟩
    have hl : K.n * k + j < d.length * K.n := by
      have := Nat.mul_le_mul_left K.n (show k + 1 ≤ d.length by omega)
      rw [Nat.mul_succ] at this
      rw [Nat.mul_comm d.length]
      omega
    have h1 := World.ownsRow.cellAt h (K.n * k + j) hl
    rw [flat_get hK.len d k j hk hj] at h1
    rw [Nat.zero_add]
    exact h1
/-- Onto a row of one's own: the entries of another row. -/
theorem OwnK.cat (hK : K.Ok) {w : World} {base : Nat} {v u : Value} {d m : List X} (h : OwnK K w base v d) (hb : base ≤ w.heap.size) (hu : RowAt K.n K.cells K.x0 w u m) (hd : (d.length + m.length) * K.bytes ≤ 140737488355328) (hd2 : d.length + m.length ≤ maxLen) (ty : TypeId) :
    ∃ v' w', (∀ z, (builtin .append #[K.st, K.st] ty z #[v, u]).run Tryz.prog w = .ok (.value v') w') ∧ OwnK K w' base v' (d ++ m) ∧ w.grownBy w' v.ownBlock ∧ (v'.ownBlock = v.ownBlock ∨ v'.ownBlock = some w.heap.size) ∧ (v' = .slice none 0 0 → v = .slice none 0 0) := by
  obtain ⟨i, z, hi, hz, h2, h3, hzc⟩ := hK.info
  obtain ⟨a, cap, rfl, hcap, hc⟩ := hu
  rcases Nat.eq_zero_or_pos m.length with hm | hm
  · have e : m = [] := List.eq_nil_of_length_eq_zero hm
    subst e
    rw [List.append_nil]
    have hS : Src Tryz.prog i.size K.st (.slice a 0 cap) 0 [] w := by
      cases a with
      | none => exact Src.ofNil w hK.ht cap
      | some p => exact Src.ofSlice w hK.ht p 0 cap [] (by simp) (fun j u hj => by simp at hj) (fun u hu => by cases hu)
    rcases h.form with ⟨rfl, rfl⟩ | ⟨g, c, rfl, hcc, _⟩
    · refine ⟨.slice none 0 0, w, fun z' => ?_, h, ⟨rfl, rfl, rfl, Nat.le_refl _, fun _ _ _ => rfl⟩, .inl rfl, fun e => e⟩
      simp [builtin, Builtin.append_, run_underlying hK.ht, sizeOf, typeInfo, hi, hS.len, hS.cells]
    · have := run_append_room_src w K.st K.st ty K.e i hK.ht hi g 0 d.length c (.slice a 0 cap) 0 [] hS hcc (fun j hj => by cases hj) (fun j hj => by cases hj)
      refine ⟨_, w, fun z' => ?_, h, ⟨rfl, rfl, rfl, Nat.le_refl _, fun _ _ _ => rfl⟩, .inl rfl, fun e => by cases e⟩
      simp only [builtin, Sem.run_bind, Sem.run_pure, List.length_nil, this, Result.andThen_ok]
      rfl
  · obtain ⟨g0, o0, rfl, _, _⟩ := hc 0 hm
    have hnews : ∀ j u, (m.flatMap K.cells)[j]? = some u → w.cell? ((⟨g0, o0, none⟩ : Addr).add j) = some u := fun j u hj => by
      have hj2 : j < m.length * K.n := by rw [← flat_len hK.len]; exact (List.getElem?_eq_some_iff.1 hj).1
      have hp := hK.pos
      have hk : j / K.n < m.length := Nat.div_lt_of_lt_mul (by rw [Nat.mul_comm]; exact hj2)
      have hr := Nat.mod_lt j hp
      have hdm := Nat.div_add_mod j K.n
      obtain ⟨g1, o1, e1, _, c1⟩ := hc _ hk
      injection e1 with e1
      injection e1 with e2 e3
      subst e2 e3
      rw [Addr.add_lit, ← hj]
      have := c1 _ hr
      rw [← flat_get (x0 := K.x0) hK.len m _ _ hk hr, Nat.add_assoc, hdm] at this
      exact this
    obtain ⟨v', w', hr, q1, q2, q3, q4⟩ := run_append_own_at (P := Tryz.prog) w base K.st ty K.e i _ K.n K.bytes hK.ht hi hz h2 h3 hzc hK.pos v d.length (d.flatMap K.cells) h ⟨g0, o0, none⟩ m.length cap (m.flatMap K.cells) (flat_len hK.len m) hnews (fun u hu => by
      obtain ⟨x, _, hx⟩ := List.mem_flatMap.1 hu
      exact hK.one x u hx) hd2 hd hb
    refine ⟨v', w', fun z' => by simp only [builtin, Sem.run_bind, Sem.run_pure, hr, Result.andThen_ok], ?_, q2, q4, fun e => (q3.1 e).1⟩
    unfold OwnK
    rw [List.flatMap_append, List.length_append]
    exact q1
/-- A new row without entries. -/
theorem OwnK.new (w : World) (base : Nat) (hb : base ≤ w.heap.size) : OwnK K (w.alloc (.cells #[] K.e)) base (.slice (some ⟨w.heap.size, 0, none⟩) 0 0) [] :=
  ⟨by simp, .inr ⟨w.heap.size, 0, #[], rfl, hb, by show (w.heap.push _)[w.heap.size]? = _; simp, Nat.le_refl _, Nat.zero_le _, by simp, by simp⟩⟩
/-- A copy of a row. -/
theorem copy_row (hK : K.Ok) (w : World) {u : Value} {m : List X} (hu : RowAt K.n K.cells K.x0 w u m) (hd : m.length * K.bytes ≤ 140737488355328) (hd2 : m.length ≤ maxLen) (ty : TypeId) :
    ∃ v' w', (∀ z, (builtin .append #[K.st, K.st] ty z #[.slice (some ⟨w.heap.size, 0, none⟩) 0 0, u]).run Tryz.prog (w.alloc (.cells #[] K.e)) = .ok (.value v') w') ∧ OwnK K w' w.heap.size v' m ∧ v' ≠ .slice none 0 0 ∧ Below w.heap.size w w' := by
  have b : Below w.heap.size w (w.alloc (.cells #[] K.e)) := (Below.refl _ _).alloc (Nat.le_refl _) _
  obtain ⟨v', w', h1, h2, h4, _, h5⟩ := (OwnK.new (K := K) w w.heap.size (Nat.le_refl _)).cat hK (by simp) (hu.keep b) (by simpa using hd) (by simpa using hd2) ty
  exact ⟨v', w', h1, h2, fun e => (by cases h5 e), b.grown h4 b.size fun k hk => by injection hk with hk; exact Nat.le_of_eq hk⟩
/-- One entry, from a block that was made for it. -/
theorem row_one (w : World) (x : X) (t : TypeId) : RowAt K.n K.cells K.x0 (w.alloc (.cells (K.cells x).toArray t)) (.slice (some ⟨w.heap.size, 0, none⟩) 1 1) [x] := by
  refine ⟨_, 1, rfl, Nat.le_refl _, fun k hk => ⟨w.heap.size, 0, rfl, by simp, fun j hj => ?_⟩⟩
  have : k = 0 := by simpa using hk
  subst this
  rw [Nat.mul_zero, Nat.add_zero, Nat.zero_add, World.cell?_alloc_new]
  simp
theorem flat_set (hlen : ∀ x, (K.cells x).length = K.n) : ∀ (l : List X) (k j : Nat) (x : X) (u : Value), k < l.length → j < K.n → K.cells x = (K.cells (l.getD k K.x0)).set j u → (l.set k x).flatMap K.cells = (l.flatMap K.cells).set (K.n * k + j) u
  | [], k, _, _, _, hk, _, _ => absurd hk (Nat.not_lt_zero _)
  | y :: l, 0, j, x, u, _, hj, e => by
    rw [List.set_cons_zero, List.flatMap_cons, List.flatMap_cons, Nat.mul_zero, Nat.zero_add, List.set_append_left _ _ (by rw [hlen]; exact hj), e]
    rfl
  | y :: l, k + 1, j, x, u, hk, hj, e => by
    rw [List.set_cons_succ, List.flatMap_cons, List.flatMap_cons, flat_set hlen l k j x u (by simpa using hk) hj (by rw [e]; rfl), List.set_append_right _ _ (by rw [hlen, Nat.mul_succ]; omega), hlen, show K.n * (k + 1) + j - K.n = K.n * k + j by rw [Nat.mul_succ]; omega]
/-- A cell of an entry turned. -/
theorem OwnK.put (hK : K.Ok) {w : World} {base g n c : Nat} {d : List X} (h : OwnK K w base (.slice (some ⟨g, 0, none⟩) n c) d) {k j : Nat} (hk : k < d.length) (hj : j < K.n) {x : X} {u : Value} (e : K.cells x = (K.cells (d.getD k K.x0)).set j u) :
    OwnK K (w.setCell ⟨g, K.n * k + j, none⟩ u) base (.slice (some ⟨g, 0, none⟩) n c) (d.set k x) ∧ w.frozen? ⟨g, K.n * k + j, none⟩ = false := by
  have hl : K.n * k + j < d.length * K.n := by
    have := Nat.mul_le_mul_left K.n (show k + 1 ≤ d.length by omega)
    rw [Nat.mul_succ] at this
    rw [Nat.mul_comm d.length]
    omega
  obtain ⟨hlen, hr⟩ := h
  rcases hr with ⟨e0, _⟩ | ⟨g', cap, cur, e0, hb, hg, hc, hm, hs, ht⟩
  · cases e0
  · injection e0 with e1 e2 e3
    injection e1 with e1
    injection e1 with e1
    subst e1 e2 e3
    refine ⟨⟨by rw [flat_set hK.len d k j x u hk hj e]; simpa using hlen, .inr ⟨g, c, cur.setIfInBounds (K.n * k + j) u, by rw [List.length_set], hb, ?_, by rw [List.length_set]; exact hc, hm, by simpa using hs, ?_⟩⟩, by simp [World.frozen?, hg]⟩
    · rw [setCell_eq_setRow w g _ cur K.e (0, 0) u hg]
      exact setRow_heap w g cur _ K.e (0, 0) hg
    · rw [flat_set hK.len d k j x u hk hj e, List.length_set, ← ht, Array.toList_setIfInBounds, List.take_set]
end
end Go.Proofs.YtndaohiecpdmlaaGreat
namespace Go.Proofs.YtndaohiecpdmlaaGreat
set_option maxRecDepth 100000
open Go.ChangeShapes Go.WideShapes Go.ChangeAt Go.RowKit

theorem own : ownKnob Tryz.prog.godebug = none := by kernel_rfl
theorem laidOut : laidOutB Tryz.prog = true := by kernel_rfl
/-- A world for the witness: the settled one. -/
def startWorld (P : Program) (os : Os) : World := World.holding P os ⟨#[], #[], []⟩
theorem cell_block {W : World} {b o : Nat} {v : Value} (h : W.cell? ⟨b, o, none⟩ = some v) : b < W.heap.size := by
  rcases Nat.lt_or_ge b W.heap.size with hp | hp
  · exact hp
  · have e : W.heap[b]? = none := Array.getElem?_eq_none hp
    simp [World.cell?, e] at h
theorem sized_len {t e : TypeId} (ht : Tryz.prog.underlying t = some (.slice e)) {H : Type} {enc : TypeId × Value → H} {W : World} {a : Option Addr} {n cap : Nat} {d : DataW H} {p : List MemPlace}
    (h : DataW.Trod enc Tryz.prog W 0 (fun _ => true) true t (.slice a n cap) d p) (hw : ∀ k ∈ d.weights Tryz.prog t, k ≤ reachBytes) : n * Tryz.prog.bytesOf e ≤ 140737488351232 := by
  obtain ⟨fuel, hf⟩ := h
  rcases Go.Deep.open_slice ht hf with ⟨hcs, _⟩ | ⟨x, l, c, m, k, D, Pl, hcs, _, hl, hm, hmm, hx, _⟩
  · simp [Value.cells] at hcs
    obtain ⟨rfl, rfl, rfl⟩ := hcs
    simp
  · simp [Value.cells] at hcs
    obtain ⟨rfl, rfl, rfl⟩ := hcs
    injection hx with hx _
    subst hx
    have q := hw _ (by simp only [DataW.weights, ht]; exact List.mem_cons_self ..)
    simp at q
    refine Nat.le_trans (Nat.mul_le_mul_right _ (Nat.le_add_right n (m - n))) ?_
    simpa [reachBytes] using q
/-- A row of structs that is handed in (the cells of an entry and one lemma a struct). -/
theorem open_row {X : Type} (n : Nat) (hn : 0 < n) (cells : X → List Value) (hc : ∀ x, (cells x).length = n) (x0 : X) (B : X → Prop) {t e : TypeId} (ht : Tryz.prog.underlying t = some (.slice e)) (ce : Tryz.prog.cellsOf e = n)
    {H : Type} {enc : TypeId × Value → H} {W : World} {base : Nat} {v : Value} {d : DataW H} {p : List MemPlace}
    (core : ∀ (fuel : Nat) (cs : List Value) (x : DataW H × List MemPlace), DataW.trod enc Tryz.prog W 0 (fun _ => true) true fuel e cs = some x → ∃ f : X, cs = cells f ∧ B f)
    (hv : Value.okWide Tryz.prog W .any base t v) (h : DataW.Trod enc Tryz.prog W 0 (fun _ => true) true t v d p) (hw : ∀ n ∈ d.weights Tryz.prog t, n ≤ reachBytes) :
    ∃ l : List X, RowAt n cells x0 W v l ∧ l.length * Tryz.prog.bytesOf e ≤ 140737488351232 ∧ ∀ x ∈ l, B x := by
  obtain ⟨a, len, cap, rfl⟩ := okWide_slice ht hv
  have hlen := sized_len ht h hw
  obtain ⟨fuel, hf⟩ := h
  rcases Go.Deep.open_slice ht hf with ⟨hcs, _⟩ | ⟨x, l, c, m, k, D, Pl, hcs, _, hl, hm, hmm, hx0, hx⟩
  · simp [Value.cells] at hcs
    obtain ⟨rfl, rfl, rfl⟩ := hcs
    exact ⟨[], .nil W none 0, by simp, fun f hf => by cases hf⟩
  · simp [Value.cells] at hcs
    obtain ⟨rfl, rfl, rfl⟩ := hcs
    have hmc : m = cap := by simpa using hmm
    have each : ∀ i, i < len → ∃ q : X, (∀ j, j < n → W.cell? (x.add (i * n + j)) = (cells q)[j]?) ∧ B q := fun i hi => by
      obtain ⟨cs', h1, h2⟩ := hx i (by omega)
      rw [ce] at h1
      obtain ⟨_, hlen7, hcell⟩ := World.cells?_some h1
      obtain ⟨f, e', k3⟩ := core _ _ _ h2
      refine ⟨f, fun j hj => ?_, k3⟩
      have := hcell j (by omega)
      rw [Go.Deep.add_add] at this
      rw [this, e']
    have : Inhabited X := ⟨x0⟩
    obtain ⟨q, hq⟩ := Go.Deep.choose_lt each
    obtain ⟨L, hL⟩ : ∃ L : List X, L = (List.range len).map fun i => q i := ⟨_, rfl⟩
    have hll : L.length = len := by rw [hL]; simp
    have hget : ∀ k, k < len → L.getD k x0 = q k := fun k hk => by
      rw [hL]
      simp [List.getD, hk]
    refine ⟨L, ⟨some x, cap, by rw [hll], by rw [hll]; omega, fun k hk => ?_⟩, by rw [hll]; exact hlen, fun f hf => ?_⟩
    · rw [hll] at hk
      obtain ⟨g, off, spot⟩ := x
      have hc0 := (hq 0 (by omega)).1 0 hn
      have h0 : 0 < (cells (q 0)).length := by rw [hc]; exact hn
      rw [List.getElem?_eq_getElem h0] at hc0
      have hspot : spot = none := by simpa [Addr.add] using World.cell?_spot hc0
      subst hspot
      refine ⟨g, off, rfl, cell_block (o := off) (v := (cells (q 0))[0]) (by simpa [Addr.add] using hc0), fun j hj => ?_⟩
      rw [hget k hk]
      have := (hq k hk).1 j hj
      rw [Addr.add_mid, ← Nat.add_assoc, Nat.mul_comm] at this
      exact this
    · rw [hL] at hf
      obtain ⟨i, hi, rfl⟩ := List.mem_map.1 hf
      exact (hq i (List.mem_range.1 hi)).2
end Go.Proofs.YtndaohiecpdmlaaGreat
namespace Go.Proofs.YtndaohiecpdmlaaGreat
set_option maxRecDepth 100000
open Go.RowKit

section
variable {X : Type} {K : RowK X}
/-- Entries, in a block that was made for them. -/
theorem row_lit (hK : K.Ok) (w : World) (m : List X) (t : TypeId) : RowAt K.n K.cells K.x0 (w.alloc (.cells (m.flatMap K.cells).toArray t)) (.slice (some ⟨w.heap.size, 0, none⟩) m.length m.length) m := by
  refine ⟨_, m.length, rfl, Nat.le_refl _, fun k hk => ⟨w.heap.size, 0, rfl, by simp, fun j hj => ?_⟩⟩
  rw [World.cell?_alloc_new, ← flat_get hK.len m k j hk hj]
  simp
/-- A new row of some entries. -/
theorem OwnK.lit (hK : K.Ok) (w : World) (m : List X) (hm : m.length ≤ maxLen) : OwnK K (w.alloc (.cells (m.flatMap K.cells).toArray K.e)) w.heap.size (.slice (some ⟨w.heap.size, 0, none⟩) m.length m.length) m := by
  have hl := flat_len hK.len m
  refine ⟨hl, .inr ⟨w.heap.size, m.length, (m.flatMap K.cells).toArray, rfl, Nat.le_refl _, ?_, Nat.le_refl _, hm, by simpa using hl, ?_⟩⟩
  · show (w.heap.push _)[w.heap.size]? = _
    simp
  · rw [List.take_of_length_le (by simp [hl])]
/-- Onto a row of one's own: some entries, from a block that is made for them. -/
theorem OwnK.snocs (hK : K.Ok) {w : World} {base : Nat} {v : Value} {d : List X} (h : OwnK K w base v d) (hb : base ≤ w.heap.size) (m : List X) (t ty : TypeId) (hd : (d.length + m.length) * K.bytes ≤ 140737488355328) (hd2 : d.length + m.length ≤ maxLen) :
    ∃ a c w', (∀ z, (builtin .append #[K.st, K.st] ty z #[v, .slice (some ⟨w.heap.size, 0, none⟩) m.length m.length]).run Tryz.prog (w.alloc (.cells (m.flatMap K.cells).toArray t)) = .ok (.value (.slice a (d.length + m.length) c)) w') ∧ OwnK K w' base (.slice a (d.length + m.length) c) (d ++ m) ∧ ∀ w0, Below base w0 w → Below base w0 w' := by
  have b1 : Below w.heap.size w (w.alloc (.cells (m.flatMap K.cells).toArray t)) := (Below.refl _ _).alloc (Nat.le_refl _) _
  obtain ⟨v5, w5, hap, O5, g5, -, -⟩ := (h.keep b1).cat hK (Nat.le_trans hb b1.size) (row_lit hK w m t) hd hd2 ty
  obtain ⟨a, c, e⟩ := O5.slice
  rw [List.length_append] at e
  subst e
  refine ⟨a, c, w5, hap, O5, fun w0 b0 => ?_⟩
  have b2 : Below base w0 (w.alloc (.cells (m.flatMap K.cells).toArray t)) := b0.alloc hb _
  refine ⟨g5.os.trans b2.os, g5.tape.trans b2.tape, g5.output.trans b2.output, Nat.le_trans b2.size g5.size, fun k hk => ?_⟩
  have hk2 : k < (w.alloc (.cells (m.flatMap K.cells).toArray t)).heap.size := by
    have := b1.size
    omega
  exact (g5.block k hk2 (by
    intro q
    have := (h.lt k q.symm).1
    omega)).trans (b2.block k hk)
end
end Go.Proofs.YtndaohiecpdmlaaGreat
