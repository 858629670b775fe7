/-
  Plain facts: numbers of one kind that lie in a block from a place on, and may be written; an array by value is loaded and stored whole. No condition.
-/
import Derived.Test.YtbicfhilehllnaaGreatDoorShFacts
import Derived.Deep.MidRow
import Derived.Lib.LazyBuf
namespace Go.Proofs.YtbicfhilehllnaaGreatDoor
set_option maxRecDepth 100000
open Go.RowKit

/-- Numbers of one kind, as cells. -/
def nv (k : IntKind) (l : List Nat) : List Value := l.map fun x => Value.int k ((x : Nat) : Int)
theorem nv_length (k : IntKind) (l : List Nat) : (nv k l).length = l.length := List.length_map ..
theorem nv_one (k : IntKind) (l : List Nat) : ∀ v ∈ nv k l, v.oneCell' = true := by
  intro v hv
  obtain ⟨x, _, rfl⟩ := List.mem_map.1 hv
  rfl
theorem nv_all (k : IntKind) (l : List Nat) : (nv k l).toArray.all (·.oneCell') = true := all_oneCell_toArray (nv_one k l)
theorem nv_get (k : IntKind) (l : List Nat) (j : Nat) (h : j < l.length) : (nv k l)[j]? = some (.int k ((l.getD j 0 : Nat) : Int)) := by
  unfold nv
  simp [List.getD, List.getElem?_eq_getElem h]
/-- Numbers that lie in a block from a place on, and may be written. -/
structure At (k : IntKind) (w : World) (B o : Nat) (l : List Nat) : Prop where
  r : w.rangeAt B o (nv k l)
  t : w.there B o l.length
theorem At.cell {k : IntKind} {w : World} {B o : Nat} {l : List Nat} (h : At k w B o l) (j : Nat) (hj : j < l.length) : w.cell? ⟨B, o + j, none⟩ = some (.int k ((l.getD j 0 : Nat) : Int)) := h.r j _ (nv_get k l j hj)
theorem At.free {k : IntKind} {w : World} {B o : Nat} {l : List Nat} (h : At k w B o l) (j : Nat) (hj : j < l.length) : w.frozen? ⟨B, o + j, none⟩ = false := (h.t j hj).2
theorem At.cell0 {k : IntKind} {w : World} {B : Nat} {l : List Nat} (h : At k w B 0 l) (j : Nat) (hj : j < l.length) : w.cell? ⟨B, j, none⟩ = some (.int k ((l.getD j 0 : Nat) : Int)) := by
  have := h.cell j hj
  rwa [Nat.zero_add] at this
theorem At.free0 {k : IntKind} {w : World} {B : Nat} {l : List Nat} (h : At k w B 0 l) (j : Nat) (hj : j < l.length) : w.frozen? ⟨B, j, none⟩ = false := by
  have := h.free j hj
  rwa [Nat.zero_add] at this
theorem At.lt {k : IntKind} {w : World} {B o : Nat} {l : List Nat} (h : At k w B o l) (hl : 0 < l.length) : B < w.heap.size := World.block_lt_of_cell? w _ (h.cell 0 hl)
theorem At.of_block {k : IntKind} {w w' : World} {B o : Nat} {l : List Nat} (h : At k w B o l) (e : w'.heap[B]? = w.heap[B]?) : At k w' B o l :=
  ⟨fun j v hv => (World.cell?_of_block (w := w) (a := ⟨B, o + j, none⟩) e).trans (h.r j v hv), fun j hj => by
    rw [World.cell?_of_block (w := w) (a := ⟨B, o + j, none⟩) e, World.frozen?_of_block (w := w) (a := ⟨B, o + j, none⟩) e]
    exact h.t j hj⟩
theorem At.keep {k : IntKind} {w w' : World} {B o C : Nat} {l : List Nat} (h : At k w B o l) (hB : B < C) (b : Below C w w') : At k w' B o l := h.of_block (b.block B hB)
theorem At.drew {k : IntKind} {w : World} {B o : Nat} {l : List Nat} (h : At k w B o l) : At k w.drew B o l := h.of_block rfl
theorem At.put {k : IntKind} {w : World} {B o : Nat} {l : List Nat} (h : At k w B o l) (i : Nat) (hi : i < l.length) (x : Nat) : At k (w.setCell ⟨B, o + i, none⟩ (.int k ((x : Nat) : Int))) B o (l.set i x) := by
  refine ⟨fun j v hv => ?_, fun j hj => ?_⟩
  · by_cases e : i = j
    · subst e
      rw [World.cell?_setCell_same _ _ _ (h.cell i hi)]
      unfold nv at hv
      rw [List.getElem?_map, List.getElem?_set_self hi] at hv
      exact hv
    · rw [World.cell?_setCell_other _ _ _ _ (by intro q; injection q with _ q; omega)]
      refine h.r j v ?_
      unfold nv at hv ⊢
      rwa [List.getElem?_map, List.getElem?_set_ne e, ← List.getElem?_map] at hv
  · rw [List.length_set] at hj
    refine ⟨?_, by rw [World.frozen?_setCell]; exact (h.t j hj).2⟩
    by_cases e : i = j
    · subst e
      rw [World.cell?_setCell_same _ _ _ (h.cell i hi)]; rfl
    · rw [World.cell?_setCell_other _ _ _ _ (by intro q; injection q with _ q; omega)]
      exact (h.t j hj).1
theorem At.beside {k : IntKind} {w : World} {B o : Nat} {l : List Nat} (h : At k w B o l) (C p : Nat) (u : Value) (hp : C ≠ B ∨ p < o ∨ o + l.length ≤ p) : At k (w.setCell ⟨C, p, none⟩ u) B o l := by
  have ne : ∀ j, j < l.length → (⟨C, p, none⟩ : Addr) ≠ ⟨B, o + j, none⟩ := fun j hj q => by
    injection q with q1 q2
    omega
  refine ⟨fun j v hv => ?_, fun j hj => ?_⟩
  · have hj : j < l.length := by have := (List.getElem?_eq_some_iff.1 hv).1; rwa [nv_length] at this
    rw [World.cell?_setCell_other _ _ _ _ (ne j hj)]
    exact h.r j v hv
  · rw [World.cell?_setCell_other _ _ _ _ (ne j hj), World.frozen?_setCell]
    exact h.t j hj
/-- A row that is made. -/
theorem At.new (k : IntKind) (w : World) (l : List Nat) (e : TypeId) : At k (w.alloc (.cells (nv k l).toArray e)) w.heap.size 0 l := by
  refine ⟨fun j v hv => ?_, fun j hj => ⟨?_, by simp⟩⟩
  · rw [Nat.zero_add, World.cell?_alloc_new]
    simpa using hv
  · rw [Nat.zero_add, World.cell?_alloc_new]
    simp [nv, hj]
/-- A row stored whole. -/
theorem At.store {k : IntKind} {w : World} {B o : Nat} {l : List Nat} (h : At k w B o l) (m : List Nat) (hm : m.length = l.length) : At k (w.setCells B o (nv k m)) B o m := by
  have t : w.there B o (nv k m).length := by rw [nv_length, hm]; exact h.t
  refine ⟨World.rangeAt_setCells_same w B o (nv k m) t, ?_⟩
  have := World.there_setCells t B o (nv k m)
  rwa [nv_length] at this
theorem At.apart {k : IntKind} {w : World} {B o : Nat} {l : List Nat} (h : At k w B o l) (C p : Nat) (vs : List Value) (hp : B ≠ C ∨ o + l.length ≤ p ∨ p + vs.length ≤ o) : At k (w.setCells C p vs) B o l :=
  ⟨World.rangeAt_setCells_apart h.r C p vs (by rw [nv_length]; exact hp), World.there_setCells h.t C p vs⟩
theorem At.left {k : IntKind} {w : World} {B o : Nat} {a b : List Nat} (h : At k w B o (a ++ b)) : At k w B o a := by
  refine ⟨fun j v hv => h.r j v ?_, fun j hj => h.t j (by rw [List.length_append]; omega)⟩
  have hj : j < (nv k a).length := (List.getElem?_eq_some_iff.1 hv).1
  unfold nv at *
  rw [List.map_append, List.getElem?_append_left hj]
  exact hv
theorem At.right {k : IntKind} {w : World} {B o : Nat} {a b : List Nat} (h : At k w B o (a ++ b)) : At k w B (o + a.length) b := by
  refine ⟨fun j v hv => ?_, fun j hj => ?_⟩
  · have := h.r (a.length + j) v (by
      unfold nv at *
      rw [List.map_append, List.getElem?_append_right (by simp)]
      simpa using hv)
    rwa [Nat.add_assoc]
  · have := h.t (a.length + j) (by rw [List.length_append]; omega)
    rwa [Nat.add_assoc]
theorem At.join {k : IntKind} {w : World} {B o : Nat} {a b : List Nat} (h : At k w B o a) (g : At k w B (o + a.length) b) : At k w B o (a ++ b) := by
  refine ⟨fun j v hv => ?_, fun j hj => ?_⟩
  · unfold nv at hv
    rw [List.map_append] at hv
    by_cases q : j < a.length
    · rw [List.getElem?_append_left (by simpa using q)] at hv
      exact h.r j v hv
    · rw [List.getElem?_append_right (by simpa using q), List.length_map] at hv
      have := g.r (j - a.length) v hv
      rwa [show o + a.length + (j - a.length) = o + j by omega] at this
  · rw [List.length_append] at hj
    by_cases q : j < a.length
    · exact h.t j q
    · have := g.t (j - a.length) (by omega)
      rwa [show o + a.length + (j - a.length) = o + j by omega] at this
/-- An array loaded whole. -/
theorem At.load {k : IntKind} {w : World} {B o : Nat} {l : List Nat} (h : At k w B o l) {t e : TypeId} {n : Nat} (hu : Tryz.prog.underlying t = some (.array n e)) (hi : (Tryz.prog.info? t).map (·.size) = some l.length) :
    (Instr.loadAt t (.pointer (some ⟨B, o, none⟩))).run Tryz.prog w = .ok (.agg (nv k l).toArray) w :=
  run_loadAt_mid w B o t (nv k l) _ h.r hu rfl (by rw [nv_length]; exact hi)
/-- An array stored whole. -/
theorem At.stores {k : IntKind} {w : World} {B o : Nat} {l : List Nat} (h : At k w B o l) (m : List Nat) (hm : m.length = l.length) {t : TypeId} (hi : (Tryz.prog.info? t).map (·.size) = some l.length) :
    (Instr.storeAt t (.pointer (some ⟨B, o, none⟩)) (.agg (nv k m).toArray)).run Tryz.prog w = .ok () (w.setCells B o (nv k m)) := by
  have := run_storeAt_mid (P := Tryz.prog) w B o t (nv k m).toArray (by simpa [nv_length, hm] using h.t) (by simpa [nv_length, hm] using hi) (nv_all k m)
  simpa using this
/-- The same at a walk. -/
theorem At.wload {k : IntKind} {w : World} {B o : Nat} {l : List Nat} (h : At k w B o l) {t e : TypeId} {n : Nat} (hu : Tryz.prog.underlying t = some (.array n e)) (hi : (Tryz.prog.info? t).map (·.size) = some l.length)
    {ops : Array Oper} {rest : List Oper} {op : Oper} {a : Act} {Q : Exit → Act → World → Prop} {x : Operand} (hgd : op.guard = none) (ho : op.op = .load t x) (hx : a.eval x = .pointer (some ⟨B, o, none⟩))
    (hK : wpList Tryz.prog ops Q rest (a.put op.dst (.agg (nv k l).toArray)) w) : wpList Tryz.prog ops Q (op :: rest) a w :=
  wpList_load_mid hgd t x ho B o hx (nv k l) _ h.r hu rfl (by rw [nv_length]; exact hi) hK
theorem At.wstore {k : IntKind} {w : World} {B o : Nat} {l : List Nat} (h : At k w B o l) (m : List Nat) (hm : m.length = l.length) {t : TypeId} (hi : (Tryz.prog.info? t).map (·.size) = some l.length)
    {ops : Array Oper} {rest : List Oper} {op : Oper} {a : Act} {Q : Exit → Act → World → Prop} {x y : Operand} (hgd : op.guard = none) (ho : op.op = .store t x y) (hd : op.dst = none) (hx : a.eval x = .pointer (some ⟨B, o, none⟩)) (hy : a.eval y = .agg (nv k m).toArray)
    (hK : wpList Tryz.prog ops Q rest a (w.setCells B o (nv k m))) : wpList Tryz.prog ops Q (op :: rest) a w :=
  wpList_store_mid hgd t x y ho B o (nv k m).toArray hx hy (by simpa [nv_length, hm] using h.t) (by simpa [nv_length, hm] using hi) (nv_all k m) (by rw [hd]; simpa [Act.put] using hK)
theorem At.wstoreV {k : IntKind} {w : World} {B o : Nat} {l : List Nat} (h : At k w B o l) (m : List Nat) (hm : m.length = l.length) {t : TypeId} (hi : (Tryz.prog.info? t).map (·.size) = some l.length)
    {ops : Array Oper} {rest : List Oper} {op : Oper} {a : Act} {Q : Exit → Act → World → Prop} {x y : Operand} {cs : Array Value} (hgd : op.guard = none) (ho : op.op = .store t x y) (hd : op.dst = none) (hx : a.eval x = .pointer (some ⟨B, o, none⟩)) (hy : a.eval y = .agg cs)
    (hc : cs = (nv k m).toArray) (hK : wpList Tryz.prog ops Q rest a (w.setCells B o (nv k m))) : wpList Tryz.prog ops Q (op :: rest) a w :=
  h.wstore m hm hi hgd ho hd hx (hc ▸ hy) hK
/-- An array handed back through its cells. -/
theorem At.ret {k : IntKind} {w : World} {B : Nat} {l : List Nat} (h : At k w B 0 l) {ty e : TypeId} {n : Nat} (hu : Tryz.prog.underlying ty = some (.array n e)) (hi : (Tryz.prog.info? ty).map (·.size) = some l.length)
    {fn : Func} {p : Tmp} (hf : fn.results = #[.cell p ty]) {a : Act} (hp : a.tmps.getD p undef = .pointer (some ⟨B, 0, none⟩)) (hd : a.defers = []) {R : Ending → World → Prop} (hR : R (.returned (.agg (nv k l).toArray)) w) :
    bodyPost Tryz.prog fn R .ret a w := by
  have hl : (loadVar ty ⟨B, 0, none⟩).run Tryz.prog w = .ok (.agg (nv k l).toArray) w := run_loadVar_mid w B 0 ty (nv k l) _ h.r hu rfl (by rw [nv_length]; exact hi)
  refine bodyPost_ret (v := .agg (nv k l).toArray) ?_ hd hR
  have hp' : a.tmps[p]?.getD undef = .pointer (some ⟨B, 0, none⟩) := by simpa using hp
  simp only [results, hf]
  simp [hp', asAddr, hl]
theorem below_cells {B b : Nat} {a w : World} (h : Below B a w) (hb : B ≤ b) (o : Nat) (vs : List Value) : Below B a (w.setCells b o vs) := below_setCells hb vs o w h
theorem heap_cells_other (b : Nat) : ∀ (vs : List Value) (o : Nat) (w : World) (k : Nat), k ≠ b → (w.setCells b o vs).heap[k]? = w.heap[k]?
  | [], _, _, _, _ => rfl
  | v :: r, o, w, k, h => by
    rw [World.setCells, heap_cells_other b r (o + 1) _ k h]
    exact Below.heap_setCell _ _ _ _ (by simpa using h)
theorem size_cells (b : Nat) : ∀ (vs : List Value) (o : Nat) (w : World), (w.setCells b o vs).heap.size = w.heap.size
  | [], _, _ => rfl
  | v :: r, o, w => by rw [World.setCells, size_cells b r (o + 1)]; simp
/-- A row of bytes as a text. -/
theorem At.str {w : World} {B o : Nat} {l : List Nat} (h : At .u8 w B o l) (n cap : Nat) (hn : n = l.length) :
    (convert 129 9 (.slice (some ⟨B, o, none⟩) n cap)).run Tryz.prog w = .ok (.string (bstr l)) w := by
  subst hn
  rw [← bstr_nums]
  refine run_convert_bytes_arg (P := Tryz.prog) w 129 5 Tryz.underlying129 Tryz.underlying5 B o l.length cap _ (by simp) (fun i hi => ?_) 9 Tryz.underlying9
  rw [h.cell i hi]
  simp [List.getD, List.getElem?_eq_getElem hi]
theorem slice_all (B o n : Nat) (w : World) (t e : TypeId) (hu : Tryz.prog.underlying t = some (.array n e)) (hs : ∀ w, (sizeOf e).run Tryz.prog w = .ok 1 w) :
    (Instr.sliceAt t (.pointer (some ⟨B, o, none⟩)) none none none).run Tryz.prog w = .ok (.slice (some ⟨B, o, none⟩) n n) w := by
  simp [Instr.sliceAt, run_underlying hu, Instr.sureAddr, Instr.sliceBounds, hs, Addr.add_mid]
end Go.Proofs.YtbicfhilehllnaaGreatDoor
