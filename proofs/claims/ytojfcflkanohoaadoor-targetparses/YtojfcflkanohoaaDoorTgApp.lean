/-
  Rows of fields of one's own; append of fields, none too, onto such a row. No condition but how many there are.
-/
import Derived.Test.YtojfcflkanohoaaDoorTgMem
import Derived.Test.YtojfcflkanohoaaDoorObRun
import Derived.Deep.AppendSrc
import Derived.Maps.AppendAt
import Derived.Laws.OwnMore
import Derived.Laws.AppendOwnNone
namespace Go.Proofs.YtojfcflkanohoaaDoor
set_option maxRecDepth 100000
open Go.RowKit Go.Sort

theorem info_fd : ∃ i, Tryd.prog.info? 35 = some i ∧ i.zero = some (.agg #[.string ⟨#[]⟩, .string ⟨#[]⟩]) ∧ i.size = 2 ∧ i.bytes = 32 := by
  have h : (Tryd.prog.info? 35).map (fun i => (i.zero, i.size, i.bytes)) = some (some (.agg #[.string ⟨#[]⟩, .string ⟨#[]⟩]), 2, 32) := by kernel_rfl
  obtain ⟨i, hi, e⟩ := Option.map_eq_some_iff.1 h
  injection e with e1 e2
  injection e2 with e2 e3
  exact ⟨i, hi, e1, e2, e3⟩
/-- Fields in a row of one's own. -/
def OwnF (w : World) (base : Nat) (v : Value) (d : List Fd) : Prop := w.ownsRow base 35 2 v d.length (fCells d)
theorem fCells_len (l : List Fd) : (fCells l).length = 2 * l.length := by
  induction l with
  | nil => rfl
  | cons f l ih =>
    show (fCells l).length + 1 + 1 = _
    rw [ih, List.length_cons]
    omega
theorem fCells_snoc (d : List Fd) (f : Fd) : fCells (d ++ [f]) = fCells d ++ [.string (strL f.1), .string (strL f.2)] := by simp [fCells, List.flatMap_append]
theorem OwnF.nil (w : World) (base : Nat) : OwnF w base (.slice none 0 0) [] := World.ownsRow_nil _ _ _ _
theorem OwnF.form {w : World} {base : Nat} {v : Value} {d : List Fd} (h : OwnF w base v d) : ∃ a c, v = .slice a d.length c := by
  rcases h.2 with ⟨rfl, h0⟩ | ⟨g, cap, cur, rfl, _⟩
  · exact ⟨none, 0, by rw [h0]⟩
  · exact ⟨_, _, rfl⟩
theorem OwnF.fds {w : World} {base : Nat} {v : Value} {d : List Fd} (h : OwnF w base v d) : FdsAt w v d := by
  rcases h.2 with ⟨rfl, h0⟩ | ⟨g, cap, cur, rfl, hr⟩
  · have e : d = [] := List.eq_nil_of_length_eq_zero h0
    subst e
    exact ⟨none, 0, rfl, .inl rfl⟩
  · refine ⟨_, cap, rfl, .inr ⟨g, 0, rfl, fun k hk => ?_⟩⟩
    have h1 := World.ownsRow.cellAt h (2 * k) (by omega)
    have h2 := World.ownsRow.cellAt h (2 * k + 1) (by omega)
    rw [(fCells_get d k hk).1] at h1
    rw [(fCells_get d k hk).2] at h2
    rw [Nat.zero_add]
    exact ⟨h1, h2⟩
theorem OwnF.lt {w : World} {base : Nat} {v : Value} {d : List Fd} (h : OwnF w base v d) : ∀ k, v.ownBlock = some k → base ≤ k ∧ k < w.heap.size := fun k hk => World.ownsRow.lt h k hk
theorem OwnF.of {w w' : World} {base : Nat} {v : Value} {d : List Fd} (h : OwnF w base v d) (b : ∀ k, v.ownBlock = some k → w'.heap[k]? = w.heap[k]?) : OwnF w' base v d := by
  refine ⟨h.1, ?_⟩
  rcases h.2 with h | ⟨g, cap, cur, h1, h2, h3, h4⟩
  · exact .inl h
  · exact .inr ⟨g, cap, cur, h1, h2, (b g (by rw [h1]; rfl)).trans h3, h4⟩
theorem OwnF.keep {w w' : World} {base : Nat} {v : Value} {d : List Fd} (h : OwnF w base v d) (b : Below w.heap.size w w') : OwnF w' base v d := h.of fun k hk => b.block k (h.lt k hk).2
theorem fCells_app (d m : List Fd) : fCells (d ++ m) = fCells d ++ fCells m := by simp [fCells, List.flatMap_append]
theorem fCells_one (l : List Fd) : ∀ u ∈ fCells l, u.oneCell' = true := fun u hu => by
  unfold fCells at hu
  obtain ⟨f, _, hf⟩ := List.mem_flatMap.1 hu
  simp at hf
  rcases hf with rfl | rfl <;> rfl
/-- A row of one's own that is not nil. -/
theorem OwnF.blk {w : World} {base : Nat} {v : Value} {d : List Fd} (h : OwnF w base v d) (hn : v ≠ .slice none 0 0) : ∃ g c, v = .slice (some ⟨g, 0, none⟩) d.length c ∧ d.length ≤ c := by
  rcases h.2 with ⟨rfl, _⟩ | ⟨g, cap, cur, rfl, _, _, hc, _⟩
  · exact absurd rfl hn
  · exact ⟨g, cap, rfl, hc⟩
theorem OwnF.cat {w : World} {base : Nat} {v u : Value} {d m : List Fd} (h : OwnF w base v d) (hn : v ≠ .slice none 0 0) (hb : base ≤ w.heap.size) (hu : FdsAt w u m) (hd : (d.length + m.length) * 32 ≤ 140737488355328) (ty : TypeId) :
    ∃ v' w', (∀ z, (builtin .append #[22, 22] ty z #[v, u]).run Tryd.prog w = .ok (.value v') w') ∧ OwnF w' base v' (d ++ m) ∧ v' ≠ .slice none 0 0 ∧ w.grownBy w' v.ownBlock := by
  obtain ⟨i, hi, hz, h2, h3⟩ := info_fd
  obtain ⟨a, cap, rfl, hc⟩ := hu
  cases a with
  | none =>
    have e : m = [] := by
      rcases hc with h | ⟨g, o, h, _⟩
      · exact h
      · cases h
    subst e
    obtain ⟨g, c, rfl, hcap⟩ := h.blk hn
    refine ⟨_, w, fun z => ?_, by rw [List.append_nil]; exact h, hn, ⟨rfl, rfl, rfl, Nat.le_refl _, fun _ _ _ => rfl⟩⟩
    have hS : Src Tryd.prog i.size 22 (.slice none 0 cap) 0 [] w := Src.ofNil w Tryd.underlying22 cap
    have := run_append_room_src w 22 22 ty 35 i Tryd.underlying22 hi g 0 d.length c (.slice none 0 cap) 0 [] hS hcap (fun j hj => by cases hj) (fun j hj => by cases hj)
    simp only [builtin, Sem.run_bind, Sem.run_pure, List.length_nil, this, Result.andThen_ok]
    rfl
  | some p =>
    have hnews : ∀ j u, (fCells m)[j]? = some u → w.cell? (p.add j) = some u := fun j u hj => by
      have hj2 : j < 2 * m.length := by rw [← fCells_len]; exact (List.getElem?_eq_some_iff.1 hj).1
      rcases hc with h | ⟨g, o, h, hc⟩
      · rw [h] at hj2; simp at hj2
      · injection h with h
        subst h
        rw [Addr.add_lit]
        obtain ⟨c1, c2⟩ := hc (j / 2) (by omega)
        obtain ⟨q1, q2⟩ := fCells_get m (j / 2) (by omega)
        rcases Nat.mod_two_eq_zero_or_one j with e | e
        · have e2 : 2 * (j / 2) = j := by omega
          rw [e2] at q1 c1
          rw [c1, ← q1, hj]
        · have e2 : 2 * (j / 2) + 1 = j := by omega
          rw [e2] at q2
          rw [show o + 2 * (j / 2) + 1 = o + j by omega] at c2
          rw [c2, ← q2, hj]
    obtain ⟨v', w', hr, q1, q2, q3, -⟩ := run_append_own_at (P := Tryd.prog) w base 22 ty 35 i _ 2 32 Tryd.underlying22 hi hz h2 h3 rfl (by decide) v d.length (fCells d) h p m.length cap (fCells m) (by rw [fCells_len]; omega) hnews (fCells_one _) (by unfold maxLen; omega) (by omega) hb
    refine ⟨v', w', fun z => by simp only [builtin, Sem.run_bind, Sem.run_pure, hr, Result.andThen_ok], ?_, fun c => hn (q3.1 c).1, q2⟩
    unfold OwnF
    rw [fCells_app, List.length_append]
    exact q1
/-- A new row without fields. -/
theorem OwnF.new (w : World) (base : Nat) (hb : base ≤ w.heap.size) : OwnF (w.alloc (.cells #[] 35)) base (.slice (some ⟨w.heap.size, 0, none⟩) 0 0) [] :=
  ⟨rfl, .inr ⟨w.heap.size, 0, #[], rfl, hb, by show (w.heap.push _)[w.heap.size]? = _; simp, Nat.le_refl _, Nat.zero_le _, rfl, rfl⟩⟩
/-- A copy of fields. -/
theorem copy_fds (w : World) {u : Value} {m : List Fd} (hu : FdsAt w u m) (hd : m.length * 32 ≤ 140737488351232) (ty : TypeId) :
    ∃ v' w', (∀ z, (builtin .append #[22, 22] ty z #[.slice (some ⟨w.heap.size, 0, none⟩) 0 0, u]).run Tryd.prog (w.alloc (.cells #[] 35)) = .ok (.value v') w') ∧ OwnF w' w.heap.size v' m ∧ v' ≠ .slice none 0 0 ∧ Below w.heap.size w w' := by
  have b : Below w.heap.size w (w.alloc (.cells #[] 35)) := (Below.refl _ _).alloc (Nat.le_refl _) _
  obtain ⟨v', w', h1, h2, h3, h4⟩ := (OwnF.new w w.heap.size (Nat.le_refl _)).cat (by intro c; cases c) (by simp) (hu.keep b) (by simp; omega) ty
  exact ⟨v', w', h1, h2, h3, b.grown h4 b.size fun k hk => by injection hk with hk; exact Nat.le_of_eq hk⟩
/-- A builtin's operation that is guarded, and wanted. -/
theorem obB2Wd {P : Program} (w : World) {ops : Array Oper} {rest : List Oper} {o : Oper} {a : Act} {Q : Exit → Act → World → Prop} (hwant : Region.wanted o (yielded ops a.tmps) = true) (b : Builtin) (x y : Operand) (t t' : TypeId) (ho : o.op = .call { callee := .builtin b, args := #[x, y], argTypes := #[t, t'] }) (v u : Value) (hx : a.eval x = v) (hy : a.eval y = u)
    {v' : Value} {w' : World} (hr : ∀ z, (builtin b #[t, t'] o.type z #[v, u]).run P w = .ok (.value v') w') (h : wpList P ops Q rest (a.put o.dst v') w') : wpList P ops Q (o :: rest) a w := by
  unfold wpList
  rw [if_pos hwant]
  exact .inl (obB2 w b x y t t' ho v u hx hy hr h)
end Go.Proofs.YtojfcflkanohoaaDoor
