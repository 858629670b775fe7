/-
  Frames in a row of one's own, each with its ranges in a block elsewhere. Plain facts; no condition.
-/
import Derived.Test.YtmngpkkpkjnejaaDoorFrAll
import Derived.Test.YtmngpkkpkjnejaaDoorAkRow
namespace Go.Proofs.YtmngpkkpkjnejaaDoor
set_option maxRecDepth 100000
open Go.RowKit Go.Sort

abbrev FX := Fr × ByteArray × Value
def fcell (x : FX) : List Value := [.int .i64 x.1.kind, .int .i64 x.1.id, .int .i64 x.1.off, .bool x.1.fin, .int .i64 x.1.code, .string x.2.1, x.2.2]
def fcells (xs : List FX) : List Value := xs.flatMap fcell
theorem fcell_len (x : FX) : (fcell x).length = 7 := rfl
theorem fcells_len (xs : List FX) : (fcells xs).length = xs.length * 7 := by
  induction xs with
  | nil => rfl
  | cons x xs ih =>
    show (fcell x ++ fcells xs).length = _
    rw [List.length_append, ih, List.length_cons, fcell_len]
    omega
theorem fcells_snoc (xs : List FX) (x : FX) : fcells (xs ++ [x]) = fcells xs ++ fcell x := by simp [fcells, List.flatMap_append]
theorem fcells_get (xs : List FX) : ∀ k x, xs[k]? = some x → ∀ j, j < 7 → (fcells xs)[7 * k + j]? = (fcell x)[j]? := by
  induction xs with
  | nil => intro k x h; simp at h
  | cons y xs ih =>
    intro k x h j hj
    show (fcell y ++ fcells xs)[7 * k + j]? = _
    cases k with
    | zero =>
      simp at h
      subst h
      rw [List.getElem?_append_left (by rw [fcell_len]; omega)]
      congr 1
      omega
    | succ k =>
      rw [List.getElem?_append_right (by rw [fcell_len]; omega), ← ih k x (by simpa using h) j hj, fcell_len]
      congr 1
      omega
/-- What is told of a frame beside its cells: its text, and where its ranges lie. -/
def FG (w : World) (no : Nat → Prop) (x : FX) : Prop := toL x.2.1 = x.1.data ∧ ∃ a cp, x.2.2 = .slice a x.1.rg.length cp ∧ RgAt w (.slice a x.1.rg.length cp) x.1.rg ∧ (x.1.rg ≠ [] → ∀ p, a = some p → ¬ no p.block)
theorem RgAt.lt {w : World} {a : Option Addr} {n cp : Nat} {l : List Rg} (h : RgAt w (.slice a n cp) l) (hl : l ≠ []) : ∃ g o, a = some ⟨g, o, none⟩ ∧ g < w.heap.size := by
  obtain ⟨a', cp', e, hc⟩ := h
  injection e with e1 e2 e3
  subst e1
  rcases hc with h | ⟨g, o, rfl, hc⟩
  · exact absurd h hl
  · exact ⟨g, o, rfl, World.block_lt_of_cell? w _ (hc 0 (List.length_pos_iff.2 hl)).1⟩
theorem RgAt.move {w w' : World} {a : Option Addr} {n cp : Nat} {l : List Rg} (h : RgAt w (.slice a n cp) l) (k : l ≠ [] → ∀ p, a = some p → w'.heap[p.block]? = w.heap[p.block]?) : RgAt w' (.slice a n cp) l := by
  obtain ⟨a', cp', e, hc⟩ := h
  refine ⟨a', cp', e, ?_⟩
  injection e with e1 e2 e3
  subst e1
  rcases hc with h | ⟨g, o, rfl, hc⟩
  · exact .inl h
  · by_cases hl : l = []
    · exact .inl hl
    · have hb := k hl _ rfl
      exact .inr ⟨g, o, rfl, fun j hj => ⟨(World.cell?_of_block (a := ⟨g, o + 2 * j, none⟩) hb).trans (hc j hj).1, (World.cell?_of_block (a := ⟨g, o + 2 * j + 1, none⟩) hb).trans (hc j hj).2⟩⟩
theorem FG.move {w w' : World} {no no' : Nat → Prop} {x : FX} (h : FG w no x) (k : ∀ b, b < w.heap.size → ¬ no b → w'.heap[b]? = w.heap[b]?) (hn : ∀ b, b < w.heap.size → no' b → no b) : FG w' no' x := by
  obtain ⟨h1, a, cp, h2, h3, h4⟩ := h
  refine ⟨h1, a, cp, h2, h3.move fun hl p hp => ?_, fun hl p hp q => ?_⟩
  · obtain ⟨g, o, e, hg⟩ := h3.lt hl
    rw [hp] at e
    injection e with e
    subst e
    exact k _ hg (h4 hl _ hp)
  · obtain ⟨g, o, e, hg⟩ := h3.lt hl
    rw [hp] at e
    injection e with e
    subst e
    exact h4 hl _ hp (hn _ hg q)
/-- A row of frames. -/
def FRow (w : World) (base : Nat) (v : Value) (xs : List FX) (no : Nat → Prop) : Prop := w.ownsRow base 24 7 v xs.length (fcells xs) ∧ ∀ x ∈ xs, FG w no x
theorem FRow.nil (w : World) (base : Nat) (no : Nat → Prop) : FRow w base (.slice none 0 0) [] no := ⟨World.ownsRow_nil _ _ _ _, fun x hx => by cases hx⟩
theorem FRow.at {w : World} {base : Nat} {v : Value} {xs : List FX} {no : Nat → Prop} (h : FRow w base v xs no) : FrsAt w v (xs.map (·.1)) := by
  obtain ⟨h, hg⟩ := h
  rcases h.2 with ⟨rfl, h0⟩ | ⟨g, cap, cur, rfl, hr⟩
  · have e : xs = [] := List.eq_nil_of_length_eq_zero h0
    subst e
    exact ⟨none, 0, rfl, .inl rfl⟩
  · refine ⟨_, cap, by rw [List.length_map], .inr ⟨g, 0, rfl, fun k hk => ?_⟩⟩
    rw [List.length_map] at hk
    have hx : xs[k]? = some xs[k] := List.getElem?_eq_getElem hk
    have e : (xs.map (·.1)).getD k fr0 = xs[k].1 := by simp [List.getD, List.getElem?_eq_getElem hk]
    rw [e]
    obtain ⟨g1, a, cp, g2, g3, -⟩ := hg xs[k] (List.getElem_mem hk)
    have hc : ∀ j, j < 7 → w.cell? ⟨g, 0 + 7 * k + j, none⟩ = (fcell xs[k])[j]? := fun j hj => by
      have := h.cellAt (7 * k + j) (by omega)
      rw [fcells_get xs k _ hx j hj] at this
      rw [show 0 + 7 * k + j = 7 * k + j by omega]
      exact this
    refine ⟨xs[k].2.1, a, cp, g1, g3, hc 0 (by omega), hc 1 (by omega), hc 2 (by omega), hc 3 (by omega), hc 4 (by omega), hc 5 (by omega), ?_⟩
    rw [← g2]
    exact hc 6 (by omega)
theorem info_fr : ∃ i, Tryd.prog.info? 24 = some i ∧ i.zero = some (.agg #[.int .i64 0, .int .i64 0, .int .i64 0, .bool false, .int .i64 0, .string ⟨#[]⟩, .slice none 0 0]) ∧ i.size = 7 ∧ i.bytes = 80 := by
  have h : (Tryd.prog.info? 24).map (fun i => (i.zero, i.size, i.bytes)) = some (some (.agg #[.int .i64 0, .int .i64 0, .int .i64 0, .bool false, .int .i64 0, .string ⟨#[]⟩, .slice none 0 0]), 7, 80) := by kernel_rfl
  obtain ⟨i, hi, e⟩ := Option.map_eq_some_iff.1 h
  injection e with e1 e2
  injection e2 with e2 e3
  exact ⟨i, hi, e1, e2, e3⟩
end Go.Proofs.YtmngpkkpkjnejaaDoor
