/-
  Fields in memory; new ones. No condition.
-/
import Derived.Test.YtojfcflkanohoaaDoorTgRight
import Derived.Test.YtojfcflkanohoaaDoorObDraw
namespace Go.Proofs.YtojfcflkanohoaaDoor
set_option maxRecDepth 100000
open Go.RowKit Go.Sort

abbrev nF : Fd := ([], [])
/-- Fields in memory, as a slice tells them. -/
def FdsAt (w : World) (v : Value) (l : List Fd) : Prop :=
  ∃ a cap, v = .slice a l.length cap ∧ (l = [] ∨ ∃ g o, a = some ⟨g, o, none⟩ ∧ ∀ k, k < l.length → w.cell? ⟨g, o + 2 * k, none⟩ = some (.string (strL (l.getD k nF).1)) ∧ w.cell? ⟨g, o + 2 * k + 1, none⟩ = some (.string (strL (l.getD k nF).2)))
theorem FdsAt.keep {w w' : World} {v : Value} {l : List Fd} (h : FdsAt w v l) (b : Below w.heap.size w w') : FdsAt w' v l := by
  obtain ⟨a, cap, rfl, hc⟩ := h
  refine ⟨a, cap, rfl, ?_⟩
  rcases hc with h | ⟨g, o, rfl, hc⟩
  · exact .inl h
  · refine .inr ⟨g, o, rfl, fun k hk => ?_⟩
    obtain ⟨c1, c2⟩ := hc k hk
    exact ⟨(b.cell (World.block_lt_of_cell? w _ c1)).trans c1, (b.cell (World.block_lt_of_cell? w _ c2)).trans c2⟩
theorem FdsAt.nil (w : World) : FdsAt w (.slice none 0 0) [] := ⟨none, 0, rfl, .inl rfl⟩
theorem FdsAt.slice {w : World} {v : Value} {l : List Fd} (h : FdsAt w v l) : ∃ a c, v = .slice a l.length c := by
  obtain ⟨a, c, e, _⟩ := h
  exact ⟨a, c, e⟩
theorem FdsAt.at {w : World} {a : Option Addr} {n c k : Nat} {l : List Fd} (h : FdsAt w (.slice a n c) l) (hk : k < l.length) : ∃ g o, a = some ⟨g, o, none⟩ ∧ w.cell? ⟨g, o + 2 * k, none⟩ = some (.string (strL (l.getD k nF).1)) ∧ w.cell? ⟨g, o + 2 * k + 1, none⟩ = some (.string (strL (l.getD k nF).2)) := by
  obtain ⟨a', c', e, hc⟩ := h
  injection e with e1 _ _
  subst e1
  rcases hc with rfl | ⟨g, o, e, hc⟩
  · simp at hk
  · exact ⟨g, o, e, hc k hk⟩
theorem at_fds (B o N cap i : Nat) (w : World) (h : i < N) (z : Int) (hz : z = i) (p : Nat) (hp : p = o + 2 * i) :
    (Instr.indexAt 22 (.slice (some ⟨B, o, none⟩) N cap) (.int .i64 z)).run Tryd.prog w = .ok (.pointer (some ⟨B, p, none⟩)) w := by
  subst hz hp
  have e : Tryd.prog.elem 22 = 35 := by kernel_rfl
  rw [run_indexAt_slice (P := Tryd.prog) w 22 ⟨B, o, none⟩ N cap .i64 i (by rw [e]; exact Tryd.underlying22), if_pos (by omega), e]
  have s : (sizeOf 35).run Tryd.prog w = .ok 2 w := Tryd.sizeOf35 w
  rw [s]
  simp [Addr.add_mid, Nat.mul_comm]
def fCells (l : List Fd) : List Value := l.flatMap fun f => [.string (strL f.1), .string (strL f.2)]
theorem fCells_get : ∀ (l : List Fd) (k : Nat), k < l.length → (fCells l)[2 * k]? = some (.string (strL (l.getD k nF).1)) ∧ (fCells l)[2 * k + 1]? = some (.string (strL (l.getD k nF).2))
  | [], k, h => by simp at h
  | f :: l, 0, _ => ⟨rfl, rfl⟩
  | f :: l, k + 1, h => by
    have := fCells_get l k (by simpa using h)
    exact ⟨this.1, this.2⟩
theorem fds_new (w : World) (l : List Fd) (cap : Nat) : FdsAt (w.alloc (.cells (fCells l).toArray 35)) (.slice (some ⟨w.heap.size, 0, none⟩) l.length cap) l := by
  refine ⟨_, _, rfl, .inr ⟨_, _, rfl, fun k hk => ?_⟩⟩
  obtain ⟨c1, c2⟩ := fCells_get l k hk
  rw [World.cell?_alloc_new, World.cell?_alloc_new]
  simp only [Nat.zero_add, List.getElem?_toArray]
  exact ⟨c1, c2⟩
end Go.Proofs.YtojfcflkanohoaaDoor
