/-
  Fields in memory; what the document's own Table, Check, Get and Same answer. No condition.
-/
import Derived.Test.YtphmoieaddjanaaDoorFiRight
import Derived.Test.YtphmoieaddjanaaDoorObDraw
namespace Go.Proofs.YtphmoieaddjanaaDoor
set_option maxRecDepth 100000
open Go.RowKit Go.Sort

abbrev nF : Fd := ([], [])
/-- Fields in memory, as a slice tells them. -/
def FdsAt (w : World) (v : Value) (l : List Fd) : Prop :=
  ∃ a cap, v = .slice a l.length cap ∧ (l = [] ∨ ∃ g o, a = some ⟨g, o, none⟩ ∧ ∀ k, k < l.length → w.cell? ⟨g, o + 2 * k, none⟩ = some (.string (strL (l.getD k nF).1)) ∧ w.cell? ⟨g, o + 2 * k + 1, none⟩ = some (.string (strL (l.getD k nF).2)))
theorem FdsAt.keep {w w' : World} {v : Value} {l : List Fd} (h : FdsAt w v l) (b : Below w.heap.size w w') : FdsAt w' v l := by
  obtain ⟨a, cap, rfl, hc⟩ := h
  refine ⟨a, cap, rfl, ?_⟩
  rcases hc with h | ⟨g, o, rfl, hc⟩
  · exact .inl h
  · refine .inr ⟨g, o, rfl, fun k hk => ?_⟩
    obtain ⟨c1, c2⟩ := hc k hk
    exact ⟨(b.cell (World.block_lt_of_cell? w _ c1)).trans c1, (b.cell (World.block_lt_of_cell? w _ c2)).trans c2⟩
theorem FdsAt.nil (w : World) : FdsAt w (.slice none 0 0) [] := ⟨none, 0, rfl, .inl rfl⟩
theorem FdsAt.slice {w : World} {v : Value} {l : List Fd} (h : FdsAt w v l) : ∃ a c, v = .slice a l.length c := by
  obtain ⟨a, c, e, _⟩ := h
  exact ⟨a, c, e⟩
theorem FdsAt.at {w : World} {a : Option Addr} {n c k : Nat} {l : List Fd} (h : FdsAt w (.slice a n c) l) (hk : k < l.length) : ∃ g o, a = some ⟨g, o, none⟩ ∧ w.cell? ⟨g, o + 2 * k, none⟩ = some (.string (strL (l.getD k nF).1)) ∧ w.cell? ⟨g, o + 2 * k + 1, none⟩ = some (.string (strL (l.getD k nF).2)) := by
  obtain ⟨a', c', e, hc⟩ := h
  injection e with e1 _ _
  subst e1
  rcases hc with rfl | ⟨g, o, e, hc⟩
  · simp at hk
  · exact ⟨g, o, e, hc k hk⟩
theorem at_fds (B o N cap i : Nat) (w : World) (h : i < N) (z : Int) (hz : z = i) (p : Nat) (hp : p = o + 2 * i) :
    (Instr.indexAt 22 (.slice (some ⟨B, o, none⟩) N cap) (.int .i64 z)).run Tryd.prog w = .ok (.pointer (some ⟨B, p, none⟩)) w := by
  subst hz hp
  have e : Tryd.prog.elem 22 = 34 := by kernel_rfl
  rw [run_indexAt_slice (P := Tryd.prog) w 22 ⟨B, o, none⟩ N cap .i64 i (by rw [e]; exact Tryd.underlying22), if_pos (by omega), e]
  have s : (sizeOf 34).run Tryd.prog w = .ok 2 w := Tryd.sizeOf34 w
  rw [s]
  simp [Addr.add_mid, Nat.mul_comm]
def fCells (l : List Fd) : List Value := l.flatMap fun f => [.string (strL f.1), .string (strL f.2)]
theorem fCells_get : ∀ (l : List Fd) (k : Nat), k < l.length → (fCells l)[2 * k]? = some (.string (strL (l.getD k nF).1)) ∧ (fCells l)[2 * k + 1]? = some (.string (strL (l.getD k nF).2))
  | [], k, h => by simp at h
  | f :: l, 0, _ => ⟨rfl, rfl⟩
  | f :: l, k + 1, h => by
    have := fCells_get l k (by simpa using h)
    exact ⟨this.1, this.2⟩
theorem fds_new (w : World) (l : List Fd) (cap : Nat) : FdsAt (w.alloc (.cells (fCells l).toArray 34)) (.slice (some ⟨w.heap.size, 0, none⟩) l.length cap) l := by
  refine ⟨_, _, rfl, .inr ⟨_, _, rfl, fun k hk => ?_⟩⟩
  obtain ⟨c1, c2⟩ := fCells_get l k hk
  rw [World.cell?_alloc_new, World.cell?_alloc_new]
  simp only [Nat.zero_add, List.getElem?_toArray]
  exact ⟨c1, c2⟩
theorem tab_cells : (fCells tab).toArray = #[.string ⟨#[58, 97, 117, 116, 104, 111, 114, 105, 116, 121]⟩, .string ⟨#[]⟩, .string ⟨#[58, 112, 97, 116, 104]⟩, .string ⟨#[47]⟩, .string ⟨#[58, 109, 101, 116, 104, 111, 100]⟩, .string ⟨#[67, 79, 78, 78, 69, 67, 84]⟩, .string ⟨#[58, 109, 101, 116, 104, 111, 100]⟩, .string ⟨#[71, 69, 84]⟩, .string ⟨#[58, 115, 99, 104, 101, 109, 101]⟩, .string ⟨#[104, 116, 116, 112, 115]⟩, .string ⟨#[58, 115, 99, 104, 101, 109, 101]⟩, .string ⟨#[104, 116, 116, 112]⟩, .string ⟨#[58, 112, 114, 111, 116, 111, 99, 111, 108]⟩, .string ⟨#[99, 111, 110, 110, 101, 99, 116, 45, 117, 100, 112]⟩, .string ⟨#[58, 112, 114, 111, 116, 111, 99, 111, 108]⟩, .string ⟨#[99, 111, 110, 110, 101, 99, 116, 45, 105, 112]⟩, .string ⟨#[58, 115, 116, 97, 116, 117, 115]⟩, .string ⟨#[50, 48, 48]⟩, .string ⟨#[58, 115, 116, 97, 116, 117, 115]⟩, .string ⟨#[52, 48, 48]⟩, .string ⟨#[58, 115, 116, 97, 116, 117, 115]⟩, .string ⟨#[52, 48, 51]⟩, .string ⟨#[58, 115, 116, 97, 116, 117, 115]⟩, .string ⟨#[52, 48, 52]⟩, .string ⟨#[58, 115, 116, 97, 116, 117, 115]⟩, .string ⟨#[52, 50, 57]⟩, .string ⟨#[58, 115, 116, 97, 116, 117, 115]⟩, .string ⟨#[53, 48, 48]⟩, .string ⟨#[58, 115, 116, 97, 116, 117, 115]⟩, .string ⟨#[53, 48, 51]⟩, .string ⟨#[99, 97, 112, 115, 117, 108, 101, 45, 112, 114, 111, 116, 111, 99, 111, 108]⟩, .string ⟨#[63, 49]⟩, .string ⟨#[99, 111, 110, 116, 101, 110, 116, 45, 116, 121, 112, 101]⟩, .string ⟨#[116, 101, 120, 116, 47, 112, 108, 97, 105, 110]⟩, .string ⟨#[112, 114, 111, 120, 121, 45, 115, 116, 97, 116, 117, 115]⟩, .string ⟨#[]⟩, .string ⟨#[117, 115, 101, 114, 45, 97, 103, 101, 110, 116]⟩, .string ⟨#[]⟩, .string ⟨#[97, 99, 99, 101, 112, 116]⟩, .string ⟨#[42, 47, 42]⟩] := by kernel_rfl
set_option maxHeartbeats 4000000 in
theorem rtable_ok (w : World) : Calls Tryd.prog 18 #[] w fun e w' => ∃ v, e = .returned v ∧ FdsAt w' v tab ∧ Below w.heap.size w w' := by
  have F := fds_new w tab 20
  rw [tab_cells, tab_len] at F
  replace F := Lib.hid F
  have BA : Hid (Below w.heap.size w (w.alloc (.cells #[.string ⟨#[58, 97, 117, 116, 104, 111, 114, 105, 116, 121]⟩, .string ⟨#[]⟩, .string ⟨#[58, 112, 97, 116, 104]⟩, .string ⟨#[47]⟩, .string ⟨#[58, 109, 101, 116, 104, 111, 100]⟩, .string ⟨#[67, 79, 78, 78, 69, 67, 84]⟩, .string ⟨#[58, 109, 101, 116, 104, 111, 100]⟩, .string ⟨#[71, 69, 84]⟩, .string ⟨#[58, 115, 99, 104, 101, 109, 101]⟩, .string ⟨#[104, 116, 116, 112, 115]⟩, .string ⟨#[58, 115, 99, 104, 101, 109, 101]⟩, .string ⟨#[104, 116, 116, 112]⟩, .string ⟨#[58, 112, 114, 111, 116, 111, 99, 111, 108]⟩, .string ⟨#[99, 111, 110, 110, 101, 99, 116, 45, 117, 100, 112]⟩, .string ⟨#[58, 112, 114, 111, 116, 111, 99, 111, 108]⟩, .string ⟨#[99, 111, 110, 110, 101, 99, 116, 45, 105, 112]⟩, .string ⟨#[58, 115, 116, 97, 116, 117, 115]⟩, .string ⟨#[50, 48, 48]⟩, .string ⟨#[58, 115, 116, 97, 116, 117, 115]⟩, .string ⟨#[52, 48, 48]⟩, .string ⟨#[58, 115, 116, 97, 116, 117, 115]⟩, .string ⟨#[52, 48, 51]⟩, .string ⟨#[58, 115, 116, 97, 116, 117, 115]⟩, .string ⟨#[52, 48, 52]⟩, .string ⟨#[58, 115, 116, 97, 116, 117, 115]⟩, .string ⟨#[52, 50, 57]⟩, .string ⟨#[58, 115, 116, 97, 116, 117, 115]⟩, .string ⟨#[53, 48, 48]⟩, .string ⟨#[58, 115, 116, 97, 116, 117, 115]⟩, .string ⟨#[53, 48, 51]⟩, .string ⟨#[99, 97, 112, 115, 117, 108, 101, 45, 112, 114, 111, 116, 111, 99, 111, 108]⟩, .string ⟨#[63, 49]⟩, .string ⟨#[99, 111, 110, 116, 101, 110, 116, 45, 116, 121, 112, 101]⟩, .string ⟨#[116, 101, 120, 116, 47, 112, 108, 97, 105, 110]⟩, .string ⟨#[112, 114, 111, 120, 121, 45, 115, 116, 97, 116, 117, 115]⟩, .string ⟨#[]⟩, .string ⟨#[117, 115, 101, 114, 45, 97, 103, 101, 110, 116]⟩, .string ⟨#[]⟩, .string ⟨#[97, 99, 99, 101, 112, 116]⟩, .string ⟨#[42, 47, 42]⟩] 34))) := (Below.refl _ _).alloc (Nat.le_refl _) _
  go_enter Tryd.func18, Tryd.ntmps18
  go_wp2
  go_ret
  exact ⟨_, rfl, F.out, BA.out⟩
end Go.Proofs.YtphmoieaddjanaaDoor
