/-
  What the program's side of layer 11 leans on: bytes of texts, places that are laid, rows of bytes. No condition.
-/
import Derived.Test.YtdmoaeegjjenmaaInMath
import Derived.Test.YtdmoaeegjjenmaaObCells
import Derived.Test.YtdmoaeegjjenmaaObMapY
import Derived.Test.YtdmoaeegjjenmaaObDraw
import Derived.Deep.LoopGhost
import Derived.Lib.QuietBelow
import Derived.BigQuiet
import Derived.RegionTactic
import Derived.Laws.OwnMore
import Derived.OwnWalk
import Derived.Deep.Onto
import Derived.Maps.AppendAt
import Derived.Lib.ConvBytes
namespace Go.Proofs.Ytdmoaeegjjenmaa.ib
set_option maxRecDepth 100000
open Go.RowKit Go.Sort

abbrev In64 (n : Int) : Prop := -9223372036854775808 ≤ n ∧ n ≤ 9223372036854775807
abbrev ptr (B : Nat) : Value := .pointer (some ⟨B, 0, none⟩)
theorem at_str (s : ByteArray) (i : Nat) (w : World) (h : i < s.size) (z : Int) (hz : z = i) :
    (Instr.index 9 (.string s) (.int .i64 z)).run Try.prog w = .ok (.int .u8 (bt s i)) w := by
  subst hz
  rw [run_index_string (P := Try.prog) w 9 s .i64 i Try.underlying9]
  have h1 : (i : Int) < s.size := by omega
  have hx := bt_eq s i h
  simp [h1, hx]
theorem lay_zero (d : Bx) (off : Int) (f : Nat → Int) (x : Int) : lay d off f 0 x = d.got x := by
  unfold lay
  rw [if_neg (by omega)]
/-- The place of the next byte. -/
theorem lay_at (d : Bx) (off : Int) (f : Nat → Int) (k : Nat) : lay d off f k (off + k) = d.got (off + k) := by
  unfold lay
  rw [if_neg (by omega)]
theorem lay_skip (d : Bx) (off : Int) (f : Nat → Int) (k : Nat) (h : ¬ (d.rd ≤ off + k ∧ d.got (off + k) = none)) (x : Int) : lay d off f (k + 1) x = lay d off f k x := by
  by_cases e : x = off + k
  · subst e
    unfold lay
    rw [if_neg (fun q => h ⟨q.1, q.2.2.2⟩), if_neg (fun q => h ⟨q.1, q.2.2.2⟩)]
  · unfold lay
    have q : (d.rd ≤ x ∧ off ≤ x ∧ x < off + ((k + 1 : Nat) : Int) ∧ d.got x = none) ↔ (d.rd ≤ x ∧ off ≤ x ∧ x < off + (k : Int) ∧ d.got x = none) := ⟨fun a => ⟨a.1, a.2.1, by omega, a.2.2.2⟩, fun a => ⟨a.1, a.2.1, by omega, a.2.2.2⟩⟩
    simp only [q]
theorem lay_set (d : Bx) (off : Int) (f : Nat → Int) (k : Nat) (h1 : d.rd ≤ off + k) (h2 : d.got (off + k) = none) (x : Int) : lay d off f (k + 1) x = if x = off + k then some (f k) else lay d off f k x := by
  by_cases e : x = off + k
  · subst e
    rw [if_pos rfl]
    unfold lay
    rw [if_pos ⟨h1, by omega, by omega, h2⟩]
    congr 2
    omega
  · rw [if_neg e]
    unfold lay
    have q : (d.rd ≤ x ∧ off ≤ x ∧ x < off + ((k + 1 : Nat) : Int) ∧ d.got x = none) ↔ (d.rd ≤ x ∧ off ≤ x ∧ x < off + (k : Int) ∧ d.got x = none) := ⟨fun a => ⟨a.1, a.2.1, by omega, a.2.2.2⟩, fun a => ⟨a.1, a.2.1, by omega, a.2.2.2⟩⟩
    simp only [q]
def n8 (xs : List Int) : List Value := xs.map (Value.int .u8)
theorem n8_snoc (xs : List Int) (x : Int) : n8 (xs ++ [x]) = n8 xs ++ [.int .u8 x] := by simp [n8]
theorem info_u8 : ∃ i, Try.prog.info? 5 = some i ∧ i.zero = some (.int .u8 0) ∧ i.size = 1 ∧ i.bytes = 1 := by
  have h : (Try.prog.info? 5).map (fun i => (i.zero, i.size, i.bytes)) = some (some (.int .u8 0), 1, 1) := by kernel_rfl
  obtain ⟨i, hi, e⟩ := Option.map_eq_some_iff.1 h
  injection e with e1 e2
  injection e2 with e2 e3
  exact ⟨i, hi, e1, e2, e3⟩
theorem row_keep {w w' : World} {base size n : Nat} {t : TypeId} {v : Value} {xs : List Value} (h : w.ownsRow base t size v n xs) (k : ∀ b, v.ownBlock = some b → w'.heap[b]? = w.heap[b]?) : w'.ownsRow base t size v n xs := by
  refine ⟨h.1, ?_⟩
  rcases h.2 with q | ⟨g, cap, cur, e, q, r, s⟩
  · exact .inl q
  · refine .inr ⟨g, cap, cur, e, q, ?_, s⟩
    rw [k g (by rw [e]; rfl)]
    exact r
theorem own_slice {w : World} {base size n : Nat} {t : TypeId} {v : Value} {xs : List Value} (h : w.ownsRow base t size v n xs) : ∃ a c, v = .slice a n c := by
  rcases h.2 with ⟨rfl, rfl⟩ | ⟨g, cap, cur, rfl, _⟩
  · exact ⟨_, _, rfl⟩
  · exact ⟨_, _, rfl⟩
theorem conv_nil (w : World) : (convert 59 9 (.slice none 0 0)).run Try.prog w = .ok (.string (strOfNums [])) w := by kernel_rfl
theorem conv8 {w : World} {base : Nat} {v : Value} {xs : List Int} (h : w.ownsRow base 5 1 v xs.length (n8 xs)) : (convert 59 9 v).run Try.prog w = .ok (.string (strOfNums xs)) w := by
  rcases h.2 with ⟨rfl, h0⟩ | ⟨g, cap, cur, rfl, hr⟩
  · have e : xs = [] := List.eq_nil_of_length_eq_zero h0
    subst e
    exact conv_nil w
  · refine run_convert_bytes_arg (P := Try.prog) w 59 5 Try.underlying59 Try.underlying5 g 0 xs.length cap xs rfl (fun i hi => ?_) 9 Try.underlying9
    have := h.cellAt i (by omega)
    rw [Nat.zero_add, this]
    simp [n8, List.getD, List.getElem?_eq_getElem hi]
end Go.Proofs.Ytdmoaeegjjenmaa.ib
