/-
  What the laws of stage 15 ask of the program's calls: a reader, told by the pieces that it was fed; Frame; Pairs. No condition.
-/
import Derived.Test.YtnngdlleicjegaaDoorH3Pass
import Derived.Test.YtnngdlleicjegaaDoorH3Frm
namespace Go.Proofs.YtnngdlleicjegaaDoor
set_option maxRecDepth 100000
open Go.RowKit

/-- Events in memory. -/
def EvAt (w : World) (v : Value) (l : List Ev) : Prop :=
  ∃ a cap, v = .slice a l.length cap ∧ (l = [] ∨ ∃ g o, a = some ⟨g, o, none⟩ ∧ ∀ k, k < l.length → w.cell? ⟨g, o + 2 * k, none⟩ = some (.int .i64 ((l.getD k (0, [])).1 : Int)) ∧ w.cell? ⟨g, o + 2 * k + 1, none⟩ = some (.string (strL (l.getD k (0, [])).2)))
theorem EvAt.of {w w' : World} {v : Value} {l : List Ev} (h : EvAt w v l) (b : ∀ k, v.ownBlock = some k → w'.heap[k]? = w.heap[k]?) : EvAt w' v l := by
  obtain ⟨a, cap, rfl, h⟩ := h
  refine ⟨a, cap, rfl, ?_⟩
  rcases h with h | ⟨g, o, rfl, h⟩
  · exact .inl h
  · refine .inr ⟨g, o, rfl, fun k hk => ?_⟩
    have e := b g rfl
    exact ⟨(World.cell?_of_block (w := w) (a := ⟨g, o + 2 * k, none⟩) e).trans (h k hk).1, (World.cell?_of_block (w := w) (a := ⟨g, o + 2 * k + 1, none⟩) e).trans (h k hk).2⟩
/-- What a reader is, that was fed these pieces. -/
def fed (c : Bool) (ts : List L) : Hr := ((Hr.new c).feeds ts).1
theorem feeds_snoc : ∀ (ts : List L) (r : Hr) (t : L), r.feeds (ts ++ [t]) = (((r.feeds ts).1.feed t).1, (r.feeds ts).2 ++ ((r.feeds ts).1.feed t).2)
  | [], r, t => by simp [Hr.feeds]
  | a :: ts, r, t => by
    show (((r.feed a).1.feeds (ts ++ [t])).1, (r.feed a).2 ++ ((r.feed a).1.feeds (ts ++ [t])).2) = _
    rw [feeds_snoc ts]
    simp [Hr.feeds]
theorem fed_snoc (c : Bool) (ts : List L) (t : L) : fed c (ts ++ [t]) = ((fed c ts).feed t).1 := by
  unfold fed
  rw [feeds_snoc]
/-- How many bytes in all. -/
def bytesL (ts : List L) : Nat := ts.flatten.length
/-- All that the laws ask of the program. T: its tables; PR F w v c ts: the reader v in the blocks F, that was fed these pieces. -/
structure H3Face (T : World → Prop) (PR : (Nat → Prop) → World → Value → Bool → List L → Prop) : Prop where
  keep : ∀ {w w' : World}, T w → Below w.heap.size w w' → T w'
  still : ∀ {F : Nat → Prop} {w w' : World} {v : Value} {c : Bool} {ts : List L}, T w → PR F w v c ts → Kept F w w' → T w'
  of : ∀ {F : Nat → Prop} {w w' : World} {v : Value} {c : Bool} {ts : List L}, PR F w v c ts → (∀ k, F k → w'.heap[k]? = w.heap[k]?) → PR F w' v c ts
  lt : ∀ {F : Nat → Prop} {w : World} {v : Value} {c : Bool} {ts : List L}, PR F w v c ts → ∀ k, F k → k < w.heap.size
  new : ∀ (c : Bool) (w : World), T w → Calls Tryd.prog 9 #[.bool c] w fun e w' => ∃ (a : Addr) (F : Nat → Prop), e = .returned (.pointer (some a)) ∧ PR F w' (.pointer (some a)) c [] ∧ (∀ k, F k → w.heap.size ≤ k) ∧ Below w.heap.size w w'
  feed : ∀ {F : Nat → Prop} {w : World} {v : Value} {c : Bool} {ts : List L} (t : ByteArray), T w → PR F w v c ts → bytesL ts + t.size < 1000000 → Calls Tryd.prog 10 #[v, .string t] w fun e w' => ∃ (F' : Nat → Prop) (ev : Value), e = .returned (.tuple #[ev, .int .i64 ((fed c ts).feed (toL t)).1.code]) ∧ PR F' w' v c (ts ++ [toL t]) ∧ (∀ k, F' k → F k ∨ w.heap.size ≤ k) ∧ Kept F w w' ∧ EvAt w' ev ((fed c ts).feed (toL t)).2 ∧ (∀ k, ev.ownBlock = some k → w.heap.size ≤ k ∧ k < w'.heap.size ∧ ¬ F' k)
  fin : ∀ {F : Nat → Prop} {w : World} {v : Value} {c : Bool} {ts : List L}, T w → PR F w v c ts → Calls Tryd.prog 13 #[v] w fun e w' => ∃ F' : Nat → Prop, e = .returned (.int .i64 (fed c ts).fin) ∧ PR F' w' v c ts ∧ (∀ k, F' k → F k ∨ w.heap.size ≤ k) ∧ Kept F w w'
  frame : ∀ (k : Int) (d : ByteArray) (w : World), T w → d.size ≤ 4611686018427387000 → Calls Tryd.prog 17 #[.int .i64 k, .string d] w fun e w' => e = .returned (.string (strL (frI k (toL d)))) ∧ Below w.heap.size w w'
  pairs : ∀ (s : ByteArray) (w : World), T w → s.size ≤ 4611686018427387903 → Calls Tryd.prog 15 #[.string s] w fun e w' => PrA s e w' ∧ Below w.heap.size w w'
end Go.Proofs.YtnngdlleicjegaaDoor
