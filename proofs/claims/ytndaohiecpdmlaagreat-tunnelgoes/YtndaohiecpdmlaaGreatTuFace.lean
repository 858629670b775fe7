/-
  All that the laws ask of the program's tunnels: what goes up and down of any tunnel. No condition.
-/
import Derived.Test.YtndaohiecpdmlaaGreatTuIts
import Derived.Test.YtndaohiecpdmlaaGreatTuHop
namespace Go.Proofs.YtndaohiecpdmlaaGreat
set_option maxRecDepth 100000
open Go.RowKit

structure TuFace : Prop where
  up : ∀ (T : Tu) (v : Value) (w : World), RusAt w v T.rules → TuB T → ∀ s : ByteArray, s.size ≤ 140737488351232 →
    Calls Tryz.prog 5 #[tuV T v, .string s] w fun e w' => e = .returned (.tuple #[emV (upM T s), .int .i64 (upE T s)]) ∧ Below w.heap.size w w'
  dn : ∀ (T : Tu) (v : Value) (w : World), RusAt w v T.rules → TuB T → ∀ (src fr : Int) (s : ByteArray), s.size ≤ 140737488351232 →
    Calls Tryz.prog 7 #[tuV T v, .int .u32 src, .int .i64 fr, .string s] w fun e w' => e = .returned (.tuple #[.string (dnS T src fr s), .int .i64 (dnE T src fr s)]) ∧ Below w.heap.size w w'
/-- A tunnel in a block of its own, its rules where they lie. -/
structure TL (w : World) (A : Nat) (T : Tu) (v : Value) : Prop where
  c : Lies w A [.bool T.ip, .int .u32 T.addr, .int .i64 T.tp, .int .u32 T.own, .int .i64 T.port, v]
  r : RusAt w v T.rules
theorem TL.lt {w : World} {A : Nat} {T : Tu} {v : Value} (h : TL w A T v) : A < w.heap.size := h.c.lt (by show 0 < 6; decide)
theorem TL.keep {w w' : World} {A : Nat} {T : Tu} {v : Value} (h : TL w A T v) (b : Below w.heap.size w w') : TL w' A T v := ⟨h.c.keep (by show 0 < 6; decide) b, h.r.keep b⟩
theorem TL.new {w : World} {T : Tu} {v : Value} (h : RusAt w v T.rules) (t : TypeId) : TL (w.alloc (.cells #[.bool T.ip, .int .u32 T.addr, .int .i64 T.tp, .int .u32 T.own, .int .i64 T.port, v] t)) w.heap.size T v ∧ Below w.heap.size w (w.alloc (.cells #[.bool T.ip, .int .u32 T.addr, .int .i64 T.tp, .int .u32 T.own, .int .i64 T.port, v] t)) :=
  ⟨⟨Lies.new w [.bool T.ip, .int .u32 T.addr, .int .i64 T.tp, .int .u32 T.own, .int .i64 T.port, v] t, h.keep ((Below.refl _ _).alloc (Nat.le_refl _) _)⟩, (Below.refl _ _).alloc (Nat.le_refl _) _⟩
theorem RusAt.form {w : World} {v : Value} {l : List Ru} (h : RusAt w v l) : ∃ a n c, v = .slice a n c := by obtain ⟨a, c, e, -, -⟩ := h; exact ⟨a, _, c, e⟩
theorem RusAt.low {w : World} {v : Value} {l : List Ru} (h : RusAt w v l) : 0 < l.length → ∀ g o n c, v = .slice (some ⟨g, o, none⟩) n c → g < w.heap.size := fun hl g o n c e => by
  obtain ⟨a', c', e', -, hr⟩ := h
  rw [e'] at e
  injection e with e1 e2 e3
  obtain ⟨g1, o1, h1, h2, -⟩ := hr 0 hl
  rw [e1] at h1
  injection h1 with h1
  injection h1 with h1 h3
  rw [h1]
  exact h2
/-- A tunnel stays where another block was written. -/
theorem TL.kept {w w' : World} {A G : Nat} {T : Tu} {v : Value} (h : TL w A T v) (k : Kept (fun k => k = G) w w') (hA : A ≠ G) (hl : 0 < T.rules.length → ∀ g o n c, v = .slice (some ⟨g, o, none⟩) n c → g < G) : TL w' A T v :=
  ⟨h.c.of_block (k.block A h.lt hA), h.r.kept k fun q g o n c e => by have := hl q g o n c e; omega⟩
end Go.Proofs.YtndaohiecpdmlaaGreat
