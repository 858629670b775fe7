/-
  One reader, and two, beside blocks that a law holds itself: what each call leaves of them. It leans on what the laws ask of the program's calls (H3Face). No other condition.
-/
import Derived.Test.YtnngdlleicjegaaDoorH3Rd
namespace Go.Proofs.YtnngdlleicjegaaDoor
set_option maxRecDepth 100000
open Go.RowKit

section
variable {T : World → Prop} {PR : (Nat → Prop) → World → Value → Bool → List L → Prop}
/-- One reader, made after the world w0, beside the blocks X. -/
def R1 (T : World → Prop) (PR : (Nat → Prop) → World → Value → Bool → List L → Prop) (w0 w : World) (v : Value) (c : Bool) (ts : List L) (X : Nat → Prop) : Prop :=
  ∃ F : Nat → Prop, PR F w v c ts ∧ (∀ k, F k → w0.heap.size ≤ k) ∧ Below w0.heap.size w0 w ∧ T w ∧ (∀ k, X k → k < w.heap.size ∧ ¬ F k)
theorem R1.below {w0 w : World} {v : Value} {c : Bool} {ts : List L} {X : Nat → Prop} (h : R1 T PR w0 w v c ts X) : Below w0.heap.size w0 w := by
  obtain ⟨_, _, _, h, _⟩ := h; exact h
theorem r1_new (f : H3Face T PR) (c : Bool) (w0 w : World) (b : Below w0.heap.size w0 w) (t : T w) :
    Calls Tryd.prog 9 #[.bool c] w fun e w' => ∃ a : Addr, e = .returned (.pointer (some a)) ∧ R1 T PR w0 w' (.pointer (some a)) c [] (fun _ => False) := by
  refine (f.new c w t).mono ?_
  rintro e w' ⟨a, F, rfl, h, hF, b'⟩
  exact ⟨a, rfl, F, h, fun k hk => Nat.le_trans b.size (hF k hk), b.trans (b'.mono b.size), f.keep t b', fun _ c => c.elim⟩
theorem r1_feed (f : H3Face T PR) {w0 w : World} {v : Value} {c : Bool} {ts : List L} {X : Nat → Prop} (h : R1 T PR w0 w v c ts X) (t : ByteArray) (hz : bytesL ts + t.size < 1000000) :
    Calls Tryd.prog 10 #[v, .string t] w fun e w' => ∃ ev : Value, e = .returned (.tuple #[ev, .int .i64 ((fed c ts).feed (toL t)).1.code]) ∧ R1 T PR w0 w' v c (ts ++ [toL t]) (fun k => X k ∨ ev.ownBlock = some k) ∧ EvAt w' ev ((fed c ts).feed (toL t)).2 ∧ (∀ k, X k → w'.heap[k]? = w.heap[k]?) := by
  obtain ⟨F, h, hF, b0, tw, hX⟩ := h
  refine (f.feed t tw h hz).mono ?_
  rintro e w' ⟨F', ev, rfl, h', hF', k', v', o'⟩
  refine ⟨ev, rfl, ⟨F', h', fun k hk => ?_, b0.trans (k'.below b0.size hF), f.still tw h k', fun k hk => ?_⟩, v', fun k hk => k'.block k (hX k hk).1 (hX k hk).2⟩
  · rcases hF' k hk with q | q
    · exact hF k q
    · exact Nat.le_trans b0.size q
  · rcases hk with hk | hk
    · have := hX k hk
      refine ⟨Nat.lt_of_lt_of_le this.1 k'.size, fun c => ?_⟩
      rcases hF' k c with q | q
      · exact this.2 q
      · omega
    · exact ⟨(o' k hk).2.1, (o' k hk).2.2⟩
theorem r1_fin (f : H3Face T PR) {w0 w : World} {v : Value} {c : Bool} {ts : List L} {X : Nat → Prop} (h : R1 T PR w0 w v c ts X) :
    Calls Tryd.prog 13 #[v] w fun e w' => e = .returned (.int .i64 (fed c ts).fin) ∧ R1 T PR w0 w' v c ts X ∧ (∀ k, X k → w'.heap[k]? = w.heap[k]?) := by
  obtain ⟨F, h, hF, b0, tw, hX⟩ := h
  refine (f.fin tw h).mono ?_
  rintro e w' ⟨F', rfl, h', hF', k'⟩
  refine ⟨rfl, ⟨F', h', fun k hk => ?_, b0.trans (k'.below b0.size hF), f.still tw h k', fun k hk => ?_⟩, fun k hk => k'.block k (hX k hk).1 (hX k hk).2⟩
  · rcases hF' k hk with q | q
    · exact hF k q
    · exact Nat.le_trans b0.size q
  · have := hX k hk
    refine ⟨Nat.lt_of_lt_of_le this.1 k'.size, fun c => ?_⟩
    rcases hF' k c with q | q
    · exact this.2 q
    · omega
/-- Two readers, made after the world w0, beside the blocks X. -/
def R2 (T : World → Prop) (PR : (Nat → Prop) → World → Value → Bool → List L → Prop) (w0 w : World) (v1 : Value) (c1 : Bool) (t1 : List L) (v2 : Value) (c2 : Bool) (t2 : List L) (X : Nat → Prop) : Prop :=
  ∃ F G : Nat → Prop, PR F w v1 c1 t1 ∧ PR G w v2 c2 t2 ∧ (∀ k, F k → w0.heap.size ≤ k) ∧ (∀ k, G k → w0.heap.size ≤ k) ∧ (∀ k, F k → ¬ G k) ∧ Below w0.heap.size w0 w ∧ T w ∧ (∀ k, X k → k < w.heap.size ∧ ¬ F k ∧ ¬ G k)
section
variable {w0 w : World} {v1 v2 : Value} {c1 c2 : Bool} {t1 t2 : List L} {X : Nat → Prop}
theorem R2.swap (h : R2 T PR w0 w v1 c1 t1 v2 c2 t2 X) : R2 T PR w0 w v2 c2 t2 v1 c1 t1 X := by
  obtain ⟨F, G, a, b, c, d, e, g, t, x⟩ := h
  exact ⟨G, F, b, a, d, c, fun k h1 h2 => e k h2 h1, g, t, fun k hk => ⟨(x k hk).1, (x k hk).2.2, (x k hk).2.1⟩⟩
theorem R2.below (h : R2 T PR w0 w v1 c1 t1 v2 c2 t2 X) : Below w0.heap.size w0 w := by
  obtain ⟨F, G, a, b, c, d, e, g, t, x⟩ := h; exact g
theorem R2.tab (h : R2 T PR w0 w v1 c1 t1 v2 c2 t2 X) : T w := by
  obtain ⟨F, G, a, b, c, d, e, g, t, x⟩ := h; exact t
theorem R2.keep (f : H3Face T PR) (h : R2 T PR w0 w v1 c1 t1 v2 c2 t2 X) {w' : World} (b : Below w.heap.size w w') : R2 T PR w0 w' v1 c1 t1 v2 c2 t2 X := by
  obtain ⟨F, G, a, b1, c, d, e, g, t, x⟩ := h
  exact ⟨F, G, f.of a fun k hk => b.block k (f.lt a k hk), f.of b1 fun k hk => b.block k (f.lt b1 k hk), c, d, e, g.trans (b.mono g.size), f.keep t b, fun k hk => ⟨Nat.lt_of_lt_of_le (x k hk).1 b.size, (x k hk).2⟩⟩
/-- Blocks that the law writes itself: those of X, and new ones. -/
theorem R2.wrote (f : H3Face T PR) (h : R2 T PR w0 w v1 c1 t1 v2 c2 t2 X) {w' : World} (t0 : T w0) (hX : ∀ k, X k → w0.heap.size ≤ k) (b : Kept X w w') {Y : Nat → Prop} (hY : ∀ k, Y k → X k ∨ (w.heap.size ≤ k ∧ k < w'.heap.size)) : R2 T PR w0 w' v1 c1 t1 v2 c2 t2 Y := by
  obtain ⟨F, G, a, b1, c, d, e, g, t, x⟩ := h
  have sF : ∀ k, F k → w'.heap[k]? = w.heap[k]? := fun k hk => b.block k (f.lt a k hk) fun q => (x k q).2.1 hk
  have sG : ∀ k, G k → w'.heap[k]? = w.heap[k]? := fun k hk => b.block k (f.lt b1 k hk) fun q => (x k q).2.2 hk
  refine ⟨F, G, f.of a sF, f.of b1 sG, c, d, e, g.trans (b.below g.size hX), f.keep t0 (g.trans (b.below g.size hX)), fun k hk => ?_⟩
  rcases hY k hk with q | ⟨q1, q2⟩
  · exact ⟨Nat.lt_of_lt_of_le (x k q).1 b.size, (x k q).2⟩
  · exact ⟨q2, fun q => by have := f.lt a k q; omega, fun q => by have := f.lt b1 k q; omega⟩
theorem r2_feed (f : H3Face T PR) (h : R2 T PR w0 w v1 c1 t1 v2 c2 t2 X) (t : ByteArray) (hz : bytesL t1 + t.size < 1000000) :
    Calls Tryd.prog 10 #[v1, .string t] w fun e w' => ∃ ev : Value, e = .returned (.tuple #[ev, .int .i64 ((fed c1 t1).feed (toL t)).1.code]) ∧ R2 T PR w0 w' v1 c1 (t1 ++ [toL t]) v2 c2 t2 (fun k => X k ∨ ev.ownBlock = some k) ∧ EvAt w' ev ((fed c1 t1).feed (toL t)).2 ∧ (∀ k, X k → w'.heap[k]? = w.heap[k]?) ∧ (∀ k, ev.ownBlock = some k → w.heap.size ≤ k) := by
  obtain ⟨F, G, h, hG, hF, hG0, ne, b0, tw, hX⟩ := h
  refine (f.feed t tw h hz).mono ?_
  rintro e w' ⟨F', ev, rfl, h', hF', k', v', o'⟩
  refine ⟨ev, rfl, ⟨F', G, h', f.of hG fun k hk => k'.block k (f.lt hG k hk) fun c => ne k c hk, fun k hk => ?_, hG0, fun k hk c => ?_, b0.trans (k'.below b0.size hF), f.still tw h k', fun k hk => ?_⟩, v', fun k hk => k'.block k (hX k hk).1 (hX k hk).2.1, fun k hk => (o' k hk).1⟩
  · rcases hF' k hk with q | q
    · exact hF k q
    · exact Nat.le_trans b0.size q
  · rcases hF' k hk with q | q
    · exact ne k q c
    · have := f.lt hG k c
      omega
  · rcases hk with hk | hk
    · have := hX k hk
      refine ⟨Nat.lt_of_lt_of_le this.1 k'.size, fun c => ?_, this.2.2⟩
      rcases hF' k c with q | q
      · exact this.2.1 q
      · omega
    · refine ⟨(o' k hk).2.1, (o' k hk).2.2, fun c => ?_⟩
      have := f.lt hG k c
      have := (o' k hk).1
      omega
theorem r2_fin (f : H3Face T PR) (h : R2 T PR w0 w v1 c1 t1 v2 c2 t2 X) :
    Calls Tryd.prog 13 #[v1] w fun e w' => e = .returned (.int .i64 (fed c1 t1).fin) ∧ R2 T PR w0 w' v1 c1 t1 v2 c2 t2 X ∧ (∀ k, X k → w'.heap[k]? = w.heap[k]?) := by
  obtain ⟨F, G, h, hG, hF, hG0, ne, b0, tw, hX⟩ := h
  refine (f.fin tw h).mono ?_
  rintro e w' ⟨F', rfl, h', hF', k'⟩
  refine ⟨rfl, ⟨F', G, h', f.of hG fun k hk => k'.block k (f.lt hG k hk) fun c => ne k c hk, fun k hk => ?_, hG0, fun k hk c => ?_, b0.trans (k'.below b0.size hF), f.still tw h k', fun k hk => ?_⟩, fun k hk => k'.block k (hX k hk).1 (hX k hk).2.1⟩
  · rcases hF' k hk with q | q
    · exact hF k q
    · exact Nat.le_trans b0.size q
  · rcases hF' k hk with q | q
    · exact ne k q c
    · have := f.lt hG k c
      omega
  · have := hX k hk
    refine ⟨Nat.lt_of_lt_of_le this.1 k'.size, fun c => ?_, this.2.2⟩
    rcases hF' k c with q | q
    · exact this.2.1 q
    · omega
end
theorem r2_new (f : H3Face T PR) (c1 c2 : Bool) {w0 w : World} {v1 : Value} {t1 : List L} (h : R1 T PR w0 w v1 c1 t1 (fun _ => False)) :
    Calls Tryd.prog 9 #[.bool c2] w fun e w' => ∃ a : Addr, e = .returned (.pointer (some a)) ∧ R2 T PR w0 w' v1 c1 t1 (.pointer (some a)) c2 [] (fun _ => False) := by
  obtain ⟨F, h, hF, b0, tw, hX⟩ := h
  refine (f.new c2 w tw).mono ?_
  rintro e w' ⟨a, G, rfl, h', hG, b'⟩
  exact ⟨a, rfl, F, G, f.of h fun k hk => b'.block k (f.lt h k hk), h', hF, fun k hk => Nat.le_trans b0.size (hG k hk), fun k h1 h2 => by
    have := f.lt h k h1
    have := hG k h2
    omega, b0.trans (b'.mono b0.size), f.keep tw b', fun _ c => c.elim⟩
end
end Go.Proofs.YtnngdlleicjegaaDoor
