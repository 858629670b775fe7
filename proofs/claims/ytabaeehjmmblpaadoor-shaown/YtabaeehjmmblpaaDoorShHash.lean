/-
  One digest in the making, and two: what each call leaves of them. They lean on the contracts of New, Write and Sum (ShHashOwn): what is in, the blocks that hold it, and that nothing else has changed. No condition but the lengths.
-/
import Derived.Test.YtabaeehjmmblpaaDoorShHashOwn
namespace Go.Proofs.YtabaeehjmmblpaaDoor
open Go.RowKit
/-- One digest in the making, begun after the world w0. -/
structure Inv (w0 w : World) (v : Value) (l : List Nat) : Prop where
  ex : ∃ F : Nat → Prop, HashIs F w v l ∧ (∀ k, F k → w0.heap.size ≤ k ∧ k < w.heap.size) ∧ Below w0.heap.size w0 w ∧ Tab w
theorem Inv.below {w0 w : World} {v : Value} {l : List Nat} (h : Inv w0 w v l) : Below w0.heap.size w0 w := by
  obtain ⟨_, _, _, h, _⟩ := h.ex; exact h
theorem Inv.tab {w0 w : World} {v : Value} {l : List Nat} (h : Inv w0 w v l) : Tab w := by
  obtain ⟨_, _, _, _, h⟩ := h.ex; exact h
theorem inv_new (w0 w : World) (b : Below w0.heap.size w0 w) (t : Tab w0) :
    Calls Tryd.prog 14 #[] w fun e w' => ∃ a : Addr, e = .returned (.pointer (some a)) ∧ Inv w0 w' (.pointer (some a)) [] := by
  refine (new_ok w (t.keep b)).mono ?_
  rintro e w' ⟨a, F, rfl, h, hF, b'⟩
  have b2 : Below w0.heap.size w0 w' := b.trans (b'.mono b.size)
  exact ⟨a, rfl, ⟨F, h, fun k hk => ⟨Nat.le_trans b.size (hF k hk).1, (hF k hk).2⟩, b2, t.keep b2⟩⟩
/-- What a call that only adds leaves of it. -/
theorem Inv.keep {w0 w w' : World} {v : Value} {l : List Nat} (t : Tab w0) (h : Inv w0 w v l) (b : Below w.heap.size w w') : Inv w0 w' v l := by
  obtain ⟨F, h, hF, b0, _⟩ := h.ex
  have b2 : Below w0.heap.size w0 w' := b0.trans (b.mono b0.size)
  exact ⟨F, h.keep fun k hk => b.block k (hF k hk).2, fun k hk => ⟨(hF k hk).1, Nat.lt_of_lt_of_le (hF k hk).2 b.size⟩, b2, t.keep b2⟩
theorem Inv.step {w0 w w' : World} {v : Value} {l' : List Nat} (t : Tab w0) {F F' : Nat → Prop} (hF : ∀ k, F k → w0.heap.size ≤ k ∧ k < w.heap.size) (b : Below w0.heap.size w0 w)
    (h' : HashIs F' w' v l') (hF' : ∀ k, F' k → (F k ∨ w.heap.size ≤ k) ∧ k < w'.heap.size) (st : Still F w w') : Inv w0 w' v l' := by
  have b2 : Below w0.heap.size w0 w' := b.trans (st.below b.size fun k hk => (hF k hk).1)
  refine ⟨F', h', fun k hk => ⟨?_, (hF' k hk).2⟩, b2, t.keep b2⟩
  rcases (hF' k hk).1 with h | h
  · exact (hF k h).1
  · exact Nat.le_trans b.size h
theorem inv_write {w0 w : World} {v : Value} {l : List Nat} (t : Tab w0) (s : ByteArray) (h : Inv w0 w v l) (hs : l.length + s.size < 549755813888) :
    Calls Tryd.prog 15 #[v, .string s] w fun e w' => e = .returned (.tuple #[]) ∧ Inv w0 w' v (l ++ nb s) := by
  obtain ⟨F, h, hF, b, tw⟩ := h.ex
  refine (write_ok s w tw h (fun k hk => (hF k hk).2) hs).mono ?_
  rintro e w' ⟨F', rfl, h', hF', st⟩
  exact ⟨rfl, Inv.step t hF b h' hF' st⟩
theorem inv_hsum {w0 w : World} {v : Value} {l : List Nat} (t : Tab w0) (h : Inv w0 w v l) (hs : l.length < 549755813888) :
    Calls Tryd.prog 16 #[v] w fun e w' => e = .returned (.string (bstr (dig l))) ∧ Inv w0 w' v l := by
  obtain ⟨F, h, hF, b, tw⟩ := h.ex
  refine (hsum_ok w tw h (fun k hk => (hF k hk).2) hs).mono ?_
  rintro e w' ⟨F', rfl, h', hF', st⟩
  exact ⟨rfl, Inv.step t hF b h' hF' st⟩
theorem inv_sum {w0 w : World} {v : Value} {l : List Nat} (t : Tab w0) (s : ByteArray) (h : Inv w0 w v l) (hs : s.size < 549755813888) :
    Calls Tryd.prog 7 #[.string s] w fun e w' => e = .returned (.string (bstr (dig (nb s)))) ∧ Inv w0 w' v l := by
  refine (sum_ok s w h.tab hs).mono ?_
  rintro e w' ⟨rfl, b⟩
  exact ⟨rfl, h.keep t b⟩
/-- Two digests in the making, in blocks of their own. -/
structure Inv2 (w0 w : World) (v : Value) (l : List Nat) (u : Value) (m : List Nat) : Prop where
  ex : ∃ F G : Nat → Prop, HashIs F w v l ∧ HashIs G w u m ∧ (∀ k, F k → w0.heap.size ≤ k ∧ k < w.heap.size) ∧ (∀ k, G k → w0.heap.size ≤ k ∧ k < w.heap.size) ∧ (∀ k, F k → ¬ G k) ∧ Below w0.heap.size w0 w ∧ Tab w
theorem Inv2.below {w0 w : World} {v u : Value} {l m : List Nat} (h : Inv2 w0 w v l u m) : Below w0.heap.size w0 w := by
  obtain ⟨_, _, _, _, _, _, _, h, _⟩ := h.ex; exact h
theorem Inv2.tab {w0 w : World} {v u : Value} {l m : List Nat} (h : Inv2 w0 w v l u m) : Tab w := by
  obtain ⟨_, _, _, _, _, _, _, _, h⟩ := h.ex; exact h
theorem Inv2.swap {w0 w : World} {v u : Value} {l m : List Nat} (h : Inv2 w0 w v l u m) : Inv2 w0 w u m v l := by
  obtain ⟨F, G, h, g, hF, hG, hd, b, t⟩ := h.ex
  exact ⟨G, F, g, h, hG, hF, fun k hg hf => hd k hf hg, b, t⟩
theorem inv2_new {w0 w : World} {v : Value} {l : List Nat} (t : Tab w0) (h : Inv w0 w v l) :
    Calls Tryd.prog 14 #[] w fun e w' => ∃ a : Addr, e = .returned (.pointer (some a)) ∧ Inv2 w0 w' v l (.pointer (some a)) [] := by
  obtain ⟨F, h, hF, b, tw⟩ := h.ex
  refine (new_ok w tw).mono ?_
  rintro e w' ⟨a, G, rfl, g, hG, b'⟩
  have b2 : Below w0.heap.size w0 w' := b.trans (b'.mono b.size)
  refine ⟨a, rfl, F, G, h.keep fun k hk => b'.block k (hF k hk).2, g, fun k hk => ⟨(hF k hk).1, Nat.lt_of_lt_of_le (hF k hk).2 b'.size⟩, fun k hk => ⟨Nat.le_trans b.size (hG k hk).1, (hG k hk).2⟩, fun k hf hg => ?_, b2, t.keep b2⟩
  have h1 := (hF k hf).2
  have h2 := (hG k hg).1
  omega
theorem Inv2.step {w0 w w' : World} {v u : Value} {m l' : List Nat} (t : Tab w0) {F F' G : Nat → Prop} (g : HashIs G w u m) (hF : ∀ k, F k → w0.heap.size ≤ k ∧ k < w.heap.size) (hG : ∀ k, G k → w0.heap.size ≤ k ∧ k < w.heap.size)
    (hd : ∀ k, F k → ¬ G k) (b : Below w0.heap.size w0 w) (h' : HashIs F' w' v l') (hF' : ∀ k, F' k → (F k ∨ w.heap.size ≤ k) ∧ k < w'.heap.size) (st : Still F w w') : Inv2 w0 w' v l' u m := by
  have b2 : Below w0.heap.size w0 w' := b.trans (st.below b.size fun k hk => (hF k hk).1)
  refine ⟨F', G, h', g.keep fun k hk => st.block k (hG k hk).2 fun hf => hd k hf hk, fun k hk => ⟨?_, (hF' k hk).2⟩, fun k hk => ⟨(hG k hk).1, Nat.lt_of_lt_of_le (hG k hk).2 st.size⟩, fun k hf hg => ?_, b2, t.keep b2⟩
  · rcases (hF' k hk).1 with h | h
    · exact (hF k h).1
    · exact Nat.le_trans b.size h
  · rcases (hF' k hf).1 with h | h
    · exact hd k h hg
    · have := (hG k hg).2
      omega
theorem inv2_write {w0 w : World} {v u : Value} {l m : List Nat} (t : Tab w0) (s : ByteArray) (h : Inv2 w0 w v l u m) (hs : l.length + s.size < 549755813888) :
    Calls Tryd.prog 15 #[v, .string s] w fun e w' => e = .returned (.tuple #[]) ∧ Inv2 w0 w' v (l ++ nb s) u m := by
  obtain ⟨F, G, h, g, hF, hG, hd, b, tw⟩ := h.ex
  refine (write_ok s w tw h (fun k hk => (hF k hk).2) hs).mono ?_
  rintro e w' ⟨F', rfl, h', hF', st⟩
  exact ⟨rfl, Inv2.step t g hF hG hd b h' hF' st⟩
theorem inv2_hsum {w0 w : World} {v u : Value} {l m : List Nat} (t : Tab w0) (h : Inv2 w0 w v l u m) (hs : l.length < 549755813888) :
    Calls Tryd.prog 16 #[v] w fun e w' => e = .returned (.string (bstr (dig l))) ∧ Inv2 w0 w' v l u m := by
  obtain ⟨F, G, h, g, hF, hG, hd, b, tw⟩ := h.ex
  refine (hsum_ok w tw h (fun k hk => (hF k hk).2) hs).mono ?_
  rintro e w' ⟨F', rfl, h', hF', st⟩
  exact ⟨rfl, Inv2.step t g hF hG hd b h' hF' st⟩
theorem inv2_sum {w0 w : World} {v u : Value} {l m : List Nat} (t : Tab w0) (s : ByteArray) (h : Inv2 w0 w v l u m) (hs : s.size < 549755813888) :
    Calls Tryd.prog 7 #[.string s] w fun e w' => e = .returned (.string (bstr (dig (nb s)))) ∧ Inv2 w0 w' v l u m := by
  refine (sum_ok s w h.tab hs).mono ?_
  rintro e w' ⟨rfl, bb⟩
  obtain ⟨F, G, h, g, hF, hG, hd, b, tw⟩ := h.ex
  have b2 : Below w0.heap.size w0 w' := b.trans (bb.mono b.size)
  exact ⟨rfl, F, G, h.keep fun k hk => bb.block k (hF k hk).2, g.keep fun k hk => bb.block k (hG k hk).2, fun k hk => ⟨(hF k hk).1, Nat.lt_of_lt_of_le (hF k hk).2 bb.size⟩, fun k hk => ⟨(hG k hk).1, Nat.lt_of_lt_of_le (hG k hk).2 bb.size⟩, hd, b2, t.keep b2⟩
/-- The first n of the strings, one behind the other. -/
def cat (f : Nat → ByteArray) : Nat → ByteArray
  | 0 => ⟨#[]⟩
  | n + 1 => cat f n ++ f n
end Go.Proofs.YtabaeehjmmblpaaDoor
