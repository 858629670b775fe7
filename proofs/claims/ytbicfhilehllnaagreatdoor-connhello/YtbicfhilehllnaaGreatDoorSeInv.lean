/-
  One key, and two: what each call leaves of them. They lean on the contracts of New, Seal, Open and Used (SeOwn): what is counted, the blocks that hold it, and that nothing else has changed. No condition but the lengths.
-/
import Derived.Test.YtbicfhilehllnaaGreatDoorSeOwn
namespace Go.Proofs.YtbicfhilehllnaaGreatDoor
set_option maxRecDepth 100000
open Go.RowKit
/-- One key, made after the world w0. -/
structure SInv (w0 w : World) (v : Value) (secret : ByteArray) (a b : Nat) : Prop where
  ex : ∃ F : Nat → Prop, KeyIs F w v secret a b ∧ (∀ k, F k → w0.heap.size ≤ k ∧ k < w.heap.size) ∧ Below w0.heap.size w0 w ∧ STab w
theorem SInv.below {w0 w : World} {v : Value} {s : ByteArray} {a b : Nat} (h : SInv w0 w v s a b) : Below w0.heap.size w0 w := by
  obtain ⟨_, _, _, h, _⟩ := h.ex; exact h
theorem SInv.tab {w0 w : World} {v : Value} {s : ByteArray} {a b : Nat} (h : SInv w0 w v s a b) : STab w := by
  obtain ⟨_, _, _, _, h⟩ := h.ex; exact h
theorem sinv_new (secret : ByteArray) (w0 w : World) (b : Below w0.heap.size w0 w) (t : STab w0) :
    Calls Tryz.prog 145 #[.string secret] w fun e w' => ∃ a : Addr, e = .returned (.pointer (some a)) ∧ SInv w0 w' (.pointer (some a)) secret 0 0 := by
  refine (snew_ok secret w (t.keep b)).mono ?_
  rintro e w' ⟨a, F, rfl, h, hF, b'⟩
  have b2 : Below w0.heap.size w0 w' := b.trans (b'.mono b.size)
  exact ⟨a, rfl, ⟨F, h, fun k hk => ⟨Nat.le_trans b.size (hF k hk).1, (hF k hk).2⟩, b2, t.keep b2⟩⟩
theorem SInv.keep {w0 w w' : World} {v : Value} {s : ByteArray} {x y : Nat} (t : STab w0) (h : SInv w0 w v s x y) (b : Below w.heap.size w w') : SInv w0 w' v s x y := by
  obtain ⟨F, h, hF, b0, _⟩ := h.ex
  have b2 : Below w0.heap.size w0 w' := b0.trans (b.mono b0.size)
  exact ⟨F, h.keep fun k hk => b.block k (hF k hk).2, fun k hk => ⟨(hF k hk).1, Nat.lt_of_lt_of_le (hF k hk).2 b.size⟩, b2, t.keep b2⟩
theorem SInv.step {w0 w w' : World} {v : Value} {s : ByteArray} {x y : Nat} (t : STab w0) {F F' : Nat → Prop} (hF : ∀ k, F k → w0.heap.size ≤ k ∧ k < w.heap.size) (b : Below w0.heap.size w0 w)
    (h' : KeyIs F' w' v s x y) (hF' : ∀ k, F' k → (F k ∨ w.heap.size ≤ k) ∧ k < w'.heap.size) (st : Still F w w') : SInv w0 w' v s x y := by
  have b2 : Below w0.heap.size w0 w' := b.trans (st.below b.size fun k hk => (hF k hk).1)
  refine ⟨F', h', fun k hk => ⟨?_, (hF' k hk).2⟩, b2, t.keep b2⟩
  rcases (hF' k hk).1 with h | h
  · exact (hF k h).1
  · exact Nat.le_trans b.size h
theorem sinv_seal {w0 w : World} {v : Value} {s : ByteArray} {x y : Nat} (t : STab w0) (n : Int) (head data : ByteArray) (h : SInv w0 w v s x y) (h1 : s.size < 68719476736) (h2 : head.size < 68719476736) (h3 : data.size < 68719476736) (hx : x < 1000) (hy : y < 1000) :
    Calls Tryz.prog 102 #[v, .int .i64 n, .string head, .string data] w fun e w' => e = .returned (.string (sld s n head data)) ∧ SInv w0 w' v s (x + 1) y := by
  obtain ⟨F, h, hF, b, tw⟩ := h.ex
  refine (seal_ok n head data w tw h (fun k hk => (hF k hk).2) h1 h2 h3 (by omega) (by omega)).mono ?_
  rintro e w' ⟨F', rfl, h', hF', st⟩
  exact ⟨rfl, SInv.step t hF b h' hF' st⟩
theorem sinv_open {w0 w : World} {v : Value} {s : ByteArray} {x y : Nat} (t : STab w0) (n : Int) (head c : ByteArray) (h : SInv w0 w v s x y) (h1 : s.size < 68719476736) (h2 : head.size < 68719476736) (h3 : c.size < 68719476736) (hx : x < 1000) (hy : y < 1000) :
    Calls Tryz.prog 144 #[v, .int .i64 n, .string head, .string c] w fun e w' => e = .returned (.tuple #[.string (opv s n head c), .int .i64 (ope s n head c)]) ∧ SInv w0 w' v s x (y + if ope s n head c = 0 then 1 else 0) := by
  obtain ⟨F, h, hF, b, tw⟩ := h.ex
  refine (open_ok n head c w tw h (fun k hk => (hF k hk).2) h1 h2 h3 (by omega) (by omega)).mono ?_
  rintro e w' ⟨F', rfl, h', hF', st⟩
  exact ⟨rfl, SInv.step t hF b h' hF' st⟩
/-- Two keys, in blocks of their own. -/
structure SInv2 (w0 w : World) (v : Value) (s : ByteArray) (x y : Nat) (u : Value) (r : ByteArray) (p q : Nat) : Prop where
  ex : ∃ F G : Nat → Prop, KeyIs F w v s x y ∧ KeyIs G w u r p q ∧ (∀ k, F k → w0.heap.size ≤ k ∧ k < w.heap.size) ∧ (∀ k, G k → w0.heap.size ≤ k ∧ k < w.heap.size) ∧ (∀ k, F k → ¬ G k) ∧ Below w0.heap.size w0 w ∧ STab w
theorem SInv2.below {w0 w : World} {v u : Value} {s r : ByteArray} {x y p q : Nat} (h : SInv2 w0 w v s x y u r p q) : Below w0.heap.size w0 w := by
  obtain ⟨_, _, _, _, _, _, _, h, _⟩ := h.ex; exact h
theorem SInv2.tab {w0 w : World} {v u : Value} {s r : ByteArray} {x y p q : Nat} (h : SInv2 w0 w v s x y u r p q) : STab w := by
  obtain ⟨_, _, _, _, _, _, _, _, h⟩ := h.ex; exact h
theorem SInv2.swap {w0 w : World} {v u : Value} {s r : ByteArray} {x y p q : Nat} (h : SInv2 w0 w v s x y u r p q) : SInv2 w0 w u r p q v s x y := by
  obtain ⟨F, G, h, g, hF, hG, hd, b, t⟩ := h.ex
  exact ⟨G, F, g, h, hG, hF, fun k hg hf => hd k hf hg, b, t⟩
theorem SInv2.keep {w0 w w' : World} {v u : Value} {s r : ByteArray} {x y p q : Nat} (t : STab w0) (h : SInv2 w0 w v s x y u r p q) (bb : Below w.heap.size w w') : SInv2 w0 w' v s x y u r p q := by
  obtain ⟨F, G, h, g, hF, hG, hd, b, tw⟩ := h.ex
  have b2 : Below w0.heap.size w0 w' := b.trans (bb.mono b.size)
  exact ⟨F, G, h.keep fun k hk => bb.block k (hF k hk).2, g.keep fun k hk => bb.block k (hG k hk).2, fun k hk => ⟨(hF k hk).1, Nat.lt_of_lt_of_le (hF k hk).2 bb.size⟩, fun k hk => ⟨(hG k hk).1, Nat.lt_of_lt_of_le (hG k hk).2 bb.size⟩, hd, b2, t.keep b2⟩
theorem sinv2_new {w0 w : World} {v : Value} {s : ByteArray} {x y : Nat} (t : STab w0) (secret : ByteArray) (h : SInv w0 w v s x y) :
    Calls Tryz.prog 145 #[.string secret] w fun e w' => ∃ a : Addr, e = .returned (.pointer (some a)) ∧ SInv2 w0 w' v s x y (.pointer (some a)) secret 0 0 := by
  obtain ⟨F, h, hF, b, tw⟩ := h.ex
  refine (snew_ok secret w tw).mono ?_
  rintro e w' ⟨a, G, rfl, g, hG, b'⟩
  have b2 : Below w0.heap.size w0 w' := b.trans (b'.mono b.size)
  refine ⟨a, rfl, F, G, h.keep fun k hk => b'.block k (hF k hk).2, g, fun k hk => ⟨(hF k hk).1, Nat.lt_of_lt_of_le (hF k hk).2 b'.size⟩, fun k hk => ⟨Nat.le_trans b.size (hG k hk).1, (hG k hk).2⟩, fun k hf hg => ?_, b2, t.keep b2⟩
  have h1 := (hF k hf).2
  have h2 := (hG k hg).1
  omega
theorem SInv2.step {w0 w w' : World} {v u : Value} {s r : ByteArray} {x y p q : Nat} (t : STab w0) {F F' G : Nat → Prop} (g : KeyIs G w u r p q) (hF : ∀ k, F k → w0.heap.size ≤ k ∧ k < w.heap.size) (hG : ∀ k, G k → w0.heap.size ≤ k ∧ k < w.heap.size)
    (hd : ∀ k, F k → ¬ G k) (b : Below w0.heap.size w0 w) (h' : KeyIs F' w' v s x y) (hF' : ∀ k, F' k → (F k ∨ w.heap.size ≤ k) ∧ k < w'.heap.size) (st : Still F w w') : SInv2 w0 w' v s x y u r p q := by
  have b2 : Below w0.heap.size w0 w' := b.trans (st.below b.size fun k hk => (hF k hk).1)
  refine ⟨F', G, h', g.keep fun k hk => st.block k (hG k hk).2 fun hf => hd k hf hk, fun k hk => ⟨?_, (hF' k hk).2⟩, fun k hk => ⟨(hG k hk).1, Nat.lt_of_lt_of_le (hG k hk).2 st.size⟩, fun k hf hg => ?_, b2, t.keep b2⟩
  · rcases (hF' k hk).1 with h | h
    · exact (hF k h).1
    · exact Nat.le_trans b.size h
  · rcases (hF' k hf).1 with h | h
    · exact hd k h hg
    · have := (hG k hg).2
      omega
theorem sinv2_seal {w0 w : World} {v u : Value} {s r : ByteArray} {x y p q : Nat} (t : STab w0) (n : Int) (head data : ByteArray) (h : SInv2 w0 w v s x y u r p q) (h1 : s.size < 68719476736) (h2 : head.size < 68719476736) (h3 : data.size < 68719476736) (hx : x < 1000) (hy : y < 1000) :
    Calls Tryz.prog 102 #[v, .int .i64 n, .string head, .string data] w fun e w' => e = .returned (.string (sld s n head data)) ∧ SInv2 w0 w' v s (x + 1) y u r p q := by
  obtain ⟨F, G, h, g, hF, hG, hd, b, tw⟩ := h.ex
  refine (seal_ok n head data w tw h (fun k hk => (hF k hk).2) h1 h2 h3 (by omega) (by omega)).mono ?_
  rintro e w' ⟨F', rfl, h', hF', st⟩
  exact ⟨rfl, SInv2.step t g hF hG hd b h' hF' st⟩
theorem sinv2_open {w0 w : World} {v u : Value} {s r : ByteArray} {x y p q : Nat} (t : STab w0) (n : Int) (head c : ByteArray) (h : SInv2 w0 w v s x y u r p q) (h1 : s.size < 68719476736) (h2 : head.size < 68719476736) (h3 : c.size < 68719476736) (hx : x < 1000) (hy : y < 1000) :
    Calls Tryz.prog 144 #[v, .int .i64 n, .string head, .string c] w fun e w' => e = .returned (.tuple #[.string (opv s n head c), .int .i64 (ope s n head c)]) ∧ SInv2 w0 w' v s x (y + if ope s n head c = 0 then 1 else 0) u r p q := by
  obtain ⟨F, G, h, g, hF, hG, hd, b, tw⟩ := h.ex
  refine (open_ok n head c w tw h (fun k hk => (hF k hk).2) h1 h2 h3 (by omega) (by omega)).mono ?_
  rintro e w' ⟨F', rfl, h', hF', st⟩
  exact ⟨rfl, SInv2.step t g hF hG hd b h' hF' st⟩
end Go.Proofs.YtbicfhilehllnaaGreatDoor
