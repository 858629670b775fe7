/-
  What the laws ask of the program's stream that is sent: a relation that holds of a stream in memory, and what each call makes of it. They are stated here, not shown. No condition.
-/
import Derived.Test.YtdmoaeegjjenmaaOuBase
namespace Go.Proofs.Ytdmoaeegjjenmaa
set_option maxRecDepth 100000
open Go.RowKit Go.Sort

abbrev In64 (n : Int) : Prop := -9223372036854775808 ≤ n ∧ n ≤ 9223372036854775807
/-- A piece that may be told: it lies within what was written, and has its bytes; its end is the end. -/
structure PcOk (d : Ox) (p : Pc) (data : ByteArray) : Prop where
  inn : PcIn d p
  data : data = d.s.extract p.off (p.off + p.n)
  fin : p.fin = true → d.fin ≠ 3 ∧ p.off + p.n = d.s.size
theorem PcOk.size {d : Ox} {p : Pc} {data : ByteArray} (h : PcOk d p data) : data.size = p.n := by
  have := h.inn
  unfold PcIn at this
  rw [h.data, ByteArray.size_extract]
  omega
theorem nxt_ok {d : Ox} (h : Ok12 d) {most : Int} {p : Pc} (e : nxt d most = some p) : PcOk d p (d.s.extract p.off (p.off + p.n)) := by
  refine ⟨nxt_in h e, rfl, fun hf => ?_⟩
  unfold nxt at e
  split at e
  · split at e
    · cases e
    · rename_i q
      injection e with e
      subst e
      refine ⟨fun c => q (.inl (by rw [c]; decide)), rfl⟩
  · split at e
    · cases e
    · injection e with e
      subst e
      simp only [Bool.and_eq_true, decide_eq_true_eq, bne_iff_ne] at hf
      exact ⟨hf.2, hf.1⟩
/-- A stream with the same bytes, whose end was not taken back. -/
structure Longer (d d' : Ox) : Prop where
  s : ∃ t, d'.s = d.s ++ t
  fin : d.fin ≠ 3 → d'.fin ≠ 3 ∧ d'.s = d.s
theorem ext_app (s t : ByteArray) (i j : Nat) (h : j ≤ s.size) : (s ++ t).extract i j = s.extract i j := by
  apply ByteArray.ext
  rw [ByteArray.data_extract, ByteArray.data_append, ByteArray.data_extract]
  apply Array.ext'
  rw [Array.toList_extract, Array.toList_extract]
  have hl : s.data.toList.length = s.size := by simp
  simp only [Array.toList_append, List.extract_eq_take_drop]
  rw [List.drop_append, List.take_append]
  have e : j - i - (List.drop i s.data.toList).length = 0 := by rw [List.length_drop, hl]; omega
  rw [e, List.take_zero, List.append_nil]
theorem Longer.ok {d d' : Ox} (h : Longer d d') {p : Pc} {data : ByteArray} (k : PcOk d p data) : PcOk d' p data := by
  obtain ⟨t, e⟩ := h.s
  have i := k.inn
  unfold PcIn at i
  refine ⟨?_, ?_, fun hf => ?_⟩
  · unfold PcIn
    rw [e, ByteArray.size_append]
    omega
  · rw [k.data, e, ext_app _ _ _ _ i]
  · obtain ⟨f1, f2⟩ := k.fin hf
    obtain ⟨g1, g2⟩ := h.fin f1
    exact ⟨g1, by rw [g2]; exact f2⟩
theorem Longer.of {d d' : Ox} (hs : d'.s = d.s) (hf : d.fin ≠ 3 → d'.fin ≠ 3) : Longer d d' := ⟨⟨⟨#[]⟩, by rw [hs]; exact (ByteArray.append_empty).symm⟩, fun h => ⟨hf h, hs⟩⟩
theorem wr_longer (d : Ox) (s : ByteArray) (f : Bool) : Longer d (wrO d s f) := by
  unfold wrO
  split
  · rename_i q
    refine ⟨⟨s, rfl⟩, fun h => ?_⟩
    unfold wrE at q
    rw [if_pos h] at q
    cases q
  · exact Longer.of rfl fun h => h
theorem alw_longer (d : Ox) (l : Int) : Longer d (alwO d l) := Longer.of rfl fun h => h
theorem nxt_longer (d : Ox) (most : Int) : Longer d (nxtO d most) := by
  unfold nxtO
  split
  · exact Longer.of rfl fun h => h
  · refine Longer.of rfl fun h => ?_
    unfold aftO
    show (if _ then _ else _) ≠ _
    split
    · decide
    · exact h
theorem ack_longer (d : Ox) (p : Pc) : Longer d (ackO d p) := by
  refine Longer.of rfl fun h => ?_
  unfold ackO
  show (if _ then _ else _) ≠ _
  split
  · decide
  · exact h
theorem lost_longer (d : Ox) (p : Pc) : Longer d (lostO d p) := by
  refine Longer.of rfl fun h => ?_
  unfold lostO
  show (if _ then _ else _) ≠ _
  split
  · decide
  · exact h
theorem wr_size (d : Ox) (s : ByteArray) (f : Bool) : (wrO d s f).s.size ≤ d.s.size + s.size := by
  unfold wrO
  split
  · show (d.s ++ s).size ≤ _
    rw [ByteArray.size_append]
    omega
  · omega
theorem nxt_size (d : Ox) (most : Int) : (nxtO d most).s.size = d.s.size := by
  unfold nxtO
  split <;> rfl
/-- A stream in memory, by whatever relation. -/
abbrev OSt := World → Nat → (Nat → Prop) → Ox → Prop
/-- What the laws ask. -/
structure OuFace (LS : OSt) : Prop where
  lt : ∀ {w B F d}, LS w B F d → ∀ k, F k → k < w.heap.size
  keep : ∀ {w w' B F d}, LS w B F d → (∀ k, F k → w'.heap[k]? = w.heap[k]?) → LS w' B F d
  new : ∀ w, Calls Try.prog 7 #[] w fun e w' => ∃ B F, e = .returned (ptr B) ∧ LS w' B F ox0 ∧ (∀ k, F k → w.heap.size ≤ k) ∧ Below w.heap.size w w'
  write : ∀ w B F d s f, LS w B F d → Ok12 d → d.s.size < 50000000 → s.size < 50000000 →
    Calls Try.prog 9 #[ptr B, .string s, .bool f] w fun e w' => e = .returned (.int .i64 (wrE d s.size)) ∧ ∃ F', LS w' B F' (wrO d s f) ∧ (∀ k, F' k → F k ∨ w.heap.size ≤ k) ∧ Kept F w w'
  allow : ∀ w B F d l, LS w B F d → Ok12 d → d.s.size < 50000000 → In64 l →
    Calls Try.prog 18 #[ptr B, .int .i64 l] w fun e w' => e = .returned (.tuple #[]) ∧ ∃ F', LS w' B F' (alwO d l) ∧ (∀ k, F' k → F k ∨ w.heap.size ≤ k) ∧ Kept F w w'
  next : ∀ w B F d most, LS w B F d → Ok12 d → d.s.size < 50000000 → In64 most →
    Calls Try.prog 11 #[ptr B, .int .i64 most] w fun e w' => e = .returned (nxtV d (nxt d most)) ∧ ∃ F', LS w' B F' (nxtP d most) ∧ (∀ k, F' k → F k ∨ w.heap.size ≤ k) ∧ Kept F w w'
  acked : ∀ w B F d p data, LS w B F d → Ok12 d → d.s.size < 50000000 → PcOk d p data →
    Calls Try.prog 14 #[ptr B, pcV p data] w fun e w' => e = .returned (.tuple #[]) ∧ ∃ F', LS w' B F' (ackO d p) ∧ (∀ k, F' k → F k ∨ w.heap.size ≤ k) ∧ Kept F w w'
  lost : ∀ w B F d p data, LS w B F d → Ok12 d → d.s.size < 50000000 → PcOk d p data →
    Calls Try.prog 16 #[ptr B, pcV p data] w fun e w' => e = .returned (.tuple #[]) ∧ ∃ F', LS w' B F' (lostO d p) ∧ (∀ k, F' k → F k ∨ w.heap.size ≤ k) ∧ Kept F w w'
  state : ∀ w B F d, LS w B F d → Ok12 d → d.s.size < 50000000 →
    Calls Try.prog 20 #[ptr B] w fun e w' => e = .returned (.tuple #[.int .i64 d.s.size, .int .i64 (thereN d : Nat), .bool (allB d)]) ∧ Below w.heap.size w w'
/-- One stream, made after the world w0, in the blocks F; the blocks X are not of it. -/
structure PO (LS : OSt) (X : Nat → Prop) (w0 w : World) (B : Nat) (F : Nat → Prop) (d : Ox) : Prop where
  s : LS w B F d
  ok : Ok12 d
  ge : ∀ k, F k → w0.heap.size ≤ k
  bel : Below w0.heap.size w0 w
  nX : ∀ k, X k → ¬ F k ∧ k < w.heap.size
/-- Blocks that are as before. -/
def SameX (X : Nat → Prop) (w w' : World) : Prop := ∀ k, X k → w'.heap[k]? = w.heap[k]?
theorem Lies.asIs {w w' : World} {g : Nat} {vs : List Value} {X : Nat → Prop} (h : Lies w g vs) (s : SameX X w w') (hg : X g) : Lies w' g vs := h.of_block (s g hg)
section
variable {LS : OSt} {X : Nat → Prop} {w0 w w' : World} {B : Nat} {F : Nat → Prop} {d : Ox}
theorem PO.keep (fc : OuFace LS) (h : PO LS X w0 w B F d) (b : Below w.heap.size w w') : PO LS X w0 w' B F d :=
  ⟨fc.keep h.s fun k hk => b.block k (fc.lt h.s k hk), h.ok, h.ge, h.bel.trans (b.mono h.bel.size), fun k q => ⟨(h.nX k q).1, Nat.lt_of_lt_of_le (h.nX k q).2 b.size⟩⟩
theorem PO.keepK (fc : OuFace LS) {G : Nat → Prop} (h : PO LS X w0 w B F d) (b : Kept G w w') (q : ∀ k, F k → ¬ G k) (g : ∀ k, G k → w0.heap.size ≤ k) : PO LS X w0 w' B F d :=
  ⟨fc.keep h.s fun k hk => b.block k (fc.lt h.s k hk) (q k hk), h.ok, h.ge, h.bel.trans (b.below h.bel.size g), fun k q => ⟨(h.nX k q).1, Nat.lt_of_lt_of_le (h.nX k q).2 b.size⟩⟩
theorem PO.sub {Y : Nat → Prop} (h : PO LS X w0 w B F d) (y : ∀ k, Y k → X k) : PO LS Y w0 w B F d := ⟨h.s, h.ok, h.ge, h.bel, fun k q => h.nX k (y k q)⟩
/-- New blocks are not of it. -/
theorem PO.fresh (fc : OuFace LS) {Y : Nat → Prop} (h : PO LS X w0 w B F d) (b : Below w.heap.size w w') (y : ∀ k, Y k → X k ∨ (w.heap.size ≤ k ∧ k < w'.heap.size)) : PO LS Y w0 w' B F d := by
  have k := h.keep fc b
  exact ⟨k.s, k.ok, k.ge, k.bel, fun j q => by
    rcases y j q with r | r
    · exact k.nX j r
    · exact ⟨fun c => by have := fc.lt h.s j c; omega, r.2⟩⟩
theorem PO.step {F' : Nat → Prop} {d' : Ox} (h : PO LS X w0 w B F d) (hs : LS w' B F' d') (ok : Ok12 d') (hg : ∀ k, F' k → F k ∨ w.heap.size ≤ k) (hk : Kept F w w') : PO LS X w0 w' B F' d' ∧ SameX X w w' :=
  ⟨⟨hs, ok, fun k q => (hg k q).elim (h.ge k) fun r => Nat.le_trans h.bel.size r, h.bel.trans (hk.below h.bel.size h.ge), fun k q => ⟨fun r => by
      rcases hg k r with r | r
      · exact (h.nX k q).1 r
      · have := (h.nX k q).2; omega, Nat.lt_of_lt_of_le (h.nX k q).2 hk.size⟩⟩, fun k q => hk.block k (h.nX k q).2 (h.nX k q).1⟩
theorem po_new (fc : OuFace LS) (X : Nat → Prop) (w0 w : World) (b : Below w0.heap.size w0 w) (hX : ∀ k, X k → k < w.heap.size) :
    Calls Try.prog 7 #[] w fun e w' => ∃ B F, e = .returned (ptr B) ∧ PO LS X w0 w' B F ox0 ∧ Below w.heap.size w w' ∧ (∀ k, F k → w.heap.size ≤ k) := by
  refine (fc.new w).mono ?_
  rintro e w' ⟨B, F, rfl, h, g, b'⟩
  exact ⟨B, F, rfl, ⟨h, Ok12.new, fun k hk => Nat.le_trans b.size (g k hk), b.trans (b'.mono b.size), fun k q => ⟨fun r => by have := g k r; have := hX k q; omega, Nat.lt_of_lt_of_le (hX k q) b'.size⟩⟩, b', g⟩
theorem po_write (fc : OuFace LS) (s : ByteArray) (f : Bool) (h : PO LS X w0 w B F d) (h1 : d.s.size < 50000000) (h2 : s.size < 50000000) :
    Calls Try.prog 9 #[ptr B, .string s, .bool f] w fun e w' => e = .returned (.int .i64 (wrE d s.size)) ∧ ∃ F', (PO LS X w0 w' B F' (wrO d s f) ∧ SameX X w w') ∧ (∀ k, F' k → F k ∨ w.heap.size ≤ k) ∧ Kept F w w' := by
  refine (fc.write w B F d s f h.s h.ok h1 h2).mono ?_
  rintro e w' ⟨rfl, F', hs, hg, hk⟩
  exact ⟨rfl, F', h.step hs (h.ok.write s f) hg hk, hg, hk⟩
theorem po_allow (fc : OuFace LS) (l : Int) (h : PO LS X w0 w B F d) (h1 : d.s.size < 50000000) (h2 : In64 l) :
    Calls Try.prog 18 #[ptr B, .int .i64 l] w fun e w' => e = .returned (.tuple #[]) ∧ ∃ F', (PO LS X w0 w' B F' (alwO d l) ∧ SameX X w w') ∧ (∀ k, F' k → F k ∨ w.heap.size ≤ k) ∧ Kept F w w' := by
  refine (fc.allow w B F d l h.s h.ok h1 h2).mono ?_
  rintro e w' ⟨rfl, F', hs, hg, hk⟩
  exact ⟨rfl, F', h.step hs (h.ok.allow l h2.2) hg hk, hg, hk⟩
theorem po_next (fc : OuFace LS) (most : Int) (h : PO LS X w0 w B F d) (h1 : d.s.size < 50000000) (h2 : In64 most)(h3 : d.fin ≠ 2 ∨ nxt d most = none) :
    Calls Try.prog 11 #[ptr B, .int .i64 most] w fun e w' => e = .returned (nxtV d (nxt d most)) ∧ ∃ F', (PO LS X w0 w' B F' (nxtO d most) ∧ SameX X w w') ∧ (∀ k, F' k → F k ∨ w.heap.size ≤ k) ∧ Kept F w w' := by
  refine (fc.next w B F d most h.s h.ok h1 h2).mono ?_
  rintro e w' ⟨rfl, F', hs, hg, hk⟩
  rw [nxtP_eq h.ok h3] at hs
  exact ⟨rfl, F', h.step hs (h.ok.next most) hg hk, hg, hk⟩
theorem po_acked (fc : OuFace LS) (p : Pc) (data : ByteArray) (h : PO LS X w0 w B F d) (h1 : d.s.size < 50000000) (h2 : PcOk d p data) :
    Calls Try.prog 14 #[ptr B, pcV p data] w fun e w' => e = .returned (.tuple #[]) ∧ ∃ F', (PO LS X w0 w' B F' (ackO d p) ∧ SameX X w w') ∧ (∀ k, F' k → F k ∨ w.heap.size ≤ k) ∧ Kept F w w' := by
  refine (fc.acked w B F d p data h.s h.ok h1 h2).mono ?_
  rintro e w' ⟨rfl, F', hs, hg, hk⟩
  exact ⟨rfl, F', h.step hs (h.ok.acked p) hg hk, hg, hk⟩
theorem po_lost (fc : OuFace LS) (p : Pc) (data : ByteArray) (h : PO LS X w0 w B F d) (h1 : d.s.size < 50000000) (h2 : PcOk d p data) :
    Calls Try.prog 16 #[ptr B, pcV p data] w fun e w' => e = .returned (.tuple #[]) ∧ ∃ F', (PO LS X w0 w' B F' (lostO d p) ∧ SameX X w w') ∧ (∀ k, F' k → F k ∨ w.heap.size ≤ k) ∧ Kept F w w' := by
  refine (fc.lost w B F d p data h.s h.ok h1 h2).mono ?_
  rintro e w' ⟨rfl, F', hs, hg, hk⟩
  exact ⟨rfl, F', h.step hs (h.ok.lost p) hg hk, hg, hk⟩
theorem po_state (fc : OuFace LS) (h : PO LS X w0 w B F d) (h1 : d.s.size < 50000000) :
    Calls Try.prog 20 #[ptr B] w fun e w' => e = .returned (.tuple #[.int .i64 d.s.size, .int .i64 (thereN d : Nat), .bool (allB d)]) ∧ Below w.heap.size w w' := fc.state w B F d h.s h.ok h1
end
end Go.Proofs.Ytdmoaeegjjenmaa
