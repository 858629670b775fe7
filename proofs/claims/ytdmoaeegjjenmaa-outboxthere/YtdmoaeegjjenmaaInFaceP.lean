/-
  What the laws ask of the program's stream: a relation that holds of a stream in memory, and what each call makes of it. They are stated here, not shown. No condition.
-/
import Derived.Test.YtdmoaeegjjenmaaInBs
namespace Go.Proofs.Ytdmoaeegjjenmaa.ib
set_option maxRecDepth 100000
open Go.RowKit Go.Sort

/-- A stream in memory, by whatever relation. -/
abbrev BSt := World → Nat → (Nat → Prop) → Bx → Prop
/-- What the laws ask. -/
structure InFace (LS : BSt) : Prop where
  lt : ∀ {w B F d}, LS w B F d → ∀ k, F k → k < w.heap.size
  keep : ∀ {w w' B F d}, LS w B F d → (∀ k, F k → w'.heap[k]? = w.heap[k]?) → LS w' B F d
  new : ∀ w, Calls Try.prog 23 #[] w fun e w' => ∃ B F, e = .returned (ptr B) ∧ LS w' B F bx0 ∧ (∀ k, F k → w.heap.size ≤ k) ∧ Below w.heap.size w w'
  put : ∀ w B F d off s fin, LS w B F d → Bw d → In64 off → s.size ≤ 140737488355328 →
    Calls Try.prog 24 #[ptr B, .int .i64 off, .string s, .bool fin] w fun e w' => e = .returned (.int .i64 (putE d off s.size fin)) ∧ ∃ F', LS w' B F' (putB d off s fin) ∧ (∀ k, F' k → F k ∨ w.heap.size ≤ k) ∧ Kept F w w'
  read : ∀ w B F d n, LS w B F d → Bw d → In64 n →
    Calls Try.prog 25 #[ptr B, .int .i64 n] w fun e w' => e = .returned (.string (strOfNums (takeL d n))) ∧ ∃ F', LS w' B F' (takeB d n) ∧ (∀ k, F' k → F k ∨ w.heap.size ≤ k) ∧ Kept F w w'
  state : ∀ w B F d, LS w B F d → Bw d → Calls Try.prog 26 #[ptr B] w fun e w' => e = .returned (.tuple #[.int .i64 d.rd, .int .i64 (lim d), .int .i64 (ended d)]) ∧ Below w.heap.size w w'
theorem Bw.new : Bw bx0 := ⟨Bk.new, by decide, by decide⟩
theorem put_rd (d : Bx) (off : Int) (s : ByteArray) (fin : Bool) : (putB d off s fin).rd = d.rd ∧ (putB d off s fin).cnt ≤ d.cnt + s.size := by
  unfold putB
  split
  · exact ⟨rfl, Nat.le_refl _⟩
  · exact ⟨rfl, Nat.le_add_right _ _⟩
theorem res_rd (d : Bx) (size : Int) : (resB d size).rd = d.rd ∧ (resB d size).cnt = d.cnt := by
  unfold resB
  split <;> exact ⟨rfl, rfl⟩
theorem take_rd {d : Bx} (h : Bk d) (n : Int) : d.rd ≤ (takeB d n).rd ∧ (takeB d n).rd ≤ d.rd + 4096 ∧ (takeB d n).cnt = d.cnt := by
  have h1 := takeL_le h n
  have h2 := h.most
  refine ⟨?_, ?_, rfl⟩
  · show d.rd ≤ d.rd + _
    omega
  · show d.rd + _ ≤ _
    omega
theorem Bw.put {d : Bx} (h : Bw d) (off : Int) (s : ByteArray) (fin : Bool) (hc : d.cnt + s.size < 1099511627776) : Bw (putB d off s fin) := by
  obtain ⟨h1, h2⟩ := put_rd d off s fin
  exact ⟨h.k.put off s fin, by rw [h1]; exact h.rd, by omega⟩
theorem Bw.res {d : Bx} (h : Bw d) (size : Int) : Bw (resB d size) := by
  obtain ⟨h1, h2⟩ := res_rd d size
  exact ⟨h.k.res size, by rw [h1]; exact h.rd, by rw [h2]; exact h.cnt⟩
theorem Bw.take {d : Bx} (h : Bw d) (n : Int) (hr : d.rd + 4096 < 1152921504606846976) : Bw (takeB d n) := by
  obtain ⟨h1, h2, h3⟩ := take_rd h.k n
  exact ⟨h.k.take n, by omega, by rw [h3]; exact h.cnt⟩
/-- One stream, made after the world w0, in the blocks F. -/
structure PI (LS : BSt) (w0 w : World) (B : Nat) (F : Nat → Prop) (d : Bx) : Prop where
  s : LS w B F d
  ok : Bw d
  ge : ∀ k, F k → w0.heap.size ≤ k
  bel : Below w0.heap.size w0 w
section
variable {LS : BSt} {w0 w w' : World} {B : Nat} {F : Nat → Prop} {d : Bx}
theorem PI.keep (fc : InFace LS) (h : PI LS w0 w B F d) (b : Below w.heap.size w w') : PI LS w0 w' B F d :=
  ⟨fc.keep h.s fun k hk => b.block k (fc.lt h.s k hk), h.ok, h.ge, h.bel.trans (b.mono h.bel.size)⟩
theorem PI.keepK (fc : InFace LS) {G : Nat → Prop} (h : PI LS w0 w B F d) (b : Kept G w w') (q : ∀ k, F k → ¬ G k) (g : ∀ k, G k → w0.heap.size ≤ k) : PI LS w0 w' B F d :=
  ⟨fc.keep h.s fun k hk => b.block k (fc.lt h.s k hk) (q k hk), h.ok, h.ge, h.bel.trans (b.below h.bel.size g)⟩
theorem PI.step {F' : Nat → Prop} {d' : Bx} (h : PI LS w0 w B F d) (hs : LS w' B F' d') (ok : Bw d') (hg : ∀ k, F' k → F k ∨ w.heap.size ≤ k) (hk : Kept F w w') : PI LS w0 w' B F' d' :=
  ⟨hs, ok, fun k q => (hg k q).elim (h.ge k) fun r => Nat.le_trans h.bel.size r, h.bel.trans (hk.below h.bel.size h.ge)⟩
theorem pi_new (fc : InFace LS) (w0 w : World) (b : Below w0.heap.size w0 w) :
    Calls Try.prog 23 #[] w fun e w' => ∃ B F, e = .returned (ptr B) ∧ PI LS w0 w' B F bx0 ∧ (∀ k, F k → w.heap.size ≤ k) := by
  refine (fc.new w).mono ?_
  rintro e w' ⟨B, F, rfl, h, g, b'⟩
  exact ⟨B, F, rfl, ⟨h, Bw.new, fun k hk => Nat.le_trans b.size (g k hk), b.trans (b'.mono b.size)⟩, g⟩
theorem pi_put (fc : InFace LS) (off : Int) (s : ByteArray) (fin : Bool) (h : PI LS w0 w B F d) (h1 : In64 off) (h2 : s.size ≤ 1000000000) (hc : d.cnt ≤ 1000000000) :
    Calls Try.prog 24 #[ptr B, .int .i64 off, .string s, .bool fin] w fun e w' => e = .returned (.int .i64 (putE d off s.size fin)) ∧ ∃ F', PI LS w0 w' B F' (putB d off s fin) ∧ (∀ k, F' k → F k ∨ w.heap.size ≤ k) ∧ Kept F w w' := by
  refine (fc.put w B F d off s fin h.s h.ok h1 (by omega)).mono ?_
  rintro e w' ⟨rfl, F', hs, hg, hk⟩
  exact ⟨rfl, F', h.step hs (h.ok.put off s fin (by omega)) hg hk, hg, hk⟩
theorem pi_read (fc : InFace LS) (n : Int) (h : PI LS w0 w B F d) (h1 : In64 n) (hr : d.rd ≤ 1000000000) :
    Calls Try.prog 25 #[ptr B, .int .i64 n] w fun e w' => e = .returned (.string (strOfNums (takeL d n))) ∧ ∃ F', PI LS w0 w' B F' (takeB d n) ∧ (∀ k, F' k → F k ∨ w.heap.size ≤ k) ∧ Kept F w w' := by
  refine (fc.read w B F d n h.s h.ok h1).mono ?_
  rintro e w' ⟨rfl, F', hs, hg, hk⟩
  exact ⟨rfl, F', h.step hs (h.ok.take n (by omega)) hg hk, hg, hk⟩
theorem pi_state (fc : InFace LS) (h : PI LS w0 w B F d) :
    Calls Try.prog 26 #[ptr B] w fun e w' => e = .returned (.tuple #[.int .i64 d.rd, .int .i64 (lim d), .int .i64 (ended d)]) ∧ Below w.heap.size w w' := fc.state w B F d h.s h.ok
end
end Go.Proofs.Ytdmoaeegjjenmaa.ib
