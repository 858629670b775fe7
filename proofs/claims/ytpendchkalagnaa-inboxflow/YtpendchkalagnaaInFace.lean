/-
  What the laws ask of the program's stream: a relation that holds of a stream in memory, and what each call makes of it. They are stated here, not shown. No condition.
-/
import Derived.Test.YtpendchkalagnaaInRefTake
namespace Go.Proofs.Ytpendchkalagnaa
set_option maxRecDepth 100000
open Go.RowKit Go.Sort

/-- A stream in memory, by whatever relation. -/
abbrev BSt := World → Nat → (Nat → Prop) → Bx → Prop
/-- What the laws ask. -/
structure InFace (LS : BSt) : Prop where
  lt : ∀ {w B F d}, LS w B F d → ∀ k, F k → k < w.heap.size
  keep : ∀ {w w' B F d}, LS w B F d → (∀ k, F k → w'.heap[k]? = w.heap[k]?) → LS w' B F d
  new : ∀ w, Calls Try.prog 7 #[] w fun e w' => ∃ B F, e = .returned (ptr B) ∧ LS w' B F bx0 ∧ (∀ k, F k → w.heap.size ≤ k) ∧ Below w.heap.size w w'
  put : ∀ w B F d off s fin, LS w B F d → Bw d → In64 off → s.size ≤ 140737488355328 →
    Calls Try.prog 9 #[ptr B, .int .i64 off, .string s, .bool fin] w fun e w' => e = .returned (.int .i64 (putE d off s.size fin)) ∧ ∃ F', LS w' B F' (putB d off s fin) ∧ (∀ k, F' k → F k ∨ w.heap.size ≤ k) ∧ Kept F w w'
  reset : ∀ w B F d size, LS w B F d → Bw d → In64 size →
    Calls Try.prog 11 #[ptr B, .int .i64 size] w fun e w' => e = .returned (.int .i64 (resE d size)) ∧ ∃ F', LS w' B F' (resB d size) ∧ (∀ k, F' k → F k ∨ w.heap.size ≤ k) ∧ Kept F w w'
  read : ∀ w B F d n, LS w B F d → Bw d → In64 n →
    Calls Try.prog 13 #[ptr B, .int .i64 n] w fun e w' => e = .returned (.string (strOfNums (takeL d n))) ∧ ∃ F', LS w' B F' (takeB d n) ∧ (∀ k, F' k → F k ∨ w.heap.size ≤ k) ∧ Kept F w w'
  state : ∀ w B F d, LS w B F d → Bw d → Calls Try.prog 15 #[ptr B] w fun e w' => e = .returned (.tuple #[.int .i64 d.rd, .int .i64 (lim d), .int .i64 (ended d)]) ∧ Below w.heap.size w w'
theorem Bw.new : Bw bx0 := ⟨Bk.new, by decide, by decide⟩
theorem put_rd (d : Bx) (off : Int) (s : ByteArray) (fin : Bool) : (putB d off s fin).rd = d.rd ∧ (putB d off s fin).cnt ≤ d.cnt + s.size := by
  unfold putB
  split
  · exact ⟨rfl, Nat.le_refl _⟩
  · exact ⟨rfl, Nat.le_add_right _ _⟩
theorem res_rd (d : Bx) (size : Int) : (resB d size).rd = d.rd ∧ (resB d size).cnt = d.cnt := by
  unfold resB
  split <;> exact ⟨rfl, rfl⟩
theorem take_rd {d : Bx} (h : Bk d) (n : Int) : d.rd ≤ (takeB d n).rd ∧ (takeB d n).rd ≤ d.rd + 4096 ∧ (takeB d n).cnt = d.cnt := by
  have h1 := takeL_le h n
  have h2 := h.most
  refine ⟨?_, ?_, rfl⟩
  · show d.rd ≤ d.rd + _
    omega
  · show d.rd + _ ≤ _
    omega
theorem Bw.put {d : Bx} (h : Bw d) (off : Int) (s : ByteArray) (fin : Bool) (hc : d.cnt + s.size < 1099511627776) : Bw (putB d off s fin) := by
  obtain ⟨h1, h2⟩ := put_rd d off s fin
  exact ⟨h.k.put off s fin, by rw [h1]; exact h.rd, by omega⟩
theorem Bw.res {d : Bx} (h : Bw d) (size : Int) : Bw (resB d size) := by
  obtain ⟨h1, h2⟩ := res_rd d size
  exact ⟨h.k.res size, by rw [h1]; exact h.rd, by rw [h2]; exact h.cnt⟩
theorem Bw.take {d : Bx} (h : Bw d) (n : Int) (hr : d.rd + 4096 < 1152921504606846976) : Bw (takeB d n) := by
  obtain ⟨h1, h2, h3⟩ := take_rd h.k n
  exact ⟨h.k.take n, by omega, by rw [h3]; exact h.cnt⟩
/-- One stream, made after the world w0, in the blocks F. -/
structure PI (LS : BSt) (w0 w : World) (B : Nat) (F : Nat → Prop) (d : Bx) : Prop where
  s : LS w B F d
  ok : Bw d
  ge : ∀ k, F k → w0.heap.size ≤ k
  bel : Below w0.heap.size w0 w
section
variable {LS : BSt} {w0 w w' : World} {B : Nat} {F : Nat → Prop} {d : Bx}
theorem PI.keep (fc : InFace LS) (h : PI LS w0 w B F d) (b : Below w.heap.size w w') : PI LS w0 w' B F d :=
  ⟨fc.keep h.s fun k hk => b.block k (fc.lt h.s k hk), h.ok, h.ge, h.bel.trans (b.mono h.bel.size)⟩
theorem PI.keepK (fc : InFace LS) {G : Nat → Prop} (h : PI LS w0 w B F d) (b : Kept G w w') (q : ∀ k, F k → ¬ G k) (g : ∀ k, G k → w0.heap.size ≤ k) : PI LS w0 w' B F d :=
  ⟨fc.keep h.s fun k hk => b.block k (fc.lt h.s k hk) (q k hk), h.ok, h.ge, h.bel.trans (b.below h.bel.size g)⟩
theorem PI.step {F' : Nat → Prop} {d' : Bx} (h : PI LS w0 w B F d) (hs : LS w' B F' d') (ok : Bw d') (hg : ∀ k, F' k → F k ∨ w.heap.size ≤ k) (hk : Kept F w w') : PI LS w0 w' B F' d' :=
  ⟨hs, ok, fun k q => (hg k q).elim (h.ge k) fun r => Nat.le_trans h.bel.size r, h.bel.trans (hk.below h.bel.size h.ge)⟩
theorem pi_new (fc : InFace LS) (w0 w : World) (b : Below w0.heap.size w0 w) :
    Calls Try.prog 7 #[] w fun e w' => ∃ B F, e = .returned (ptr B) ∧ PI LS w0 w' B F bx0 ∧ (∀ k, F k → w.heap.size ≤ k) := by
  refine (fc.new w).mono ?_
  rintro e w' ⟨B, F, rfl, h, g, b'⟩
  exact ⟨B, F, rfl, ⟨h, Bw.new, fun k hk => Nat.le_trans b.size (g k hk), b.trans (b'.mono b.size)⟩, g⟩
theorem pi_put (fc : InFace LS) (off : Int) (s : ByteArray) (fin : Bool) (h : PI LS w0 w B F d) (h1 : In64 off) (h2 : s.size ≤ 1000000000) (hc : d.cnt ≤ 1000000000) :
    Calls Try.prog 9 #[ptr B, .int .i64 off, .string s, .bool fin] w fun e w' => e = .returned (.int .i64 (putE d off s.size fin)) ∧ ∃ F', PI LS w0 w' B F' (putB d off s fin) ∧ (∀ k, F' k → F k ∨ w.heap.size ≤ k) ∧ Kept F w w' := by
  refine (fc.put w B F d off s fin h.s h.ok h1 (by omega)).mono ?_
  rintro e w' ⟨rfl, F', hs, hg, hk⟩
  exact ⟨rfl, F', h.step hs (h.ok.put off s fin (by omega)) hg hk, hg, hk⟩
theorem pi_reset (fc : InFace LS) (size : Int) (h : PI LS w0 w B F d) (h1 : In64 size) :
    Calls Try.prog 11 #[ptr B, .int .i64 size] w fun e w' => e = .returned (.int .i64 (resE d size)) ∧ ∃ F', PI LS w0 w' B F' (resB d size) ∧ (∀ k, F' k → F k ∨ w.heap.size ≤ k) ∧ Kept F w w' := by
  refine (fc.reset w B F d size h.s h.ok h1).mono ?_
  rintro e w' ⟨rfl, F', hs, hg, hk⟩
  exact ⟨rfl, F', h.step hs (h.ok.res size) hg hk, hg, hk⟩
theorem pi_read (fc : InFace LS) (n : Int) (h : PI LS w0 w B F d) (h1 : In64 n) (hr : d.rd ≤ 1000000000) :
    Calls Try.prog 13 #[ptr B, .int .i64 n] w fun e w' => e = .returned (.string (strOfNums (takeL d n))) ∧ ∃ F', PI LS w0 w' B F' (takeB d n) ∧ (∀ k, F' k → F k ∨ w.heap.size ≤ k) ∧ Kept F w w' := by
  refine (fc.read w B F d n h.s h.ok h1).mono ?_
  rintro e w' ⟨rfl, F', hs, hg, hk⟩
  exact ⟨rfl, F', h.step hs (h.ok.take n (by omega)) hg hk, hg, hk⟩
theorem pi_state (fc : InFace LS) (h : PI LS w0 w B F d) :
    Calls Try.prog 15 #[ptr B] w fun e w' => e = .returned (.tuple #[.int .i64 d.rd, .int .i64 (lim d), .int .i64 (ended d)]) ∧ Below w.heap.size w w' := fc.state w B F d h.s h.ok
end
/-- Blocks that are as before. -/
def SameX (X : Nat → Prop) (w w' : World) : Prop := ∀ k, X k → w'.heap[k]? = w.heap[k]?
/-- A stream of the program's and one of the document's; the blocks X belong to neither. -/
structure KI (LS : BSt) (X : Nat → Prop) (w0 w : World) (B : Nat) (F : Nat → Prop) (d : Bx) (R m : Nat) (e : Bx) : Prop where
  p : PI LS w0 w B F d
  okm : Bw e
  ge : w0.heap.size ≤ R ∧ w0.heap.size ≤ m
  nR : ¬ F R ∧ ¬ F m
  nX : ∀ k, X k → ¬ F k ∧ k ≠ R ∧ k ≠ m ∧ k < w.heap.size
  ref : RX w R m e
section
variable {LS : BSt} {X : Nat → Prop} {w0 w w' : World} {B R m : Nat} {F : Nat → Prop} {d e : Bx}
theorem KI.keep (fc : InFace LS) (h : KI LS X w0 w B F d R m e) (b : Below w.heap.size w w') : KI LS X w0 w' B F d R m e :=
  ⟨h.p.keep fc b, h.okm, h.ge, h.nR, fun k q => ⟨(h.nX k q).1, (h.nX k q).2.1, (h.nX k q).2.2.1, Nat.lt_of_lt_of_le (h.nX k q).2.2.2 b.size⟩, h.ref.keep b⟩
theorem KI.drop (h : KI LS X w0 w B F d R m e) : KI LS (fun _ => False) w0 w B F d R m e := ⟨h.p, h.okm, h.ge, h.nR, fun _ q => q.elim, h.ref⟩
theorem KI.fresh (fc : InFace LS) (h : KI LS X w0 w B F d R m e) (b : Below w.heap.size w w') (g : Nat) (hg : w.heap.size ≤ g ∧ g < w'.heap.size) : KI LS (fun k => k = g) w0 w' B F d R m e := by
  obtain ⟨l1, l2⟩ := h.ref.lt
  have k := h.keep fc b
  exact ⟨k.p, k.okm, k.ge, k.nR, fun k q => q ▸ ⟨fun r => by have := fc.lt h.p.s g r; omega, by omega, by omega, hg.2⟩, k.ref⟩
theorem KI.step {F' : Nat → Prop} {d' : Bx} (h : KI LS X w0 w B F d R m e) (hp : PI LS w0 w' B F' d') (hg : ∀ k, F' k → F k ∨ w.heap.size ≤ k) (hk : Kept F w w') : KI LS X w0 w' B F' d' R m e ∧ SameX X w w' := by
  obtain ⟨l1, l2⟩ := h.ref.lt
  refine ⟨⟨hp, h.okm, h.ge, ⟨fun q => ?_, fun q => ?_⟩, fun k q => ⟨fun r => ?_, (h.nX k q).2.1, (h.nX k q).2.2.1, Nat.lt_of_lt_of_le (h.nX k q).2.2.2 hk.size⟩, h.ref.of (hk.block R l1 h.nR.1) (hk.block m l2 h.nR.2)⟩, fun k q => hk.block k (h.nX k q).2.2.2 (h.nX k q).1⟩
  · rcases hg R q with r | r
    · exact h.nR.1 r
    · omega
  · rcases hg m q with r | r
    · exact h.nR.2 r
    · omega
  · rcases hg k r with r | r
    · exact (h.nX k q).1 r
    · have := (h.nX k q).2.2.2
      omega
theorem KI.rstep (fc : InFace LS) {e' : Bx} (h : KI LS X w0 w B F d R m e) (hn : RX w' R m e') (ok : Bw e') (hk : Kept (fun k => k = R ∨ k = m) w w') : KI LS X w0 w' B F d R m e' ∧ SameX X w w' :=
  ⟨⟨h.p.keepK fc hk (fun k q r => r.elim (fun e => h.nR.1 (e ▸ q)) fun e => h.nR.2 (e ▸ q)) (fun k q => q.elim (fun e => e ▸ h.ge.1) fun e => e ▸ h.ge.2), ok, h.ge, h.nR, fun k q => ⟨(h.nX k q).1, (h.nX k q).2.1, (h.nX k q).2.2.1, Nat.lt_of_lt_of_le (h.nX k q).2.2.2 hk.size⟩, hn⟩, fun k q => hk.block k (h.nX k q).2.2.2 fun r => by
    rcases r with e | e
    · exact (h.nX k q).2.1 e
    · exact (h.nX k q).2.2.1 e⟩
theorem ki_new (fc : InFace LS) (h : PI LS w0 w B F d) :
    Calls Try.prog 8 #[] w fun e w' => ∃ R m, e = .returned (ptr R) ∧ KI LS (fun _ => False) w0 w' B F d R m bx0 := by
  refine (rnew_ok w).mono ?_
  rintro e w' ⟨R, m, rfl, h1, h2, h3, b⟩
  have z := h.bel.size
  exact ⟨R, m, rfl, h.keep fc b, Bw.new, ⟨by omega, by omega⟩, ⟨fun q => by have := fc.lt h.s _ q; omega, fun q => by have := fc.lt h.s _ q; omega⟩, fun _ q => q.elim, h1⟩
theorem ki_put (fc : InFace LS) (off : Int) (s : ByteArray) (fin : Bool) (h : KI LS X w0 w B F d R m e) (h1 : In64 off) (h2 : s.size ≤ 1000000000) (hc : d.cnt ≤ 1000000000) :
    Calls Try.prog 9 #[ptr B, .int .i64 off, .string s, .bool fin] w fun x w' => x = .returned (.int .i64 (putE d off s.size fin)) ∧ ∃ F', KI LS X w0 w' B F' (putB d off s fin) R m e ∧ SameX X w w' := by
  refine (pi_put fc off s fin h.p h1 h2 hc).mono ?_
  rintro x w' ⟨rfl, F', hs, hg, hk⟩
  exact ⟨rfl, F', h.step hs hg hk⟩
theorem ki_reset (fc : InFace LS) (size : Int) (h : KI LS X w0 w B F d R m e) (h1 : In64 size) :
    Calls Try.prog 11 #[ptr B, .int .i64 size] w fun x w' => x = .returned (.int .i64 (resE d size)) ∧ ∃ F', KI LS X w0 w' B F' (resB d size) R m e ∧ SameX X w w' := by
  refine (pi_reset fc size h.p h1).mono ?_
  rintro x w' ⟨rfl, F', hs, hg, hk⟩
  exact ⟨rfl, F', h.step hs hg hk⟩
theorem ki_read (fc : InFace LS) (n : Int) (h : KI LS X w0 w B F d R m e) (h1 : In64 n) (hr : d.rd ≤ 1000000000) :
    Calls Try.prog 13 #[ptr B, .int .i64 n] w fun x w' => x = .returned (.string (strOfNums (takeL d n))) ∧ ∃ F', KI LS X w0 w' B F' (takeB d n) R m e ∧ SameX X w w' := by
  refine (pi_read fc n h.p h1 hr).mono ?_
  rintro x w' ⟨rfl, F', hs, hg, hk⟩
  exact ⟨rfl, F', h.step hs hg hk⟩
theorem ki_rput (fc : InFace LS) (off : Int) (s : ByteArray) (fin : Bool) (h : KI LS X w0 w B F d R m e) (h2 : s.size ≤ 1000000000) (hc : e.cnt ≤ 1000000000) :
    Calls Try.prog 10 #[ptr R, .int .i64 off, .string s, .bool fin] w fun x w' => x = .returned (.int .i64 (putE e off s.size fin)) ∧ KI LS X w0 w' B F d R m (putB e off s fin) ∧ SameX X w w' := by
  refine (rput_ok R m e off s fin w h.ref h.okm (by omega)).mono ?_
  rintro x w' ⟨rfl, hn, hk⟩
  exact ⟨rfl, h.rstep fc hn (h.okm.put off s fin (by omega)) hk⟩
theorem ki_rend (fc : InFace LS) (size : Int) (h : KI LS X w0 w B F d R m e) :
    Calls Try.prog 12 #[ptr R, .int .i64 size] w fun x w' => x = .returned (.int .i64 (resE e size)) ∧ KI LS X w0 w' B F d R m (resB e size) ∧ SameX X w w' := by
  refine (rend_ok R m e size w h.ref h.okm).mono ?_
  rintro x w' ⟨rfl, hn, hk⟩
  exact ⟨rfl, h.rstep fc hn (h.okm.res size) (hk.mono fun _ _ q => .inl q)⟩
theorem ki_rtake (fc : InFace LS) (n : Int) (h : KI LS X w0 w B F d R m e) (hr : e.rd ≤ 1000000000) :
    Calls Try.prog 14 #[ptr R, .int .i64 n] w fun x w' => x = .returned (.string (strOfNums (takeL e n))) ∧ KI LS X w0 w' B F d R m (takeB e n) ∧ SameX X w w' := by
  refine (rtake_ok R m e n w h.ref h.okm).mono ?_
  rintro x w' ⟨rfl, hn, hk⟩
  exact ⟨rfl, h.rstep fc hn (h.okm.take n (by omega)) (hk.mono fun _ _ q => .inl q)⟩
end
end Go.Proofs.Ytpendchkalagnaa
