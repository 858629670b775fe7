/-
  The program's queues and the document's, side by side. No condition but what always holds of queues, and how many were pushed.
-/
import Derived.Test.YtiamlldooihkdaaFaOr
import Derived.Test.YtiamlldooihkdaaFaRd
import Derived.Test.YtiamlldooihkdaaFaRn
namespace Go.Proofs.Ytiamlldooihkdaa
set_option maxRecDepth 100000
open Go.RowKit

structure Tw (W w : World) (B R : Nat) (f g : FaQ) (X : Nat → Prop) : Prop where
  ex : ∃ F G, FP w B F f ∧ RF w R G g ∧ (∀ k, F k → ¬ G k) ∧ (∀ k, F k → W.heap.size ≤ k ∧ ¬ X k) ∧ ∀ k, G k → W.heap.size ≤ k ∧ ¬ X k
  xl : ∀ k, X k → k < w.heap.size
  bel : Below W.heap.size W w
section
variable {W w : World} {B R : Nat} {f g : FaQ} {X : Nat → Prop}
theorem Tw.okp (h : Tw W w B R f g X) : f.Ok := by
  obtain ⟨⟨F, G, p, -⟩, -, -⟩ := h
  exact p.ok
theorem Tw.with (h : Tw W w B R f g X) (o : Obj) : Tw W (w.alloc o) B R f g fun k => k = w.heap.size := by
  obtain ⟨⟨F, G, p, r, d, hF, hG⟩, xl, bl⟩ := h
  have b := al_b w o
  exact ⟨⟨F, G, p.keep (fun k hk => b.block k (p.lt k hk)) b.size, r.keep (fun k hk => b.block k (r.1 k hk)) b.size, d, fun k hk => ⟨(hF k hk).1, fun q => by have := p.lt k hk; omega⟩, fun k hk => ⟨(hG k hk).1, fun q => by have := r.1 k hk; omega⟩⟩, fun k hk => by rw [hk]; simp, bl.trans (b.mono bl.size)⟩
theorem Tw.without (h : Tw W w B R f g X) : Tw W w B R f g fun _ => False := by
  obtain ⟨⟨F, G, p, r, d, hF, hG⟩, xl, bl⟩ := h
  exact ⟨⟨F, G, p, r, d, fun k hk => ⟨(hF k hk).1, id⟩, fun k hk => ⟨(hG k hk).1, id⟩⟩, fun _ => False.elim, bl⟩
theorem Tw.keep {w' : World} (h : Tw W w B R f g X) (b : Below w.heap.size w w') : Tw W w' B R f g X := by
  obtain ⟨⟨F, G, p, r, d, hF, hG⟩, xl, bl⟩ := h
  exact ⟨⟨F, G, p.keep (fun k hk => b.block k (p.lt k hk)) b.size, r.keep (fun k hk => b.block k (r.1 k hk)) b.size, d, hF, hG⟩, fun k hk => Nat.lt_of_lt_of_le (xl k hk) b.size, bl.trans (b.mono bl.size)⟩
/-- Behind a call of the program's; of the document's. -/
theorem Tw.ofP {w' : World} {f' : FaQ} {F F' G : Nat → Prop} (r : RF w R G g) (d : ∀ k, F k → ¬ G k) (hF : ∀ k, F k → W.heap.size ≤ k ∧ ¬ X k) (hG : ∀ k, G k → W.heap.size ≤ k ∧ ¬ X k) (xl : ∀ k, X k → k < w.heap.size) (bl : Below W.heap.size W w) (p' : FP w' B F' f') (hF' : ∀ k, F' k → F k ∨ w.heap.size ≤ k) (K : Kept F w w') : Tw W w' B R f' g X ∧ KX X w w' :=
  ⟨⟨⟨F', G, p', r.keep (fun k hk => K.block k (r.1 k hk) fun q => d k q hk) K.size, fun k hk q => by
    rcases hF' k hk with z | z
    · exact d k z q
    · have := r.1 k q; omega, fun k hk => by
    rcases hF' k hk with z | z
    · exact hF k z
    · exact ⟨Nat.le_trans bl.size z, fun q => by have := xl k q; omega⟩, hG⟩, fun k hk => Nat.lt_of_lt_of_le (xl k hk) K.size, bl.trans (K.below bl.size fun k hk => (hF k hk).1)⟩, fun k hk => K.block k (xl k hk) fun q => (hF k q).2 hk⟩
theorem Tw.ofR {w' : World} {g' : FaQ} {F G : Nat → Prop} (p : FP w B F f) (d : ∀ k, F k → ¬ G k) (hF : ∀ k, F k → W.heap.size ≤ k ∧ ¬ X k) (hG : ∀ k, G k → W.heap.size ≤ k ∧ ¬ X k) (xl : ∀ k, X k → k < w.heap.size) (bl : Below W.heap.size W w) (r' : RF w' R (more G w w') g') (K : Kept G w w') : Tw W w' B R f g' X ∧ KX X w w' :=
  ⟨⟨⟨F, more G w w', p.keep (fun k hk => K.block k (p.lt k hk) (d k hk)) K.size, r', fun k hk q => by
    rcases q with z | z
    · exact d k hk z
    · have := p.lt k hk; omega, hF, fun k hk => by
    rcases hk with z | z
    · exact hG k z
    · exact ⟨Nat.le_trans bl.size z.1, fun q => by have := xl k q; omega⟩⟩, fun k hk => Nat.lt_of_lt_of_le (xl k hk) K.size, bl.trans (K.below bl.size fun k hk => (hG k hk).1)⟩, fun k hk => K.block k (xl k hk) fun q => (hG k q).2 hk⟩
theorem Tw.push (h : Tw W w B R f g X) (x : Int) (s : ByteArray) (hx : In64 x) (hz : f.pz < 1000000) (hs : s.size ≤ 9223372036854775807) :
    Calls Try.prog 10 #[ptr B, .int .i64 x, .string s] w fun e w' => e = .returned (.int .i64 (pushE f x s)) ∧ Tw W w' B R (pushQ f x s) g X ∧ KX X w w' := by
  obtain ⟨⟨F, G, p, r, d, hF, hG⟩, xl, bl⟩ := h
  refine (fp_push p x s hx hz hs).mono ?_
  rintro e w' ⟨rfl, F', p', hF', K⟩
  exact ⟨rfl, Tw.ofP r d hF hG xl bl p' hF' K⟩
theorem Tw.next (h : Tw W w B R f g X) (hz : f.pz < 1000000) :
    Calls Try.prog 12 #[ptr B] w fun e w' => e = .returned (nextV f) ∧ Tw W w' B R (nextE f) g X ∧ KX X w w' := by
  obtain ⟨⟨F, G, p, r, d, hF, hG⟩, xl, bl⟩ := h
  refine (fp_next p hz).mono ?_
  rintro e w' ⟨rfl, F', p', hF', K⟩
  exact ⟨rfl, Tw.ofP r d hF hG xl bl p' hF' K⟩
theorem Tw.drop (h : Tw W w B R f g X) (x : Int) (hx : In64 x) (hz : f.pz < 1000000) :
    Calls Try.prog 14 #[ptr B, .int .i64 x] w fun e w' => e = .returned (.int .i64 (lsE f.r x).length) ∧ Tw W w' B R (dropE f x) g X ∧ KX X w w' := by
  obtain ⟨⟨F, G, p, r, d, hF, hG⟩, xl, bl⟩ := h
  refine (fp_drop p x hx hz).mono ?_
  rintro e w' ⟨rfl, F', p', hF', K⟩
  exact ⟨rfl, Tw.ofP r d hF hG xl bl p' hF' K⟩
theorem Tw.count (h : Tw W w B R f g X) :
    Calls Try.prog 16 #[ptr B] w fun e w' => e = .returned (.int .i64 (cntE f.r)) ∧ w = w' := by
  obtain ⟨⟨F, G, p, r, d, hF, hG⟩, xl, bl⟩ := h
  exact fp_count p
theorem Tw.rpush (h : Tw W w B R f g X) (x : Int) (s : ByteArray) (hx : In64 x) (hz : g.pz < 1000000) (hs : s.size ≤ 9223372036854775807) :
    Calls Try.prog 11 #[ptr R, .int .i64 x, .string s] w fun e w' => e = .returned (.int .i64 (pushE g x s)) ∧ Tw W w' B R f (pushQ g x s) X ∧ KX X w w' := by
  obtain ⟨⟨F, G, p, r, d, hF, hG⟩, xl, bl⟩ := h
  refine (rpush_ok r x s hx hz hs).mono ?_
  rintro e w' ⟨rfl, r', K⟩
  exact ⟨rfl, Tw.ofR p d hF hG xl bl r' K⟩
theorem Tw.rnext (h : Tw W w B R f g X) (hz : g.pz < 1000000) :
    Calls Try.prog 13 #[ptr R] w fun e w' => e = .returned (nextV g) ∧ Tw W w' B R f (nextE g) X ∧ KX X w w' := by
  obtain ⟨⟨F, G, p, r, d, hF, hG⟩, xl, bl⟩ := h
  refine (rnext_ok r hz).mono ?_
  rintro e w' ⟨rfl, r', K⟩
  exact ⟨rfl, Tw.ofR p d hF hG xl bl r' K⟩
theorem Tw.rdrop (h : Tw W w B R f g X) (x : Int) (hz : g.pz < 1000000) :
    Calls Try.prog 15 #[ptr R, .int .i64 x] w fun e w' => e = .returned (.int .i64 (lsE g.r x).length) ∧ Tw W w' B R f (dropE g x) X ∧ KX X w w' := by
  obtain ⟨⟨F, G, p, r, d, hF, hG⟩, xl, bl⟩ := h
  refine (rdrop_ok r x hz).mono ?_
  rintro e w' ⟨rfl, r', K⟩
  exact ⟨rfl, Tw.ofR p d hF hG xl bl r' K⟩
theorem Tw.rcount (h : Tw W w B R f g X) (hz : g.pz < 1000000) :
    Calls Try.prog 17 #[ptr R] w fun e w' => e = .returned (.int .i64 (cntE g.r)) ∧ w = w' := by
  obtain ⟨⟨F, G, p, r, d, hF, hG⟩, xl, bl⟩ := h
  exact rcount_ok r hz
end
theorem tw_new {W w : World} {B : Nat} {f : FaQ} (h : FW W w B f) (lim qu : Int) : Calls Try.prog 9 #[.int .i64 lim, .int .i64 qu] w fun e w' => ∃ R, e = .returned (ptr R) ∧ Tw W w' B R f (newE lim qu) fun _ => False := by
  obtain ⟨⟨F, p, hF⟩, bl⟩ := h
  refine (rnew_ok lim qu w).mono ?_
  rintro e w' ⟨R, rfl, r, hR, b⟩
  exact ⟨R, rfl, ⟨F, _, p.keep (fun k hk => b.block k (p.lt k hk)) b.size, r, fun k hk q => by have := p.lt k hk; omega, fun k hk => ⟨hF k hk, id⟩, fun k hk => ⟨by rw [hk]; exact Nat.le_trans bl.size hR, id⟩⟩, fun _ => False.elim, bl.trans (b.mono bl.size)⟩
end Go.Proofs.Ytiamlldooihkdaa
