/-
  The program's own queues beside a map of rows of texts, each row in blocks of its own, and beside blocks of others. No condition but how many were pushed.
-/
import Derived.Test.YtiamlldooihkdaaFaFp
import Derived.Test.YtiamlldooihkdaaFaTells
namespace Go.Proofs.Ytiamlldooihkdaa
set_option maxRecDepth 100000
open Go.RowKit

def MS : MapK := ⟨38, 2, 39, .slice none 0 0⟩
theorem ms_ok : MS.Ok := ⟨Try.underlying38, Try.underlying2, fun w => by kernel_rfl⟩
abbrev rowOf (S : Int → Option Value) (x : Int) : Value := (S x).getD (.slice none 0 0)
def setL (m : Int → List ByteArray) (x : Int) (l : List ByteArray) : Int → List ByteArray := fun y => if y = x then l else m y
structure OrX (W w : World) (B : Nat) (f : FaQ) (b n : Nat) (m : Int → List ByteArray) (X F : Nat → Prop) (S : Int → Option Value) (G : Nat → Option Int) : Prop where
  fp : FP w B F f
  mp : MapV MS w b n S
  row : ∀ x, RowZ KS w (rowOf S x) (m x)
  own : ∀ x k, (rowOf S x).ownBlock = some k → G k = some x
  hF : ∀ k, F k → W.heap.size ≤ k ∧ k ≠ b ∧ G k = none ∧ ¬ X k
  hG : ∀ k, G k ≠ none → k < w.heap.size ∧ W.heap.size ≤ k ∧ k ≠ b ∧ ¬ X k
  bW : W.heap.size ≤ b
  bX : ¬ X b
  xl : ∀ k, X k → k < w.heap.size
  bel : Below W.heap.size W w
def Or (W w : World) (B : Nat) (f : FaQ) (b n : Nat) (m : Int → List ByteArray) (X : Nat → Prop) : Prop := ∃ F S G, OrX W w B f b n m X F S G
theorem Or.bel {W w : World} {B : Nat} {f : FaQ} {b n : Nat} {m : Int → List ByteArray} {X : Nat → Prop} (h : Or W w B f b n m X) : Below W.heap.size W w := by
  obtain ⟨F, S, G, h⟩ := h
  exact h.bel
theorem Or.ok {W w : World} {B : Nat} {f : FaQ} {b n : Nat} {m : Int → List ByteArray} {X : Nat → Prop} (h : Or W w B f b n m X) : f.Ok := by
  obtain ⟨F, S, G, h⟩ := h
  exact h.fp.ok
theorem Or.blt {W w : World} {B : Nat} {f : FaQ} {b n : Nat} {m : Int → List ByteArray} {X : Nat → Prop} (h : Or W w B f b n m X) : b < w.heap.size := by
  obtain ⟨F, S, G, h⟩ := h
  exact h.mp.lt
/-- Others' blocks are as they were. -/
def KX (X : Nat → Prop) (w w' : World) : Prop := ∀ k, X k → w'.heap[k]? = w.heap[k]?
theorem OrX.keep {W w w' : World} {B : Nat} {f : FaQ} {b n : Nat} {m : Int → List ByteArray} {X F : Nat → Prop} {S : Int → Option Value} {G : Nat → Option Int} (h : OrX W w B f b n m X F S G) (k : Below w.heap.size w w') : OrX W w' B f b n m X F S G :=
  ⟨h.fp.keep (fun j hj => k.block j (h.fp.lt j hj)) k.size, h.mp.keep k, fun x => (h.row x).keep k, h.own, h.hF, fun j hj => ⟨Nat.lt_of_lt_of_le (h.hG j hj).1 k.size, (h.hG j hj).2⟩, h.bW, h.bX, fun j hj => Nat.lt_of_lt_of_le (h.xl j hj) k.size, h.bel.trans (k.mono h.bel.size)⟩
theorem Or.keep {W w w' : World} {B : Nat} {f : FaQ} {b n : Nat} {m : Int → List ByteArray} {X : Nat → Prop} (h : Or W w B f b n m X) (k : Below w.heap.size w w') : Or W w' B f b n m X := by
  obtain ⟨F, S, G, h⟩ := h
  exact ⟨F, S, G, h.keep k⟩
/-- One block more of others, a new one; none. -/
theorem Or.with {W w : World} {B : Nat} {f : FaQ} {b n : Nat} {m : Int → List ByteArray} {X : Nat → Prop} (h : Or W w B f b n m X) (o : Obj) : Or W (w.alloc o) B f b n m fun k => k = w.heap.size := by
  obtain ⟨F, S, G, h⟩ := h
  have b1 : Below w.heap.size w (w.alloc o) := (Below.refl _ _).alloc (Nat.le_refl _) _
  have g := h.keep b1
  have hb := h.mp.lt
  exact ⟨F, S, G, g.fp, g.mp, g.row, g.own, fun k hk => ⟨(h.hF k hk).1, (h.hF k hk).2.1, (h.hF k hk).2.2.1, fun q => by have := h.fp.lt k hk; omega⟩, fun k hk => ⟨(g.hG k hk).1, (h.hG k hk).2.1, (h.hG k hk).2.2.1, fun q => by have := (h.hG k hk).1; omega⟩, h.bW, fun q => by omega, fun k hk => by rw [hk]; simp, g.bel⟩
theorem Or.without {W w : World} {B : Nat} {f : FaQ} {b n : Nat} {m : Int → List ByteArray} {X : Nat → Prop} (h : Or W w B f b n m X) : Or W w B f b n m fun _ => False := by
  obtain ⟨F, S, G, h⟩ := h
  exact ⟨F, S, G, h.fp, h.mp, h.row, h.own, fun k hk => ⟨(h.hF k hk).1, (h.hF k hk).2.1, (h.hF k hk).2.2.1, id⟩, fun k hk => ⟨(h.hG k hk).1, (h.hG k hk).2.1, (h.hG k hk).2.2.1, id⟩, h.bW, id, fun _ => False.elim, h.bel⟩
/-- Behind a call of the program's. -/
theorem OrX.of {W w w' : World} {B : Nat} {f f' : FaQ} {b n : Nat} {m : Int → List ByteArray} {X F F' : Nat → Prop} {S : Int → Option Value} {G : Nat → Option Int} (h : OrX W w B f b n m X F S G) (h' : FP w' B F' f') (hF' : ∀ k, F' k → F k ∨ w.heap.size ≤ k) (K : Kept F w w') : OrX W w' B f' b n m X F' S G ∧ KX X w w' := by
  have nF : ∀ k, (G k ≠ none ∨ k = b ∨ X k) → ¬ F k := fun k hk q => by
    obtain ⟨-, h1, h2, h3⟩ := h.hF k q
    rcases hk with z | z | z
    · exact z h2
    · exact h1 z
    · exact h3 z
  have hb := h.mp.lt
  refine ⟨⟨h', h.mp.of_block (K.block b hb (nF b (.inr (.inl rfl)))), fun x => (h.row x).of fun k hk => K.block k ((h.row x).lt k hk) (nF k (.inl (by rw [h.own x k hk]; simp))), h.own, fun k hk => ?_, fun k hk => ⟨Nat.lt_of_lt_of_le (h.hG k hk).1 K.size, (h.hG k hk).2⟩, h.bW, h.bX, fun k hk => Nat.lt_of_lt_of_le (h.xl k hk) K.size, h.bel.trans (K.below h.bel.size fun k hk => (h.hF k hk).1)⟩, fun k hk => K.block k (h.xl k hk) (nF k (.inr (.inr hk)))⟩
  rcases hF' k hk with q | q
  · exact h.hF k q
  · refine ⟨Nat.le_trans h.bel.size q, by omega, ?_, fun z => by have := h.xl k z; omega⟩
    cases hg : G k with
    | none => rfl
    | some x =>
      have := (h.hG k (by rw [hg]; simp)).1
      omega
theorem Or.push {W w : World} {B : Nat} {f : FaQ} {b n : Nat} {m : Int → List ByteArray} {X : Nat → Prop} (h : Or W w B f b n m X) (x : Int) (s : ByteArray) (hx : In64 x) (hz : f.pz < 1000000) (hs : s.size ≤ 9223372036854775807) :
    Calls Try.prog 10 #[ptr B, .int .i64 x, .string s] w fun e w' => e = .returned (.int .i64 (pushE f x s)) ∧ Or W w' B (pushQ f x s) b n m X ∧ KX X w w' := by
  obtain ⟨F, S, G, h⟩ := h
  refine (fp_push h.fp x s hx hz hs).mono ?_
  rintro e w' ⟨rfl, F', h', hF', K⟩
  obtain ⟨g, k⟩ := h.of h' hF' K
  exact ⟨rfl, ⟨F', S, G, g⟩, k⟩
theorem Or.next {W w : World} {B : Nat} {f : FaQ} {b n : Nat} {m : Int → List ByteArray} {X : Nat → Prop} (h : Or W w B f b n m X) (hz : f.pz < 1000000) :
    Calls Try.prog 12 #[ptr B] w fun e w' => e = .returned (nextV f) ∧ Or W w' B (nextE f) b n m X ∧ KX X w w' := by
  obtain ⟨F, S, G, h⟩ := h
  refine (fp_next h.fp hz).mono ?_
  rintro e w' ⟨rfl, F', h', hF', K⟩
  obtain ⟨g, k⟩ := h.of h' hF' K
  exact ⟨rfl, ⟨F', S, G, g⟩, k⟩
/-- .. what Drop leaves, with the map's answer. -/
theorem Or.drop {W w : World} {B : Nat} {f : FaQ} {b n : Nat} {m : Int → List ByteArray} {X : Nat → Prop} (h : Or W w B f b n m X) (x : Int) (hx : In64 x) (hz : f.pz < 1000000) :
    Calls Try.prog 14 #[ptr B, .int .i64 x] w fun e w' => e = .returned (.int .i64 (lsE f.r x).length) ∧ Or W w' B (dropE f x) b n m X ∧ KX (fun k => X k ∨ k = b) w w' := by
  obtain ⟨F, S, G, h⟩ := h
  refine (fp_drop h.fp x hx hz).mono ?_
  rintro e w' ⟨rfl, F', h', hF', K⟩
  obtain ⟨g, k⟩ := h.of h' hF' K
  refine ⟨rfl, ⟨F', S, G, g⟩, fun j hj => ?_⟩
  rcases hj with q | q
  · exact k j q
  · rw [q]
    exact K.block b h.mp.lt fun z => (h.hF b z).2.1 rfl
theorem Or.count {W w : World} {B : Nat} {f : FaQ} {b n : Nat} {m : Int → List ByteArray} {X : Nat → Prop} (h : Or W w B f b n m X) :
    Calls Try.prog 16 #[ptr B] w fun e w' => e = .returned (.int .i64 (cntE f.r)) ∧ w = w' := by
  obtain ⟨F, S, G, h⟩ := h
  exact fp_count h.fp
theorem Or.made {W w : World} {B : Nat} {f : FaQ} (h : FW W w B f) : Or W (w.alloc (.map #[] 0)) B f w.heap.size 0 (fun _ => []) fun _ => False := by
  obtain ⟨⟨F, h, hF⟩, bl⟩ := h
  have b1 : Below w.heap.size w (w.alloc (.map #[] 0)) := (Below.refl _ _).alloc (Nat.le_refl _) _
  exact ⟨F, fun _ => none, fun _ => none, h.keep (fun k hk => b1.block k (h.lt k hk)) b1.size, MapV.made w, fun x => .nil _, fun x k hk => (by cases hk), fun k hk => ⟨hF k hk, (by have := h.lt k hk; omega), rfl, id⟩, fun k hk => absurd rfl hk, bl.size, id, fun _ => False.elim, bl.trans (b1.mono bl.size)⟩
/-- The map's entry of x turned: to another part of its own row, or to a new row. -/
theorem OrX.upd {W w : World} {B : Nat} {f : FaQ} {b n : Nat} {m : Int → List ByteArray} {X F : Nat → Prop} {S : Int → Option Value} {G : Nat → Option Int} (h : OrX W w B f b n m X F S G) (hn : n < 100000) {x : Int} (hx : In64 x) {v : Value} {l : List ByteArray} (hv : RowZ KS w v l) (ho : ∀ k, v.ownBlock = some k → G k = some x) :
    ∃ w', (Instr.mapUpdate 38 (.map (some b)) (.int .i64 x) v).run Try.prog w = .ok () w' ∧ Or W w' B f b (n + 1) (setL m x l) X ∧ KX X w w' := by
  obtain ⟨w', hr, m', g⟩ := h.mp.put ms_ok (by unfold maxLen; omega) hx v
  have blk : ∀ k, k < w.heap.size → k ≠ b → w'.heap[k]? = w.heap[k]? := fun k hk hb => g.block k hk fun q => hb (by injection q)
  have hsz := g.size
  refine ⟨w', hr, ⟨F, _, G, h.fp.keep (fun k hk => blk k (h.fp.lt k hk) (h.hF k hk).2.1) hsz, m', fun y => ?_, fun y k hk => ?_, h.hF, fun k hk => ⟨Nat.lt_of_lt_of_le (h.hG k hk).1 hsz, (h.hG k hk).2⟩, h.bW, h.bX, fun k hk => Nat.lt_of_lt_of_le (h.xl k hk) hsz, h.bel.trans ⟨g.os, g.tape, g.output, hsz, fun k hk => blk k (Nat.lt_of_lt_of_le hk h.bel.size) (fun q => by have := h.bW; omega)⟩⟩, fun k hk => blk k (h.xl k hk) fun q => h.bX (q ▸ hk)⟩
  · unfold setL rowOf
    dsimp only
    by_cases e : y = x
    · rw [if_pos e, if_pos e]
      exact hv.of fun k hk => blk k (hv.lt k hk) (h.hG k (by rw [ho k hk]; simp)).2.2.1
    · rw [if_neg e, if_neg e]
      exact (h.row y).of fun k hk => blk k ((h.row y).lt k hk) (h.hG k (by rw [h.own y k hk]; simp)).2.2.1
  · unfold rowOf at hk
    dsimp only at hk
    by_cases e : y = x
    · rw [if_pos e] at hk
      rw [e]
      exact ho k hk
    · rw [if_neg e] at hk
      exact h.own y k hk
/-- The map's answer. -/
theorem Or.look {W w : World} {B : Nat} {f : FaQ} {b n : Nat} {m : Int → List ByteArray} {X : Nat → Prop} (h : Or W w B f b n m X) {x : Int} (hx : In64 x) : ∃ a c, (∀ w', w'.heap[b]? = w.heap[b]? → (Instr.lookup 38 (.map (some b)) (.int .i64 x) false).run Try.prog w' = .ok (.slice a (m x).length c) w') ∧ (∀ s t, m x = s :: t → ∃ g o, a = some ⟨g, o, none⟩ ∧ w.cell? ⟨g, o, none⟩ = some (.string s)) ∧
    -- the first cut
    (∀ s t, m x = s :: t → n < 100000 → ∃ a' n' c' w', (Instr.sliceAt 39 (.slice a (m x).length c) (some (.int .i64 1)) none none).run Try.prog w = .ok (.slice a' n' c') w ∧ (Instr.mapUpdate 38 (.map (some b)) (.int .i64 x) (.slice a' n' c')).run Try.prog w = .ok () w' ∧ Or W w' B f b (n + 1) (setL m x t) X ∧ KX X w w') ∧
    -- one more put behind
    (∀ s, (m x).length < 100000 → n < 100000 → ∃ a' n' c' w5 w', (∀ z, (builtin .append #[39, 39] 39 z #[.slice a (m x).length c, .slice (some ⟨w.heap.size, 0, none⟩) 1 1]).run Try.prog (w.alloc (.cells #[.string s] 9)) = .ok (.value (.slice a' n' c')) w5) ∧ (Instr.mapUpdate 38 (.map (some b)) (.int .i64 x) (.slice a' n' c')).run Try.prog w5 = .ok () w' ∧ Or W w' B f b (n + 1) (setL m x (m x ++ [s])) X ∧ KX X w w' ∧ KX (fun k => X k ∨ k = b) w w5) := by
  obtain ⟨F, S, G, h⟩ := h
  obtain ⟨a, c, hv, -⟩ := (h.row x).slice
  have hb := h.mp.lt
  refine ⟨a, c, fun w' e => ?_, fun s t hm => ?_, fun s t hm hn => ?_, fun s hl hn => ?_⟩
  · have := (h.mp.of_block e).look ms_ok hx
    rw [← hv]
    exact this
  · have := h.row x
    rw [hm] at this
    obtain ⟨g, o, c', hv', hc, -⟩ := this.first ks_ok rfl
    rw [hv'] at hv
    injection hv with hv
    exact ⟨g, o, hv.symm, hc⟩
  · have hr := h.row x
    have ho := h.own x
    rw [hv] at hr ho
    have hc := hr.cut ks_ok 1 (by rw [hm]; simp)
    obtain ⟨w', h1, h2, h3⟩ := h.upd hn hx hc (fun k hk => ho k (by rw [dropZ_block] at hk; exact hk))
    have e : (m x).drop 1 = t := by rw [hm]; rfl
    rw [e] at h2
    exact ⟨_, _, _, w', run_cutZ ks_ok w a _ c 1 1 rfl (by rw [hm]; simp), h1, h2, h3⟩
  · obtain ⟨a5, n5, c5, w5, hap, r5, -, ho, k5⟩ := (h.row x).snoc ks_ok s 9 39 (by show ((m x).length + 1) * 16 ≤ _; omega) (by show (m x).length + 1 ≤ _; unfold maxLen; omega)
    have nx : ∀ k, (rowOf S x).ownBlock = some k → G k = some x := h.own x
    have blk : ∀ k, k < w.heap.size → G k ≠ some x → w5.heap[k]? = w.heap[k]? := fun k hk hg => k5.block k hk fun q => hg (nx k q)
    have gE : ∀ k, k < w.heap.size → (if w.heap.size ≤ k ∧ (Value.slice a5 n5 c5).ownBlock = some k then some x else G k) = G k := fun k hk => if_neg fun q => by omega
    have hGn : ∀ k, k < w.heap.size → G k = none → G k ≠ some x := fun k _ q z => by rw [q] at z; cases z
    have bG : G b = none := by
      cases hg : G b with
      | none => rfl
      | some y => exact absurd rfl (h.hG b (by rw [hg]; simp)).2.2.1
    have xG : ∀ k, X k → G k = none := fun k hk => by
      cases hg : G k with
      | none => rfl
      | some y => exact absurd hk (h.hG k (by rw [hg]; simp)).2.2.2
    have kx : KX (fun k => X k ∨ k = b) w w5 := fun k hk => by
      rcases hk with q | q
      · exact blk k (h.xl k q) (hGn k (h.xl k q) (xG k q))
      · rw [q]; exact blk b hb (hGn b hb bG)
    have m5 : MapV MS w5 b n S := h.mp.of_block (kx b (.inr rfl))
    obtain ⟨w', hr, m', g⟩ := m5.put ms_ok (by unfold maxLen; omega) hx (.slice a5 n5 c5)
    have blk' : ∀ k, k < w5.heap.size → k ≠ b → w'.heap[k]? = w5.heap[k]? := fun k hk hb => g.block k hk fun q => hb (by injection q)
    have hsz := g.size
    have hs5 := k5.size
    have own5 : ∀ k, (Value.slice a5 n5 c5).ownBlock = some k → (if w.heap.size ≤ k ∧ (Value.slice a5 n5 c5).ownBlock = some k then some x else G k) = some x := fun k hk => by
      by_cases q : w.heap.size ≤ k
      · exact if_pos ⟨q, hk⟩
      · rw [gE k (by omega)]
        rcases ho k hk with z | z
        · exact nx k z
        · exact absurd z q
    refine ⟨a5, n5, c5, w5, w', by rw [← hv]; exact hap, hr, ⟨F, (fun y => if y = x then some (.slice a5 n5 c5) else S y), fun k => if w.heap.size ≤ k ∧ (Value.slice a5 n5 c5).ownBlock = some k then some x else G k, ?_⟩, fun k hk => (blk' k (Nat.lt_of_lt_of_le (h.xl k hk) hs5) (fun q => h.bX (q ▸ hk))).trans (kx k (.inl hk)), kx⟩
    refine ⟨h.fp.keep (fun k hk => (blk' k (Nat.lt_of_lt_of_le (h.fp.lt k hk) hs5) (h.hF k hk).2.1).trans (blk k (h.fp.lt k hk) (hGn k (h.fp.lt k hk) (h.hF k hk).2.2.1))) (Nat.le_trans hs5 hsz), m', fun y => ?_, fun y k hk => ?_, fun k hk => ?_, fun k hk => ?_, h.bW, h.bX, fun k hk => Nat.lt_of_lt_of_le (h.xl k hk) (Nat.le_trans hs5 hsz), h.bel.trans ⟨g.os.trans k5.os, g.tape.trans k5.tape, g.output.trans k5.output, Nat.le_trans hs5 hsz, fun k hk => ?_⟩⟩
    · unfold setL rowOf
      dsimp only
      by_cases e : y = x
      · rw [if_pos e, if_pos e]
        exact r5.of fun k hk => blk' k (r5.lt k hk) fun q => by
          rcases ho k hk with z | z
          · exact (h.hG k (by rw [nx k z]; simp)).2.2.1 q
          · omega
      · rw [if_neg e, if_neg e]
        refine (h.row y).of fun k hk => ?_
        have hk' := (h.row y).lt k hk
        have hgk := h.own y k hk
        exact (blk' k (Nat.lt_of_lt_of_le hk' hs5) (h.hG k (by rw [hgk]; simp)).2.2.1).trans (blk k hk' (by rw [hgk]; intro q; injection q with q; exact e q))
    · unfold rowOf at hk
      dsimp only at hk
      by_cases e : y = x
      · rw [if_pos e] at hk
        rw [e]
        exact own5 k hk
      · rw [if_neg e] at hk
        exact (gE k ((h.row y).lt k hk)).trans (h.own y k hk)
    · obtain ⟨q1, q2, q3, q4⟩ := h.hF k hk
      exact ⟨q1, q2, (gE k (h.fp.lt k hk)).trans q3, q4⟩
    · by_cases q : w.heap.size ≤ k ∧ (Value.slice a5 n5 c5).ownBlock = some k
      · have := r5.lt k q.2
        exact ⟨by omega, Nat.le_trans h.bel.size q.1, by omega, fun z => by have := h.xl k z; omega⟩
      · have hk : (if w.heap.size ≤ k ∧ (Value.slice a5 n5 c5).ownBlock = some k then some x else G k) ≠ none := hk
        rw [if_neg q] at hk
        obtain ⟨q1, q2⟩ := h.hG k hk
        exact ⟨by omega, q2⟩
    · have hk1 := Nat.lt_of_lt_of_le hk h.bel.size
      have hkG : G k = none := by
        cases hg : G k with
        | none => rfl
        | some y => have := (h.hG k (by rw [hg]; simp)).2.1; omega
      exact (blk' k (by omega) (fun q => by have := h.bW; omega)).trans (blk k hk1 (hGn k hk1 hkG))
theorem Or.clr {W w : World} {B : Nat} {f : FaQ} {b n : Nat} {m : Int → List ByteArray} {X : Nat → Prop} (h : Or W w B f b n m X) (hn : n < 100000) {x : Int} (hx : In64 x) :
    ∃ w', (Instr.mapUpdate 38 (.map (some b)) (.int .i64 x) (.slice none 0 0)).run Try.prog w = .ok () w' ∧ Or W w' B f b (n + 1) (setL m x []) X ∧ KX X w w' := by
  obtain ⟨F, S, G, h⟩ := h
  exact h.upd hn hx (.nil _) fun k hk => by cases hk
end Go.Proofs.Ytiamlldooihkdaa
