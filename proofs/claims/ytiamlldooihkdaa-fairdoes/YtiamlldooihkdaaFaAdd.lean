/-
  The program's own queues in memory: someone's queue is laid down, an id comes to the end of the round, a packet to the end of a queue. No condition but how many there are.
-/
import Derived.Test.YtiamlldooihkdaaFaPgE
namespace Go.Proofs.Ytiamlldooihkdaa
set_option maxRecDepth 100000
open Go.RowKit

/-- A queue without packets, in a block of its own, and in the map. -/
theorem PX.ins {w w1 w2 : World} {B : Nat} {T : Tag} {p : FaP} {rv : Value} {bm : Nat} {S : Int → Option Value} (h : PX w B T p rv bm S) (x : Int) (hw1 : w1 = w.alloc (.cells #[.slice none 0 0, .int .i64 0] 56)) (g : w1.grownBy w2 (some bm)) (m : MapV MQ w2 bm (p.n + 1) (fun y => if y = x then some (ptr w.heap.size) else S y)) :
    ∃ T', PX w2 B T' { p with tb := updT p.tb x (some ([], 0)), n := p.n + 1 } rv bm (fun y => if y = x then some (ptr w.heap.size) else S y) ∧ ExtT T T' w.heap.size ∧ Kept (fun k => T k ≠ none) w w2 := by
  have b1 : Below w.heap.size w w1 := by rw [hw1]; exact (Below.refl _ _).alloc (Nat.le_refl _) _
  have l1 : Lies w1 w.heap.size [.slice none 0 0, .int .i64 0] := by rw [hw1]; exact Lies.new w _ _
  have hs := g.size
  have hs1 : w1.heap.size = w.heap.size + 1 := by rw [hw1]; simp
  have hbm : bm < w.heap.size := h.m.lt
  have blk : ∀ k, k < w.heap.size → k ≠ bm → w2.heap[k]? = w.heap[k]? := fun k hk hne => (g.block k (by omega) (fun q => by injection q with q; exact hne q)).trans (b1.block k hk)
  have ne : ∀ j t, T j = some t → t ≠ (1, 0) → j ≠ bm := fun j t hj h0 q => by
    rw [q, h.tm] at hj
    injection hj with hj
    exact h0 hj.symm
  have hE : ExtT T (fun k => if k = w.heap.size then some (3, x) else T k) w.heap.size := fun j hj => if_neg fun q => by omega
  have hB := h.h.lt (by show 0 < 6; decide)
  refine ⟨_, ⟨h.h.of_block (blk B hB (ne B _ h.tB (by simp))), h.r.of fun j hj => blk j (h.r.lt j hj) (ne j _ (h.tr j hj) (by simp)), m, (hE B hB).trans h.tB, (hE bm hbm).trans h.tm, fun j hj => (hE j (h.r.lt j hj)).trans (h.tr j hj), fun y => ?_, fun j hj => ?_⟩, hE, ⟨g.os.trans b1.os, g.tape.trans b1.tape, g.output.trans b1.output, by omega, fun k hk hT => blk k hk fun q => hT (by rw [q, h.tm]; simp)⟩⟩
  · show QAt w2 _ _ y (updT p.tb x _ y)
    unfold updT
    by_cases e : y = x
    · rw [if_pos e, e]
      refine ⟨w.heap.size, .slice none 0 0, if_pos rfl, l1.of_block (g.block _ (by omega) (fun q => by injection q with q; omega)), .nil _, if_pos rfl, fun k hk => by cases hk⟩
    · rw [if_neg e]
      refine (h.q y).keep (fun j hj ht => blk j hj ?_) hE (if_neg e)
      rcases ht with ht | ht <;> exact ne j _ ht (by simp)
  · by_cases q : j = w.heap.size
    · omega
    · have hj : (if j = w.heap.size then some (3, x) else T j) ≠ none := hj
      rw [if_neg q] at hj
      have := h.lt j hj
      omega
/-- An id comes to the end of the round. -/
theorem PX.appId {w : World} {B : Nat} {T : Tag} {p : FaP} {rv : Value} {bm : Nat} {S : Int → Option Value} (h : PX w B T p rv bm S) (x : Int) (hl : p.ids.length < 1073741824) :
    ∃ a n c a5 n5 c5 w5, rv = .slice a n c ∧ (∀ z, (builtin .append #[48, 48] 48 z #[.slice a n c, .slice (some ⟨w.heap.size, 0, none⟩) 1 1]).run Try.prog (w.alloc (.cells #[.int .i64 x] 2)) = .ok (.value (.slice a5 n5 c5)) w5) ∧
      w5.cell? ⟨B, 2, none⟩ = some (.slice a n c) ∧ w5.frozen? ⟨B, 2, none⟩ = false ∧ ∃ T', PX (w5.setCell ⟨B, 2, none⟩ (.slice a5 n5 c5)) B T' { p with ids := p.ids ++ [x] } (.slice a5 n5 c5) bm S ∧ ExtT T T' w.heap.size ∧ Kept (fun k => T k ≠ none) w (w5.setCell ⟨B, 2, none⟩ (.slice a5 n5 c5)) := by
  obtain ⟨a, c, hrv, -⟩ := h.r.slice
  obtain ⟨a5, n5, c5, w5, hap, r5, -, ho, k5⟩ := h.r.snoc ki_ok x 2 48 (by show (p.ids.length + 1) * 8 ≤ _; omega) (by show p.ids.length + 1 ≤ _; unfold maxLen; omega)
  have h6 : 0 < (paC p rv bm).length := by show 0 < 6; decide
  have hlB := h.h.lt h6
  have hne : ¬ rv.ownBlock = some B := fun q => by
    have := h.tr B q
    rw [h.tB] at this
    simp at this
  have l5 := h.h.of_block (k5.block B hlB hne)
  have l6 : Lies (w5.setCell ⟨B, 2, none⟩ (.slice a5 n5 c5)) B (paC { p with ids := p.ids ++ [x] } (.slice a5 n5 c5) bm) := l5.put 2 (by show 2 < 6; decide) _
  have k6 : Kept (fun k => k = B ∨ rv.ownBlock = some k) w (w5.setCell ⟨B, 2, none⟩ (.slice a5 n5 c5)) := (k5.mono fun _ _ q => .inr q).set ⟨B, 2, none⟩ (.inl rfl) _
  have hno : ∀ k, (Value.slice a5 n5 c5).ownBlock = some k → k ≠ B := fun k hk q => by
    rcases ho k hk with z | z
    · exact hne (q ▸ z)
    · omega
  have r6 : RowZ KI (w5.setCell ⟨B, 2, none⟩ (.slice a5 n5 c5)) (.slice a5 n5 c5) (p.ids ++ [x]) := r5.of fun k hk => ((Kept.refl (fun k => k = B) w5).set ⟨B, 2, none⟩ rfl _).block k (r5.lt k hk) (hno k hk)
  obtain ⟨T', P6, E6⟩ := h.row (ids' := p.ids ++ [x]) (sv' := p.sv) (cnt' := p.cnt) k6 l6 r6 ho
  refine ⟨a, _, c, a5, n5, c5, w5, hrv, by rw [← hrv]; exact hap, by rw [← hrv]; exact l5.cell 2 rfl, l5.free 2 (by show 2 < 6; decide), T', P6, E6, k6.mono fun k _ q => ?_⟩
  rcases q with q | q
  · rw [q, h.tB]; simp
  · rw [h.tr k q]; simp
/-- A packet comes to the end of a queue. -/
theorem PX.appS {w : World} {B : Nat} {T : Tag} {p : FaP} {rv : Value} {bm : Nat} {S : Int → Option Value} (h : PX w B T p rv bm S) {x : Int} {l : List ByteArray} {d : Int} (ht : p.tb x = some (l, d)) (s : ByteArray) (hl : l.length < 1073741824) {qb : Nat} (hqb : S x = some (ptr qb)) :
    ∃ a n c a5 n5 c5 w5, n = l.length ∧ w.cell? ⟨qb, 0, none⟩ = some (.slice a n c) ∧ (∀ z, (builtin .append #[39, 39] 39 z #[.slice a n c, .slice (some ⟨w.heap.size, 0, none⟩) 1 1]).run Try.prog (w.alloc (.cells #[.string s] 9)) = .ok (.value (.slice a5 n5 c5)) w5) ∧
      w5.cell? ⟨qb, 0, none⟩ = some (.slice a n c) ∧ w5.frozen? ⟨qb, 0, none⟩ = false ∧ qb < w.heap.size ∧ ∃ T', PX (w5.setCell ⟨qb, 0, none⟩ (.slice a5 n5 c5)) B T' { p with tb := updT p.tb x (some (l ++ [s], d)) } rv bm S ∧ ExtT T T' w.heap.size ∧ Kept (fun k => T k ≠ none) w (w5.setCell ⟨qb, 0, none⟩ (.slice a5 n5 c5)) := by
  obtain ⟨qb', pv, hS, hQ, hV, hT3, hT4⟩ := h.at ht
  rw [hqb] at hS
  injection hS with hS
  injection hS with hS
  injection hS with hS
  injection hS with hS
  subst hS
  obtain ⟨a, c, rfl, -⟩ := hV.slice
  obtain ⟨a5, n5, c5, w5, hap, r5, -, ho, k5⟩ := hV.snoc ks_ok s 9 39 (by show (l.length + 1) * 16 ≤ _; omega) (by show l.length + 1 ≤ _; unfold maxLen; omega)
  have hql := hQ.lt (by show 0 < 2; decide)
  have hne : ¬ (Value.slice a l.length c).ownBlock = some qb := fun q => by
    have := hT4 qb q
    rw [hT3] at this
    simp at this
  have l5 := hQ.of_block (k5.block qb hql hne)
  have l6 : Lies (w5.setCell ⟨qb, 0, none⟩ (.slice a5 n5 c5)) qb [.slice a5 n5 c5, .int .i64 d] := l5.put 0 (by show 0 < 2; decide) _
  have k6 : Kept (fun k => k = qb ∨ (Value.slice a l.length c).ownBlock = some k) w (w5.setCell ⟨qb, 0, none⟩ (.slice a5 n5 c5)) := (k5.mono fun _ _ q => .inr q).set ⟨qb, 0, none⟩ (.inl rfl) _
  have hno : ∀ k, (Value.slice a5 n5 c5).ownBlock = some k → k ≠ qb := fun k hk q => by
    rcases ho k hk with z | z
    · exact hne (q ▸ z)
    · omega
  have r6 : RowZ KS (w5.setCell ⟨qb, 0, none⟩ (.slice a5 n5 c5)) (.slice a5 n5 c5) (l ++ [s]) := r5.of fun k hk => ((Kept.refl (fun k => k = qb) w5).set ⟨qb, 0, none⟩ rfl _).block k (r5.lt k hk) (hno k hk)
  have ne : ∀ j t, T j = some t → t ≠ (3, x) → t ≠ (4, x) → ¬ (j = qb ∨ (Value.slice a l.length c).ownBlock = some j) := fun j t hj h1 h2 q => by
    rcases q with q | q
    · rw [q, hT3] at hj
      injection hj with hj
      exact h1 hj.symm
    · rw [hT4 j q] at hj
      injection hj with hj
      exact h2 hj.symm
  have hE : ExtT T (fun k => if w.heap.size ≤ k ∧ (Value.slice a5 n5 c5).ownBlock = some k then some (4, x) else T k) w.heap.size := fun j hj => if_neg fun q => by omega
  have hBl := h.h.lt (by show 0 < 6; decide)
  refine ⟨a, _, c, a5, n5, c5, w5, rfl, hQ.cell 0 rfl, hap, l5.cell 0 rfl, l5.free 0 (by show 0 < 2; decide), hql, _, ⟨h.h.of_block (k6.block B hBl (ne B _ h.tB (by simp) (by simp))), h.r.of fun j hj => k6.block j (h.r.lt j hj) (ne j _ (h.tr j hj) (by simp) (by simp)), h.m.of_block (k6.block bm h.m.lt (ne bm _ h.tm (by simp) (by simp))), (hE B hBl).trans h.tB, (hE bm h.m.lt).trans h.tm, fun j hj => (hE j (h.r.lt j hj)).trans (h.tr j hj), fun y => ?_, fun j hj => ?_⟩, hE, k6.mono fun k _ q => ?_⟩
  · show QAt _ _ S y (updT p.tb x _ y)
    unfold updT
    by_cases e : y = x
    · rw [if_pos e, e]
      refine ⟨qb, _, hqb, l6, r6, (hE qb hql).trans hT3, fun k hk => ?_⟩
      rcases ho k hk with z | z
      · exact (hE k (hV.lt k z)).trans (hT4 k z)
      · exact if_pos ⟨z, hk⟩
    · rw [if_neg e]
      refine (h.q y).keep (fun j hj ht => k6.block j hj ?_) hE rfl
      rcases ht with ht | ht
      · exact ne j _ ht (by simp [e]) (by simp)
      · exact ne j _ ht (by simp) (by simp [e])
  · by_cases q : w.heap.size ≤ j ∧ (Value.slice a5 n5 c5).ownBlock = some j
    · exact r6.lt j q.2
    · have hj : (if w.heap.size ≤ j ∧ (Value.slice a5 n5 c5).ownBlock = some j then some (4, x) else T j) ≠ none := hj
      rw [if_neg q] at hj
      exact Nat.lt_of_lt_of_le (h.lt j hj) k6.size
  · rcases q with q | q
    · rw [q, hT3]; simp
    · rw [hT4 k q]; simp
theorem Kept.tags {T T' : Tag} {a b c : World} (h : Kept (fun k => T k ≠ none) a b) (g : Kept (fun k => T' k ≠ none) b c) (e : ExtT T T' a.heap.size) : Kept (fun k => T k ≠ none) a c :=
  ⟨g.os.trans h.os, g.tape.trans h.tape, g.output.trans h.output, Nat.le_trans h.size g.size, fun k hk hf => (g.block k (Nat.lt_of_lt_of_le hk h.size) (by rw [e k hk]; exact hf)).trans (h.block k hk hf)⟩
end Go.Proofs.Ytiamlldooihkdaa
