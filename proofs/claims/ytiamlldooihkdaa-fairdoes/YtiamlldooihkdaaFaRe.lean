/-
  The document's own queues in memory, in the midst of Next: a copy of the first entry beside them; what becomes of the round's row. No condition.
-/
import Derived.Test.YtiamlldooihkdaaFaRc
namespace Go.Proofs.Ytiamlldooihkdaa
set_option maxRecDepth 100000
open Go.RowKit

structure NxI (wr wc : World) (R xb : Nat) (g : FaQ) (lv : Value) (xs : List Value) (sv : Bool) : Prop where
  k : Kept (fun k => k = R) wr wc
  x : Lies wc xb xs
  xn : wr.heap.size ≤ xb
  rl : R < wr.heap.size
  h : Lies wc R [.int .i64 g.lim, .int .i64 g.qu, lv, .bool sv]
section
variable {wr wc : World} {R xb : Nat} {g : FaQ} {lv : Value} {xs : List Value} {sv : Bool}
theorem NxI.below {w' : World} (h : NxI wr wc R xb g lv xs sv) (hx : 0 < xs.length) (b : Below wc.heap.size wc w') : NxI wr w' R xb g lv xs sv :=
  ⟨⟨b.os.trans h.k.os, b.tape.trans h.k.tape, b.output.trans h.k.output, Nat.le_trans h.k.size b.size, fun k hk hf => (b.block k (Nat.lt_of_lt_of_le hk h.k.size)).trans (h.k.block k hk hf)⟩, h.x.keep hx b, h.xn, h.rl, h.h.keep (Nat.zero_lt_succ _) b⟩
theorem NxI.setx (h : NxI wr wc R xb g lv xs sv) (j : Nat) (hj : j < xs.length) (v : Value) : NxI wr (wc.setCell ⟨xb, j, none⟩ v) R xb g lv (xs.set j v) sv := by
  have kk : Kept (fun k => k = xb) wc (wc.setCell ⟨xb, j, none⟩ v) := (Kept.refl (fun k => k = xb) wc).set ⟨xb, j, none⟩ rfl v
  have h1 := h.rl
  have h2 := h.xn
  have h3 := h.k.size
  refine ⟨⟨kk.os.trans h.k.os, kk.tape.trans h.k.tape, kk.output.trans h.k.output, Nat.le_trans h3 kk.size, fun k hk hf => (kk.block k (by omega) fun q => by omega).trans (h.k.block k hk hf)⟩, h.x.put j hj v, h.xn, h.rl, h.h.of_block (kk.block R (by omega) fun q => by omega)⟩
theorem NxI.setR (h : NxI wr wc R xb g lv xs sv) (b : Bool) : NxI wr (wc.setCell ⟨R, 3, none⟩ (.bool b)) R xb g lv xs b := by
  have kk : Kept (fun k => k = R) wc (wc.setCell ⟨R, 3, none⟩ (.bool b)) := (Kept.refl (fun k => k = R) wc).set ⟨R, 3, none⟩ rfl _
  have h1 := h.rl
  have h2 := h.xn
  refine ⟨h.k.trans kk, ?_, h.xn, h.rl, h.h.put 3 (by show 3 < 4; decide) _⟩
  by_cases hx : 0 < xs.length
  · exact h.x.of_block (kk.block xb (h.x.lt hx) fun q => by omega)
  · have : xs = [] := List.eq_nil_of_length_eq_zero (by omega)
    subst this
    exact ⟨fun j v hv => by simp at hv, fun j hj => absurd hj (Nat.not_lt_zero _)⟩
/-- The round's row turned: the end of a step, or of a packet's taking. -/
theorem NxI.done (h : NxI wr wc R xb g lv xs sv) {F : Nat → Prop} {ws : List QX} (hf : RfX wr R g ws lv) (hl : ∀ k, F k → k < wr.heap.size) (hR : F R) (o1 : ∀ k, lv.ownBlock = some k → F k) (o2 : ∀ x ∈ ws, ∀ k, (lsV x).ownBlock = some k → F k)
    {w2 : World} (b : Below wc.heap.size wc w2) {v2 : Value} {ws' : List QX} (z : RowZ KQ w2 v2 ws') (oz : ∀ k, v2.ownBlock = some k → lv.ownBlock = some k ∨ wc.heap.size ≤ k) (hw : ∀ y ∈ ws', (∃ x ∈ ws, (lsV y).ownBlock = (lsV x).ownBlock) ∧ RowZ KS wr (lsV y) y.1.l) {g' : FaQ} (e1 : g'.lim = g.lim) (e2 : g'.qu = g.qu) (e3 : ws'.map Prod.fst = g'.r) (ok : g'.Ok) :
    (g'.sv = sv → RF (w2.setCell ⟨R, 2, none⟩ v2) R (more F wr (w2.setCell ⟨R, 2, none⟩ v2)) g' ∧ Kept F wr (w2.setCell ⟨R, 2, none⟩ v2)) ∧
    (∀ b', g'.sv = b' → RF ((w2.setCell ⟨R, 2, none⟩ v2).setCell ⟨R, 3, none⟩ (.bool b')) R (more F wr ((w2.setCell ⟨R, 2, none⟩ v2).setCell ⟨R, 3, none⟩ (.bool b'))) g' ∧ Kept F wr ((w2.setCell ⟨R, 2, none⟩ v2).setCell ⟨R, 3, none⟩ (.bool b'))) := by
  have r1 := h.rl
  have r2 := h.k.size
  have K2 : Kept (fun k => k = R) wr w2 := ⟨b.os.trans h.k.os, b.tape.trans h.k.tape, b.output.trans h.k.output, Nat.le_trans r2 b.size, fun k hk hf => (b.block k (by omega)).trans (h.k.block k hk hf)⟩
  have l2 := h.h.keep (Nat.zero_lt_succ _) b
  have nR : ∀ k, v2.ownBlock = some k → k ≠ R := fun k hk q => by
    rcases oz k hk with u | u
    · exact hf.n2 (q ▸ u)
    · omega
  have ol : ∀ y ∈ ws', ∀ k, (lsV y).ownBlock = some k → k < wr.heap.size ∧ k ≠ R ∧ lv.ownBlock ≠ some k ∧ F k := fun y hy k hk => by
    obtain ⟨⟨x, hx, e⟩, zy⟩ := hw y hy
    have hk' := hk
    rw [e] at hk'
    have n1 := hf.n1 x hx k hk'
    exact ⟨zy.lt k hk, n1.1, n1.2, o2 x hx k hk'⟩
  have go : ∀ (w4 : World), Kept (fun k => k = R) w2 w4 → Lies w4 R [.int .i64 g'.lim, .int .i64 g'.qu, v2, .bool g'.sv] → RF w4 R (more F wr w4) g' ∧ Kept F wr w4 := fun w4 k4 l4 => by
    have K4 : Kept (fun k => k = R) wr w4 := K2.trans k4
    refine ⟨RF.done hl hR ok K4.size (ws := ws') (lv := v2) ⟨l4, z.of fun k hk => k4.block k (z.lt k hk) (nR k hk), e3, fun y hy => (hw y hy).2.of fun k hk => K4.block k (ol y hy k hk).1 (ol y hy k hk).2.1, fun y hy k hk => ⟨(ol y hy k hk).2.1, fun q => ?_⟩, fun q => nR R q rfl⟩ (fun k hk => ?_) (fun y hy k hk => .inl (ol y hy k hk).2.2.2), K4.mono fun k _ q => by rw [q]; exact hR⟩
    · rcases oz k q with u | u
      · exact (ol y hy k hk).2.2.1 u
      · have := (ol y hy k hk).1; omega
    · rcases oz k hk with u | u
      · exact .inl (o1 k u)
      · exact .inr (by omega)
  have k3 : Kept (fun k => k = R) w2 (w2.setCell ⟨R, 2, none⟩ v2) := (Kept.refl (fun k => k = R) w2).set ⟨R, 2, none⟩ rfl _
  have l3 := l2.put 2 (by show 2 < 4; decide) v2
  refine ⟨fun e => go _ k3 ?_, fun b' e => go _ (k3.set ⟨R, 3, none⟩ rfl _) ?_⟩
  · rw [e1, e2, e]
    exact l3
  · rw [e1, e2, e]
    exact l3.put 3 (by show 3 < 4; decide) _
end
/-- A wider set of blocks. -/
theorem RF.mono {w : World} {R : Nat} {F G : Nat → Prop} {f : FaQ} (h : RF w R F f) (hG : ∀ k, F k → G k) (hl : ∀ k, G k → k < w.heap.size) : RF w R G f := by
  obtain ⟨-, hR, ok, ws, lv, h, o1, o2⟩ := h
  exact ⟨hl, hG R hR, ok, ws, lv, h, fun k hk => hG k (o1 k hk), fun x hx k hk => hG k (o2 x hx k hk)⟩
theorem RF.steps {w wr w' : World} {R : Nat} {F : Nat → Prop} {f : FaQ} (hl : ∀ k, F k → k < w.heap.size) (K : Kept F w wr) (h : RF w' R (more (more F w wr) wr w') f ∧ Kept (more F w wr) wr w') : RF w' R (more F w w') f ∧ Kept F w w' := by
  have s1 := K.size
  have s2 := h.2.size
  refine ⟨h.1.mono (fun k hk => ?_) fun k hk => ?_, ?_⟩
  · rcases hk with (q | q) | q
    · exact .inl q
    · exact .inr ⟨q.1, by omega⟩
    · exact .inr ⟨by omega, q.2⟩
  · rcases hk with q | q
    · have := hl k q; omega
    · exact q.2
  · exact ⟨h.2.os.trans K.os, h.2.tape.trans K.tape, h.2.output.trans K.output, Nat.le_trans s1 s2, fun k hk hf => (h.2.block k (by omega) fun q => by
      rcases q with q | q
      · exact hf q
      · omega).trans (K.block k hk hf)⟩
end Go.Proofs.Ytiamlldooihkdaa
