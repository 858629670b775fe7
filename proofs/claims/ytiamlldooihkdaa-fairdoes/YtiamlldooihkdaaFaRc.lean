/-
  The document's own queues: Push. No condition but what always holds of queues, and how many were pushed.
-/
import Derived.Test.YtiamlldooihkdaaFaRb
namespace Go.Proofs.Ytiamlldooihkdaa
set_option maxRecDepth 100000
open Go.RowKit

theorem RfX.pz {w : World} {R : Nat} {f : FaQ} {ws : List QX} {lv : Value} (h : RfX w R f ws lv) (k : Nat) : RfX w R { f with pz := k } ws lv := ⟨h.h, h.r, h.e, h.s, h.n1, h.n2⟩
theorem map_set (r : List FaE) (hn : (r.map FaE.id).Nodup) (i : Nat) (hi : i < r.length) (g : FaE → FaE) : (r.map fun e => if e.id = (r.getD i fe0).id then g e else e) = r.set i (g (r.getD i fe0)) := by
  have ei : r.getD i fe0 = r[i] := by rw [List.getD_eq_getElem?_getD, List.getElem?_eq_getElem hi]; rfl
  generalize r.getD i fe0 = E at *
  subst ei
  generalize hE : r[i] = E
  apply List.ext_getElem
  · simp
  · intro j h1 h2
    simp only [List.length_map] at h1
    rw [List.getElem_map, List.getElem_set]
    by_cases q : i = j
    · subst q
      rw [if_pos rfl, hE, if_pos rfl]
    · rw [if_neg q, if_neg]
      intro z
      have hl : j < (r.map FaE.id).length := by rw [List.length_map]; exact h1
      have hl2 : i < (r.map FaE.id).length := by rw [List.length_map]; exact hi
      have := (List.getElem_inj (h₀ := hl) (h₁ := hl2) hn).1 (by rw [List.getElem_map, List.getElem_map, hE]; exact z)
      exact q this.symm
theorem own_len (a : Option Addr) (n m c d : Nat) : (Value.slice a n c).ownBlock = (Value.slice a m d).ownBlock := by cases a <;> rfl
theorem RF.drewn {w : World} {R : Nat} {F : Nat → Prop} {f : FaQ} {n : Nat} (h : RF w R (more F w w) f) : RF (w.drewN n) R (more F w (w.drewN n)) f := h.keep (fun _ _ => rfl) (Nat.le_refl _)
/-- A list turned in its entry. -/
theorem RfX.pushAt {w w2 : World} {R : Nat} {F : Nat → Prop} {f : FaQ} {ws : List QX} {g o n c : Nat} (h : RfX w R f ws (.slice (some ⟨g, o, none⟩) n c)) (hl : ∀ k, F k → k < w.heap.size) (hR : F R) {i : Nat} {s : ByteArray} (hok : (pushQ f (f.r.getD i fe0).id s).Ok) (o1 : F g) (o2 : ∀ x ∈ ws, ∀ k, (lsV x).ownBlock = some k → F k) (ids : (f.r.map FaE.id).Nodup) (hi : i < f.r.length) (hp : pushE f (f.r.getD i fe0).id s = 0) (b : Below w.heap.size w w2) {a2 : Option Addr} {n2 c2 : Nat} (z : RowZ KS w2 (.slice a2 n2 c2) ((f.r.getD i fe0).l ++ [s])) (oz : ∀ k, (Value.slice a2 n2 c2).ownBlock = some k → w.heap.size ≤ k) :
    RF (w2.setCell ⟨g, o + 3 * i + 1, none⟩ (.slice a2 n2 c2)) R (more F w (w2.setCell ⟨g, o + 3 * i + 1, none⟩ (.slice a2 n2 c2))) (pushQ f (f.r.getD i fe0).id s) ∧ Kept F w (w2.setCell ⟨g, o + 3 * i + 1, none⟩ (.slice a2 n2 c2)) ∧ (∃ v, w2.cell? ⟨g, o + 3 * i + 1, none⟩ = some v) ∧ w2.frozen? ⟨g, o + 3 * i + 1, none⟩ = false ∧ (w2.setCell ⟨g, o + 3 * i + 1, none⟩ (.slice a2 n2 c2)).cell? ⟨R, 2, none⟩ = some (.slice (some ⟨g, o, none⟩) n c) := by
  have hwl := h.len
  have hg := hl g o1
  have hgR : g ≠ R := fun q => h.n2 (by rw [← q]; rfl)
  have h2 := h.below b
  have ht : tblE f.r (f.r.getD i fe0).id = some ((f.r.getD i fe0).l, (f.r.getD i fe0).d) := tbl_mem f.r _ ids (by
    rw [List.getD_eq_getElem?_getD, List.getElem?_eq_getElem hi]
    exact List.getElem_mem _)
  have em := h.mem hi
  obtain ⟨g', o', e', -, -, -, -, ⟨la, lc, ex, c1⟩, -, fr⟩ := h2.at hi
  injection e' with e'
  injection e' with e1 e2
  subst e1 e2
  have kk : Kept (fun k => k = g) w2 (w2.setCell ⟨g, o + 3 * i + 1, none⟩ (.slice a2 n2 c2)) := (Kept.refl (fun k => k = g) w2).set ⟨g, o + 3 * i + 1, none⟩ rfl _
  have K : Kept (fun k => k = g) w (w2.setCell ⟨g, o + 3 * i + 1, none⟩ (.slice a2 n2 c2)) := (Kept.of (fun k => k = g) b).trans kk
  have hn2 : n2 = ((f.r.getD i fe0).l ++ [s]).length := by
    obtain ⟨a, c, e, -⟩ := z.slice
    injection e
  have hr : (pushQ f (f.r.getD i fe0).id s).r = f.r.set i { f.r.getD i fe0 with l := (f.r.getD i fe0).l ++ [s] } := by
    unfold pushQ
    rw [if_pos hp]
    show addL f.r _ s = _
    unfold addL
    rw [ht]
    exact map_set f.r ids i hi fun e => { e with l := e.l ++ [s] }
  have hq : (pushQ f (f.r.getD i fe0).id s).lim = f.lim ∧ (pushQ f (f.r.getD i fe0).id s).qu = f.qu ∧ (pushQ f (f.r.getD i fe0).id s).sv = f.sv := by
    unfold pushQ
    rw [if_pos hp]
    exact ⟨rfl, rfl, rfl⟩
  have hwi : i < ws.length := by omega
  have nl : ∀ x ∈ ws, ∀ k, (lsV x).ownBlock = some k → k ≠ g := fun x hx k hk q => (h.n1 x hx k hk).2 (by rw [q]; rfl)
  refine ⟨RF.done hl hR hok K.size (ws := ws.set i ({ f.r.getD i fe0 with l := (f.r.getD i fe0).l ++ [s] }, a2, c2)) (lv := .slice (some ⟨g, o, none⟩) n c) ⟨?_, ?_, ?_, fun x hx => ?_, fun x hx k hk => ?_, h.n2⟩ (fun k hk => .inl (by have := own_lit hk; rw [← this]; exact o1)) (fun x hx k hk => ?_), K.mono fun k _ q => by rw [q]; exact o1, ⟨_, c1⟩, fr, (h2.h.of_block (kk.block R (h2.h.lt (Nat.zero_lt_succ _)) fun q => hgR q.symm)).cell 2 rfl⟩
  · rw [hq.1, hq.2.1, hq.2.2]
    exact h2.h.of_block (kk.block R (h2.h.lt (Nat.zero_lt_succ _)) fun q => hgR q.symm)
  · refine h2.r.set kq_ok (k := i) (j := 1) hwi (by decide) ?_
    have e0 : KQ.x0 = qx0 := rfl
    rw [e0, ex, hn2]
    rfl
  · rw [hr, List.map_set, h.e]
  · rcases List.mem_or_eq_of_mem_set hx with q | rfl
    · exact (h2.s x q).of fun k hk => kk.block k ((h2.s x q).lt k hk) (nl x q k hk)
    · show RowZ KS _ (.slice a2 ((f.r.getD i fe0).l ++ [s]).length c2) _
      rw [← hn2]
      exact z.of fun k hk => kk.block k (z.lt k hk) fun q => by have := oz k hk; omega
  · rcases List.mem_or_eq_of_mem_set hx with q | rfl
    · exact h.n1 x q k hk
    · have hk' : (Value.slice a2 n2 c2).ownBlock = some k := (own_len ..).trans hk
      have := oz k hk'
      have hRl := hl R hR
      exact ⟨by omega, fun q => by have := own_lit q; omega⟩
  · rcases List.mem_or_eq_of_mem_set hx with q | rfl
    · exact .inl (o2 x q k hk)
    · exact .inr (oz k ((own_len ..).trans hk))
/-- One more entry behind the others: its list in one new block, its cells in another. -/
theorem RfX.pushNew {w : World} {R : Nat} {F : Nat → Prop} {f : FaQ} {ws : List QX} {a : Option Addr} {n c : Nat} (h : RfX w R f ws (.slice a n c)) (hl : ∀ k, F k → k < w.heap.size) (hR : F R) {x : Int} {s : ByteArray} (hok : (pushQ f x s).Ok) (o1 : ∀ k, (Value.slice a n c).ownBlock = some k → F k) (o2 : ∀ x ∈ ws, ∀ k, (lsV x).ownBlock = some k → F k) (hp : pushE f x s = 0) (ht : tblE f.r x = none) (hln : f.r.length < 1000000) :
    ∃ a' n' c' w', (∀ z, (builtin .append #[51, 51] 51 z #[.slice a n c, .slice (some ⟨w.heap.size + 1, 0, none⟩) 1 1]).run Try.prog ((w.alloc (.cells #[.string s] 9)).alloc (.cells #[.int .i64 x, .slice (some ⟨w.heap.size, 0, none⟩) 1 1, .int .i64 0] 58)) = .ok (.value (.slice a' n' c')) w') ∧ (∃ v, w'.cell? ⟨R, 2, none⟩ = some v) ∧ w'.frozen? ⟨R, 2, none⟩ = false ∧ RF (w'.setCell ⟨R, 2, none⟩ (.slice a' n' c')) R (more F w (w'.setCell ⟨R, 2, none⟩ (.slice a' n' c'))) (pushQ f x s) ∧ Kept F w (w'.setCell ⟨R, 2, none⟩ (.slice a' n' c')) := by
  have hwl := h.len
  have b1 := al_b w (.cells #[.string s] 9)
  have s1 := al_s w (.cells #[.string s] 9)
  have h1 := h.below b1
  have z1 : RowZ KS (w.alloc (.cells #[.string s] 9)) (.slice (some ⟨w.heap.size, 0, none⟩) 1 1) [s] := RowZ.one_lit ks_ok w s
  obtain ⟨a', n', c', w', hap, r', -, o', k'⟩ := h1.r.snoc kq_ok (⟨x, [s], 0⟩, some ⟨w.heap.size, 0, none⟩, 1) 58 51 (by show (ws.length + 1) * 40 ≤ _; omega) (by unfold maxLen; omega)
  rw [s1] at hap o'
  have hRl := hl R hR
  have hr : (pushQ f x s).r = f.r ++ [⟨x, [s], 0⟩] := by
    unfold pushQ
    rw [if_pos hp]
    show addL f.r x s = _
    unfold addL
    rw [ht]
  have hq : (pushQ f x s).lim = f.lim ∧ (pushQ f x s).qu = f.qu ∧ (pushQ f x s).sv = f.sv := by
    unfold pushQ
    rw [if_pos hp]
    exact ⟨rfl, rfl, rfl⟩
  have l' := h1.h.of_block (k'.block R (by omega) h.n2)
  have kk : Kept (fun k => k = R) w' (w'.setCell ⟨R, 2, none⟩ (.slice a' n' c')) := (Kept.refl (fun k => k = R) w').set ⟨R, 2, none⟩ rfl _
  have K1 : Kept F w w' := ⟨k'.os.trans b1.os, k'.tape.trans b1.tape, k'.output.trans b1.output, Nat.le_trans b1.size k'.size, fun k hk hf => (k'.block k (by omega) fun q => hf (o1 k q)).trans (b1.block k hk)⟩
  have K : Kept F w (w'.setCell ⟨R, 2, none⟩ (.slice a' n' c')) := K1.trans (kk.mono fun k _ q => by rw [q]; exact hR)
  have nR : ∀ k, (Value.slice a' n' c').ownBlock = some k → k ≠ R := fun k hk q => by
    rcases o' k hk with z | z
    · exact h.n2 (q ▸ z)
    · omega
  have lst : ∀ y ∈ ws ++ [(⟨x, [s], 0⟩, some ⟨w.heap.size, 0, none⟩, 1)], ∀ k, (lsV y).ownBlock = some k → (y ∈ ws ∧ k < w.heap.size) ∨ k = w.heap.size := fun y hy k hk => by
    rcases List.mem_append.1 hy with q | q
    · exact .inl ⟨q, (h.s y q).lt k hk⟩
    · obtain rfl : y = (⟨x, [s], 0⟩, some ⟨w.heap.size, 0, none⟩, 1) := by simpa using q
      exact .inr (own_lit hk).symm
  refine ⟨a', n', c', w', hap, ⟨_, l'.cell 2 rfl⟩, l'.free 2 (by show 2 < 4; decide), RF.done hl hR hok K.size (ws := ws ++ [(⟨x, [s], 0⟩, some ⟨w.heap.size, 0, none⟩, 1)]) (lv := .slice a' n' c') ⟨?_, ?_, ?_, fun y hy => ?_, fun y hy k hk => ⟨fun q => ?_, fun q => ?_⟩, fun q => nR R q rfl⟩ (fun k hk => ?_) (fun y hy k hk => ?_), K⟩
  · rw [hq.1, hq.2.1, hq.2.2]
    exact l'.put 2 (by show 2 < 4; decide) _
  · exact r'.of fun k hk => kk.block k (r'.lt k hk) (nR k hk)
  · rw [hr, List.map_append, h.e]
    rfl
  · have hz : RowZ KS w' (lsV y) y.1.l := by
      rcases List.mem_append.1 hy with q | q
      · exact (h1.s y q).of fun k hk => k'.block k ((h1.s y q).lt k hk) (h.n1 y q k hk).2
      · obtain rfl : y = (⟨x, [s], 0⟩, some ⟨w.heap.size, 0, none⟩, 1) := by simpa using q
        exact z1.of fun k hk => k'.block k (z1.lt k hk) fun z => by have := own_lit hk; have := hl k (o1 k z); omega
    refine hz.of fun k hk => kk.block k (hz.lt k hk) fun q => ?_
    rcases lst y hy k hk with ⟨z, -⟩ | z
    · exact (h.n1 y z k hk).1 q
    · omega
  · rcases lst y hy k hk with ⟨z, -⟩ | z
    · exact (h.n1 y z k hk).1 q
    · omega
  · rcases lst y hy k hk with ⟨z, z2⟩ | z
    · rcases o' k q with z3 | z3
      · exact (h.n1 y z k hk).2 z3
      · omega
    · rcases o' k q with z3 | z3
      · have := hl k (o1 k z3); omega
      · omega
  · rcases o' k hk with z | z
    · exact .inl (o1 k z)
    · exact .inr (by omega)
  · rcases List.mem_append.1 hy with q | q
    · exact .inl (o2 y q k hk)
    · obtain rfl : y = (⟨x, [s], 0⟩, some ⟨w.heap.size, 0, none⟩, 1) := by simpa using q
      have := own_lit hk
      exact .inr (by omega)
end Go.Proofs.Ytiamlldooihkdaa
