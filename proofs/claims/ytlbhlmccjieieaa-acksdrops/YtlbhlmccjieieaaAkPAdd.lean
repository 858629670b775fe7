/-
  What the program's own Add answers, and leaves. Right ranges, at most sixteen; no other condition.
-/
import Derived.Test.YtlbhlmccjieieaaAkPDrop
import Derived.Test.YtlbhlmccjieieaaAkRep
namespace Go.Proofs.Ytlbhlmccjieieaa
set_option maxRecDepth 100000
open Go.RowKit Go.Sort

theorem obCall4 (f : FuncId) (o : Oper) {k1 k2 k3 k4 d : Nat} {tys : Array TypeId} {x1 x2 x3 x4 : Value} {R : Ending → World → Prop} (ho : o.op = .call { callee := .value (.func f), args := #[.tmp k1, .tmp k2, .tmp k3, .tmp k4], argTypes := tys }) (hd : o.dst = some d) (a : Act) (w : World) (K : Act → World → Prop) (Q : Exit → Act → World → Prop)
    (hcf : ∀ w, (callFunc f #[x1, x2, x3, x4]).run Try.prog w = .ok (.enter f #[x1, x2, x3, x4]) w) (h1 : a.eval (.tmp k1) = x1) (h2 : a.eval (.tmp k2) = x2) (h3 : a.eval (.tmp k3) = x3) (h4 : a.eval (.tmp k4) = x4) (C : Calls Try.prog f #[x1, x2, x3, x4] w R) (hK : ∀ e w', R e w' → ∃ v, e = .returned v ∧ K (a.put (some d) v) w') : o.wp Try.prog a w K Q := by
  unfold Oper.wp
  have hr : (execOp a.eval o).run Try.prog w = .ok (.enter f #[x1, x2, x3, x4]) w := by
    unfold execOp
    rw [ho]
    simp only [go_sem] at h1 h2 h3 h4 ⊢
    simp [go_sem, h1, h2, h3, h4, hcf]
  rw [hr]
  exact C.mono fun e w' h => by
    obtain ⟨v, rfl, hk⟩ := hK e w' h
    rw [hd]
    exact hk
/-- What is left when the row has been laid anew and shortened. -/
theorem padd_fin {w W w' : World} {B : Nat} {F : Nat → Prop} {o : Option Nat} {sv sv' : Value} {l m : List Rg} {lo hi : Int} (hF : ∀ k, F k ↔ k = B ∨ o = some k) (L : Lies w B [sv]) (ho : w.ownsRow 0 38 2 sv l.length (rgs l)) (hob : sv.ownBlock = o) (hoB : o ≠ some B) (hW : Below w.heap.size w W)
    (h : Into (W.drew.alloc (.cells #[.int .i64 lo, .int .i64 hi] 38)) w' sv sv' m) (hm : m.length ≠ 0) :
    ∃ g c, sv' = .slice (some ⟨g, 0, none⟩) m.length c ∧ m.length ≤ c ∧ c ≤ 9223372036854775807 ∧ w'.cell? ⟨B, 0, none⟩ = some sv ∧ w'.frozen? ⟨B, 0, none⟩ = false ∧ (∀ k, w.heap.size ≤ k → k < W.heap.size → w'.heap[k]? = W.heap[k]?) ∧
      ∀ k, k = Nat.min m.length 16 → ∃ F', PS ((w'.setCell ⟨B, 0, none⟩ sv').drew.setCell ⟨B, 0, none⟩ (.slice (some ⟨g, 0, none⟩) k c)) B F' (m.take 16) ∧ (∀ k, F' k → F k ∨ w.heap.size ≤ k) ∧ Kept F w ((w'.setCell ⟨B, 0, none⟩ sv').drew.setCell ⟨B, 0, none⟩ (.slice (some ⟨g, 0, none⟩) k c)) := by
  obtain ⟨h1, h2, h3⟩ := h
  have hlt := L.lt (by show 0 < 1; decide)
  have hsz : (W.drew.alloc (.cells #[.int .i64 lo, .int .i64 hi] 38)).heap.size = W.heap.size + 1 := by show (W.heap.push _).size = _; simp
  have bA := bel_alloc W (.cells #[.int .i64 lo, .int .i64 hi] 38)
  have hsB : sv.ownBlock ≠ some B := by rw [hob]; exact hoB
  have hWs := hW.size
  have blk : ∀ k, k < W.heap.size → sv.ownBlock ≠ some k → w'.heap[k]? = W.heap[k]? := fun k hk hn => (h3.block k (by rw [hsz]; omega) hn).trans (bA.block k hk)
  have L' : Lies w' B [sv] := L.of_block ((blk B (by omega) hsB).trans (hW.block B hlt))
  have kF : Kept F w w' := by
    refine ⟨h3.os.trans (bA.os.trans hW.os), h3.tape.trans (bA.tape.trans hW.tape), h3.output.trans (bA.output.trans hW.output), ?_, fun k hk hf => ?_⟩
    · have := h3.size; rw [hsz] at this; omega
    · exact (blk k (by omega) (fun e => hf ((hF k).2 (.inr (by rw [← hob]; exact e))))).trans (hW.block k hk)
  rcases h1.2 with ⟨-, h0⟩ | ⟨g, c, cur0, rfl, -, -, hcap, hmx, -, -⟩
  · exact absurd h0 hm
  · obtain ⟨cur, hg, hs, -, -, hx⟩ := own_get h1
    refine ⟨g, c, rfl, hcap, by unfold maxLen at hmx; omega, L'.cell 0 rfl, L'.free 0 (by show 0 < 1; decide), fun k hk1 hk2 => blk k hk2 (fun e => by have := (ho.lt k e).2; omega), fun k hk => ?_⟩
    have hgB : g ≠ B := fun e => by
      rcases h2 g rfl with q | q
      · exact hsB (by rw [← e]; exact q)
      · rw [hsz] at q; omega
    have L1 := L'.put 0 (by show 0 < 1; decide) (.slice (some ⟨g, 0, none⟩) m.length c)
    have L2 := (L1.of_block (w' := (w'.setCell ⟨B, 0, none⟩ (.slice (some ⟨g, 0, none⟩) m.length c)).drew) rfl).put 0 (by show 0 < 1; decide) (.slice (some ⟨g, 0, none⟩) k c)
    refine ps_put hF (sv' := .slice (some ⟨g, 0, none⟩) k c) L2 ?_ (fun e => by injection e with e; exact hgB e) (fun k' hk' => ?_) ?_
    · have hlen : (m.take 16).length = k := by rw [List.length_take, hk, Nat.min_comm]
      have hkm : k ≤ m.length := by rw [hk]; exact Nat.min_le_left _ _
      have hk16 : k ≤ 16 := by rw [hk]; exact Nat.min_le_right _ _
      rw [hlen]
      refine own_of (cur := cur) ?_ hs hlen (by omega) hmx fun q hq => ?_
      · exact (Below.heap_setCell _ _ _ _ hgB).trans ((Below.heap_setCell _ _ _ _ hgB).trans hg)
      · rw [hx q (by omega), rgs_tk, List.getElem?_take, if_pos (by omega)]
    · rcases h2 k' hk' with q | q
      · exact .inl (by rw [← hob]; exact q)
      · exact .inr (by rw [hsz] at q; omega)
    · exact Kept.set (Kept.set kF ⟨B, 0, none⟩ ((hF B).2 (.inl rfl)) _).drew ⟨B, 0, none⟩ ((hF B).2 (.inl rfl)) _
set_option maxHeartbeats 2000000 in
theorem padd_no (B : Nat) (F : Nat → Prop) (l : List Rg) (lo hi : Int) (w : World) (h : PS w B F l) (hf : fineB lo hi = false) :
    Calls Try.prog 11 #[.pointer (some ⟨B, 0, none⟩), .int .i64 lo, .int .i64 hi] w fun e w' => e = .returned (.int .i64 2) ∧ ∃ F', PS w' B F' l ∧ (∀ k, F' k → F k ∨ w.heap.size ≤ k) ∧ Kept F w w' := by
  have bb := ((Below.refl w.heap.size w).alloc (Nat.le_refl _) (.cells #[.int .i64 lo] 2)).alloc (by simp) (.cells #[.int .i64 hi] 2)
  have fin : Hid _ := show ∃ F', PS _ B F' l ∧ (∀ k, F' k → F k ∨ w.heap.size ≤ k) ∧ Kept F w _ from ⟨F, h.keep (fun k hk => bb.block k (h.lt k hk)), fun k hk => .inl hk, Kept.of F bb⟩
  have hn : ¬ (0 ≤ lo ∧ hi ≤ 4611686018427387903 ∧ lo ≤ hi) := fun e => by rw [fine_iff.2 e] at hf; cases hf
  clear h bb hf
  by_cases q1 : lo < 0
  · have p1 : decide (lo < 0) = true := decide_eq_true q1
    go_enter Try.func11, Try.ntmps11
    go_wp2
    go_ret
    exact ⟨rfl, fin.out⟩
  · have p1 : decide (lo < 0) = false := decide_eq_false q1
    by_cases q2 : hi < lo
    · have p2 : decide (hi < lo) = true := decide_eq_true q2
      go_enter Try.func11, Try.ntmps11
      go_wp2
      go_ret
      exact ⟨rfl, fin.out⟩
    · have p2 : decide (hi < lo) = false := decide_eq_false q2
      have p3 : decide ((4611686018427387903 : Int) < hi) = true := decide_eq_true (by omega)
      go_enter Try.func11, Try.ntmps11
      go_wp2
      go_ret
      exact ⟨rfl, fin.out⟩
set_option maxHeartbeats 4000000 in
theorem padd_yes (B : Nat) (F : Nat → Prop) (l : List Rg) (lo hi : Int) (w : World) (h : PS w B F l) (ok : Ok l) (h1 : 0 ≤ lo) (h2 : lo ≤ hi) (h3 : hi ≤ 4611686018427387903) :
    Calls Try.prog 11 #[.pointer (some ⟨B, 0, none⟩), .int .i64 lo, .int .i64 hi] w fun e w' => e = .returned (.int .i64 0) ∧ ∃ F', PS w' B F' ((add l lo hi).take 16) ∧ (∀ k, F' k → F k ∨ w.heap.size ≤ k) ∧ Kept F w w' := by
  obtain ⟨o, ⟨sv, L, ho, hob⟩, hoB, hF⟩ := h
  have h0 := L.cell 0 (v := sv) rfl
  have hlt := L.lt (by show 0 < 1; decide)
  obtain ⟨w1, hw1⟩ : ∃ w1, w1 = (w.alloc (.cells #[.int .i64 lo] 2)).alloc (.cells #[.int .i64 hi] 2) := ⟨_, rfl⟩
  have b1 : Below w.heap.size w w1 := by
    rw [hw1]
    exact ((Below.refl w.heap.size w).alloc (Nat.le_refl _) (.cells #[.int .i64 lo] 2)).alloc (by simp) (.cells #[.int .i64 hi] 2)
  have z1 : w1.heap.size = w.heap.size + 2 := by rw [hw1]; simp
  have k4 : w1.cell? ⟨w.heap.size, 0, none⟩ = some (.int .i64 lo) := by rw [hw1]; simp
  have k5 : w1.cell? ⟨w.heap.size + 1, 0, none⟩ = some (.int .i64 hi) := by rw [hw1]; simp
  have f4 : w1.frozen? ⟨w.heap.size, 0, none⟩ = false := by rw [hw1]; simp
  have f5 : w1.frozen? ⟨w.heap.size + 1, 0, none⟩ = false := by rw [hw1]; simp
  have keepO : ∀ W, Below w.heap.size w W → W.ownsRow 0 38 2 sv l.length (rgs l) := fun W b => rows_block ho fun k hk => b.block k (ho.lt k hk).2
  have keepB : Hid (∀ W, Below w.heap.size w W → W.cell? ⟨B, 0, none⟩ = some sv) := fun W b => (b.cell hlt).trans h0
  have C1 : Hid (Calls Try.prog 20 #[.pointer (some ⟨B, 0, none⟩), .func (.func 22) #[] #[.pointer (some ⟨w.heap.size + 1, 0, none⟩)]] w1 fun e w' => e = .returned (.int .i64 (lowAt l (hi + 1) : Nat)) ∧ Below w1.heap.size w1 w') :=
    fadd1_ok B (w.heap.size + 1) sv l hi w1 ok (keepB.out w1 b1) (keepO w1 b1) k5 ⟨by omega, h3⟩
  have C2 : Hid (∀ w2, Below w1.heap.size w1 w2 → Calls Try.prog 20 #[.pointer (some ⟨B, 0, none⟩), .func (.func 23) #[] #[.pointer (some ⟨w.heap.size, 0, none⟩)]] w2 fun e w' => e = .returned (.int .i64 (highAt l (lo - 1) : Nat)) ∧ Below w1.heap.size w1 w') := fun w2 bb =>
    (fadd2_ok B w.heap.size sv l lo w2 ok (keepB.out w2 (b1.trans (bb.mono b1.size))) (keepO w2 (b1.trans (bb.mono b1.size))) ((bb.cell (by show w.heap.size < _; omega)).trans k4) ⟨h1, by omega⟩).mono fun e w' hh => ⟨hh.1, bb.trans (hh.2.mono bb.size)⟩
  have ef := add_find l lo hi ok.1 h2
  have hle := find_le ok.1 h2
  have hjl := highAt_le l (lo - 1)
  have hl16 := ok.2
  generalize lowAt l (hi + 1) = i at *
  generalize highAt l (lo - 1) = j at *
  have TC : Hid (∀ W lo' hi', Below w.heap.size w W → Calls Try.prog 24 #[sv, .int .i64 (i : Int), .int .i64 (j : Int), .slice (some ⟨W.heap.size, 0, none⟩) 1 1] (W.drew.alloc (.cells #[.int .i64 lo', .int .i64 hi'] 38)) fun e w' => ∃ sv', e = .returned sv' ∧ Into (W.drew.alloc (.cells #[.int .i64 lo', .int .i64 hi'] 38)) w' sv sv' (l.take i ++ (lo', hi') :: l.drop j)) := fun W lo' hi' b =>
    replace_ok sv i j W.heap.size l.length l lo' hi' _ rfl (keepO _ (b.trans ((bel_alloc W _).mono b.size))) hl16 hle hjl (heap_new W _) (fun e => by have := (ho.lt _ e).2; have := b.size; omega)
  have hmm : ∀ x : Rg, (l.take i ++ x :: l.drop j).length = i + 1 + (l.length - j) := fun x => tgt_len l i j x (by omega)
  obtain ⟨mm, hmmd⟩ : ∃ mm, mm = i + 1 + (l.length - j) := ⟨_, rfl⟩
  have FIN : Hid (∀ W lo' hi' w' sv', Below w.heap.size w W → Into (W.drew.alloc (.cells #[.int .i64 lo', .int .i64 hi'] 38)) w' sv sv' (l.take i ++ (lo', hi') :: l.drop j) → ∃ g c, sv' = .slice (some ⟨g, 0, none⟩) mm c ∧ mm ≤ c ∧ c ≤ 9223372036854775807 ∧ w'.cell? ⟨B, 0, none⟩ = some sv ∧ w'.frozen? ⟨B, 0, none⟩ = false ∧ (∀ k, w.heap.size ≤ k → k < W.heap.size → w'.heap[k]? = W.heap[k]?) ∧
      ∀ k, k = Nat.min mm 16 → ∃ F', PS ((w'.setCell ⟨B, 0, none⟩ sv').drew.setCell ⟨B, 0, none⟩ (.slice (some ⟨g, 0, none⟩) k c)) B F' ((l.take i ++ (lo', hi') :: l.drop j).take 16) ∧ (∀ k, F' k → F k ∨ w.heap.size ≤ k) ∧ Kept F w ((w'.setCell ⟨B, 0, none⟩ sv').drew.setCell ⟨B, 0, none⟩ (.slice (some ⟨g, 0, none⟩) k c))) := fun W lo' hi' w' sv' b hin => by
    have := padd_fin hF L ho hob hoB b hin (by rw [hmm]; omega)
    rw [hmm, ← hmmd] at this
    exact this
  have p1 : decide (lo < 0) = false := decide_eq_false (by omega)
  have p2 : decide (hi < lo) = false := decide_eq_false (by omega)
  have p3 : decide ((4611686018427387903 : Int) < hi) = false := decide_eq_false (by omega)
  have hBK : ¬ (B = w.heap.size) := by omega
  have hBK' : ¬ (w.heap.size = B) := by omega
  have hBL : ¬ (B = w.heap.size + 1) := by omega
  have hBL' : ¬ (w.heap.size + 1 = B) := by omega
  have hrow := own_rgAt ho
  have hlo : Hid (∀ k, sv.ownBlock = some k → k < w.heap.size) := fun k hk => (ho.lt k hk).2
  replace hF : Hid _ := hF
  clear hmm L ho keepO hmmd
  by_cases q : i < j
  · rw [if_pos q] at ef
    have g1 : decide ((i : Int) < (j : Int)) = true := decide_eq_true (by omega)
    obtain ⟨s, cap, rfl, hr⟩ := hrow
    rcases hr with rfl | ⟨g, og, rfl, hr⟩
    · simp at hjl; omega
    · have hglt : g < w.heap.size := hlo.out g rfl
      obtain ⟨lo', hlo'⟩ : ∃ lo', lo' = min lo (l.getD (j - 1) (0, 0)).1 := ⟨_, rfl⟩
      obtain ⟨hi', hhi'⟩ : ∃ hi', hi' = max hi (l.getD i (0, 0)).2 := ⟨_, rfl⟩
      rw [← hlo', ← hhi'] at ef
      obtain ⟨j', hj'⟩ : ∃ j', j = j' + 1 := ⟨j - 1, by omega⟩
      rw [hj', Nat.add_sub_cancel] at hlo'
      have r1 := (hr i (by omega)).2
      have r2 := (hr j' (by omega)).1
      have ia := fun w' => at_rgs g og l.length cap i w' (by omega) (i : Int) rfl (og + 2 * i) rfl
      have ib := fun w' => at_rgs g og l.length cap j' w' (by omega) ((j : Int) - 1) (by omega) (og + 2 * j') rfl
      have hwj : IntKind.i64.wrap ((j : Int) - 1) = (j : Int) - 1 := by rw [IntKind.wrap_i64]; omega
      generalize (l.getD i (0, 0)).2 = y at *
      generalize (l.getD j' (0, 0)).1 = x at *
      have hmx : (if hi < y then y else hi) = hi' := by rw [hhi']; split <;> omega
      have hmi : (if x < lo then x else lo) = lo' := by rw [hlo']; split <;> omega
      have FACT : Hid (∀ w3, Below w1.heap.size w1 w3 → w3.cell? ⟨B, 0, none⟩ = some (.slice (some ⟨g, og, none⟩) l.length cap) ∧ w3.cell? ⟨w.heap.size, 0, none⟩ = some (.int .i64 lo) ∧ w3.cell? ⟨w.heap.size + 1, 0, none⟩ = some (.int .i64 hi) ∧ w3.frozen? ⟨w.heap.size, 0, none⟩ = false ∧ w3.frozen? ⟨w.heap.size + 1, 0, none⟩ = false ∧ w3.cell? ⟨g, og + 2 * i + 1, none⟩ = some (.int .i64 y) ∧ w3.cell? ⟨g, og + 2 * j', none⟩ = some (.int .i64 x) ∧ w.heap.size + 2 ≤ w3.heap.size ∧ Below w.heap.size w w3) := fun w3 bb => by
        have b3 := b1.trans (bb.mono b1.size)
        have z3 := bb.size
        exact ⟨keepB.out w3 b3, (bb.cell (by show w.heap.size < _; omega)).trans k4, (bb.cell (by show w.heap.size + 1 < _; omega)).trans k5, by rw [bb.frozen (by show w.heap.size < _; omega)]; exact f4, by rw [bb.frozen (by show w.heap.size + 1 < _; omega)]; exact f5, (b3.cell hglt).trans r1, (b3.cell hglt).trans r2, by omega, b3⟩
      have hgK : ¬ (g = w.heap.size) := by omega
      have hgK' : ¬ (w.heap.size = g) := by omega
      have hgL : ¬ (g = w.heap.size + 1) := by omega
      have hgL' : ¬ (w.heap.size + 1 = g) := by omega
      rw [ef]
      replace hr : Hid _ := hr
      replace b1 : Hid _ := b1
      replace hj' : Hid _ := hj'
      clear hlo' hhi' ef k4 k5 f4 f5 r1 r2 z1 hlo
      subst hw1
      go_enter Try.func11, Try.ntmps11
      go_wp2_with fail
      refine C1.out.mono ?_
      rintro e' w2 ⟨rfl, bb2⟩
      have C2' := C2.out w2 bb2
      replace C2' : Hid (Calls _ _ _ _ _) := C2'
      replace bb2 : Hid _ := bb2
      go_wp2_with fail
      refine C2'.out.mono ?_
      rintro e' w3 ⟨rfl, bb3⟩
      obtain ⟨cB, c4, c5, f4, f5, r1, r2, z3, b3⟩ := FACT.out w3 bb3
      replace b3 : Hid _ := b3
      replace bb3 : Hid _ := bb3
      clear bb2 C1 C2 C2' FACT
      go_wp2
      go_region
      go_wp2
      go_region
      have c4' : (((w3.setCell ⟨w.heap.size + 1, 0, none⟩ (.int .i64 hi')).setCell ⟨w.heap.size, 0, none⟩ (.int .i64 lo')).drew.drew).cell? ⟨w.heap.size, 0, none⟩ = some (.int .i64 lo') := World.cell?_setCell_same _ _ _ ((World.cell?_setCell_other _ _ _ _ (by intro q; injection q with q; omega)).trans c4)
      have c5' : (((w3.setCell ⟨w.heap.size + 1, 0, none⟩ (.int .i64 hi')).setCell ⟨w.heap.size, 0, none⟩ (.int .i64 lo')).drew.drew).cell? ⟨w.heap.size + 1, 0, none⟩ = some (.int .i64 hi') := (World.cell?_setCell_other _ _ _ _ (by intro q; injection q with q; omega)).trans (World.cell?_setCell_same _ _ _ c5)
      have cB' : (((w3.setCell ⟨w.heap.size + 1, 0, none⟩ (.int .i64 hi')).setCell ⟨w.heap.size, 0, none⟩ (.int .i64 lo')).drew.drew).cell? ⟨B, 0, none⟩ = some (.slice (some ⟨g, og, none⟩) l.length cap) := (World.cell?_setCell_other _ _ _ _ (by intro q; injection q with q; omega)).trans ((World.cell?_setCell_other _ _ _ _ (by intro q; injection q with q; omega)).trans cB)
      have bW : Below w.heap.size w (((w3.setCell ⟨w.heap.size + 1, 0, none⟩ (.int .i64 hi')).setCell ⟨w.heap.size, 0, none⟩ (.int .i64 lo')).drew.drew) := ⟨b3.out.os, b3.out.tape, b3.out.output, by simpa using b3.out.size, fun k hk => (Below.heap_setCell _ _ _ _ (by show k ≠ w.heap.size; omega)).trans ((Below.heap_setCell _ _ _ _ (by show k ≠ w.heap.size + 1; omega)).trans (b3.out.block k hk))⟩
      have zW : w.heap.size + 2 ≤ (((w3.setCell ⟨w.heap.size + 1, 0, none⟩ (.int .i64 hi')).setCell ⟨w.heap.size, 0, none⟩ (.int .i64 lo')).drew.drew).heap.size := by simpa using z3
      clear c4 c5 cB f4 f5 r1 r2 z3 b3 bb3 ia ib
      go_wp2
      generalize ((w3.setCell ⟨w.heap.size + 1, 0, none⟩ (.int .i64 hi')).setCell ⟨w.heap.size, 0, none⟩ (.int .i64 lo')).drew.drew = W at c4' c5' cB' bW zW ⊢
      have c4 := c4'
      have c5 := c5'
      have cB := cB'
      clear c4' c5' cB'
      refine wp_region_held (S := fun w' => w'.cell? ⟨w.heap.size, 0, none⟩ = some (.int .i64 lo') ∧ w'.cell? ⟨w.heap.size + 1, 0, none⟩ = some (.int .i64 hi')) (by kernel_rfl) ?_
      change wpAnyH _ .any _ _ _ 15 (Array.replicate 15 false) _ W.drew
      have hS : (fun w' => w'.cell? ⟨w.heap.size, 0, none⟩ = some (.int .i64 lo') ∧ w'.cell? ⟨w.heap.size + 1, 0, none⟩ = some (.int .i64 hi')) W.drew := ⟨c4, c5⟩
      refine obTakeH (i := 0) (d := 50) (v := .pointer (some ⟨B, 0, none⟩)) rfl rfl (by kernel_rfl) (by kernel_rfl) (by kernel_rfl) (fun _ _ _ h => h) rfl (fun w hS => by obtain ⟨s1, s2⟩ := hS; go_simp) hS ?_
      refine obTakeH (i := 1) (d := 51) (v := .pointer (some ⟨B, 0, none⟩)) rfl rfl (by kernel_rfl) (by kernel_rfl) (by kernel_rfl) (fun _ _ _ h => h) rfl (fun w hS => by obtain ⟨s1, s2⟩ := hS; go_simp) hS ?_
      refine obTakeH (i := 2) (d := 52) (v := .pointer (some ⟨B, 0, none⟩)) rfl rfl (by kernel_rfl) (by kernel_rfl) (by kernel_rfl) (fun _ _ _ h => h) rfl (fun w hS => by obtain ⟨s1, s2⟩ := hS; go_simp) hS ?_
      refine obTakeH (i := 3) (d := 53) (v := .pointer (some ⟨B, 0, none⟩)) rfl rfl (by kernel_rfl) (by kernel_rfl) (by kernel_rfl) (fun _ _ _ h => h) rfl (fun w hS => by obtain ⟨s1, s2⟩ := hS; go_simp) hS ?_
      refine obTakeH (i := 5) (d := 55) (v := .int .i64 (i : Int)) rfl rfl (by kernel_rfl) (by kernel_rfl) (by kernel_rfl) (fun _ _ _ h => h) rfl (fun w hS => by obtain ⟨s1, s2⟩ := hS; go_simp) hS ?_
      refine obTakeH (i := 6) (d := 56) (v := .int .i64 (j : Int)) rfl rfl (by kernel_rfl) (by kernel_rfl) (by kernel_rfl) (fun _ _ _ h => h) rfl (fun w hS => by obtain ⟨s1, s2⟩ := hS; go_simp) hS ?_
      refine obTakeH (i := 7) (d := 57) (v := .int .i64 lo') rfl rfl (by kernel_rfl) (by kernel_rfl) (by kernel_rfl) (fun _ _ _ h => h) rfl (fun w hS => by obtain ⟨s1, s2⟩ := hS; go_simp) hS ?_
      refine obTakeH (i := 8) (d := 58) (v := .int .i64 hi') rfl rfl (by kernel_rfl) (by kernel_rfl) (by kernel_rfl) (fun _ _ _ h => h) rfl (fun w hS => by obtain ⟨s1, s2⟩ := hS; go_simp) hS ?_
      refine obTakeH (i := 9) (d := 59) (v := .agg #[.int .i64 lo', .int .i64 hi']) rfl rfl (by kernel_rfl) (by kernel_rfl) (by kernel_rfl) (fun _ _ _ h => h) rfl (fun w hS => by obtain ⟨s1, s2⟩ := hS; go_simp) hS ?_
      simp only [Act.put, List.setIfInBounds_toArray, List.set_cons_succ, List.set_cons_zero]
      have CC := TC.out W lo' hi' bW
      have hS2 : (fun w' => w'.cell? ⟨w.heap.size, 0, none⟩ = some (.int .i64 lo') ∧ w'.cell? ⟨w.heap.size + 1, 0, none⟩ = some (.int .i64 hi')) (W.drew.alloc (.cells #[.int .i64 lo', .int .i64 hi'] 38)) := ⟨by rw [World.cell?_alloc_past (w := W.drew) _ _ _ (by show _ < W.heap.size; omega)]; exact c4, by rw [World.cell?_alloc_past (w := W.drew) _ _ _ (by show _ < W.heap.size; omega)]; exact c5⟩
      have cB2 : (W.drew.alloc (.cells #[.int .i64 lo', .int .i64 hi'] 38)).cell? ⟨B, 0, none⟩ = some (.slice (some ⟨g, og, none⟩) l.length cap) := by rw [World.cell?_alloc_past (w := W.drew) _ _ _ (by show B < W.heap.size; omega)]; exact cB
      have hBW : B < W.heap.size := by omega
      refine wpAnyH_all (rs := [4, 10]) (by kernel_rfl) (by simp) (fun i' hi' => ?_)
      have h2 : i' = 4 ∨ i' = 10 := by simpa using hi'
      clear hi'
      rcases h2 with rfl | rfl
      · refine wpOp_step rfl (fun K' hK => ?_)
        go_simp
        refine hK _ _ ⟨hS, ?_⟩
        clear hK K'
        refine wpAnyH_all (rs := [10]) (by kernel_rfl) (by simp) (fun i' hi' => ?_)
        obtain rfl : i' = 10 := by simpa using hi'
        refine wpOp_step rfl (fun K' hK => ?_)
        clear hi'
        go_simp
        refine hK _ _ ⟨hS2, ?_⟩
        clear hK K'
        refine wpAnyH_all (rs := [11]) (by kernel_rfl) (by simp) (fun i' hi' => ?_)
        obtain rfl : i' = 11 := by simpa using hi'
        refine wpOp_step rfl (fun K' hK => ?_)
        clear hi'
        simp only [Region.wanted]
        refine obCall4 24 _ (k1 := 54) (k2 := 55) (k3 := 56) (k4 := 60) (d := 61) rfl rfl _ _ _ _ (fun w => by simp [go_sem]) rfl rfl rfl rfl CC ?_
        rintro e' w2 ⟨sv', rfl, hin⟩
        obtain ⟨g', c', rfl, hmc, hc63, dB, eB, hold, FF⟩ := FIN.out W lo' hi' w2 sv' bW hin
        have hS3 : (fun w' => w'.cell? ⟨w.heap.size, 0, none⟩ = some (.int .i64 lo') ∧ w'.cell? ⟨w.heap.size + 1, 0, none⟩ = some (.int .i64 hi')) w2 := ⟨(World.cell?_of_block (a := ⟨w.heap.size, 0, none⟩) (hold w.heap.size (Nat.le_refl _) (by omega))).trans c4, (World.cell?_of_block (a := ⟨w.heap.size + 1, 0, none⟩) (hold (w.heap.size + 1) (by omega) (by omega))).trans c5⟩
        refine ⟨_, rfl, hK _ _ ⟨hS3, ?_⟩⟩
        clear hK K' hin
        replace FF : Hid _ := FF
        refine obTakeH (i := 12) (d := 62) (v := .pointer (some ⟨B, 0, none⟩)) rfl rfl (by kernel_rfl) (by kernel_rfl) (by kernel_rfl) (fun _ _ _ h => h) rfl (fun w hS => by obtain ⟨s1, s2⟩ := hS; go_simp) hS3 ?_
        refine obTakeH (i := 13) (d := 63) (v := .pointer (some ⟨B, 0, none⟩)) rfl rfl (by kernel_rfl) (by kernel_rfl) (by kernel_rfl) (fun _ _ _ h => h) rfl (fun w hS => by obtain ⟨s1, s2⟩ := hS; go_simp) hS3 ?_
        simp only [Act.put, List.setIfInBounds_toArray, List.set_cons_succ, List.set_cons_zero]
        refine wpAnyH_all (rs := [14]) (by kernel_rfl) (by simp) (fun i' hi' => ?_)
        obtain rfl : i' = 14 := by simpa using hi'
        refine wpOp_step rfl (fun K' hK => ?_)
        clear hi'
        go_simp
        refine hK _ _ ⟨⟨?_, ?_⟩, ?_⟩
        · rw [World.cell?_setCell_other _ _ _ _ (by intro q; injection q with q; omega)]; exact hS3.1
        · rw [World.cell?_setCell_other _ _ _ _ (by intro q; injection q with q; omega)]; exact hS3.2
        clear hK K' hS3 hold hS hS2 cB2 CC TC FIN cB c4 c5 bW
        refine wpAnyH_done (by kernel_rfl) ?_ 0
        have hmn : (if (16 : Int) < (mm : Int) then (16 : Int) else (mm : Int)) = ((Nat.min mm 16 : Nat) : Int) := by simp only [Nat.min_def]; split <;> split <;> omega
        have hmk : Nat.min mm 16 ≤ c' := by simp only [Nat.min_def]; split <;> omega
        have FFF : Hid _ := FF.out (Nat.min mm 16) rfl
        clear FF
        generalize Nat.min mm 16 = kk at *
        have hmk' : (kk : Int) ≤ (c' : Int) := by omega
        go_wp2
        go_region
        go_wp2
        go_ret
        exact ⟨rfl, FFF.out⟩
      · refine wpOp_step rfl (fun K' hK => ?_)
        go_simp
        refine hK _ _ ⟨hS2, ?_⟩
        clear hK K'
        refine wpAnyH_all (rs := [4]) (by kernel_rfl) (by simp) (fun i' hi' => ?_)
        obtain rfl : i' = 4 := by simpa using hi'
        refine wpOp_step rfl (fun K' hK => ?_)
        clear hi'
        go_simp
        refine hK _ _ ⟨hS2, ?_⟩
        clear hK K'
        refine wpAnyH_all (rs := [11]) (by kernel_rfl) (by simp) (fun i' hi' => ?_)
        obtain rfl : i' = 11 := by simpa using hi'
        refine wpOp_step rfl (fun K' hK => ?_)
        clear hi'
        simp only [Region.wanted]
        refine obCall4 24 _ (k1 := 54) (k2 := 55) (k3 := 56) (k4 := 60) (d := 61) rfl rfl _ _ _ _ (fun w => by simp [go_sem]) rfl rfl rfl rfl CC ?_
        rintro e' w2 ⟨sv', rfl, hin⟩
        obtain ⟨g', c', rfl, hmc, hc63, dB, eB, hold, FF⟩ := FIN.out W lo' hi' w2 sv' bW hin
        have hS3 : (fun w' => w'.cell? ⟨w.heap.size, 0, none⟩ = some (.int .i64 lo') ∧ w'.cell? ⟨w.heap.size + 1, 0, none⟩ = some (.int .i64 hi')) w2 := ⟨(World.cell?_of_block (a := ⟨w.heap.size, 0, none⟩) (hold w.heap.size (Nat.le_refl _) (by omega))).trans c4, (World.cell?_of_block (a := ⟨w.heap.size + 1, 0, none⟩) (hold (w.heap.size + 1) (by omega) (by omega))).trans c5⟩
        refine ⟨_, rfl, hK _ _ ⟨hS3, ?_⟩⟩
        clear hK K' hin
        replace FF : Hid _ := FF
        refine obTakeH (i := 12) (d := 62) (v := .pointer (some ⟨B, 0, none⟩)) rfl rfl (by kernel_rfl) (by kernel_rfl) (by kernel_rfl) (fun _ _ _ h => h) rfl (fun w hS => by obtain ⟨s1, s2⟩ := hS; go_simp) hS3 ?_
        refine obTakeH (i := 13) (d := 63) (v := .pointer (some ⟨B, 0, none⟩)) rfl rfl (by kernel_rfl) (by kernel_rfl) (by kernel_rfl) (fun _ _ _ h => h) rfl (fun w hS => by obtain ⟨s1, s2⟩ := hS; go_simp) hS3 ?_
        simp only [Act.put, List.setIfInBounds_toArray, List.set_cons_succ, List.set_cons_zero]
        refine wpAnyH_all (rs := [14]) (by kernel_rfl) (by simp) (fun i' hi' => ?_)
        obtain rfl : i' = 14 := by simpa using hi'
        refine wpOp_step rfl (fun K' hK => ?_)
        clear hi'
        go_simp
        refine hK _ _ ⟨⟨?_, ?_⟩, ?_⟩
        · rw [World.cell?_setCell_other _ _ _ _ (by intro q; injection q with q; omega)]; exact hS3.1
        · rw [World.cell?_setCell_other _ _ _ _ (by intro q; injection q with q; omega)]; exact hS3.2
        clear hK K' hS3 hold hS hS2 cB2 CC TC FIN cB c4 c5 bW
        refine wpAnyH_done (by kernel_rfl) ?_ 0
        have hmn : (if (16 : Int) < (mm : Int) then (16 : Int) else (mm : Int)) = ((Nat.min mm 16 : Nat) : Int) := by simp only [Nat.min_def]; split <;> split <;> omega
        have hmk : Nat.min mm 16 ≤ c' := by simp only [Nat.min_def]; split <;> omega
        have FFF : Hid _ := FF.out (Nat.min mm 16) rfl
        clear FF
        generalize Nat.min mm 16 = kk at *
        have hmk' : (kk : Int) ≤ (c' : Int) := by omega
        go_wp2
        go_region
        go_wp2
        go_ret
        exact ⟨rfl, FFF.out⟩
  · obtain rfl : i = j := by omega
    rw [if_neg q] at ef
    have g1 : decide ((i : Int) < (i : Int)) = false := decide_eq_false (by omega)
    obtain ⟨lo', rfl⟩ : ∃ lo', lo = lo' := ⟨_, rfl⟩
    obtain ⟨hi', rfl⟩ : ∃ hi', hi = hi' := ⟨_, rfl⟩
    rw [ef]
    have FACT : Hid (∀ w3, Below w1.heap.size w1 w3 → w3.cell? ⟨B, 0, none⟩ = some sv ∧ w3.cell? ⟨w.heap.size, 0, none⟩ = some (.int .i64 lo) ∧ w3.cell? ⟨w.heap.size + 1, 0, none⟩ = some (.int .i64 hi) ∧ w.heap.size + 2 ≤ w3.heap.size ∧ Below w.heap.size w w3) := fun w3 bb => by
      have b3 := b1.trans (bb.mono b1.size)
      have z3 := bb.size
      exact ⟨keepB.out w3 b3, (bb.cell (by show w.heap.size < _; omega)).trans k4, (bb.cell (by show w.heap.size + 1 < _; omega)).trans k5, by omega, b3⟩
    replace b1 : Hid _ := b1
    replace hrow : Hid _ := hrow
    clear ef k4 k5 f4 f5 z1 hlo
    subst hw1
    go_enter Try.func11, Try.ntmps11
    go_wp2_with fail
    refine C1.out.mono ?_
    rintro e' w2 ⟨rfl, bb2⟩
    have C2' := C2.out w2 bb2
    replace C2' : Hid (Calls _ _ _ _ _) := C2'
    replace bb2 : Hid _ := bb2
    go_wp2_with fail
    refine C2'.out.mono ?_
    rintro e' W ⟨rfl, bb3⟩
    obtain ⟨cB, c4, c5, zW, bW⟩ := FACT.out W bb3
    clear bb2 bb3 C1 C2 C2' FACT
    replace bW : Hid _ := bW
    go_wp2
    have bW' := bW.out
    clear bW
    have bW := bW'
    clear bW'
    refine wp_region_held (S := fun w' => w'.cell? ⟨w.heap.size, 0, none⟩ = some (.int .i64 lo) ∧ w'.cell? ⟨w.heap.size + 1, 0, none⟩ = some (.int .i64 hi)) (by kernel_rfl) ?_
    change wpAnyH _ .any _ _ _ 15 (Array.replicate 15 false) _ W.drew
    have hS : (fun w' => w'.cell? ⟨w.heap.size, 0, none⟩ = some (.int .i64 lo) ∧ w'.cell? ⟨w.heap.size + 1, 0, none⟩ = some (.int .i64 hi)) W.drew := ⟨c4, c5⟩
    refine obTakeH (i := 0) (d := 50) (v := .pointer (some ⟨B, 0, none⟩)) rfl rfl (by kernel_rfl) (by kernel_rfl) (by kernel_rfl) (fun _ _ _ h => h) rfl (fun w hS => by obtain ⟨s1, s2⟩ := hS; go_simp) hS ?_
    refine obTakeH (i := 1) (d := 51) (v := .pointer (some ⟨B, 0, none⟩)) rfl rfl (by kernel_rfl) (by kernel_rfl) (by kernel_rfl) (fun _ _ _ h => h) rfl (fun w hS => by obtain ⟨s1, s2⟩ := hS; go_simp) hS ?_
    refine obTakeH (i := 2) (d := 52) (v := .pointer (some ⟨B, 0, none⟩)) rfl rfl (by kernel_rfl) (by kernel_rfl) (by kernel_rfl) (fun _ _ _ h => h) rfl (fun w hS => by obtain ⟨s1, s2⟩ := hS; go_simp) hS ?_
    refine obTakeH (i := 3) (d := 53) (v := .pointer (some ⟨B, 0, none⟩)) rfl rfl (by kernel_rfl) (by kernel_rfl) (by kernel_rfl) (fun _ _ _ h => h) rfl (fun w hS => by obtain ⟨s1, s2⟩ := hS; go_simp) hS ?_
    refine obTakeH (i := 5) (d := 55) (v := .int .i64 (i : Int)) rfl rfl (by kernel_rfl) (by kernel_rfl) (by kernel_rfl) (fun _ _ _ h => h) rfl (fun w hS => by obtain ⟨s1, s2⟩ := hS; go_simp) hS ?_
    refine obTakeH (i := 6) (d := 56) (v := .int .i64 (i : Int)) rfl rfl (by kernel_rfl) (by kernel_rfl) (by kernel_rfl) (fun _ _ _ h => h) rfl (fun w hS => by obtain ⟨s1, s2⟩ := hS; go_simp) hS ?_
    refine obTakeH (i := 7) (d := 57) (v := .int .i64 lo) rfl rfl (by kernel_rfl) (by kernel_rfl) (by kernel_rfl) (fun _ _ _ h => h) rfl (fun w hS => by obtain ⟨s1, s2⟩ := hS; go_simp) hS ?_
    refine obTakeH (i := 8) (d := 58) (v := .int .i64 hi) rfl rfl (by kernel_rfl) (by kernel_rfl) (by kernel_rfl) (fun _ _ _ h => h) rfl (fun w hS => by obtain ⟨s1, s2⟩ := hS; go_simp) hS ?_
    refine obTakeH (i := 9) (d := 59) (v := .agg #[.int .i64 lo, .int .i64 hi]) rfl rfl (by kernel_rfl) (by kernel_rfl) (by kernel_rfl) (fun _ _ _ h => h) rfl (fun w hS => by obtain ⟨s1, s2⟩ := hS; go_simp) hS ?_
    simp only [Act.put, List.setIfInBounds_toArray, List.set_cons_succ, List.set_cons_zero]
    have CC := TC.out W lo hi bW
    have hS2 : (fun w' => w'.cell? ⟨w.heap.size, 0, none⟩ = some (.int .i64 lo) ∧ w'.cell? ⟨w.heap.size + 1, 0, none⟩ = some (.int .i64 hi)) (W.drew.alloc (.cells #[.int .i64 lo, .int .i64 hi] 38)) := ⟨by rw [World.cell?_alloc_past (w := W.drew) _ _ _ (by show _ < W.heap.size; omega)]; exact c4, by rw [World.cell?_alloc_past (w := W.drew) _ _ _ (by show _ < W.heap.size; omega)]; exact c5⟩
    have cB2 : (W.drew.alloc (.cells #[.int .i64 lo, .int .i64 hi] 38)).cell? ⟨B, 0, none⟩ = some (sv) := by rw [World.cell?_alloc_past (w := W.drew) _ _ _ (by show B < W.heap.size; omega)]; exact cB
    have hBW : B < W.heap.size := by omega
    refine wpAnyH_all (rs := [4, 10]) (by kernel_rfl) (by simp) (fun i' hii => ?_)
    have h2 : i' = 4 ∨ i' = 10 := by simpa using hii
    clear hii
    rcases h2 with rfl | rfl
    · refine wpOp_step rfl (fun K' hK => ?_)
      go_simp
      refine hK _ _ ⟨hS, ?_⟩
      clear hK K'
      refine wpAnyH_all (rs := [10]) (by kernel_rfl) (by simp) (fun i' hii => ?_)
      obtain rfl : i' = 10 := by simpa using hii
      refine wpOp_step rfl (fun K' hK => ?_)
      clear hii
      go_simp
      refine hK _ _ ⟨hS2, ?_⟩
      clear hK K'
      refine wpAnyH_all (rs := [11]) (by kernel_rfl) (by simp) (fun i' hii => ?_)
      obtain rfl : i' = 11 := by simpa using hii
      refine wpOp_step rfl (fun K' hK => ?_)
      clear hii
      simp only [Region.wanted]
      refine obCall4 24 _ (k1 := 54) (k2 := 55) (k3 := 56) (k4 := 60) (d := 61) rfl rfl _ _ _ _ (fun w => by simp [go_sem]) rfl rfl rfl rfl CC ?_
      rintro e' w2 ⟨sv', rfl, hin⟩
      obtain ⟨g', c', rfl, hmc, hc63, dB, eB, hold, FF⟩ := FIN.out W lo hi w2 sv' bW hin
      have hS3 : (fun w' => w'.cell? ⟨w.heap.size, 0, none⟩ = some (.int .i64 lo) ∧ w'.cell? ⟨w.heap.size + 1, 0, none⟩ = some (.int .i64 hi)) w2 := ⟨(World.cell?_of_block (a := ⟨w.heap.size, 0, none⟩) (hold w.heap.size (Nat.le_refl _) (by omega))).trans c4, (World.cell?_of_block (a := ⟨w.heap.size + 1, 0, none⟩) (hold (w.heap.size + 1) (by omega) (by omega))).trans c5⟩
      refine ⟨_, rfl, hK _ _ ⟨hS3, ?_⟩⟩
      clear hK K' hin
      replace FF : Hid _ := FF
      refine obTakeH (i := 12) (d := 62) (v := .pointer (some ⟨B, 0, none⟩)) rfl rfl (by kernel_rfl) (by kernel_rfl) (by kernel_rfl) (fun _ _ _ h => h) rfl (fun w hS => by obtain ⟨s1, s2⟩ := hS; go_simp) hS3 ?_
      refine obTakeH (i := 13) (d := 63) (v := .pointer (some ⟨B, 0, none⟩)) rfl rfl (by kernel_rfl) (by kernel_rfl) (by kernel_rfl) (fun _ _ _ h => h) rfl (fun w hS => by obtain ⟨s1, s2⟩ := hS; go_simp) hS3 ?_
      simp only [Act.put, List.setIfInBounds_toArray, List.set_cons_succ, List.set_cons_zero]
      refine wpAnyH_all (rs := [14]) (by kernel_rfl) (by simp) (fun i' hii => ?_)
      obtain rfl : i' = 14 := by simpa using hii
      refine wpOp_step rfl (fun K' hK => ?_)
      clear hii
      go_simp
      refine hK _ _ ⟨⟨?_, ?_⟩, ?_⟩
      · rw [World.cell?_setCell_other _ _ _ _ (by intro q; injection q with q; omega)]; exact hS3.1
      · rw [World.cell?_setCell_other _ _ _ _ (by intro q; injection q with q; omega)]; exact hS3.2
      clear hK K' hS3 hold hS hS2 cB2 CC TC FIN cB c4 c5 bW
      refine wpAnyH_done (by kernel_rfl) ?_ 0
      have hmn : (if (16 : Int) < (mm : Int) then (16 : Int) else (mm : Int)) = ((Nat.min mm 16 : Nat) : Int) := by simp only [Nat.min_def]; split <;> split <;> omega
      have hmk : Nat.min mm 16 ≤ c' := by simp only [Nat.min_def]; split <;> omega
      have FFF : Hid _ := FF.out (Nat.min mm 16) rfl
      clear FF
      generalize Nat.min mm 16 = kk at *
      have hmk' : (kk : Int) ≤ (c' : Int) := by omega
      go_wp2
      go_region
      go_wp2
      go_ret
      exact ⟨rfl, FFF.out⟩
    · refine wpOp_step rfl (fun K' hK => ?_)
      go_simp
      refine hK _ _ ⟨hS2, ?_⟩
      clear hK K'
      refine wpAnyH_all (rs := [4]) (by kernel_rfl) (by simp) (fun i' hii => ?_)
      obtain rfl : i' = 4 := by simpa using hii
      refine wpOp_step rfl (fun K' hK => ?_)
      clear hii
      go_simp
      refine hK _ _ ⟨hS2, ?_⟩
      clear hK K'
      refine wpAnyH_all (rs := [11]) (by kernel_rfl) (by simp) (fun i' hii => ?_)
      obtain rfl : i' = 11 := by simpa using hii
      refine wpOp_step rfl (fun K' hK => ?_)
      clear hii
      simp only [Region.wanted]
      refine obCall4 24 _ (k1 := 54) (k2 := 55) (k3 := 56) (k4 := 60) (d := 61) rfl rfl _ _ _ _ (fun w => by simp [go_sem]) rfl rfl rfl rfl CC ?_
      rintro e' w2 ⟨sv', rfl, hin⟩
      obtain ⟨g', c', rfl, hmc, hc63, dB, eB, hold, FF⟩ := FIN.out W lo hi w2 sv' bW hin
      have hS3 : (fun w' => w'.cell? ⟨w.heap.size, 0, none⟩ = some (.int .i64 lo) ∧ w'.cell? ⟨w.heap.size + 1, 0, none⟩ = some (.int .i64 hi)) w2 := ⟨(World.cell?_of_block (a := ⟨w.heap.size, 0, none⟩) (hold w.heap.size (Nat.le_refl _) (by omega))).trans c4, (World.cell?_of_block (a := ⟨w.heap.size + 1, 0, none⟩) (hold (w.heap.size + 1) (by omega) (by omega))).trans c5⟩
      refine ⟨_, rfl, hK _ _ ⟨hS3, ?_⟩⟩
      clear hK K' hin
      replace FF : Hid _ := FF
      refine obTakeH (i := 12) (d := 62) (v := .pointer (some ⟨B, 0, none⟩)) rfl rfl (by kernel_rfl) (by kernel_rfl) (by kernel_rfl) (fun _ _ _ h => h) rfl (fun w hS => by obtain ⟨s1, s2⟩ := hS; go_simp) hS3 ?_
      refine obTakeH (i := 13) (d := 63) (v := .pointer (some ⟨B, 0, none⟩)) rfl rfl (by kernel_rfl) (by kernel_rfl) (by kernel_rfl) (fun _ _ _ h => h) rfl (fun w hS => by obtain ⟨s1, s2⟩ := hS; go_simp) hS3 ?_
      simp only [Act.put, List.setIfInBounds_toArray, List.set_cons_succ, List.set_cons_zero]
      refine wpAnyH_all (rs := [14]) (by kernel_rfl) (by simp) (fun i' hii => ?_)
      obtain rfl : i' = 14 := by simpa using hii
      refine wpOp_step rfl (fun K' hK => ?_)
      clear hii
      go_simp
      refine hK _ _ ⟨⟨?_, ?_⟩, ?_⟩
      · rw [World.cell?_setCell_other _ _ _ _ (by intro q; injection q with q; omega)]; exact hS3.1
      · rw [World.cell?_setCell_other _ _ _ _ (by intro q; injection q with q; omega)]; exact hS3.2
      clear hK K' hS3 hold hS hS2 cB2 CC TC FIN cB c4 c5 bW
      refine wpAnyH_done (by kernel_rfl) ?_ 0
      have hmn : (if (16 : Int) < (mm : Int) then (16 : Int) else (mm : Int)) = ((Nat.min mm 16 : Nat) : Int) := by simp only [Nat.min_def]; split <;> split <;> omega
      have hmk : Nat.min mm 16 ≤ c' := by simp only [Nat.min_def]; split <;> omega
      have FFF : Hid _ := FF.out (Nat.min mm 16) rfl
      clear FF
      generalize Nat.min mm 16 = kk at *
      have hmk' : (kk : Int) ≤ (c' : Int) := by omega
      go_wp2
      go_region
      go_wp2
      go_ret
      exact ⟨rfl, FFF.out⟩
theorem padd_ok (B : Nat) (F : Nat → Prop) (l : List Rg) (lo hi : Int) (w : World) (h : PS w B F l) (ok : Ok l) (_ : -9223372036854775808 ≤ lo ∧ lo ≤ 9223372036854775807) (_ : -9223372036854775808 ≤ hi ∧ hi ≤ 9223372036854775807) :
    Calls Try.prog 11 #[.pointer (some ⟨B, 0, none⟩), .int .i64 lo, .int .i64 hi] w fun e w' => e = .returned (.int .i64 (addE lo hi)) ∧ ∃ F', PS w' B F' (addS l lo hi) ∧ (∀ k, F' k → F k ∨ w.heap.size ≤ k) ∧ Kept F w w' := by
  unfold addE addS
  cases q : fineB lo hi
  · exact padd_no B F l lo hi w h q
  · obtain ⟨h1, h2, h3⟩ := fine_iff.1 q
    exact padd_yes B F l lo hi w h ok h1 h3 h2
end Go.Proofs.Ytlbhlmccjieieaa
