/-
  What slices.DeleteFunc leaves of packets in a row of one's own. The test keeps what it leans on while that row changes; fewer than 2^40 packets; no other condition.
-/
import Derived.Test.YtfjampommgkfeaaLpIdx
namespace Go.Proofs.Ytfjampommgkfeaa
set_option maxRecDepth 100000
open Go.RowKit Go.Sort

theorem pks_append (l m : List Pk) : pks (l ++ m) = pks l ++ pks m := by simp [pks, List.flatMap_append]
def spl (cur : Array Value) (o : Nat) (cs : List Value) : Array Value := (cur.toList.take o ++ cs ++ cur.toList.drop (o + cs.length)).toArray
theorem spl_size {cur : Array Value} {o : Nat} {cs : List Value} (h : o + cs.length ≤ cur.size) : (spl cur o cs).size = cur.size := by
  unfold spl
  simp
  omega
theorem spl_get {cur : Array Value} {o : Nat} {cs : List Value} (h : o + cs.length ≤ cur.size) (k : Nat) : (spl cur o cs)[k]? = if k < o then cur[k]? else if k < o + cs.length then cs[k - o]? else cur[k]? := by
  unfold spl
  have e : min o cur.size = o := by omega
  rw [List.getElem?_toArray, List.append_assoc, List.getElem?_append, List.length_take, Array.length_toList, e]
  by_cases h1 : k < o
  · rw [if_pos h1, if_pos h1, List.getElem?_take, if_pos h1, Array.getElem?_toList]
  · rw [if_neg h1, if_neg h1, List.getElem?_append]
    by_cases h2 : k < o + cs.length
    · rw [if_pos (by omega), if_pos h2]
    · rw [if_neg (by omega), if_neg h2, List.getElem?_drop, Array.getElem?_toList]
      congr 1
      omega
/-- A row of one's own, told by its cells. -/
theorem own3_of {w : World} {g cap n : Nat} {cur : Array Value} {l : List Pk} (hg : w.heap[g]? = some (.cells cur 58 (0, 0))) (hs : cur.size = cap * 3) (hl : l.length = n) (hn : n ≤ cap) (hm : cap ≤ maxLen) (h : ∀ k, k < 3 * n → cur[k]? = (pks l)[k]?) : w.ownsRow 0 58 3 (.slice (some ⟨g, 0, none⟩) n cap) n (pks l) := by
  refine ⟨by rw [pks_len]; omega, .inr ⟨g, cap, cur, rfl, Nat.zero_le _, hg, hn, hm, hs, ?_⟩⟩
  apply List.ext_getElem?
  intro k
  rw [List.getElem?_take]
  by_cases q : k < n * 3
  · rw [if_pos q, Array.getElem?_toList]; exact h k (by omega)
  · rw [if_neg q, List.getElem?_eq_none (by rw [pks_len]; omega)]
theorem own3_get {w : World} {g cap n : Nat} {l : List Pk} (h : w.ownsRow 0 58 3 (.slice (some ⟨g, 0, none⟩) n cap) n (pks l)) : ∃ cur, w.heap[g]? = some (.cells cur 58 (0, 0)) ∧ cur.size = cap * 3 ∧ n ≤ cap ∧ cap ≤ maxLen ∧ ∀ k, k < 3 * n → cur[k]? = (pks l)[k]? := by
  rcases h.2 with ⟨e, -⟩ | ⟨g', cap', cur, e, -, h1, h2, h3, h4, h5⟩
  · cases e
  · injection e with e1 _ e2
    injection e1 with e1
    injection e1 with e1
    subst e1 e2
    refine ⟨cur, h1, h4, h2, h3, fun k hk => ?_⟩
    rw [← h5, List.getElem?_take, if_pos (by omega), Array.getElem?_toList]
def zer3 (n : Nat) : List Value := (Builtin.zeroCells (Value.agg #[.int .i64 0, .int .i64 0, .int .i64 0]).cells n).toList
theorem zer3_len (n : Nat) : (zer3 n).length = 3 * n := by
  unfold zer3
  simp [Builtin.zeroCells, Value.cells]
  omega
theorem zer3_one (n : Nat) : ∀ v ∈ zer3 n, v.oneCell' = true := by
  intro v hv
  unfold zer3 at hv
  simp [Builtin.zeroCells, Value.cells] at hv
  obtain ⟨k, hk, rfl⟩ := hv
  have : k % 3 = 0 ∨ k % 3 = 1 ∨ k % 3 = 2 := by omega
  rcases this with e | e | e <;> simp [e] <;> rfl
/-- clear over a row. -/
theorem run_clear3 (w : World) (ty : TypeId) (g o n c : Nat) (cur : Array Value) (hg : w.heap[g]? = some (.cells cur 58 (0, 0))) (hn : 0 < n) (hfit : o + 3 * n ≤ cur.size) :
    ∀ z, (builtin .clear #[54] ty z #[.slice (some ⟨g, o, none⟩) n c]).run Try.prog w = .ok (.value (.tuple #[])) (w.setRow g (spl cur o (zer3 n))) := by
  have hst := run_storeCells_at Try.prog g o 58 (zer3 n) 0 cur w hg (by rw [zer3_len]; omega) (zer3_one n)
  obtain ⟨i, hi, hz, h2, -⟩ := info_ppk
  simp only [Nat.add_zero] at hst
  intro z
  obtain ⟨m, rfl⟩ : ∃ m, n = m + 1 := ⟨n - 1, by omega⟩
  have hv : (zeroValue 58).run Try.prog w = .ok (.agg #[.int .i64 0, .int .i64 0, .int .i64 0]) w := by simp [zeroValue, typeInfo, hi, hz]
  unfold zer3 at hst
  simp [builtin, Builtin.clear_, run_underlying Try.underlying54, hv, hst, spl, zer3]
theorem obB1L (P : Program) (w : World) {ops : Array Oper} {rest : List Oper} {o : Oper} {a : Act} {Q : Exit → Act → World → Prop} (hgd : o.guard = none) (b : Builtin) (x : Operand) (t : TypeId) (ho : o.op = .call { callee := .builtin b, args := #[x], argTypes := #[t] }) (v : Value) (hx : a.eval x = v)
    {v' : Value} {w' : World} (hr : ∀ z, (builtin b #[t] o.type z #[v]).run P w = .ok (.value v') w') (h : wpList P ops Q rest (a.put o.dst v') w') : wpList P ops Q (o :: rest) a w :=
  wpList_plain hgd fun _ hK => by
    have hr' : (execOp a.eval o).run P w = .ok (.value v') w' := by
      unfold execOp
      rw [ho]
      simp only [resolve, invoke, Sem.run_bind, Sem.run_pure, Result.andThen_ok, List.map_toArray, List.map_cons, List.map_nil, hx, hr]
    unfold Oper.wp
    rw [hr']
    exact hK _ _ h
/-- What is left: of a row's first j packets those that stay lie first; from j on all lie as they did. -/
structure DI (w wr : World) (g cap : Nat) (l : List Pk) (t : Pk → Bool) (i j : Nat) : Prop where
  cur : ∃ cur, wr.heap[g]? = some (.cells cur 58 (0, 0)) ∧ cur.size = cap * 3 ∧ (∀ x, x < 3 * i → cur[x]? = (pks ((l.take j).filter fun p => !t p))[x]?) ∧ ∀ x, 3 * j ≤ x → x < 3 * l.length → cur[x]? = (pks l)[x]?
  len : ((l.take j).filter fun p => !t p).length = i
  kp : Kept (fun k => k = g) w wr
theorem DI.keep {w wr w' : World} {g cap : Nat} {l : List Pk} {t : Pk → Bool} {i j : Nat} (h : DI w wr g cap l t i j) (b : Below wr.heap.size wr w') : DI w w' g cap l t i j := by
  obtain ⟨⟨cur, h1, h2⟩, h3, h4⟩ := h
  exact ⟨⟨cur, (b.block g (Array.getElem?_eq_some_iff.1 h1).1).trans h1, h2⟩, h3, h4.add b⟩
theorem DI.cells {w wr : World} {g cap : Nat} {l : List Pk} {t : Pk → Bool} {i j : Nat} (h : DI w wr g cap l t i j) (hj : j < l.length) :
    wr.cell? ⟨g, 3 * j, none⟩ = some (.int .i64 (l.getD j (0, 0, 0)).1) ∧ wr.cell? ⟨g, 3 * j + 1, none⟩ = some (.int .i64 (l.getD j (0, 0, 0)).2.1) ∧ wr.cell? ⟨g, 3 * j + 2, none⟩ = some (.int .i64 (l.getD j (0, 0, 0)).2.2) := by
  obtain ⟨⟨cur, h1, h2, h3, h4⟩, -, -⟩ := h
  have q : ∀ m, m < 3 → wr.cell? ⟨g, 3 * j + m, none⟩ = (pkc (l.getD j (0, 0, 0)))[m]? := fun m hm => by
    rw [← pks_get l j hj m hm, ← h4 _ (by omega) (by omega)]
    simp [World.cell?, h1]
  exact ⟨q 0 (by omega), q 1 (by omega), q 2 (by omega)⟩
theorem DI.free {w wr : World} {g cap : Nat} {l : List Pk} {t : Pk → Bool} {i j : Nat} (h : DI w wr g cap l t i j) (o : Nat) : wr.frozen? ⟨g, o, none⟩ = false := by
  obtain ⟨⟨cur, h1, -⟩, -, -⟩ := h
  simp [World.frozen?, h1]
theorem DI.has {w wr : World} {g cap : Nat} {l : List Pk} {t : Pk → Bool} {i j : Nat} (h : DI w wr g cap l t i j) (o : Nat) (ho : o < cap * 3) : ∃ v, wr.cell? ⟨g, o, none⟩ = some v := by
  obtain ⟨⟨cur, h1, h2, -⟩, -, -⟩ := h
  exact ⟨cur[o]'(by omega), by simp [World.cell?, h1, h2, ho]⟩
theorem filt_len (l : List Pk) (t : Pk → Bool) (j : Nat) : ((l.take j).filter fun p => !t p).length ≤ j := Nat.le_trans (List.length_filter_le ..) (by rw [List.length_take]; omega)
theorem filt_next (l : List Pk) (t : Pk → Bool) (j : Nat) (hj : j < l.length) : (l.take (j + 1)).filter (fun p => !t p) = (l.take j).filter (fun p => !t p) ++ (if t (l.getD j (0, 0, 0)) = true then [] else [l.getD j (0, 0, 0)]) := by
  rw [List.take_succ_eq_append_getElem hj, List.filter_append]
  have e : l.getD j (0, 0, 0) = l[j] := by simp [List.getD, List.getElem?_eq_getElem hj]
  rw [e]
  cases q : t l[j] <;> simp [q]
theorem DI.skip {w wr : World} {g cap : Nat} {l : List Pk} {t : Pk → Bool} {i j : Nat} (h : DI w wr g cap l t i j) (hj : j < l.length) (ht : t (l.getD j (0, 0, 0)) = true) : DI w wr g cap l t i (j + 1) := by
  obtain ⟨⟨cur, h1, h2, h3, h4⟩, h5, h6⟩ := h
  have e := filt_next l t j hj
  rw [if_pos ht, List.append_nil] at e
  exact ⟨⟨cur, h1, h2, by rw [e]; exact h3, fun x a b => h4 x (by omega) b⟩, by rw [e]; exact h5, h6⟩
theorem DI.move {w wr : World} {g cap : Nat} {l : List Pk} {t : Pk → Bool} {i j : Nat} (h : DI w wr g cap l t i j) (hj : j < l.length) (hij : i < j) (hc : l.length ≤ cap) (ht : t (l.getD j (0, 0, 0)) = false) :
    DI w (((wr.setCell ⟨g, 3 * i, none⟩ (.int .i64 (l.getD j (0, 0, 0)).1)).setCell ⟨g, 3 * i + 1, none⟩ (.int .i64 (l.getD j (0, 0, 0)).2.1)).setCell ⟨g, 3 * i + 2, none⟩ (.int .i64 (l.getD j (0, 0, 0)).2.2)) g cap l t (i + 1) (j + 1) := by
  obtain ⟨⟨cur, h1, h2, h3, h4⟩, h5, h6⟩ := h
  have e := filt_next l t j hj
  rw [if_neg (by rw [ht]; decide)] at e
  have q1 := setCell_eq_setRow wr g (3 * i) cur 58 (0, 0) (.int .i64 (l.getD j (0, 0, 0)).1) h1
  have k1 := setRow_heap wr g cur (cur.setIfInBounds (3 * i) (.int .i64 (l.getD j (0, 0, 0)).1)) 58 (0, 0) h1
  rw [← q1] at k1
  have q2 := setCell_eq_setRow _ g (3 * i + 1) _ 58 (0, 0) (.int .i64 (l.getD j (0, 0, 0)).2.1) k1
  have k2 := setRow_heap _ g _ ((cur.setIfInBounds (3 * i) (.int .i64 (l.getD j (0, 0, 0)).1)).setIfInBounds (3 * i + 1) (.int .i64 (l.getD j (0, 0, 0)).2.1)) 58 (0, 0) k1
  rw [← q2] at k2
  have q3 := setCell_eq_setRow _ g (3 * i + 2) _ 58 (0, 0) (.int .i64 (l.getD j (0, 0, 0)).2.2) k2
  have k3 := setRow_heap _ g _ (((cur.setIfInBounds (3 * i) (.int .i64 (l.getD j (0, 0, 0)).1)).setIfInBounds (3 * i + 1) (.int .i64 (l.getD j (0, 0, 0)).2.1)).setIfInBounds (3 * i + 2) (.int .i64 (l.getD j (0, 0, 0)).2.2)) 58 (0, 0) k2
  rw [← q3] at k3
  refine ⟨⟨_, k3, by simpa using h2, fun x hx => ?_, fun x hx hx' => ?_⟩, by rw [e, List.length_append, h5]; rfl, ?_⟩
  · rw [e, show pks ((l.take j).filter (fun p => !t p) ++ [l.getD j (0, 0, 0)]) = _ from pks_snoc _ _, List.getElem?_append, pks_len, h5]
    simp only [Array.getElem?_setIfInBounds, Array.size_setIfInBounds, h2]
    by_cases a1 : x < 3 * i
    · rw [if_neg (show ¬ 3 * i + 2 = x by omega), if_neg (show ¬ 3 * i + 1 = x by omega), if_neg (show ¬ 3 * i = x by omega), if_pos (show x < i * 3 by omega)]
      exact h3 x a1
    · rw [if_neg (show ¬ x < i * 3 by omega)]
      have : x = 3 * i ∨ x = 3 * i + 1 ∨ x = 3 * i + 2 := by omega
      rcases this with rfl | rfl | rfl
      · rw [if_neg (show ¬ 3 * i + 2 = 3 * i by omega), if_neg (show ¬ 3 * i + 1 = 3 * i by omega), if_pos rfl, if_pos (show 3 * i < cap * 3 by omega), show 3 * i - i * 3 = 0 by omega]
        rfl
      · rw [if_neg (show ¬ 3 * i + 2 = 3 * i + 1 by omega), if_pos rfl, if_pos (show 3 * i + 1 < cap * 3 by omega), show 3 * i + 1 - i * 3 = 1 by omega]
        rfl
      · rw [if_pos rfl, if_pos (show 3 * i + 2 < cap * 3 by omega), show 3 * i + 2 - i * 3 = 2 by omega]
        rfl
  · simp only [Array.getElem?_setIfInBounds, Array.size_setIfInBounds]
    rw [if_neg (show ¬ 3 * i + 2 = x by omega), if_neg (show ¬ 3 * i + 1 = x by omega), if_neg (show ¬ 3 * i = x by omega)]
    exact h4 x (by omega) hx'
  · exact Kept.set (F := fun k => k = g) (Kept.set (F := fun k => k = g) (Kept.set (F := fun k => k = g) h6 ⟨g, 3 * i, none⟩ rfl _) ⟨g, 3 * i + 1, none⟩ rfl _) ⟨g, 3 * i + 2, none⟩ rfl _
theorem DI.done {w wr : World} {g cap : Nat} {l : List Pk} {t : Pk → Bool} {i : Nat} (h : DI w wr g cap l t i l.length) (hc : l.length ≤ cap) (hm : cap ≤ maxLen) (hi : i < l.length) :
    ∃ cur, wr.heap[g]? = some (.cells cur 58 (0, 0)) ∧ cur.size = cap * 3 ∧ (wr.setRow g (spl cur (i * 3) (zer3 (l.length - i)))).ownsRow 0 58 3 (.slice (some ⟨g, 0, none⟩) i cap) (l.filter fun p => !t p).length (pks (l.filter fun p => !t p)) ∧ Kept (fun k => k = g) w (wr.setRow g (spl cur (i * 3) (zer3 (l.length - i)))) := by
  obtain ⟨⟨cur, h1, h2, h3, h4⟩, h5, h6⟩ := h
  rw [List.take_length] at h3 h5
  refine ⟨cur, h1, h2, ?_, ⟨h6.os, h6.tape, h6.output, by simpa using h6.size, fun k hk hf => (setRow_other _ _ _ _ hf).trans (h6.block k hk hf)⟩⟩
  have r : i * 3 + (zer3 (l.length - i)).length ≤ cur.size := by rw [zer3_len]; omega
  rw [h5]
  refine own3_of (setRow_heap _ g cur _ 58 (0, 0) h1) (by rw [spl_size r, h2]) h5 (by omega) hm fun k hk => ?_
  rw [spl_get r, if_pos (by omega)]
  exact h3 k hk
theorem DI.start {w w1 : World} {g cap : Nat} {l : List Pk} {t : Pk → Bool} {k : Nat} (ho : w.ownsRow 0 58 3 (.slice (some ⟨g, 0, none⟩) l.length cap) l.length (pks l)) (b : Below w.heap.size w w1) (hk : k < l.length) (h1 : ∀ i, i < k → t (l.getD i (0, 0, 0)) = false) (h2 : t (l.getD k (0, 0, 0)) = true) : DI w w1 g cap l t k (k + 1) := by
  obtain ⟨cur, c1, c2, c3, c4, c5⟩ := own3_get ho
  have e0 : (l.take k).filter (fun p => !t p) = l.take k := by
    rw [List.filter_eq_self]
    intro p hp
    obtain ⟨i, hi, e⟩ := List.getElem_of_mem hp
    rw [List.length_take] at hi
    have := h1 i (by omega)
    rw [List.getElem_take] at e
    simp only [List.getD, List.getElem?_eq_getElem (show i < l.length by omega), Option.getD_some, e] at this
    simp [this]
  have e := filt_next l t k hk
  rw [if_pos h2, List.append_nil, e0] at e
  refine ⟨⟨cur, (b.block g (Array.getElem?_eq_some_iff.1 c1).1).trans c1, c2, fun x hx => ?_, fun x _ hx => c5 x hx⟩, by rw [e, List.length_take]; omega, Kept.of _ b⟩
  rw [e, c5 x (by omega)]
  have e2 : pks l = pks (l.take k) ++ pks (l.drop k) := by rw [← pks_append, List.take_append_drop]
  rw [e2, List.getElem?_append, pks_len, List.length_take, if_pos (by omega)]
theorem none_filt {l : List Pk} {t : Pk → Bool} (h1 : ∀ i, i < l.length → t (l.getD i (0, 0, 0)) = false) : l.filter (fun p => !t p) = l := by
  rw [List.filter_eq_self]
  intro p hp
  obtain ⟨i, hi, e⟩ := List.getElem_of_mem hp
  have := h1 i (by omega)
  simp only [List.getD, List.getElem?_eq_getElem hi, Option.getD_some, e] at this
  simp [this]
set_option maxHeartbeats 4000000 in
theorem del_ok (sv : Value) (l : List Pk) (f : FuncId) (caps : Array Value) (t : Pk → Bool) (I : World → Prop) (w : World) (ho : w.ownsRow 0 58 3 sv l.length (pks l)) (hl : l.length < 1099511627776) (hk : ∀ w', Kept (fun k => sv.ownBlock = some k) w w' → I w') (ht : TstP f caps t I) :
    Calls Try.prog 38 #[sv, .func (.func f) #[] caps] w fun e w' => ∃ sv', e = .returned sv' ∧ w'.ownsRow 0 58 3 sv' (l.filter fun p => !t p).length (pks (l.filter fun p => !t p)) ∧ sv'.ownBlock = sv.ownBlock ∧ Kept (fun k => sv.ownBlock = some k) w w' := by
  have C1 : Hid _ := idxP_ok sv l f caps t I w (own_pkAt ho) (by omega) (fun w' b => hk w' (Kept.of _ b)) ht
  obtain ⟨hcf, hC⟩ := ht
  replace ho : Hid (w.ownsRow 0 58 3 sv l.length (pks l)) := ho
  replace hC : Hid _ := hC
  replace hk : Hid _ := hk
  go_enter Try.func38, Try.ntmps38
  go_wp2_with fail
  refine Calls.mono C1.out ?_
  rintro e w1 ⟨k, h1, rfl, h2, h3, b⟩
  clear C1
  by_cases q : k < l.length
  · rw [if_pos q]
    have g0 : ((k : Int) == -1) = false := by simp
    rcases ho.out.2 with ⟨rfl, h0⟩ | ⟨g, cap, cur0, rfl, -, -, hcap, hm, -⟩
    · omega
    · have D0 : Hid _ := DI.start ho.out b q h2 (h3 q)
      have hk2 : Hid (∀ w', Kept (fun k => k = g) w w' → I w') := fun w' K => hk.out w' (K.mono fun k _ e => by rw [e]; rfl)
      have hc63 : cap ≤ 9223372036854775807 := by unfold maxLen at hm; omega
      replace hm : Hid _ := hm
      clear hk ho b h2 h3
      go_wp2_with fail
      go_loopg [5, 6] (l.length - (k + 1)) (fun g' iv jv wr => ∃ i j : Nat, j + g' = l.length ∧ i < j ∧ iv = .int .i64 i ∧ jv = .int .i64 j ∧ Hid (DI w wr g cap l t i j))
      case atStart => exact ⟨k, k + 1, by omega, by omega, rfl, by go_num, D0⟩
      case round =>
        clear D0 q g0
        obtain ⟨i, j, hj, hij, rfl, rfl, D⟩ := hrel
        by_cases hlt : j < l.length
        · have g1 : decide ((j : Int) < (l.length : Int)) = true := decide_eq_true (by omega)
          obtain ⟨d0, d1, d2⟩ := D.out.cells hlt
          have ia := fun w' => at_ppk g 0 l.length cap j w' hlt (j : Int) rfl (3 * j) (by omega)
          have ib := fun w' => at_ppk g 0 l.length cap i w' (by omega) (i : Int) rfl (3 * i) (by omega)
          obtain ⟨p, hp⟩ : ∃ p, p = l.getD j (0, 0, 0) := ⟨_, rfl⟩
          have hsk := fun w' (D : DI w w' g cap l t i j) => D.skip hlt
          have hmv := fun w' (D : DI w w' g cap l t i j) => D.move hlt hij hcap
          rw [← hp] at d0 d1 d2 hsk hmv
          have al := (Below.refl wr.heap.size wr).alloc (Nat.le_refl _) (.cells #[.int .i64 p.1, .int .i64 p.2.1, .int .i64 p.2.2] 58)
          have DA := D.out.keep al
          have C : Hid _ := hC.out p (wr.alloc (.cells #[.int .i64 p.1, .int .i64 p.2.1, .int .i64 p.2.2] 58)) (hk2.out _ DA.kp)
          obtain ⟨x, y, z⟩ := p
          simp only at d0 d1 d2 C hmv
          have N0 := Lies.new wr [.int .i64 x, .int .i64 y, .int .i64 z] 58
          have nx : Hid (∀ w', Below (wr.alloc (.cells #[.int .i64 x, .int .i64 y, .int .i64 z] 58)).heap.size (wr.alloc (.cells #[.int .i64 x, .int .i64 y, .int .i64 z] 58)) w' → w'.cell? ⟨wr.heap.size, 0, none⟩ = some (.int .i64 x) ∧ w'.cell? ⟨wr.heap.size, 1, none⟩ = some (.int .i64 y) ∧ w'.cell? ⟨wr.heap.size, 2, none⟩ = some (.int .i64 z) ∧ DI w w' g cap l t i j) := fun w' b => by
            have N1 := N0.keep (by show 0 < 3; decide) b
            exact ⟨N1.cell 0 rfl, N1.cell 1 rfl, N1.cell 2 rfl, DA.keep b⟩
          replace hsk : Hid _ := hsk
          replace hmv : Hid _ := hmv
          replace hp : Hid _ := hp
          clear N0 DA al D
          cases htk : t (x, y, z)
          · rw [htk] at C
            replace htk : Hid _ := htk
            go_wp2_with fail
            refine Calls.mono C.out ?_
            rintro e w2 ⟨rfl, b2⟩
            obtain ⟨n0, n1, n2, D2⟩ := nx.out w2 b2
            have D3 : Hid _ := hmv.out w2 D2 htk.out
            obtain ⟨v0, e0⟩ := D2.has (3 * i) (by omega)
            obtain ⟨v1, e1⟩ := D2.has (3 * i + 1) (by omega)
            obtain ⟨v2, e2⟩ := D2.has (3 * i + 2) (by omega)
            have f0 := D2.free (3 * i)
            have f1 := D2.free (3 * i + 1)
            have f2 := D2.free (3 * i + 2)
            clear C nx hmv hsk D2 b2 d0 d1 d2
            go_wp2_with fail
            go_roundg (l.length - (j + 1))
            case measure => omega
            case rel => exact ⟨i + 1, j + 1, by omega, by omega, by go_num, by go_num, D3⟩
          · rw [htk] at C
            replace htk : Hid _ := htk
            go_wp2_with fail
            refine Calls.mono C.out ?_
            rintro e w2 ⟨rfl, b2⟩
            obtain ⟨-, -, -, D2⟩ := nx.out w2 b2
            have D3 : Hid _ := hsk.out w2 D2 htk.out
            clear C nx hmv hsk D2 b2 d0 d1 d2
            go_wp2_with fail
            go_roundg (l.length - (j + 1))
            case measure => omega
            case rel => exact ⟨i, j + 1, by omega, by omega, rfl, by go_num, D3⟩
        · have g1 : decide ((j : Int) < (l.length : Int)) = false := decide_eq_false (by omega)
          obtain rfl : j = l.length := by omega
          obtain ⟨cur, c1, c2, c3, c4⟩ := D.out.done hcap hm.out hij
          have hcl : Hid (∀ ty, ∀ z, (builtin .clear #[54] ty z #[.slice (some ⟨g, i * 3, none⟩) (l.length - i) (cap - i)]).run Try.prog wr = _) := fun ty => run_clear3 wr ty g (i * 3) (l.length - i) (cap - i) cur c1 (by omega) (by omega)
          have K : Hid (Kept (fun k => (Value.slice (some ⟨g, 0, none⟩) l.length cap).ownBlock = some k) w (wr.setRow g (spl cur (i * 3) (zer3 (l.length - i))))) := c4.mono fun k _ e => by rw [e]; rfl
          generalize wr.setRow g (spl cur (i * 3) (zer3 (l.length - i))) = w5 at *
          replace c3 : Hid _ := c3
          clear c1 c2 c4 D hC hk2
          have hin : (i : Int) ≤ (l.length : Int) := by omega
          have hic : (i : Int) ≤ (cap : Int) := by omega
          have hci : ¬ (cap = i) := by omega
          have h63 : l.length ≤ cap := hcap
          go_wp2_with (refine obB1L _ _ rfl .clear _ 54 rfl (.slice (some ⟨g, i * 3, none⟩) (l.length - i) (cap - i)) rfl (hcl.out _) ?_)
          go_ret
          exact ⟨_, rfl, c3.out, rfl, K.out⟩
  · obtain rfl : k = l.length := by omega
    rw [if_neg q]
    have e1 := none_filt h2
    have fin : Hid (w1.ownsRow 0 58 3 sv (l.filter fun p => !t p).length (pks (l.filter fun p => !t p))) := by
      rw [e1]
      exact row_block ho.out fun k hk => b.block k (ho.out.lt k hk).2
    have K : Hid (Kept (fun k => sv.ownBlock = some k) w w1) := Kept.of _ b
    clear b h2 h3 e1
    go_wp2_with fail
    go_ret
    exact ⟨sv, rfl, fin.out, rfl, K.out⟩
end Go.Proofs.Ytfjampommgkfeaa
