/-
  What the document's own Check and See of a window answer, and what they leave. Fewer than 2^40 numbers, each from 0 to 2^62 - 1; no other condition.
-/
import Derived.Test.YtjdkmjpajijkdaaRpRef
namespace Go.Proofs.Ytjdkmjpajijkdaa
set_option maxRecDepth 100000
open Go.RowKit Go.Sort

theorem owns_kept {w w' : World} {base size n : Nat} {e : TypeId} {v : Value} {xs : List Value} (h : w.ownsRow base e size v n xs) (b : Below w.heap.size w w') : w'.ownsRow base e size v n xs :=
  owns_block h fun k hk => b.block k (h.lt k hk).2
theorem mem_take_not {l : List Int} {n : Int} {k : Nat} (hk : k < l.length) (h : n ∉ l.take k) (hx : l.getD k 0 ≠ n) : n ∉ l.take (k + 1) := by
  rw [List.take_succ_eq_append_getElem hk]
  intro q
  rcases List.mem_append.1 q with q | q
  · exact h q
  · rw [List.mem_singleton] at q
    refine hx ?_
    simp [List.getD, List.getElem?_eq_getElem hk, q]
theorem mem_getD {l : List Int} {k : Nat} (hk : k < l.length) : l.getD k 0 ∈ l := by
  simp [List.getD, List.getElem?_eq_getElem hk]
set_option maxHeartbeats 4000000 in
theorem rcheck_b (R : Nat) (sv : Value) (l : List Int) (n : Int) (w : World) (h : Lies w R [sv]) (ho : w.ownsRow (R + 1) 2 1 sv l.length (i64s l)) (hl : l.length < 1099511627776) (hr : InR l) :
    Calls Try.prog 9 #[.pointer (some ⟨R, 0, none⟩), .int .i64 n] w fun e w' => e = .returned (.int .i64 (chk l n)) ∧ Below w.heap.size w w' := by
  by_cases hn : n < 0
  · rw [chk_range (.inl hn)]
    clear h ho
    go_enter Try.func9, Try.ntmps9
    go_wp2
    go_ret
    exact ⟨rfl, Below.refl _ _⟩
  by_cases hm : 4611686018427387903 < n
  · rw [chk_range (.inr hm)]
    clear h ho
    go_enter Try.func9, Try.ntmps9
    go_wp2
    go_ret
    exact ⟨rfl, Below.refl _ _⟩
  have hb1 : 0 ≤ n := by omega
  have hb2 : n ≤ 4611686018427387903 := by omega
  rw [chk_in hb1 hb2]
  have t1 := top_nonneg l
  have t2 := top_le hr
  have TP : Hid (∀ _ : Unit, _) := fun _ => rtop_b R sv l w h ho hl
  by_cases h0 : l = []
  · subst h0
    have e : (if (([] : List Int) ≠ [] ∧ n ≤ top [] - 64) ∨ n ∈ ([] : List Int) then (11 : Int) else 0) = 0 := by simp
    rw [e]
    have hnil : sv = .slice none 0 0 ∨ ∃ g cap, sv = .slice (some ⟨g, 0, none⟩) 0 cap := by
      rcases ho.2 with ⟨q, _⟩ | ⟨g, cap, _, q, _⟩
      · exact .inl q
      · exact .inr ⟨g, cap, q⟩
    have H0 : Hid (Lies w R [sv]) := h
    generalize top [] = T at *
    clear e h ho t1 t2
    go_enter Try.func9, Try.ntmps9
    go_wp2_with fail
    refine (TP.out ()).mono ?_
    rintro e w1 ⟨rfl, b1⟩
    have c0 := (H0.out.keep (by show 0 < 1; decide) b1).cell 0 (v := sv) rfl
    have Z1 : Hid (Below w.heap.size w w1) := b1
    clear b1 TP H0
    rcases hnil with rfl | ⟨g, cap, rfl⟩
    · go_wp2
      go_rounds 1
      go_ret
      exact ⟨rfl, Z1.out⟩
    · go_wp2
      go_rounds 1
      go_ret
      exact ⟨rfl, Z1.out⟩
  have hlp : 0 < l.length := List.length_pos_iff.2 h0
  have gp : decide (0 < l.length) = true := decide_eq_true hlp
  rw [gp] at TP
  by_cases hold : n ≤ top l - 64
  · have e : (if (l ≠ [] ∧ n ≤ top l - 64) ∨ n ∈ l then (11 : Int) else 0) = 11 := if_pos (.inl ⟨h0, hold⟩)
    rw [e]
    generalize top l = T at *
    clear e h ho
    go_enter Try.func9, Try.ntmps9
    go_wp2_with fail
    refine (TP.out ()).mono ?_
    rintro e w1 ⟨rfl, b1⟩
    have Z1 : Hid (Below w.heap.size w w1) := b1
    clear b1 TP
    go_wp2
    go_ret
    exact ⟨rfl, Z1.out⟩
  have e : (if (l ≠ [] ∧ n ≤ top l - 64) ∨ n ∈ l then (11 : Int) else 0) = if n ∈ l then 11 else 0 := by
    by_cases q : n ∈ l
    · rw [if_pos q, if_pos (.inr q)]
    · rw [if_neg q, if_neg (by rintro (q1 | q1); exact hold q1.2; exact q q1)]
  rw [e]
  clear e
  rcases ho.2 with ⟨rfl, hz⟩ | ⟨g, cap, cur, rfl, -, -, -⟩
  · omega
  obtain ⟨M, hM⟩ : ∃ M, M = l.length := ⟨_, rfl⟩
  have hc : Hid (∀ k w', k < M → Below w.heap.size w w' → w'.cell? ⟨g, k, none⟩ = some (.int .i64 (l.getD k 0))) := fun k w' hk b => own_cell (owns_kept ho b) k (by omega) rfl
  have H0 : Hid (Lies w R [.slice (some ⟨g, 0, none⟩) M cap]) := by rw [hM]; exact h
  rw [← hM] at hl hlp
  obtain ⟨A, hA⟩ : ∃ A : Int, A = if n ∈ l then 11 else 0 := ⟨_, rfl⟩
  rw [← hA]
  replace hA : Hid _ := hA
  replace hM : Hid _ := hM
  replace h0 : Hid _ := h0
  generalize top l = T at *
  clear h ho hr gp
  go_enter Try.func9, Try.ntmps9
  go_wp2_with fail
  refine (TP.out ()).mono ?_
  rintro e w1 ⟨rfl, b1⟩
  have c0 := (H0.out.keep (by show 0 < 1; decide) b1).cell 0 (v := .slice (some ⟨g, 0, none⟩) M cap) rfl
  have hc1 : Hid (∀ k, k < M → w1.cell? ⟨g, k, none⟩ = some (.int .i64 (l.getD k 0))) := fun k hk => hc.out k w1 hk b1
  have Z1 : Hid (Below w.heap.size w w1) := b1
  clear b1 TP H0 hc
  go_wp2
  go_loopg [7] M (fun g iv wr => ∃ k : Nat, k + g = M ∧ iv = .int .i64 k ∧ Hid (n ∉ l.take k) ∧ w1 = wr)
  case atStart => exact ⟨0, by omega, rfl, by unfold Hid; simp, rfl⟩
  case round =>
    obtain ⟨k, hk, rfl, hnot, rfl⟩ := hrel
    by_cases hlt : k < M
    · have g1 : decide ((k : Int) < (M : Int)) = true := decide_eq_true (by omega)
      have c1 := hc1.out k hlt
      have ia := fun w' => at_i64s g 0 M cap k w' hlt (k : Int) rfl k (by omega)
      by_cases q : l.getD k 0 = n
      · have hin : n ∈ l := q ▸ mem_getD (by have := hM.out; omega)
        have eA : A = 11 := by rw [hA.out, if_pos hin]
        have g2 : (n == n) = true := by simp
        rw [q] at c1
        subst eA
        clear hA hnot hc1 hin q
        go_wp2
        go_ret
        exact ⟨rfl, Z1.out⟩
      · have hnot2 : Hid (n ∉ l.take (k + 1)) := mem_take_not (by have := hM.out; omega) hnot.out q
        have g2 : (l.getD k 0 == n) = false := by simpa using q
        generalize l.getD k 0 = x at *
        clear hnot
        go_wp2
        go_roundg (M - (k + 1))
        case measure => omega
        case rel => exact ⟨k + 1, by omega, by go_num, hnot2, rfl⟩
    · have g1 : decide ((k : Int) < (M : Int)) = false := decide_eq_false (by omega)
      obtain rfl : k = M := by omega
      have eA : A = 0 := by rw [hA.out, if_neg (by have := hnot.out; rwa [hM.out, List.take_length] at this)]
      subst eA
      clear hA hnot hc1
      go_wp2
      go_ret
      exact ⟨rfl, Z1.out⟩
theorem info_i64 : ∃ i, Try.prog.info? 2 = some i ∧ i.zero = some (.int .i64 0) ∧ i.size = 1 ∧ i.bytes = 8 := by
  have h : (Try.prog.info? 2).map (fun i => (i.zero, i.size, i.bytes)) = some (some (.int .i64 0), 1, 8) := by kernel_rfl
  obtain ⟨i, hi, e⟩ := Option.map_eq_some_iff.1 h
  injection e with e1 e2
  injection e2 with e2 e3
  exact ⟨i, hi, e1, e2, e3⟩
theorem i64s_snoc (l : List Int) (n : Int) : i64s (l ++ [n]) = i64s l ++ [.int .i64 n] := by simp [i64s]
set_option maxHeartbeats 4000000 in
theorem rsee_b (R : Nat) (sv : Value) (l : List Int) (n : Int) (w : World) (h : Lies w R [sv]) (ho : w.ownsRow (R + 1) 2 1 sv l.length (i64s l)) (hl : l.length < 1099511627776) (hr : InR l) :
    Calls Try.prog 11 #[.pointer (some ⟨R, 0, none⟩), .int .i64 n] w fun e w' => e = .returned (.int .i64 (chk l n)) ∧ (∃ sv', Lies w' R [sv'] ∧ w'.ownsRow (R + 1) 2 1 sv' (nxt l n).length (i64s (nxt l n))) ∧ Kept (fun k => R ≤ k) w w' := by
  have CK : Hid (∀ _ : Unit, _) := fun _ => rcheck_b R sv l n w h ho hl hr
  have hRlt := h.lt (by show 0 < 1; decide)
  have H0 : Hid (Lies w R [sv]) := h
  have O0 : Hid (w.ownsRow (R + 1) 2 1 sv l.length (i64s l)) := ho
  obtain ⟨i0, hi, hz0, hz1, hz2⟩ := info_i64
  clear h ho
  by_cases hc : chk l n = 0
  · have e1 : nxt l n = l ++ [n] := if_pos hc
    rw [e1, hc]
    rw [hc] at CK
    have eL : (l ++ [n]).length = l.length + 1 := by simp
    rw [eL, i64s_snoc]
    clear e1 eL hc
    generalize l.length = M at *
    generalize i64s l = xs at *
    go_enter Try.func11, Try.ntmps11
    go_wp2_with fail
    refine (CK.out ()).mono ?_
    rintro e w1 ⟨rfl, b1⟩
    have H1 : Hid (Lies w1 R [sv]) := H0.out.keep (by show 0 < 1; decide) b1
    have O1 : Hid (w1.ownsRow (R + 1) 2 1 sv M xs) := owns_kept O0.out b1
    have K1 : Hid (Kept (fun k => R ≤ k) w w1) := .of _ b1
    have hR1 : R < w1.heap.size := Nat.lt_of_lt_of_le hRlt b1.size
    have c0 := H1.out.cell 0 (v := sv) rfl
    clear b1 CK H0 O0
    go_wp2_with (at_builtin; refine wpList_append_own _ rfl _ _ 22 rfl (R + 1) 2 i0 (.int .i64 0) 1 8 Try.underlying22 hi hz0 hz1 hz2 rfl (by decide) _ _ _ rfl (O1.out.alloc _) ⟨w1.heap.size, 0, none⟩ 1 1 [.int .i64 n] rfl rfl ?c1 ?c2 ?c3 ?c4 ?c5 ?_)
    case c1 =>
      intro j u hj
      match j, hj with
      | 0, hj => simp at hj; subst hj; simp [Addr.add_mid]
      | j + 1, hj => simp at hj
    case c2 => intro u hu; simp at hu; subst hu; rfl
    case c3 => unfold maxLen; omega
    case c4 => omega
    case c5 => simp; omega
    intro sv' w2 ho2 hg2 _
    obtain ⟨g', cap', rfl⟩ : ∃ g' cap', sv' = .slice (some ⟨g', 0, none⟩) (M + 1) cap' := by
      rcases ho2.2 with ⟨_, q⟩ | ⟨g', cap', _, q, _⟩
      · omega
      · exact ⟨g', cap', q⟩
    obtain ⟨sv', hsv⟩ : ∃ sv', sv' = Value.slice (some ⟨g', 0, none⟩) (M + 1) cap' := ⟨_, rfl⟩
    rw [← hsv] at ho2
    have hgR : some R ≠ sv.ownBlock := fun q => by have := (O1.out.lt R q.symm).1; omega
    have H2 : Lies w2 R [sv] := (H1.out.of_block (w' := w1.alloc (.cells #[.int .i64 n] 2)) (((Below.refl _ w1).alloc (Nat.le_refl _) _).block R hR1)).of_block (hg2.block R (by simp; omega) hgR)
    have c2 := H2.cell 0 (v := sv) rfl
    have f2 := H2.free 0 (by show 0 < 1; decide)
    have K2 : Kept (fun k => R ≤ k) w w2 := (K1.out.add ((Below.refl _ _).alloc (Nat.le_refl _) _)).grown hg2 (fun k hk _ => by have := (O1.out.lt k hk).1; omega)
    have H3 : Hid (Lies (w2.setCell ⟨R, 0, none⟩ sv') R [sv']) := H2.put 0 (by show 0 < 1; decide) sv'
    have K3 : Hid (Kept (fun k => R ≤ k) w (w2.setCell ⟨R, 0, none⟩ sv')) := K2.set _ (Nat.le_refl _) _
    have O3 : Hid ((w2.setCell ⟨R, 0, none⟩ sv').ownsRow (R + 1) 2 1 sv' (M + 1) (xs ++ [.int .i64 n])) := owns_block ho2 fun k hk => Below.heap_setCell _ _ _ _ (by have := (ho2.lt k hk).1; simp; omega)
    have E3 : Hid (∃ sv', Lies (w2.setCell ⟨R, 0, none⟩ (.slice (some ⟨g', 0, none⟩) (M + 1) cap')) R [sv'] ∧ (w2.setCell ⟨R, 0, none⟩ (.slice (some ⟨g', 0, none⟩) (M + 1) cap')).ownsRow (R + 1) 2 1 sv' (M + 1) (xs ++ [.int .i64 n])) := by rw [← hsv]; exact ⟨sv', H3.out, O3.out⟩
    rw [hsv] at K3
    clear ho2 hg2 hgR H2 K2 H1 O1 K1 c0 H3 O3 hsv
    go_wp2
    go_ret
    exact ⟨rfl, E3.out, K3.out⟩
  · have e1 : nxt l n = l := if_neg hc
    rw [e1]
    have g1 : (chk l n == 0) = false := by simpa using hc
    clear e1
    generalize chk l n = A at *
    go_enter Try.func11, Try.ntmps11
    go_wp2_with fail
    refine (CK.out ()).mono ?_
    rintro e w1 ⟨rfl, b1⟩
    have H1 : Hid (Lies w1 R [sv]) := H0.out.keep (by show 0 < 1; decide) b1
    have O1 : Hid (w1.ownsRow (R + 1) 2 1 sv l.length (i64s l)) := owns_kept O0.out b1
    have K1 : Hid (Kept (fun k => R ≤ k) w w1) := .of _ b1
    clear b1 CK H0 O0
    go_wp2
    go_ret
    exact ⟨rfl, ⟨sv, H1.out, O1.out⟩, K1.out⟩
/-- The document's window in a block, and a row behind it: the numbers l were seen. -/
def RB (w : World) (R : Nat) (l : List Int) : Prop := ∃ sv, Lies w R [sv] ∧ w.ownsRow (R + 1) 2 1 sv l.length (i64s l)
theorem RB.keep {w w' : World} {R : Nat} {l : List Int} (h : RB w R l) (b : ∀ k, R ≤ k → k < w.heap.size → w'.heap[k]? = w.heap[k]?) : RB w' R l := by
  obtain ⟨sv, h, ho⟩ := h
  exact ⟨sv, h.of_block (b R (Nat.le_refl _) (h.lt (by show 0 < 1; decide))), owns_block ho fun k hk => b k (by have := (ho.lt k hk).1; omega) (ho.lt k hk).2⟩
theorem RB.lt {w : World} {R : Nat} {l : List Int} (h : RB w R l) : R < w.heap.size := by
  obtain ⟨sv, h, _⟩ := h
  exact h.lt (by show 0 < 1; decide)
end Go.Proofs.Ytjdkmjpajijkdaa
