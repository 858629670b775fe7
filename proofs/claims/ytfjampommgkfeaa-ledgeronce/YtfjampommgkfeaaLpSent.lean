/-
  What Sent of the program's ledger does. No condition but what always holds of a ledger.
-/
import Derived.Test.YtfjampommgkfeaaLpBase
namespace Go.Proofs.Ytfjampommgkfeaa
set_option maxRecDepth 100000
open Go.RowKit Go.Sort

set_option maxHeartbeats 1000000 in
theorem psent_no (R : Nat) (o : Option Nat) (d : Ld) (n now size : Int) (w : World) (h : PB w R o d) (hk : Lk d) (he : sentE d n size ≠ 0) :
    Calls Try.prog 10 #[.pointer (some ⟨R, 0, none⟩), .int .i64 n, .int .i64 now, .int .i64 size] w fun e w' => e = .returned (.int .i64 2) ∧ w = w' := by
  obtain ⟨sv, h1, -, -⟩ := h
  have c1 := h1.cell 1 (v := .int .i64 d.top) rfl
  have hx : n ≤ d.top ∨ 4611686018427387903 < n ∨ size < 1 ∨ 1200 < size := by
    have := hk.top
    unfold sentE at he
    split at he
    · omega
    · exact absurd rfl he
  clear h1 he hk
  by_cases x3 : n ≤ d.top
  · have g3 : decide (n ≤ d.top) = true := decide_eq_true x3
    clear hx
    go_enter Try.func10, Try.ntmps10
    go_wp2
    go_ret
    exact ⟨rfl, rfl⟩
  · have g3 : decide (n ≤ d.top) = false := decide_eq_false x3
    by_cases x2 : 4611686018427387903 < n
    · have g2 : decide (4611686018427387903 < n) = true := decide_eq_true x2
      clear hx
      go_enter Try.func10, Try.ntmps10
      go_wp2
      go_ret
      exact ⟨rfl, rfl⟩
    · have g2 : decide (4611686018427387903 < n) = false := decide_eq_false x2
      by_cases x4 : size < 1
      · have g4 : decide (size < 1) = true := decide_eq_true x4
        clear hx
        go_enter Try.func10, Try.ntmps10
        go_wp2
        go_ret
        exact ⟨rfl, rfl⟩
      · have g4 : decide (size < 1) = false := decide_eq_false x4
        have g5 : decide (1200 < size) = true := decide_eq_true (by omega)
        clear hx
        go_enter Try.func10, Try.ntmps10
        go_wp2
        go_ret
        exact ⟨rfl, rfl⟩
set_option maxHeartbeats 1000000 in
theorem psent_yes (R : Nat) (o : Option Nat) (d : Ld) (n now size : Int) (w : World) (h : PB w R o d) (hl : d.l.length < 1099511627776) (hne : o ≠ some R) (he : sentE d n size = 0) :
    Calls Try.prog 10 #[.pointer (some ⟨R, 0, none⟩), .int .i64 n, .int .i64 now, .int .i64 size] w fun e w' => e = .returned (.int .i64 0) ∧ ∃ o', PB w' R o' (sent d n now size) ∧ (∀ k, o' = some k → o = some k ∨ w.heap.size ≤ k) ∧ Kept (fun k => k = R ∨ o = some k) w w' := by
  obtain ⟨i0, hi0, hz0, hz1, hz2⟩ := info_ppk
  obtain ⟨x1, x2, x3, x4, x5⟩ := sentE_zero.1 he
  have es : sent d n now size = { d with l := d.l ++ [(n, now, size)], top := n } := by unfold sent; rw [if_pos he]
  rw [es]
  have g2 : decide (4611686018427387903 < n) = false := decide_eq_false (by omega)
  have g3 : decide (n ≤ d.top) = false := decide_eq_false (by omega)
  have g4 : decide (size < 1) = false := decide_eq_false (by omega)
  have g5 : decide (1200 < size) = false := decide_eq_false (by omega)
  obtain ⟨sv, h1, h2, h3⟩ := h
  have c0 := h1.cell 0 (v := sv) rfl
  have c1 := h1.cell 1 (v := .int .i64 d.top) rfl
  have hR : R < w.heap.size := h1.lt (by show 0 < 6; decide)
  have al : Below w.heap.size w (w.alloc (.cells #[.int .i64 n, .int .i64 now, .int .i64 size] 58)) := (Below.refl _ _).alloc (Nat.le_refl _) _
  have o4 : Hid ((w.alloc (.cells #[.int .i64 n, .int .i64 now, .int .i64 size] 58)).ownsRow 0 58 3 sv d.l.length (pks d.l)) := row_block h2 fun k hk => al.block k (h2.lt k hk).2
  have hnews : Hid (∀ j u, (pkc (n, now, size))[j]? = some u → (w.alloc (.cells #[.int .i64 n, .int .i64 now, .int .i64 size] 58)).cell? ((⟨w.heap.size, 0, none⟩ : Addr).add j) = some u) := fun j u hj => by
    rw [Addr.add_lit]
    exact (Lies.new w (pkc (n, now, size)) 58).r j u hj
  have LR : Lies (w.alloc (.cells #[.int .i64 n, .int .i64 now, .int .i64 size] 58)) R (lgc sv d) := h1.keep (by show 0 < 6; decide) al
  have KA : Kept (fun k => k = R ∨ o = some k) w (w.alloc (.cells #[.int .i64 n, .int .i64 now, .int .i64 size] 58)) := Kept.of _ al
  have fin : Hid (∀ v' w5, w5.ownsRow 0 58 3 v' (d.l.length + 1) (pks d.l ++ pkc (n, now, size)) → (w.alloc (.cells #[.int .i64 n, .int .i64 now, .int .i64 size] 58)).grownBy w5 sv.ownBlock → (v'.ownBlock = sv.ownBlock ∨ v'.ownBlock = some (w.alloc (.cells #[.int .i64 n, .int .i64 now, .int .i64 size] 58)).heap.size) → Lies w5 R (lgc sv d) ∧ v'.ownBlock ≠ some R ∧ Kept (fun k => k = R ∨ o = some k) w w5 ∧ (∀ k, v'.ownBlock = some k → o = some k ∨ w.heap.size ≤ k)) := fun v' w5 q1 q2 q3 => by
    have z : (w.alloc (.cells #[.int .i64 n, .int .i64 now, .int .i64 size] 58)).heap.size = w.heap.size + 1 := by simp
    refine ⟨LR.of_block (q2.block R (by omega) fun e => hne (h3 ▸ e.symm)), ?_, KA.grown q2 (fun k hk _ => .inr (h3 ▸ hk)), fun k hk => ?_⟩
    · rcases q3 with q | q
      · rw [q, h3]; exact hne
      · rw [q, z]; intro e; injection e with e; omega
    · rcases q3 with q | q
      · exact .inl (by rw [← h3, ← q, hk])
      · rw [q, z] at hk; injection hk with hk; exact .inr (by omega)
  obtain ⟨a, cap, rfl⟩ := rown_len h2
  clear h1 h2 al LR KA es
  go_enter Try.func10, Try.ntmps10
  go_wp2_with (at_builtin; refine wpList_append_own_at _ rfl _ _ 54 rfl 0 58 i0 (.agg #[.int .i64 0, .int .i64 0, .int .i64 0]) 3 24 Try.underlying54 hi0 hz0 hz1 hz2 rfl (by decide) (.slice a d.l.length cap) d.l.length (pks d.l) rfl o4.out ⟨w.heap.size, 0, none⟩ 1 1 (pkc (n, now, size)) rfl rfl hnews.out (pkc_one _) (by unfold maxLen; omega) (by omega) (Nat.zero_le _) ?_; intro v' w5 q1 q2 q3 q4; obtain ⟨R1, R2, R3, R4⟩ := fin.out v' w5 q1 q2 q4; clear q2 q3 q4 fin o4 hnews; obtain ⟨a', cap', rfl⟩ := rown_len q1; have e0 := R1.cell 0 (v := .slice a d.l.length cap) rfl; have e1 := R1.cell 1 (v := .int .i64 d.top) rfl; have f0 := R1.free 0 (by show 0 < 6; decide); have f1 := R1.free 1 (by show 1 < 6; decide); replace q1 : Hid _ := q1; replace R1 : Hid _ := R1; replace R2 : Hid _ := R2; replace R3 : Hid _ := R3; replace R4 : Hid _ := R4)
  go_ret
  refine ⟨rfl, (Value.slice a' (d.l.length + 1) cap').ownBlock, ⟨_, (R1.out.put 0 (by show 0 < 6; decide) (.slice a' (d.l.length + 1) cap')).put 1 (by show 1 < 6; decide) (.int .i64 n), ?_, rfl⟩, R4.out, ?_⟩
  · have := row_block (w' := (w5.setCell ⟨R, 0, none⟩ (.slice a' (d.l.length + 1) cap')).setCell ⟨R, 1, none⟩ (.int .i64 n)) q1.out fun k hk => (Below.heap_setCell _ _ _ _ (by intro e; subst e; exact R2.out hk)).trans (Below.heap_setCell _ _ _ _ (by intro e; subst e; exact R2.out hk))
    rw [show pks (d.l ++ [(n, now, size)]) = pks d.l ++ pkc (n, now, size) from pks_snoc _ _, List.length_append]
    exact this
  · exact Kept.set (F := fun k => k = R ∨ o = some k) (Kept.set (F := fun k => k = R ∨ o = some k) R3.out ⟨R, 0, none⟩ (.inl rfl) _) ⟨R, 1, none⟩ (.inl rfl) _
theorem pg_sent (w : World) (B : Nat) (F : Nat → Prop) (d : Ld) (n now size : Int) (h : LS w B F d) (hd : Lw d) (_ : In64 n) (_ : In64 now) (_ : In64 size) :
    Calls Try.prog 10 #[ptr B, .int .i64 n, .int .i64 now, .int .i64 size] w fun e w' => e = .returned (.int .i64 (sentE d n size)) ∧ ∃ F', LS w' B F' (sent d n now size) ∧ (∀ k, F' k → F k ∨ w.heap.size ≤ k) ∧ Kept F w w' := by
  obtain ⟨o, h1, h2, h3⟩ := h
  by_cases he : sentE d n size = 0
  · refine (psent_yes B o d n now size w h1 (by have := hd.len; omega) h2 he).mono ?_
    rintro e w' ⟨rfl, o', q1, q2, q3⟩
    have hB := h1.lt.1
    refine ⟨by rw [he], fun k => k = B ∨ o' = some k, ⟨o', q1, fun e => ?_, fun k => Iff.rfl⟩, fun k hk => ?_, q3.mono fun k _ e => (h3 k).2 e⟩
    · rcases q2 B e with q | q
      · exact h2 q
      · omega
    · rcases hk with rfl | hk
      · exact .inl ((h3 _).2 (.inl rfl))
      · rcases q2 k hk with q | q
        · exact .inl ((h3 k).2 (.inr q))
        · exact .inr q
  · have e1 : sent d n now size = d := by unfold sent; rw [if_neg he]
    have e2 : sentE d n size = 2 := by
      unfold sentE at he ⊢
      split
      · rfl
      · rename_i q; rw [if_neg q] at he; exact absurd rfl he
    rw [e1, e2]
    refine (psent_no B o d n now size w h1 hd.k he).mono ?_
    rintro e w' ⟨rfl, rfl⟩
    exact ⟨rfl, F, ⟨o, h1, h2, h3⟩, fun k hk => .inl hk, Kept.refl _ _⟩
end Go.Proofs.Ytfjampommgkfeaa
