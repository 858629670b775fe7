/-
  What the program's New, Feed and End answer: all that the laws ask of the program. No condition but the table of sizes and the form's own reach.
-/
import Derived.Test.YtnngdlleicjegaaDoorH3PgG
import Derived.Test.YtnngdlleicjegaaDoorH3RdF
namespace Go.Proofs.YtnngdlleicjegaaDoor
set_option maxRecDepth 100000
open Go.RowKit

/-- Numbers that a number can be. -/
structure Pb (q : Pm) : Prop where
  kind : q.kind < 4611686018427387904
  left : q.left ≤ 4611686018427387903
theorem cut_bd {q : Pm} (h : Pb q) (n : Nat) : Pb (q.cut n) := by
  refine ⟨by rw [cut_kind]; exact h.kind, ?_⟩
  unfold Pm.cut
  split
  · exact Nat.zero_le _
  · have := h.left
    show q.left - _ ≤ _
    omega
theorem whole_bd {q : Pm} (h : Pb q) (s : L) : Pb (q.whole s).1 := by
  have := cut_bd h s.length
  unfold Pm.whole
  split
  · exact ⟨this.kind, this.left⟩
  · split
    · exact ⟨this.kind, this.left⟩
    · exact ⟨this.kind, this.left⟩
theorem num_bd {kept s : L} {n z : Nat} (h : numP kept s = some (n, z)) : n < 4611686018427387904 := (getL_bound (show getL (kept ++ s.take (min s.length (8 - kept.length))) = some (n, z) from h)).1
theorem call_bd {q : Pm} (h : Pb q) (s : L) : Pb (q.call s).1 := by
  unfold Pm.call
  split
  · unfold Pm.first
    split
    · exact ⟨h.kind, h.left⟩
    · exact ⟨h.kind, h.left⟩
  · split
    · unfold Pm.knd
      split
      · exact ⟨h.kind, h.left⟩
      · rename_i n z hn
        exact ⟨num_bd hn, h.left⟩
    · split
      · unfold Pm.count
        split
        · exact ⟨h.kind, h.left⟩
        · rename_i n z hn
          have hb := num_bd hn
          have hb2 : n ≤ 4611686018427387903 := by omega
          split
          · exact ⟨h.kind, h.left⟩
          · split
            · exact cut_bd (q := { q with kept := [], left := n, m := 3 }) ⟨h.kind, hb2⟩ _
            · split
              · exact whole_bd (q := { q with kept := [], left := n, m := 4 }) ⟨h.kind, hb2⟩ _
              · exact cut_bd (q := { q with kept := [], left := n, m := 5 }) ⟨h.kind, hb2⟩ _
      · split
        · exact cut_bd h _
        · split
          · exact whole_bd h s
          · split
            · exact cut_bd h _
            · exact h
theorem loop_bd : ∀ (k : Nat) (q : Pm) (s : L), Pb q → Pb (Pm.loop k q s).1
  | 0, _, _, h => h
  | k + 1, q, s, h => by
    unfold Pm.loop
    split
    · exact h
    · exact loop_bd k _ _ (call_bd h s)
theorem piece_ev (q : Pm) (s : L) : (q.piece s).2.2.length ≤ 1 := by
  unfold Pm.piece
  simp only
  split <;> simp
theorem whole_ev (q : Pm) (s : L) : (q.whole s).2.2.length ≤ 1 := by
  unfold Pm.whole
  split
  · simp
  · split <;> simp
theorem call_ev (q : Pm) (s : L) : (q.call s).2.2.length ≤ 1 := by
  unfold Pm.call
  split
  · unfold Pm.first
    split <;> simp
  · split
    · unfold Pm.knd
      split <;> simp
    · split
      · unfold Pm.count
        split
        · simp
        · split
          · simp
          · split
            · exact piece_ev _ _
            · split
              · exact whole_ev _ _
              · unfold Pm.pass
                simp
      · split
        · exact piece_ev _ _
        · split
          · exact whole_ev _ _
          · split
            · unfold Pm.pass
              simp
            · simp
theorem pfed_bd : ∀ (ts : List L) (q : Pm), Pb q → Pb (pfed q ts)
  | [], _, h => h
  | _ :: ts, _, h => pfed_bd ts _ (loop_bd _ _ _ h)
theorem pm_bd (c : Bool) (ts : List L) : Pb (pm c ts) := pfed_bd ts _ ⟨by show 0 < _; decide, Nat.zero_le _⟩
/-- One call of what is read next. -/
theorem pcall_ok (w0 w : World) (R : Nat) (q : Pm) (r : Hr) (l : List Ev) (t : L) (h : PI w0 w R q l) (hr : Rel q r t) (hb : Pb q) (hn : t ≠ []) (ht : t.length ≤ 4611686018427387903) (hm : l.length < 1000000000) :
    Calls Tryd.prog (nxF q.m) #[rp R, .string (strL t)] w (CallA w0 R l (q.call t)) := by
  unfold Pm.call nxF
  rcases hr with ⟨e, h1, h2, h3⟩ | ⟨e, b, h1, h2, h3, h4, h5, h6⟩ | ⟨e, b, h1, h2, h3, h4⟩ | ⟨e, b, h1, h2, h3, p, h4, h5⟩ | ⟨e, b, h1, h2, h3, h4, h5, h6, h7⟩ | ⟨e, b, h1, h2, h3, h4, h5, h6, p, h7, h8⟩ | ⟨e, b, h1, h2, h3, h4, h5, h6⟩
  · rw [if_neg (by omega), if_neg (by omega), if_neg (by omega), if_neg (by omega), if_neg (by omega), if_neg (by omega), if_neg (by omega), if_neg (by omega), if_neg (by omega), if_neg (by omega), if_neg (by omega), if_neg (by omega)]
    exact (pnothing_ok w0 w R q l h (strL t)).mono fun e w' ⟨a, b⟩ => ⟨a, by rw [List.append_nil]; exact b⟩
  · rw [if_pos e, if_pos e]
    exact pfirst_ok w0 w R q l t h ht hn
  · rw [if_neg (by omega), if_pos e, if_neg (by omega), if_pos e]
    exact pkind_ok w0 w R q l t h ht h3
  · rw [if_neg (by omega), if_neg (by omega), if_pos e, if_neg (by omega), if_neg (by omega), if_pos e]
    exact pcount_ok w0 w R q l t h ht h3 hb.kind hm
  · rw [if_neg (by omega), if_neg (by omega), if_neg (by omega), if_pos e, if_neg (by omega), if_neg (by omega), if_neg (by omega), if_pos e]
    exact ppiece_ok w0 w R q l t h hb.left ht hm
  · rw [if_neg (by omega), if_neg (by omega), if_neg (by omega), if_neg (by omega), if_pos e, if_neg (by omega), if_neg (by omega), if_neg (by omega), if_neg (by omega), if_pos e]
    exact pwhole_ok w0 w R q l t h hb.left ht hm h6
  · rw [if_neg (by omega), if_neg (by omega), if_neg (by omega), if_neg (by omega), if_neg (by omega), if_pos e, if_neg (by omega), if_neg (by omega), if_neg (by omega), if_neg (by omega), if_neg (by omega), if_pos e]
    exact ppass_ok w0 w R q l t h hb.left ht
theorem nx_call (m R : Nat) (s : ByteArray) (w : World) : (callFunc (nxF m) #[rp R, .string s]).run Tryd.prog w = .ok (.enter (nxF m) #[rp R, .string s]) w := by
  unfold nxF
  split
  · simp [go_sem]
  · split
    · simp [go_sem]
    · split
      · simp [go_sem]
      · split
        · simp [go_sem]
        · split
          · simp [go_sem]
          · split
            · simp [go_sem]
            · simp [go_sem]
/-- The state within Feed. -/
structure FdI (w0 wr : World) (R : Nat) (q0 : Pm) (t0 : L) (g : Nat) (t : L) (q : Pm) (l1 : List Ev) (r : Hr) : Prop where
  pi : PI w0 wr R q l1
  rel : Rel q r t
  bd : Pb q
  lt : t.length < g
  eq : q0.feed t0 = ((Pm.loop g q t).1, l1 ++ (Pm.loop g q t).2)
  few : l1.length + t.length ≤ t0.length
set_option maxHeartbeats 4000000 in
theorem pfeed_ok (w0 : World) (R : Nat) (q0 : Pm) (r0 : Hr) (t0 : L) (h : PI w0 w0 R q0 []) (hr : Rel q0 r0 t0) (hb : Pb q0) (ht : t0.length < 1000000) :
    Calls Tryd.prog 10 #[rp R, .string (strL t0)] w0 fun e w' => ∃ tv, e = .returned (.tuple #[tv, .int .i64 (q0.feed t0).1.code]) ∧ Lies w' R (pcs R (q0.feed t0).1 (.slice none 0 0)) ∧ EvP w0.heap.size w' tv (q0.feed t0).2 ∧ Kept (fun k => k = R) w0 w' := by
  have P0 : Hid (FdI w0 w0 R q0 t0 (t0.length + 1) t0 q0 [] r0) := ⟨h, hr, hb, Nat.lt_succ_self _, rfl, by simp⟩
  clear h hr hb
  go_enter Tryd.func10, Tryd.ntmps10
  go_wp2_with fail
  go_loopg [6] (t0.length + 1) (fun g rv wr => ∃ (t : L) (q : Pm) (l1 : List Ev) (r : Hr), rv = .string (strL t) ∧ Hid (FdI w0 wr R q0 t0 g t q l1 r))
  case atStart => exact ⟨t0, q0, [], r0, rfl, P0⟩
  case round =>
    obtain ⟨t, q, l1, r, rfl, X⟩ := hrel
    clear P0
    have hlt := X.out.lt
    have few := X.out.few
    obtain ⟨g1, rfl⟩ : ∃ g1, gk = g1 + 1 := ⟨gk - 1, by omega⟩
    by_cases hn : t = []
    · have he := str_nil hn
      have EQ := X.out.eq
      unfold Pm.loop at EQ
      rw [if_pos hn, List.append_nil] at EQ
      obtain ⟨tv, L1, E1⟩ := X.out.pi.ex
      have K1 := X.out.pi.kept
      have hR := X.out.pi.lt
      have c8 := L1.cell 8 (v := tv) rfl
      have f8 := L1.free 8 (by show 8 < 9; decide)
      have L2 : Lies (wr.setCell ⟨R, 8, none⟩ (.slice none 0 0)) R (pcs R q (.slice none 0 0)) := L1.put 8 (by show 8 < 9; decide) _
      have c7 := L2.cell 7 (v := .int .i64 q.code) rfl
      have Z : Hid (Lies (wr.setCell ⟨R, 8, none⟩ (.slice none 0 0)).drew R (pcs R q (.slice none 0 0)) ∧ EvP w0.heap.size (wr.setCell ⟨R, 8, none⟩ (.slice none 0 0)).drew tv l1 ∧ Kept (fun k => k = R) w0 (wr.setCell ⟨R, 8, none⟩ (.slice none 0 0)).drew) := ⟨L2.of_block rfl, (E1.set hR).of fun _ _ => rfl, (K1.set _ rfl _).drew⟩
      replace EQ := Lib.hid EQ
      obtain ⟨av, cv, rfl⟩ := E1.slice
      clear X L1 E1 K1 hR L2 hn
      generalize strL t = s at *
      go_wp2_with fail
      go_region
      all_goals
        go_wp2_with fail
        go_ret2
        rw [EQ.out]
        exact ⟨_, rfl, Z.out.1, Z.out.2.1, Z.out.2.2⟩
    · have he := str_ne hn
      have hc := nx_call q.m R (strL t)
      have CA := Lib.hid (pcall_ok w0 wr R q r l1 t X.out.pi X.out.rel X.out.bd hn (by omega) (by omega))
      have c1 := X.out.pi.cell 1 (v := .func (.func (nxF q.m)) #[.pointer (some ⟨R, 0, none⟩)] #[]) fun _ => rfl
      have STEP : Hid (∀ w1, PI w0 w1 R (q.call t).1 (l1 ++ (q.call t).2.2) → ∃ r', FdI w0 w1 R q0 t0 g1 (q.call t).2.1 (q.call t).1 (l1 ++ (q.call t).2.2) r') := fun w1 h1 => by
        obtain ⟨r', g, hr'⟩ := call_rel X.out.rel hn
        have hle := call_less X.out.rel hn
        have hev := call_ev q t
        refine ⟨r', h1, hr', call_bd X.out.bd t, by omega, ?_, by rw [List.length_append]; omega⟩
        have EQ := X.out.eq
        unfold Pm.loop at EQ
        rw [if_neg hn] at EQ
        rw [EQ, List.append_assoc]
      clear X hn
      generalize strL t = s at *
      generalize nxF q.m = f at *
      go_wp2_with fail
      refine CA.out.mono ?_
      rintro e w1 ⟨rfl, n1⟩
      obtain ⟨r', X'⟩ := STEP.out w1 n1
      have X2 := Lib.hid X'
      clear X' n1 CA STEP
      go_wp2_with fail
      go_roundg g1
      case measure => omega
      case rel => exact ⟨_, _, _, _, rfl, X2⟩
set_option maxHeartbeats 4000000 in
theorem pnew_ok (c : Bool) (w : World) : Calls Tryd.prog 9 #[.bool c] w fun e w' => e = .returned (rp w.heap.size) ∧ Lies w' w.heap.size (pcs w.heap.size (Pm.new c) (.slice none 0 0)) ∧ Below w.heap.size w w' := by
  have hmf := mf_run
  have hsf := sf_run
  cases c
  · go_enter Tryd.func9, Tryd.ntmps9
    go_wp2_with fail
    go_ret
    exact ⟨rfl, Lies.new w (pcs w.heap.size (Pm.new false) (.slice none 0 0)) 57, (Below.refl _ _).alloc (Nat.le_refl _) _⟩
  · go_enter Tryd.func9, Tryd.ntmps9
    go_wp2_with fail
    go_ret
    exact ⟨rfl, Lies.new w (pcs w.heap.size (Pm.new true) (.slice none 0 0)) 57, (Below.refl _ _).alloc (Nat.le_refl _) _⟩
set_option maxHeartbeats 4000000 in
theorem pfin_ok (w : World) (R : Nat) (q : Pm) (tv : Value) (h : Lies w R (pcs R q tv)) : Calls Tryd.prog 13 #[rp R] w fun e w' => e = .returned (.int .i64 q.fin) ∧ w = w' := by
  have c7 := h.cell 7 (v := .int .i64 q.code) rfl
  have c5 := h.cell 5 (v := .bool q.wi) rfl
  have c0 := h.cell 0 (v := .bool q.ctl) rfl
  have c6 := h.cell 6 (v := .bool q.op) rfl
  clear h
  unfold Pm.fin hFrame hMessage
  by_cases hc : q.code = 0
  · rw [hc] at c7
    rw [if_neg (by simpa using hc)]
    clear hc
    generalize q.wi = wi at *
    generalize q.ctl = ct at *
    generalize q.op = op at *
    cases wi <;> cases ct <;> cases op <;> simp only [Bool.false_eq_true, if_true, if_false, and_self, and_true, and_false, reduceCtorEq] <;> (
      go_enter Tryd.func13, Tryd.ntmps13
      go_wp2
      go_ret
      exact ⟨rfl, rfl⟩)
  · rw [if_pos hc]
    have qc : (q.code == 0) = false := by simpa using hc
    clear hc
    generalize q.code = C at *
    go_enter Tryd.func13, Tryd.ntmps13
    go_wp2
    go_ret
    exact ⟨rfl, rfl⟩
end Go.Proofs.YtnngdlleicjegaaDoor
