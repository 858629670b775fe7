/-
  What the document's own Expire of a ledger does. Fewer than 2^40 packets; ticks are an int64's; no other condition but what always holds of a ledger.
-/
import Derived.Test.YtfjampommgkfeaaLgLose
import Derived.Lib.QuietBelow
namespace Go.Proofs.Ytfjampommgkfeaa
set_option maxRecDepth 100000
open Go.RowKit Go.Sort

def n64 (xs : List Int) : List Value := xs.map (Value.int .i64)
theorem n64_snoc (xs : List Int) (x : Int) : n64 (xs ++ [x]) = n64 xs ++ [.int .i64 x] := by simp [n64]
theorem row_i64 {w : World} {base : Nat} {v : Value} {xs : List Int} (h : w.ownsRow base 2 1 v xs.length (n64 xs)) : I64At w v xs := by
  rcases h.2 with ⟨rfl, h0⟩ | ⟨g, cap, cur, rfl, hr⟩
  · have e : xs = [] := List.eq_nil_of_length_eq_zero h0
    subst e
    exact ⟨none, 0, rfl, .inl rfl⟩
  · refine ⟨_, cap, rfl, .inr ⟨g, 0, rfl, fun k hk => ?_⟩⟩
    have := h.cellAt k (by omega)
    rw [Nat.zero_add, this]
    simp [n64, List.getD, List.getElem?_eq_getElem hk]
theorem nos_take (l : List Pk) (k : Nat) (h : k < l.length) : nosP (l.take (k + 1)) = nosP (l.take k) ++ [(l.getD k (0, 0, 0)).1] := by
  unfold nosP
  rw [List.take_succ_eq_append_getElem h, List.map_append]
  simp [List.getD, List.getElem?_eq_getElem h]
theorem nos_len (l : List Pk) : (nosP l).length = l.length := by simp [nosP]
theorem due_take (d : Ld) (now : Int) (k : Nat) (h : k < d.l.length) : (d.l.take (k + 1)).any (dueB d now) = ((d.l.take k).any (dueB d now) || dueB d now (d.l.getD k (0, 0, 0))) := by
  rw [List.take_succ_eq_append_getElem h, List.any_append]
  simp [List.getD, List.getElem?_eq_getElem h]
theorem wait_in (d : Ld) (h : d.bo ≤ 6) : 8 ≤ wait d ∧ wait d ≤ 512 := by
  unfold wait
  have : d.bo = 0 ∨ d.bo = 1 ∨ d.bo = 2 ∨ d.bo = 3 ∨ d.bo = 4 ∨ d.bo = 5 ∨ d.bo = 6 := by omega
  rcases this with e | e | e | e | e | e | e <;> rw [e] <;> decide
set_option maxHeartbeats 8000000 in
theorem rexp_ok (R : Nat) (o : Option Nat) (d : Ld) (now : Int) (w : World) (h : RB w R o d) (hk : Lk d) (hl : d.l.length < 1099511627776) (hn : -9223372036854775808 ≤ now ∧ now ≤ 9223372036854775807) (ht : ∀ p ∈ d.l, -9223372036854775808 ≤ p.2.1 ∧ p.2.1 ≤ 9223372036854775807) :
    Calls Try.prog 16 #[.pointer (some ⟨R, 0, none⟩), .int .i64 now] w fun e w' => ∃ v o', e = .returned v ∧ I64At w' v (expL d now) ∧ RB w' R o' (expire d now) ∧ (o' = o ∨ o' = none) ∧ Kept (fun k => k = R) w w' := by
  obtain ⟨i0, hi0, hz0, hz1, hz2⟩ := info_i64
  have hwt := wait_in d hk.bo
  have hwin := hk.win
  have WT : Hid (∀ w', RB w' R o d → Calls Try.prog 21 #[.pointer (some ⟨R, 0, none⟩)] w' fun e w'' => e = .returned (.int .i64 (wait d)) ∧ w' = w'') := fun w' hh => rwait_ok R o d w' hh hk.bo
  have bo6 : d.bo ≤ 6 := hk.bo
  have hR : R < w.heap.size := by
    obtain ⟨sv, h1, -, -⟩ := h
    exact h1.lt (by show 0 < 6; decide)
  clear hk
  have H0 : Hid (RB w R o d) := h
  obtain ⟨sv, h1, h2, h3⟩ := h
  obtain ⟨da, dc, rfl⟩ := rown_len h2
  have c0 := h1.cell 0 (v := .slice da d.l.length dc) rfl
  replace h1 : Hid _ := h1
  replace h2 : Hid _ := h2
  replace h3 : Hid _ := h3
  replace hwin : Hid _ := hwin
  obtain ⟨wt, hwtE⟩ : ∃ wt, wait d = wt := ⟨_, rfl⟩
  rw [hwtE] at hwt WT
  replace hwtE : Hid _ := hwtE
  go_enter Try.func16, Try.ntmps16
  go_wp2
  go_loopg [5, 6, 7] d.l.length (fun g' dv lv iv wr => ∃ (k : Nat) (xs : List Int), k + g' = d.l.length ∧ iv = .int .i64 k ∧ dv = .bool ((d.l.take k).any (dueB d now)) ∧ Hid (xs.length = k) ∧ Hid (xs = nosP (d.l.take k)) ∧ Hid (wr.ownsRow w.heap.size 2 1 lv xs.length (n64 xs)) ∧ Hid (Below w.heap.size w wr))
  case atStart => exact ⟨0, [], by omega, rfl, rfl, rfl, rfl, World.ownsRow_nil _ _ _ _, Below.refl _ _⟩
  case round =>
    obtain ⟨k, xs, hk, rfl, rfl, hxl, hxe, row, bel⟩ := hrel
    obtain ⟨la, lc, rfl⟩ := rown_len row.out
    have y0 := (h1.out.keep (by show 0 < 6; decide) bel.out).cell 0 (v := .slice da d.l.length dc) rfl
    by_cases hlt : k < d.l.length
    · have g1 : decide ((k : Int) < (d.l.length : Int)) = true := decide_eq_true (by omega)
      cases da with
      | none =>
        exfalso
        rcases h2.out.2 with ⟨_, q⟩ | ⟨g, _, _, q, _⟩
        · omega
        · injection q with q; cases q
      | some pp =>
        obtain ⟨g, rfl⟩ : ∃ g, pp = ⟨g, 0, none⟩ := by
          rcases h2.out.2 with ⟨q, _⟩ | ⟨g, _, _, q, _⟩
          · cases q
          · injection q with q
            injection q with q
            exact ⟨g, q⟩
        obtain ⟨-, z0, z1, z2⟩ := row_cells h2.out k hlt
        have x0 := (bel.out.cell (World.block_lt_of_cell? w _ z0)).trans z0
        have x1 := (bel.out.cell (World.block_lt_of_cell? w _ z1)).trans z1
        have x2 := (bel.out.cell (World.block_lt_of_cell? w _ z2)).trans z2
        have ia := fun w' => at_rpk g 0 d.l.length dc k w' hlt (k : Int) rfl (3 * k) (by omega)
        have dt := due_take d now k hlt
        have nt := nos_take d.l k hlt
        rw [← hxe.out] at nt
        have tin := ht (d.l.getD k (0, 0, 0)) (by simp [List.getD, List.getElem?_eq_getElem hlt])
        generalize d.l.getD k (0, 0, 0) = p at *
        obtain ⟨n, t, s⟩ := p
        simp only at x0 x1 x2 nt tin
        have ht2 : xs ++ [n] = nosP (d.l.take (k + 1)) := nt.symm
        replace ht2 : Hid _ := ht2
        clear z0 z1 z2 nt hxe
        have L1 : Hid (Lies (wr.alloc (.cells #[.int .i64 n, .int .i64 t, .int .i64 s] 60)) R (lgc (.slice (some ⟨g, 0, none⟩) d.l.length dc) d)) := (h1.out.keep (by show 0 < 6; decide) bel.out).keep (by show 0 < 6; decide) ((Below.refl _ _).alloc (Nat.le_refl _) _)
        have P1 : Hid (Lies (wr.alloc (.cells #[.int .i64 n, .int .i64 t, .int .i64 s] 60)) wr.heap.size [.int .i64 n, .int .i64 t, .int .i64 s]) := Lies.new wr _ _
        have o1 : Hid ((wr.alloc (.cells #[.int .i64 n, .int .i64 t, .int .i64 s] 60)).ownsRow w.heap.size 2 1 (.slice la xs.length lc) xs.length (n64 xs)) := row_block row.out fun k hk => ((Below.refl wr.heap.size wr).alloc (Nat.le_refl _) _).block k (row.out.lt k hk).2
        have B1 : Hid (Below w.heap.size w (wr.alloc (.cells #[.int .i64 n, .int .i64 t, .int .i64 s] 60))) := bel.out.trans (((Below.refl wr.heap.size wr).alloc (Nat.le_refl _) _).mono bel.out.size)
        have WT1 : Hid (∀ d' os, _) := fun d' os => Calls.regrown_of (P := Try.prog) (w := (wr.alloc (.cells #[.int .i64 n, .int .i64 t, .int .i64 s] 60))) (d := d') (os := os) ((WT.out (Go.Sort.grow (redrawn (wr.alloc (.cells #[.int .i64 n, .int .i64 t, .int .i64 s] 60)) d') os) (H0.out.keep (B1.out.trans ((below_regrown (wr.alloc (.cells #[.int .i64 n, .int .i64 t, .int .i64 s] 60)) d' os).mono B1.out.size)))).mono fun _ _ q => ⟨q.1, q.2 ▸ Below.refl _ _⟩)
        cases hdue : (d.l.take k).any (dueB d now)
        · rw [hdue, Bool.false_or] at dt
          by_cases hlt2 : t < now
          · have g2 : decide (t < now) = true := decide_eq_true hlt2
            have gw : IntKind.u64.wrap (IntKind.u64.wrap now - IntKind.u64.wrap t) = now - t := by simp only [IntKind.wrap_u64]; omega
            have gv : IntKind.u64.wrap wt = wt := by rw [IntKind.wrap_u64]; omega
            have hD : Hid (Value.bool (decide (wt ≤ now - t)) = .bool ((d.l.take (k + 1)).any (dueB d now))) := by
              unfold Hid
              rw [dt]
              unfold dueB
              rw [hwtE.out]
              simp [hlt2]
            clear dt hdue hlt2 row bel WT
            go_wp2_with fail
            generalize (wr.alloc (.cells #[.int .i64 n, .int .i64 t, .int .i64 s] 60)) = w1 at *
            have c1 := fun d' os => cell_regrown (P1.out.cell 1 (v := .int .i64 t) rfl) d' os
            refine wp_region_quiet_below (by kernel_rfl) (by kernel_rfl) ?_
            repeat (go_big_quiet_step (first | (go_at_call 21; exact WT1.out _ _)))
            refine wpQuiet_nil ?_
            intro _ hw'
            obtain ⟨⟨dq, osq⟩, hw''⟩ := hw'
            subst hw''
            have L2 : Hid (Lies (Go.Sort.grow (redrawn w1 dq) osq) R (lgc (.slice (some ⟨g, 0, none⟩) d.l.length dc) d)) := L1.out.keep (by show 0 < 6; decide) (below_regrown w1 dq osq)
            have P2 : Hid (Lies (Go.Sort.grow (redrawn w1 dq) osq) wr.heap.size [.int .i64 n, .int .i64 t, .int .i64 s]) := P1.out.keep (by show 0 < 3; decide) (below_regrown w1 dq osq)
            have o2 : Hid ((Go.Sort.grow (redrawn w1 dq) osq).ownsRow w.heap.size 2 1 (.slice la xs.length lc) xs.length (n64 xs)) := row_block o1.out fun k hk => (below_regrown w1 dq osq).block k (o1.out.lt k hk).2
            have B2 : Hid (Below w.heap.size w (Go.Sort.grow (redrawn w1 dq) osq)) := B1.out.trans ((below_regrown w1 dq osq).mono B1.out.size)
            simp only
            clear c1 L1 P1 o1 B1
            generalize Go.Sort.grow (redrawn w1 dq) osq = w2 at *
            clear WT1
            have p0 := P2.out.cell 0 (v := .int .i64 n) rfl
            have al2 : Below w2.heap.size w2 (w2.alloc (.cells #[.int .i64 n] 2)) := (Below.refl _ _).alloc (Nat.le_refl _) _
            have o3 : Hid ((w2.alloc (.cells #[.int .i64 n] 2)).ownsRow w.heap.size 2 1 (.slice la xs.length lc) xs.length (n64 xs)) := row_block o2.out fun k hk => al2.block k (o2.out.lt k hk).2
            have B3 : Hid (Below w.heap.size w (w2.alloc (.cells #[.int .i64 n] 2))) := B2.out.trans (al2.mono B2.out.size)
            have hnews : Hid (∀ j u, ([.int .i64 n] : List Value)[j]? = some u → (w2.alloc (.cells #[.int .i64 n] 2)).cell? ((⟨w2.heap.size, 0, none⟩ : Addr).add j) = some u) := fun j u hj => by
              rw [Addr.add_lit]
              exact (Lies.new w2 [.int .i64 n] 2).r j u hj
            have fin : Hid (∀ v' w5, w5.ownsRow w.heap.size 2 1 v' (xs.length + 1) (n64 xs ++ [.int .i64 n]) → (w2.alloc (.cells #[.int .i64 n] 2)).grownBy w5 (Value.slice la xs.length lc).ownBlock → Hid (w5.ownsRow w.heap.size 2 1 v' (xs ++ [n]).length (n64 (xs ++ [n]))) ∧ Hid (Below w.heap.size w w5)) := fun v' w5 q1 q2 => by
              refine ⟨?_, B3.out.grown q2 B3.out.size (fun k hk => (o3.out.lt k hk).1)⟩
              unfold Hid
              rw [n64_snoc, List.length_append]
              exact q1
            clear al2 o2 B2 P2 L2
            go_wp2_with (at_builtin; refine wpList_append_own_at _ rfl _ _ 32 rfl w.heap.size 2 i0 (.int .i64 0) 1 8 Try.underlying32 hi0 hz0 hz1 hz2 rfl (by decide) (.slice la xs.length lc) xs.length (n64 xs) rfl o3.out ⟨w2.heap.size, 0, none⟩ 1 1 [.int .i64 n] rfl rfl hnews.out (fun u hu => by simp at hu; subst hu; rfl) (by have := hxl.out; unfold maxLen; omega) (by have := hxl.out; omega) (by have := B3.out.size; exact this) ?_; intro v' w5 q1 q2 q3 q4; obtain ⟨R1, R2⟩ := fin.out v' w5 q1 q2; clear q1 q2 q3 q4)
            go_roundg (d.l.length - (k + 1))
            case measure => omega
            case rel => exact ⟨k + 1, xs ++ [n], by omega, by go_num, hD.out, by rw [Hid, List.length_append, hxl.out]; rfl, ht2, R1, R2⟩
          · have g2 : decide (t < now) = false := decide_eq_false hlt2
            have hD : Hid (Value.bool false = .bool ((d.l.take (k + 1)).any (dueB d now))) := by
              unfold Hid
              rw [dt]
              unfold dueB
              simp [hlt2]
            clear dt hdue hlt2 row bel WT WT1
            go_wp2_with fail
            generalize (wr.alloc (.cells #[.int .i64 n, .int .i64 t, .int .i64 s] 60)) = w1 at *
            have c1 := fun d' os => cell_regrown (P1.out.cell 1 (v := .int .i64 t) rfl) d' os
            refine wp_region_quiet_below (by kernel_rfl) (by kernel_rfl) ?_
            repeat (go_big_quiet_step (fail))
            refine wpQuiet_nil ?_
            intro _ hw'
            obtain ⟨⟨dq, osq⟩, hw''⟩ := hw'
            subst hw''
            have L2 : Hid (Lies (Go.Sort.grow (redrawn w1 dq) osq) R (lgc (.slice (some ⟨g, 0, none⟩) d.l.length dc) d)) := L1.out.keep (by show 0 < 6; decide) (below_regrown w1 dq osq)
            have P2 : Hid (Lies (Go.Sort.grow (redrawn w1 dq) osq) wr.heap.size [.int .i64 n, .int .i64 t, .int .i64 s]) := P1.out.keep (by show 0 < 3; decide) (below_regrown w1 dq osq)
            have o2 : Hid ((Go.Sort.grow (redrawn w1 dq) osq).ownsRow w.heap.size 2 1 (.slice la xs.length lc) xs.length (n64 xs)) := row_block o1.out fun k hk => (below_regrown w1 dq osq).block k (o1.out.lt k hk).2
            have B2 : Hid (Below w.heap.size w (Go.Sort.grow (redrawn w1 dq) osq)) := B1.out.trans ((below_regrown w1 dq osq).mono B1.out.size)
            simp only
            clear c1 L1 P1 o1 B1
            generalize Go.Sort.grow (redrawn w1 dq) osq = w2 at *
            have p0 := P2.out.cell 0 (v := .int .i64 n) rfl
            have al2 : Below w2.heap.size w2 (w2.alloc (.cells #[.int .i64 n] 2)) := (Below.refl _ _).alloc (Nat.le_refl _) _
            have o3 : Hid ((w2.alloc (.cells #[.int .i64 n] 2)).ownsRow w.heap.size 2 1 (.slice la xs.length lc) xs.length (n64 xs)) := row_block o2.out fun k hk => al2.block k (o2.out.lt k hk).2
            have B3 : Hid (Below w.heap.size w (w2.alloc (.cells #[.int .i64 n] 2))) := B2.out.trans (al2.mono B2.out.size)
            have hnews : Hid (∀ j u, ([.int .i64 n] : List Value)[j]? = some u → (w2.alloc (.cells #[.int .i64 n] 2)).cell? ((⟨w2.heap.size, 0, none⟩ : Addr).add j) = some u) := fun j u hj => by
              rw [Addr.add_lit]
              exact (Lies.new w2 [.int .i64 n] 2).r j u hj
            have fin : Hid (∀ v' w5, w5.ownsRow w.heap.size 2 1 v' (xs.length + 1) (n64 xs ++ [.int .i64 n]) → (w2.alloc (.cells #[.int .i64 n] 2)).grownBy w5 (Value.slice la xs.length lc).ownBlock → Hid (w5.ownsRow w.heap.size 2 1 v' (xs ++ [n]).length (n64 (xs ++ [n]))) ∧ Hid (Below w.heap.size w w5)) := fun v' w5 q1 q2 => by
              refine ⟨?_, B3.out.grown q2 B3.out.size (fun k hk => (o3.out.lt k hk).1)⟩
              unfold Hid
              rw [n64_snoc, List.length_append]
              exact q1
            clear al2 o2 B2 P2 L2
            go_wp2_with (at_builtin; refine wpList_append_own_at _ rfl _ _ 32 rfl w.heap.size 2 i0 (.int .i64 0) 1 8 Try.underlying32 hi0 hz0 hz1 hz2 rfl (by decide) (.slice la xs.length lc) xs.length (n64 xs) rfl o3.out ⟨w2.heap.size, 0, none⟩ 1 1 [.int .i64 n] rfl rfl hnews.out (fun u hu => by simp at hu; subst hu; rfl) (by have := hxl.out; unfold maxLen; omega) (by have := hxl.out; omega) (by have := B3.out.size; exact this) ?_; intro v' w5 q1 q2 q3 q4; obtain ⟨R1, R2⟩ := fin.out v' w5 q1 q2; clear q1 q2 q3 q4)
            go_roundg (d.l.length - (k + 1))
            case measure => omega
            case rel => exact ⟨k + 1, xs ++ [n], by omega, by go_num, hD.out, by rw [Hid, List.length_append, hxl.out]; rfl, ht2, R1, R2⟩
        · have hD : Hid (Value.bool true = .bool ((d.l.take (k + 1)).any (dueB d now))) := by
            unfold Hid
            rw [dt, hdue]
            rfl
          clear dt hdue row bel WT WT1
          go_wp2_with fail
          generalize (wr.alloc (.cells #[.int .i64 n, .int .i64 t, .int .i64 s] 60)) = w1 at *
          have c1 := fun d' os => cell_regrown (P1.out.cell 1 (v := .int .i64 t) rfl) d' os
          refine wp_region_quiet_below (by kernel_rfl) (by kernel_rfl) ?_
          repeat (go_big_quiet_step (fail))
          refine wpQuiet_nil ?_
          intro _ hw'
          obtain ⟨⟨dq, osq⟩, hw''⟩ := hw'
          subst hw''
          have L2 : Hid (Lies (Go.Sort.grow (redrawn w1 dq) osq) R (lgc (.slice (some ⟨g, 0, none⟩) d.l.length dc) d)) := L1.out.keep (by show 0 < 6; decide) (below_regrown w1 dq osq)
          have P2 : Hid (Lies (Go.Sort.grow (redrawn w1 dq) osq) wr.heap.size [.int .i64 n, .int .i64 t, .int .i64 s]) := P1.out.keep (by show 0 < 3; decide) (below_regrown w1 dq osq)
          have o2 : Hid ((Go.Sort.grow (redrawn w1 dq) osq).ownsRow w.heap.size 2 1 (.slice la xs.length lc) xs.length (n64 xs)) := row_block o1.out fun k hk => (below_regrown w1 dq osq).block k (o1.out.lt k hk).2
          have B2 : Hid (Below w.heap.size w (Go.Sort.grow (redrawn w1 dq) osq)) := B1.out.trans ((below_regrown w1 dq osq).mono B1.out.size)
          simp only
          clear c1 L1 P1 o1 B1
          generalize Go.Sort.grow (redrawn w1 dq) osq = w2 at *
          have p0 := P2.out.cell 0 (v := .int .i64 n) rfl
          have al2 : Below w2.heap.size w2 (w2.alloc (.cells #[.int .i64 n] 2)) := (Below.refl _ _).alloc (Nat.le_refl _) _
          have o3 : Hid ((w2.alloc (.cells #[.int .i64 n] 2)).ownsRow w.heap.size 2 1 (.slice la xs.length lc) xs.length (n64 xs)) := row_block o2.out fun k hk => al2.block k (o2.out.lt k hk).2
          have B3 : Hid (Below w.heap.size w (w2.alloc (.cells #[.int .i64 n] 2))) := B2.out.trans (al2.mono B2.out.size)
          have hnews : Hid (∀ j u, ([.int .i64 n] : List Value)[j]? = some u → (w2.alloc (.cells #[.int .i64 n] 2)).cell? ((⟨w2.heap.size, 0, none⟩ : Addr).add j) = some u) := fun j u hj => by
            rw [Addr.add_lit]
            exact (Lies.new w2 [.int .i64 n] 2).r j u hj
          have fin : Hid (∀ v' w5, w5.ownsRow w.heap.size 2 1 v' (xs.length + 1) (n64 xs ++ [.int .i64 n]) → (w2.alloc (.cells #[.int .i64 n] 2)).grownBy w5 (Value.slice la xs.length lc).ownBlock → Hid (w5.ownsRow w.heap.size 2 1 v' (xs ++ [n]).length (n64 (xs ++ [n]))) ∧ Hid (Below w.heap.size w w5)) := fun v' w5 q1 q2 => by
            refine ⟨?_, B3.out.grown q2 B3.out.size (fun k hk => (o3.out.lt k hk).1)⟩
            unfold Hid
            rw [n64_snoc, List.length_append]
            exact q1
          clear al2 o2 B2 P2 L2
          go_wp2_with (at_builtin; refine wpList_append_own_at _ rfl _ _ 32 rfl w.heap.size 2 i0 (.int .i64 0) 1 8 Try.underlying32 hi0 hz0 hz1 hz2 rfl (by decide) (.slice la xs.length lc) xs.length (n64 xs) rfl o3.out ⟨w2.heap.size, 0, none⟩ 1 1 [.int .i64 n] rfl rfl hnews.out (fun u hu => by simp at hu; subst hu; rfl) (by have := hxl.out; unfold maxLen; omega) (by have := hxl.out; omega) (by have := B3.out.size; exact this) ?_; intro v' w5 q1 q2 q3 q4; obtain ⟨R1, R2⟩ := fin.out v' w5 q1 q2; clear q1 q2 q3 q4)
          go_roundg (d.l.length - (k + 1))
          case measure => omega
          case rel => exact ⟨k + 1, xs ++ [n], by omega, by go_num, hD.out, by rw [Hid, List.length_append, hxl.out]; rfl, ht2, R1, R2⟩
    · have g1 : decide ((k : Int) < (d.l.length : Int)) = false := decide_eq_false (by omega)
      obtain rfl : k = d.l.length := by omega
      have hxe2 := hxe.out
      rw [List.take_length] at hxe2
      clear hxe hxl
      subst hxe2
      have dA : (d.l.take d.l.length).any (dueB d now) = dueA d now := by rw [List.take_length]; rfl
      rw [dA]
      clear dA
      cases hdue : dueA d now
      · have fin : Hid (I64At wr (.slice none 0 0) (expL d now) ∧ RB wr R o (expire d now) ∧ Kept (fun k => k = R) w wr) := by
          have e1 : expL d now = [] := by unfold expL; rw [hdue]; rfl
          have e2 : expire d now = d := by unfold expire; rw [hdue]; rfl
          refine ⟨?_, ?_, Kept.of _ bel.out⟩
          · rw [e1]; exact ⟨none, 0, rfl, .inl rfl⟩
          · rw [e2]; exact H0.out.keep bel.out
        clear hdue row bel
        go_wp2
        go_ret
        exact ⟨_, o, rfl, fin.out.1, fin.out.2.1, .inl rfl, fin.out.2.2⟩
      · have Lr := h1.out.keep (by show 0 < 6; decide) bel.out
        have f0 := Lr.free 0 (by show 0 < 6; decide)
        have LA : Lies (wr.setCell ⟨R, 0, none⟩ (.slice none 0 0)) R (lgc (.slice none 0 0) { d with l := [] }) := Lr.put 0 (by show 0 < 6; decide) (.slice none 0 0)
        have KA : Kept (fun k => k = R) w (wr.setCell ⟨R, 0, none⟩ (.slice none 0 0)) := keptR0 _ R 0 _ (Kept.of _ bel.out)
        have rowA : (wr.setCell ⟨R, 0, none⟩ (.slice none 0 0)).ownsRow w.heap.size 2 1 (.slice la (nosP d.l).length lc) (nosP d.l).length (n64 (nosP d.l)) := row_block row.out fun k hk => Below.heap_setCell _ _ _ _ (by show k ≠ R; have := (row.out.lt k hk).1; omega)
        have LO : Hid _ := rlose_ok R (.slice none 0 0) { d with l := [] } (nosP d.l) (.slice la (nosP d.l).length lc) (wr.setCell ⟨R, 0, none⟩ (.slice none 0 0)) LA (row_i64 rowA) (by rw [nos_len]; exact hl) hwin.out
        have e1 : Hid (expL d now = nosP d.l) := by unfold Hid expL; rw [hdue]; rfl
        have e2 : Hid (expire d now = { lose { d with l := [] } (nosP d.l) with bo := min 6 (d.bo + 1) }) := by unfold Hid expire; rw [hdue]; rfl
        replace rowA : Hid (World.ownsRow (wr.setCell ⟨R, 0, none⟩ (.slice none 0 0)) w.heap.size 2 1 (.slice la (nosP d.l).length lc) (nosP d.l).length (n64 (nosP d.l))) := rowA
        replace KA : Hid _ := KA
        clear hdue LA Lr row
        go_wp2_with fail
        refine Calls.mono LO.out ?_
        rintro _ w6 ⟨rfl, L6, K6⟩
        have row6 : Hid (w6.ownsRow w.heap.size 2 1 (.slice la (nosP d.l).length lc) (nosP d.l).length (n64 (nosP d.l))) := row_block rowA.out fun k hk => K6.block k (rowA.out.lt k hk).2 (by show ¬ k = R; have := (rowA.out.lt k hk).1; omega)
        have K7 : Hid (Kept (fun k => k = R) w w6) := KA.out.trans K6
        have bo : (lose { d with l := [] } (nosP d.l)).bo = d.bo := (lose_top _ _).2.2
        have c5 := L6.cell 5 (v := .int .i64 (lose { d with l := [] } (nosP d.l)).bo) rfl
        rw [bo] at c5
        have f5 := L6.free 5 (by show 5 < 6; decide)
        replace bo : Hid _ := bo
        replace L6 : Hid _ := L6
        have hw5 : wrap64 ((d.bo : Int) + 1) = (d.bo : Int) + 1 := by unfold wrap64; omega
        have ll : (lose { d with l := [] } (nosP d.l)).l = [] := (lose_top _ _).2.1
        replace ll : Hid _ := ll
        clear rowA KA LO K6
        have FIN : Hid (∀ b : Nat, b = min 6 (d.bo + 1) → I64At (w6.setCell ⟨R, 5, none⟩ (.int .i64 (b : Int))) (.slice la (nosP d.l).length lc) (expL d now) ∧ RB (w6.setCell ⟨R, 5, none⟩ (.int .i64 (b : Int))) R none (expire d now) ∧ Kept (fun k => k = R) w (w6.setCell ⟨R, 5, none⟩ (.int .i64 (b : Int)))) := fun b hb => by
          refine ⟨?_, ?_, keptR0 _ R 5 _ K7.out⟩
          · rw [e1.out]
            exact row_i64 (row_block row6.out fun k hk => Below.heap_setCell _ _ _ _ (by show k ≠ R; have := (row6.out.lt k hk).1; omega))
          · rw [e2.out, hb]
            refine ⟨.slice none 0 0, L6.out.put 5 (by show 5 < 6; decide) _, ?_, rfl⟩
            show World.ownsRow _ _ _ _ _ (lose { d with l := [] } (nosP d.l)).l.length (pks (lose { d with l := [] } (nosP d.l)).l)
            rw [ll.out]
            exact World.ownsRow_nil _ _ _ _
        by_cases h6 : d.bo + 1 < 6
        · have gm : decide ((d.bo : Int) + 1 < 6) = true := decide_eq_true (by omega)
          have gm2 : decide (6 < (d.bo : Int) + 1) = false := decide_eq_false (by omega)
          have F := FIN.out (d.bo + 1) (by omega)
          replace F : Hid _ := F
          clear FIN
          go_wp2
          go_ret
          exact ⟨_, none, rfl, F.out.1, F.out.2.1, .inr rfl, F.out.2.2⟩
        · have gm : decide ((d.bo : Int) + 1 < 6) = false := decide_eq_false (by omega)
          have gm2 : decide ((6 : Int) ≤ (d.bo : Int) + 1) = true := decide_eq_true (by omega)
          have F := FIN.out 6 (by omega)
          replace F : Hid _ := F
          clear FIN
          go_wp2
          go_ret
          exact ⟨_, none, rfl, F.out.1, F.out.2.1, .inr rfl, F.out.2.2⟩
end Go.Proofs.Ytfjampommgkfeaa
