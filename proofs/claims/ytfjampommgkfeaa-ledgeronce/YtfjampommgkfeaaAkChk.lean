/-
  What the document's own Check answers of any ranges. No condition.
-/
import Derived.Test.YtfjampommgkfeaaAkRef
namespace Go.Proofs.Ytfjampommgkfeaa
set_option maxRecDepth 100000
open Go.RowKit Go.Sort

set_option maxHeartbeats 8000000 in
theorem rchk_ok (v : Value) (l : List Rg) (w : World) (hv : RgAt w v l) (hm : l.length < 9223372036854775807) :
    Calls Try.prog 31 #[v] w fun e w' => e = .returned (.int .i64 (chkR l)) ∧ Below w.heap.size w w' := by
  obtain ⟨a, cap, rfl, hc⟩ := hv
  by_cases hlen : 16 < l.length
  · have e : chkR l = 8 := if_pos hlen
    rw [e]
    have g1 : decide ((16 : Int) < (l.length : Int)) = true := decide_eq_true (by omega)
    clear e hc
    generalize l.length = M at *
    go_enter Try.func31, Try.ntmps31
    go_wp2
    go_ret
    exact ⟨rfl, Below.refl _ _⟩
  · rcases hc with rfl | ⟨g, o, rfl, hc⟩
    · have e : chkR [] = 0 := rfl
      rw [e]
      clear e hlen
      go_enter Try.func31, Try.ntmps31
      go_wp2
      go_rounds 1
      go_ret
      exact ⟨rfl, Below.refl _ _⟩
    · obtain ⟨M, hM⟩ : ∃ M, M = l.length := ⟨_, rfl⟩
      replace hc : Hid _ := hc
      rw [← hM] at hc hlen hm ⊢
      have g0 : decide ((16 : Int) < (M : Int)) = false := decide_eq_false (by omega)
      obtain ⟨A, hA⟩ : ∃ A, A = chkR l := ⟨_, rfl⟩
      rw [← hA]
      replace hA : Hid _ := hA
      replace hM : Hid _ := hM
      go_enter Try.func31, Try.ntmps31
      go_wp2
      go_loopg [3] M (fun g iv wr => ∃ k : Nat, k + g = M ∧ iv = .int .i64 k ∧ Hid (∀ j, j < k → okAt l j = true) ∧ Hid (Below w.heap.size w wr))
      case atStart => exact ⟨0, by omega, rfl, fun j hj => (by omega), Below.refl _ _⟩
      case round =>
        obtain ⟨k, hk, rfl, hall, bel⟩ := hrel
        by_cases hlt : k < M
        · have g1 : decide ((k : Int) < (M : Int)) = true := decide_eq_true (by omega)
          have hcc : ∀ j d os, j < M → (grow (redrawn wr d) os).cell? ⟨g, o + 2 * j, none⟩ = some (.int .i64 (l.getD j (0, 0)).1) ∧ (grow (redrawn wr d) os).cell? ⟨g, o + 2 * j + 1, none⟩ = some (.int .i64 (l.getD j (0, 0)).2) := fun j d os hj => by
            obtain ⟨c1, c2⟩ := hc.out j hj
            exact ⟨cell_regrown ((bel.out.cell (World.block_lt_of_cell? w _ c1)).trans c1) d os, cell_regrown ((bel.out.cell (World.block_lt_of_cell? w _ c2)).trans c2) d os⟩
          have c1 := fun d os => (hcc k d os hlt).1
          have c2 := fun d os => (hcc k d os hlt).2
          have ia := fun w' => at_rgs g o M cap k w' hlt (k : Int) rfl (o + 2 * k) rfl
          have eat : okAt l k = (fineB (l.getD k (0, 0)).1 (l.getD k (0, 0)).2 && (decide (k = 0) || decide ((l.getD k (0, 0)).2 + 1 < (l.getD (k - 1) (0, 0)).1))) := rfl
          have FN : Hid (∀ w, _) := fun w => rfine_b (l.getD k (0, 0)).1 (l.getD k (0, 0)).2 w
          by_cases hf : fineB (l.getD k (0, 0)).1 (l.getD k (0, 0)).2 = true
          · rw [hf] at FN eat
            obtain ⟨f1, f2, f3⟩ := fine_iff.1 hf
            by_cases h0 : k = 0
            · have e1 : okAt l k = true := by rw [eat, decide_eq_true h0]; rfl
              clear hcc eat hf
              generalize (l.getD k (0, 0)).1 = x at *
              generalize (l.getD k (0, 0)).2 = y at *
              have g2 : decide (0 < k) = false := decide_eq_false (by omega)
              replace h0 : Hid _ := h0
              replace e1 : Hid _ := e1
              have hall2 : Hid (∀ j, j < k + 1 → okAt l j = true) := fun j hj => by
                by_cases e : j = k
                · subst e; exact e1.out
                · exact hall.out j (by omega)
              clear hall
              go_wp2_with fail
              refine wp_region_quiet_below (by kernel_rfl) (by kernel_rfl) ?_
              repeat (go_big_quiet_step (first | (go_at_call 41; exact Calls.regrown_of (FN.out _))))
              refine wpQuiet_nil ?_
              intro _ hw'
              obtain ⟨⟨dq, osq⟩, hw''⟩ := hw'
              subst hw''
              have Z2 : Hid (Below w.heap.size w (grow (redrawn wr dq) osq)) := bel.out.trans ((below_regrown wr dq osq).mono bel.out.size)
              simp only
              generalize grow (redrawn wr dq) osq = w2 at *
              clear bel FN
              go_wp2
              go_roundg (M - (k + 1))
              case measure => omega
              case rel => exact ⟨k + 1, by omega, by go_num, hall2, Z2⟩
            · obtain ⟨j, hj⟩ : ∃ j, j = k - 1 := ⟨_, rfl⟩
              have hjk : k = j + 1 := by omega
              have d1 := fun d os => (hcc j d os (by omega)).1
              have ib := fun w' => at_rgs g o M cap j w' (by omega) ((k : Int) - 1) (by omega) (o + 2 * j) rfl
              have hfj := hall.out j (by omega)
              unfold okAt at hfj
              rw [Bool.and_eq_true] at hfj
              obtain ⟨p1, p2, p3⟩ := fine_iff.1 hfj.1
              rw [← hj] at eat
              clear hcc hf hfj
              generalize (l.getD k (0, 0)).1 = x at *
              generalize (l.getD k (0, 0)).2 = y at *
              have pl : (l.getD j (0, 0)).1 ≤ 4611686018427387903 := by omega
              clear p2 p3
              generalize (l.getD j (0, 0)).1 = p at *
              have g2 : decide (0 < k) = true := decide_eq_true (by omega)
              have ekk : decide (k = 0) = false := decide_eq_false h0
              rw [ekk, Bool.true_and, Bool.false_or] at eat
              replace hj : Hid _ := hj
              replace hjk : Hid _ := hjk
              clear ekk h0
              by_cases q1 : p ≤ y
              · have e1 : okAt l k = false := by rw [eat]; exact decide_eq_false (by omega)
                have g3 : decide (p ≤ y) = true := decide_eq_true q1
                clear eat
                replace e1 : Hid _ := e1
                have eA : A = 2 := by rw [hA.out]; exact chkR_not (by have := hM.out; omega) k (by have := hM.out; omega) (by exact e1.out)
                subst eA
                clear hA hall
                go_wp2_with fail
                refine wp_region_quiet_below (by kernel_rfl) (by kernel_rfl) ?_
                repeat (go_big_quiet_step (first | (go_at_call 41; exact Calls.regrown_of (FN.out _))))
                refine wpQuiet_nil ?_
                intro _ hw'
                obtain ⟨⟨dq, osq⟩, hw''⟩ := hw'
                subst hw''
                have Z2 : Hid (Below w.heap.size w (grow (redrawn wr dq) osq)) := bel.out.trans ((below_regrown wr dq osq).mono bel.out.size)
                simp only
                generalize grow (redrawn wr dq) osq = w2 at *
                clear bel FN
                go_wp2
                go_ret
                exact ⟨rfl, Z2.out⟩
              · have g3 : decide (p ≤ y) = false := decide_eq_false q1
                by_cases q2 : p - y < 2
                · have e1 : okAt l k = false := by rw [eat]; exact decide_eq_false (by omega)
                  have g4 : decide (p - y < 2) = true := decide_eq_true q2
                  clear eat
                  replace e1 : Hid _ := e1
                  have eA : A = 2 := by rw [hA.out]; exact chkR_not (by have := hM.out; omega) k (by have := hM.out; omega) (by exact e1.out)
                  subst eA
                  clear hA hall
                  go_wp2_with fail
                  refine wp_region_quiet_below (by kernel_rfl) (by kernel_rfl) ?_
                  repeat (go_big_quiet_step (first | (go_at_call 41; exact Calls.regrown_of (FN.out _))))
                  refine wpQuiet_nil ?_
                  intro _ hw'
                  obtain ⟨⟨dq, osq⟩, hw''⟩ := hw'
                  subst hw''
                  have Z2 : Hid (Below w.heap.size w (grow (redrawn wr dq) osq)) := bel.out.trans ((below_regrown wr dq osq).mono bel.out.size)
                  simp only
                  generalize grow (redrawn wr dq) osq = w2 at *
                  clear bel FN
                  go_wp2
                  go_ret
                  exact ⟨rfl, Z2.out⟩
                · have e1 : okAt l k = true := by rw [eat]; exact decide_eq_true (by omega)
                  have g4 : decide (p - y < 2) = false := decide_eq_false q2
                  clear eat
                  replace e1 : Hid _ := e1
                  have hall2 : Hid (∀ j, j < k + 1 → okAt l j = true) := fun j hj => by
                    by_cases e : j = k
                    · subst e; exact e1.out
                    · exact hall.out j (by omega)
                  clear hall
                  go_wp2_with fail
                  refine wp_region_quiet_below (by kernel_rfl) (by kernel_rfl) ?_
                  repeat (go_big_quiet_step (first | (go_at_call 41; exact Calls.regrown_of (FN.out _))))
                  refine wpQuiet_nil ?_
                  intro _ hw'
                  obtain ⟨⟨dq, osq⟩, hw''⟩ := hw'
                  subst hw''
                  have Z2 : Hid (Below w.heap.size w (grow (redrawn wr dq) osq)) := bel.out.trans ((below_regrown wr dq osq).mono bel.out.size)
                  simp only
                  generalize grow (redrawn wr dq) osq = w2 at *
                  clear bel FN
                  go_wp2
                  go_roundg (M - (k + 1))
                  case measure => omega
                  case rel => exact ⟨k + 1, by omega, by go_num, hall2, Z2⟩
          · have hf' : fineB (l.getD k (0, 0)).1 (l.getD k (0, 0)).2 = false := by simpa using hf
            rw [hf'] at FN eat
            have e1 : okAt l k = false := by rw [eat]; rfl
            clear hcc eat hf hf'
            generalize (l.getD k (0, 0)).1 = x at *
            generalize (l.getD k (0, 0)).2 = y at *
            replace e1 : Hid _ := e1
            have eA : A = 2 := by rw [hA.out]; exact chkR_not (by have := hM.out; omega) k (by have := hM.out; omega) (by exact e1.out)
            subst eA
            clear hA hall
            go_wp2_with fail
            refine wp_region_quiet_below (by kernel_rfl) (by kernel_rfl) ?_
            repeat (go_big_quiet_step (first | (go_at_call 41; exact Calls.regrown_of (FN.out _))))
            refine wpQuiet_nil ?_
            intro _ hw'
            obtain ⟨⟨dq, osq⟩, hw''⟩ := hw'
            subst hw''
            have Z2 : Hid (Below w.heap.size w (grow (redrawn wr dq) osq)) := bel.out.trans ((below_regrown wr dq osq).mono bel.out.size)
            simp only
            generalize grow (redrawn wr dq) osq = w2 at *
            clear bel FN
            go_wp2
            go_ret
            exact ⟨rfl, Z2.out⟩
        · have g1 : decide ((k : Int) < (M : Int)) = false := decide_eq_false (by omega)
          obtain rfl : k = M := by omega
          have eA : A = 0 := by rw [hA.out]; exact chkR_all (by have := hM.out; omega) (by have := hM.out; rw [← this]; exact hall.out)
          subst eA
          clear hA hall hc
          go_wp2
          go_ret
          exact ⟨rfl, bel.out⟩
end Go.Proofs.Ytfjampommgkfeaa
