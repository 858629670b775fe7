/-
  The law ReplaySees returns true for every two rows of numbers: numbers are seen, or refused, as the chapter says. No condition.
-/
import Derived.Test.YtjdkmjpajijkdaaRpInv
import Derived.Test.YtjdkmjpajijkdaaObDraw
import Derived.Test.YtjdkmjpajijkdaaRpOpen
import Derived.LaidLaws
namespace Go.Proofs.Ytjdkmjpajijkdaa.replaySees
set_option maxRecDepth 100000
open Go.ChangeShapes Go.WideShapes Go.ChangeAt Go.RowKit
open Go.ChangeMaps (open_string shut_string)

theorem enter_see (x : Value) (y : Value) (w : World) : (callFunc 10 #[x, y]).run Try.prog w = .ok (.enter 10 #[x, y]) w := by simp [go_sem]
theorem enter_rsee (x : Value) (y : Value) (w : World) : (callFunc 11 #[x, y]).run Try.prog w = .ok (.enter 11 #[x, y]) w := by simp [go_sem]
set_option maxHeartbeats 8000000 in
theorem walk_some (f : Nat → Int) (b off m cap M : Nat) (a2 : Option Addr) (mA capA : Nat) (f2 : Nat → Int) (w : World) (hb : b < w.heap.size) (hm : m ≤ 9223372036854775807) (hmA : mA ≤ 9223372036854775807) (hM : (M = m ∧ m ≤ 200) ∨ (M = 200 ∧ 200 < m))
    (hc : ∀ i, i < m → w.cell? ⟨b, off + i, none⟩ = some (.int .i64 (f i))) (hA : Nums w a2 mA f2) :
    Calls Try.prog 3 #[.slice (some ⟨b, off, none⟩) m cap, .slice a2 mA capA] w fun e w' => e = .returned (.bool true) ∧ Below w.heap.size w w' := by
  have hMn : M ≤ m ∧ M ≤ 200 := by omega
  replace hc : Hid _ := hc
  replace hA : Hid _ := hA
  have NA : Hid (∀ w', Below w.heap.size w w' → _) := fun w' b => winv_new w w' b
  go_enter Try.func3, Try.ntmps3
  go_wp2_with fail
  refine (NA.out _ (Below.refl _ _)).mono ?_
  rintro e w1 ⟨B, rfl, n1⟩
  have hR : Hid (∃ R, R = w1.heap.size) := ⟨_, rfl⟩
  have N2 : Hid (RInv w (w1.alloc (.cells #[.slice none 0 0] 27)) B w1.heap.size [] []) := rinv_new n1 _
  clear n1 NA
  go_wp2_with fail
  obtain ⟨R, hRe⟩ := hR.out
  rw [← hRe] at N2 ⊢
  clear hR
  replace hRe : Hid _ := hRe
  go_loopg [7] M (fun g iv wr => ∃ (i : Nat) (L : List Int), i + g = M ∧ iv = .int .i64 i ∧ L.length ≤ i ∧ Hid (RInv w wr B R L L))
  case atStart => exact ⟨0, [], by omega, rfl, by simp, N2⟩
  case round =>
    clear N2
    obtain ⟨i, L, hi, rfl, hL, N⟩ := hrel
    by_cases hlt : i < M
    · have q1 : decide (i < m) = true := decide_eq_true (by omega)
      have q2 : decide ((i : Int) < 200) = true := decide_eq_true (by omega)
      have q3 : decide (i < 200) = true := decide_eq_true (by omega)
      have ia := fun w' => at_i64s b off m cap i w' (by omega) (i : Int) rfl (off + i) rfl
      have SE : Hid (∀ w', RInv w w' B R L L → _) := fun w' h => rinv_see (f i) h
      have RS : Hid (∀ w', RInv w w' B R (nxt L (f i)) L → _) := fun w' h => rinv_rsee (f i) h (by omega)
      have TP : Hid (∀ w', RInv w w' B R (nxt L (f i)) (nxt L (f i)) → _) := fun w' h => rinv_top h
      have TR : Hid (∀ w', RInv w w' B R (nxt L (f i)) (nxt L (f i)) → _) := fun w' h => rinv_rtop h (by have := nxt_len L (f i); omega)
      by_cases hq : i < mA
      · have p1 : decide (i < mA) = true := decide_eq_true hq
        obtain ⟨b2, off2, rfl, hb2, hc2⟩ : ∃ b2 off2, a2 = some ⟨b2, off2, none⟩ ∧ b2 < w.heap.size ∧ ∀ i, i < mA → w.cell? ⟨b2, off2 + i, none⟩ = some (.int .i64 (f2 i)) := by
          rcases hA.out with h | h
          · omega
          · exact h
        have cA : Hid (∀ d os, (Go.Sort.grow (redrawn wr d) os).cell? ⟨b2, off2 + i, none⟩ = some (.int .i64 (f2 i))) := fun d os => cell_regrown ((N.out.bel.cell (p := ⟨b2, off2 + i, none⟩) hb2).trans (hc2 i hq)) d os
        have cA' := fun d os => cA.out d os
        have ib := fun w' => at_i64s b2 off2 mA capA i w' hq (i : Int) rfl (off2 + i) rfl
        have CK : Hid (∀ d os, _) := fun d os => Calls.regrown_of (P := Try.prog) (w := wr) (d := d) (os := os) (rinv_check (f2 i) (N.out.keep (below_regrown wr d os)))
        have CR : Hid (∀ d os, _) := fun d os => Calls.regrown_of (P := Try.prog) (w := wr) (d := d) (os := os) (rinv_rcheck (f2 i) (N.out.keep (below_regrown wr d os)) (by omega))
        have gq : (chk L (f2 i) != chk L (f2 i)) = false := by simp
        clear hc2 cA
        go_wp2_with fail
        refine wp_region_quiet_below (by kernel_rfl) (by kernel_rfl) ?_
        repeat (go_big_quiet_step (first | (go_at_call 8; exact CK.out _ _) | (go_at_call 9; exact CR.out _ _)))
        refine wpQuiet_nil ?_
        intro _ hw'
        obtain ⟨⟨dq, osq⟩, hw''⟩ := hw'
        subst hw''
        have N3 : Hid (RInv w (Go.Sort.grow (redrawn wr dq) osq) B R L L) := N.out.keep (below_regrown wr dq osq)
        simp only
        generalize Go.Sort.grow (redrawn wr dq) osq = w3 at *
        clear CK CR cA' ib gq N
        go_wp2_with fail
        refine wp_region_any (by kernel_rfl) ?_
        change wpAny _ .any _ _ 13 (Array.replicate 13 false) _ w3.drew
        have c4 : w3.drew.cell? ⟨b, off + i, none⟩ = some (.int .i64 (f i)) := (N3.out.bel.cell (p := ⟨b, off + i, none⟩) hb).trans (hc.out i (by omega))
        have N4 : Hid (RInv w w3.drew B R L L) := N3.out.keep (drewB _ _)
        clear N3
        refine obTake (i := 0) (d := 46) (v := .pointer (some ⟨B, 0, none⟩)) rfl rfl (by kernel_rfl) (by kernel_rfl) (by kernel_rfl) (fun _ _ _ h => h) rfl (fun w => by go_simp) ?_
        refine obTake (i := 1) (d := 47) (v := (.slice (some ⟨b, off, none⟩) m cap)) rfl rfl (by kernel_rfl) (by kernel_rfl) (by kernel_rfl) (fun _ _ _ h => h) rfl (fun w => by go_simp) ?_
        refine obTake (i := 2) (d := 48) (v := .int .i64 (i : Int)) rfl rfl (by kernel_rfl) (by kernel_rfl) (by kernel_rfl) (fun _ _ _ h => h) rfl (fun w => by go_simp) ?_
        refine obTake (i := 3) (d := 49) (v := .pointer (some ⟨b, off + i, none⟩)) rfl rfl (by kernel_rfl) (by kernel_rfl) (by kernel_rfl) (fun _ _ _ h => h) rfl (fun w => by go_simp) ?_
        refine obTake (i := 6) (d := 52) (v := .pointer (some ⟨R, 0, none⟩)) rfl rfl (by kernel_rfl) (by kernel_rfl) (by kernel_rfl) (fun _ _ _ h => h) rfl (fun w => by go_simp) ?_
        refine obTake (i := 7) (d := 53) (v := (.slice (some ⟨b, off, none⟩) m cap)) rfl rfl (by kernel_rfl) (by kernel_rfl) (by kernel_rfl) (fun _ _ _ h => h) rfl (fun w => by go_simp) ?_
        refine obTake (i := 8) (d := 54) (v := .int .i64 (i : Int)) rfl rfl (by kernel_rfl) (by kernel_rfl) (by kernel_rfl) (fun _ _ _ h => h) rfl (fun w => by go_simp) ?_
        refine obTake (i := 9) (d := 55) (v := .pointer (some ⟨b, off + i, none⟩)) rfl rfl (by kernel_rfl) (by kernel_rfl) (by kernel_rfl) (fun _ _ _ h => h) rfl (fun w => by go_simp) ?_
        simp only [Act.put, List.setIfInBounds_toArray, List.set_cons_succ, List.set_cons_zero]
        clear ia
        refine wpAny_all (rs := [4, 10]) (by kernel_rfl) (by simp) (fun j hj => ?_)
        rcases (show j = 4 ∨ j = 10 by simpa using hj) with rfl | rfl
        · refine wpOp_step rfl (fun K' hK => ?_)
          clear hj
          go_simp
          refine hK _ _ ?_
          clear hK K'
          refine wpAny_all (rs := [5, 10]) (by kernel_rfl) (by simp) (fun j hj => ?_)
          rcases (show j = 5 ∨ j = 10 by simpa using hj) with rfl | rfl
          · refine wpOp_step rfl (fun K' hK => ?_)
            clear hj
            refine obCall2 (k1 := 46) (k2 := 50) (d := 51) (x1 := .pointer (some ⟨B, 0, none⟩)) (x2 := .int .i64 (f i)) 10 _ rfl rfl _ _ _ _ (enter_see _ _) rfl rfl (SE.out _ N4.out) (fun e w5 hR => ?_)
            obtain ⟨rfl, n5⟩ := hR
            refine ⟨_, rfl, hK _ _ ?_⟩
            clear hK K'
            have N5 := Lib.hid n5
            have c5 := (n5.bel.cell (p := ⟨b, off + i, none⟩) hb).trans (hc.out i (by omega))
            clear n5
            simp only [Act.put, List.setIfInBounds_toArray, List.set_cons_succ, List.set_cons_zero]
            refine wpAny_all (rs := [10]) (by kernel_rfl) (by simp) (fun j hj => ?_)
            obtain rfl : j = 10 := by simpa using hj
            refine wpOp_step rfl (fun K' hK => ?_)
            clear hj
            go_simp
            refine hK _ _ ?_
            clear hK K'
            refine wpAny_all (rs := [11]) (by kernel_rfl) (by simp) (fun j hj => ?_)
            obtain rfl : j = 11 := by simpa using hj
            refine wpOp_step rfl (fun K' hK => ?_)
            clear hj
            refine obCall2 (k1 := 52) (k2 := 56) (d := 57) (x1 := .pointer (some ⟨R, 0, none⟩)) (x2 := .int .i64 (f i)) 11 _ rfl rfl _ _ _ _ (enter_rsee _ _) rfl rfl (RS.out _ N5.out) (fun e w6 hR => ?_)
            obtain ⟨rfl, n6⟩ := hR
            refine ⟨_, rfl, hK _ _ ?_⟩
            clear hK K'
            have N6 : Hid (RInv w w6 B R (nxt L (f i)) (nxt L (f i))) := n6
            clear n6 N5 SE RS c5
            simp only [Act.put, List.setIfInBounds_toArray, List.set_cons_succ, List.set_cons_zero]
            have gq : (chk L (f i) != chk L (f i)) = false := by simp
            refine wpAny_all (rs := [12]) (by kernel_rfl) (by simp) (fun j hj => ?_)
            obtain rfl : j = 12 := by simpa using hj
            refine wpOp_step rfl (fun K' hK => ?_)
            clear hj
            go_simp
            refine hK _ _ ?_
            clear hK K'
            refine wpAny_done (by kernel_rfl) ?_ 0
            clear gq
            go_wp2_with fail
            refine (TP.out _ N6.out).mono ?_
            rintro e w7 ⟨rfl, n7⟩
            have N7 := Lib.hid n7
            clear n7 N6 TP
            go_wp2_with fail
            refine (TR.out _ N7.out).mono ?_
            rintro e w8 ⟨rfl, n8⟩
            have N8 := Lib.hid n8
            clear n8 N7 TR
            have gt : (top (nxt L (f i)) != top (nxt L (f i))) = false := by simp
            have gb : (decide (0 < (nxt L (f i)).length) != decide (0 < (nxt L (f i)).length)) = false := by simp
            generalize top (nxt L (f i)) = T at *
            generalize hDD : decide (0 < (nxt L (f i)).length) = DD at *
            replace hDD : Hid _ := hDD
            go_wp2_with fail
            go_roundg (M - (i + 1))
            case measure => omega
            case rel => exact ⟨i + 1, nxt L (f i), by omega, by go_num, by have := nxt_len L (f i); omega, N8⟩
          · refine wpOp_step rfl (fun K' hK => ?_)
            clear hj
            go_simp
            refine hK _ _ ?_
            clear hK K'
            refine wpAny_all (rs := [5]) (by kernel_rfl) (by simp) (fun j hj => ?_)
            obtain rfl : j = 5 := by simpa using hj
            refine wpOp_step rfl (fun K' hK => ?_)
            clear hj
            refine obCall2 (k1 := 46) (k2 := 50) (d := 51) (x1 := .pointer (some ⟨B, 0, none⟩)) (x2 := .int .i64 (f i)) 10 _ rfl rfl _ _ _ _ (enter_see _ _) rfl rfl (SE.out _ N4.out) (fun e w5 hR => ?_)
            obtain ⟨rfl, n5⟩ := hR
            refine ⟨_, rfl, hK _ _ ?_⟩
            clear hK K'
            have N5 := Lib.hid n5
            have c5 := (n5.bel.cell (p := ⟨b, off + i, none⟩) hb).trans (hc.out i (by omega))
            clear n5
            simp only [Act.put, List.setIfInBounds_toArray, List.set_cons_succ, List.set_cons_zero]
            refine wpAny_all (rs := [11]) (by kernel_rfl) (by simp) (fun j hj => ?_)
            obtain rfl : j = 11 := by simpa using hj
            refine wpOp_step rfl (fun K' hK => ?_)
            clear hj
            refine obCall2 (k1 := 52) (k2 := 56) (d := 57) (x1 := .pointer (some ⟨R, 0, none⟩)) (x2 := .int .i64 (f i)) 11 _ rfl rfl _ _ _ _ (enter_rsee _ _) rfl rfl (RS.out _ N5.out) (fun e w6 hR => ?_)
            obtain ⟨rfl, n6⟩ := hR
            refine ⟨_, rfl, hK _ _ ?_⟩
            clear hK K'
            have N6 : Hid (RInv w w6 B R (nxt L (f i)) (nxt L (f i))) := n6
            clear n6 N5 SE RS c5
            simp only [Act.put, List.setIfInBounds_toArray, List.set_cons_succ, List.set_cons_zero]
            have gq : (chk L (f i) != chk L (f i)) = false := by simp
            refine wpAny_all (rs := [12]) (by kernel_rfl) (by simp) (fun j hj => ?_)
            obtain rfl : j = 12 := by simpa using hj
            refine wpOp_step rfl (fun K' hK => ?_)
            clear hj
            go_simp
            refine hK _ _ ?_
            clear hK K'
            refine wpAny_done (by kernel_rfl) ?_ 0
            clear gq
            go_wp2_with fail
            refine (TP.out _ N6.out).mono ?_
            rintro e w7 ⟨rfl, n7⟩
            have N7 := Lib.hid n7
            clear n7 N6 TP
            go_wp2_with fail
            refine (TR.out _ N7.out).mono ?_
            rintro e w8 ⟨rfl, n8⟩
            have N8 := Lib.hid n8
            clear n8 N7 TR
            have gt : (top (nxt L (f i)) != top (nxt L (f i))) = false := by simp
            have gb : (decide (0 < (nxt L (f i)).length) != decide (0 < (nxt L (f i)).length)) = false := by simp
            generalize top (nxt L (f i)) = T at *
            generalize hDD : decide (0 < (nxt L (f i)).length) = DD at *
            replace hDD : Hid _ := hDD
            go_wp2_with fail
            go_roundg (M - (i + 1))
            case measure => omega
            case rel => exact ⟨i + 1, nxt L (f i), by omega, by go_num, by have := nxt_len L (f i); omega, N8⟩
        · refine wpOp_step rfl (fun K' hK => ?_)
          clear hj
          go_simp
          refine hK _ _ ?_
          clear hK K'
          refine wpAny_all (rs := [4]) (by kernel_rfl) (by simp) (fun j hj => ?_)
          obtain rfl : j = 4 := by simpa using hj
          refine wpOp_step rfl (fun K' hK => ?_)
          clear hj
          go_simp
          refine hK _ _ ?_
          clear hK K'
          refine wpAny_all (rs := [5]) (by kernel_rfl) (by simp) (fun j hj => ?_)
          obtain rfl : j = 5 := by simpa using hj
          refine wpOp_step rfl (fun K' hK => ?_)
          clear hj
          refine obCall2 (k1 := 46) (k2 := 50) (d := 51) (x1 := .pointer (some ⟨B, 0, none⟩)) (x2 := .int .i64 (f i)) 10 _ rfl rfl _ _ _ _ (enter_see _ _) rfl rfl (SE.out _ N4.out) (fun e w5 hR => ?_)
          obtain ⟨rfl, n5⟩ := hR
          refine ⟨_, rfl, hK _ _ ?_⟩
          clear hK K'
          have N5 := Lib.hid n5
          have c5 := (n5.bel.cell (p := ⟨b, off + i, none⟩) hb).trans (hc.out i (by omega))
          clear n5
          simp only [Act.put, List.setIfInBounds_toArray, List.set_cons_succ, List.set_cons_zero]
          refine wpAny_all (rs := [11]) (by kernel_rfl) (by simp) (fun j hj => ?_)
          obtain rfl : j = 11 := by simpa using hj
          refine wpOp_step rfl (fun K' hK => ?_)
          clear hj
          refine obCall2 (k1 := 52) (k2 := 56) (d := 57) (x1 := .pointer (some ⟨R, 0, none⟩)) (x2 := .int .i64 (f i)) 11 _ rfl rfl _ _ _ _ (enter_rsee _ _) rfl rfl (RS.out _ N5.out) (fun e w6 hR => ?_)
          obtain ⟨rfl, n6⟩ := hR
          refine ⟨_, rfl, hK _ _ ?_⟩
          clear hK K'
          have N6 : Hid (RInv w w6 B R (nxt L (f i)) (nxt L (f i))) := n6
          clear n6 N5 SE RS c5
          simp only [Act.put, List.setIfInBounds_toArray, List.set_cons_succ, List.set_cons_zero]
          have gq : (chk L (f i) != chk L (f i)) = false := by simp
          refine wpAny_all (rs := [12]) (by kernel_rfl) (by simp) (fun j hj => ?_)
          obtain rfl : j = 12 := by simpa using hj
          refine wpOp_step rfl (fun K' hK => ?_)
          clear hj
          go_simp
          refine hK _ _ ?_
          clear hK K'
          refine wpAny_done (by kernel_rfl) ?_ 0
          clear gq
          go_wp2_with fail
          refine (TP.out _ N6.out).mono ?_
          rintro e w7 ⟨rfl, n7⟩
          have N7 := Lib.hid n7
          clear n7 N6 TP
          go_wp2_with fail
          refine (TR.out _ N7.out).mono ?_
          rintro e w8 ⟨rfl, n8⟩
          have N8 := Lib.hid n8
          clear n8 N7 TR
          have gt : (top (nxt L (f i)) != top (nxt L (f i))) = false := by simp
          have gb : (decide (0 < (nxt L (f i)).length) != decide (0 < (nxt L (f i)).length)) = false := by simp
          generalize top (nxt L (f i)) = T at *
          generalize hDD : decide (0 < (nxt L (f i)).length) = DD at *
          replace hDD : Hid _ := hDD
          go_wp2_with fail
          go_roundg (M - (i + 1))
          case measure => omega
          case rel => exact ⟨i + 1, nxt L (f i), by omega, by go_num, by have := nxt_len L (f i); omega, N8⟩
      · have p1 : decide (i < mA) = false := decide_eq_false hq
        go_wp2_with fail
        refine wp_region_quiet_below (by kernel_rfl) (by kernel_rfl) ?_
        repeat (go_big_quiet_step (fail))
        refine wpQuiet_nil ?_
        intro _ hw'
        obtain ⟨⟨dq, osq⟩, hw''⟩ := hw'
        subst hw''
        have N3 : Hid (RInv w (Go.Sort.grow (redrawn wr dq) osq) B R L L) := N.out.keep (below_regrown wr dq osq)
        simp only
        generalize Go.Sort.grow (redrawn wr dq) osq = w3 at *
        clear N
        go_wp2_with fail
        refine wp_region_any (by kernel_rfl) ?_
        change wpAny _ .any _ _ 13 (Array.replicate 13 false) _ w3.drew
        have c4 : w3.drew.cell? ⟨b, off + i, none⟩ = some (.int .i64 (f i)) := (N3.out.bel.cell (p := ⟨b, off + i, none⟩) hb).trans (hc.out i (by omega))
        have N4 : Hid (RInv w w3.drew B R L L) := N3.out.keep (drewB _ _)
        clear N3
        refine obTake (i := 0) (d := 46) (v := .pointer (some ⟨B, 0, none⟩)) rfl rfl (by kernel_rfl) (by kernel_rfl) (by kernel_rfl) (fun _ _ _ h => h) rfl (fun w => by go_simp) ?_
        refine obTake (i := 1) (d := 47) (v := (.slice (some ⟨b, off, none⟩) m cap)) rfl rfl (by kernel_rfl) (by kernel_rfl) (by kernel_rfl) (fun _ _ _ h => h) rfl (fun w => by go_simp) ?_
        refine obTake (i := 2) (d := 48) (v := .int .i64 (i : Int)) rfl rfl (by kernel_rfl) (by kernel_rfl) (by kernel_rfl) (fun _ _ _ h => h) rfl (fun w => by go_simp) ?_
        refine obTake (i := 3) (d := 49) (v := .pointer (some ⟨b, off + i, none⟩)) rfl rfl (by kernel_rfl) (by kernel_rfl) (by kernel_rfl) (fun _ _ _ h => h) rfl (fun w => by go_simp) ?_
        refine obTake (i := 6) (d := 52) (v := .pointer (some ⟨R, 0, none⟩)) rfl rfl (by kernel_rfl) (by kernel_rfl) (by kernel_rfl) (fun _ _ _ h => h) rfl (fun w => by go_simp) ?_
        refine obTake (i := 7) (d := 53) (v := (.slice (some ⟨b, off, none⟩) m cap)) rfl rfl (by kernel_rfl) (by kernel_rfl) (by kernel_rfl) (fun _ _ _ h => h) rfl (fun w => by go_simp) ?_
        refine obTake (i := 8) (d := 54) (v := .int .i64 (i : Int)) rfl rfl (by kernel_rfl) (by kernel_rfl) (by kernel_rfl) (fun _ _ _ h => h) rfl (fun w => by go_simp) ?_
        refine obTake (i := 9) (d := 55) (v := .pointer (some ⟨b, off + i, none⟩)) rfl rfl (by kernel_rfl) (by kernel_rfl) (by kernel_rfl) (fun _ _ _ h => h) rfl (fun w => by go_simp) ?_
        simp only [Act.put, List.setIfInBounds_toArray, List.set_cons_succ, List.set_cons_zero]
        clear ia
        refine wpAny_all (rs := [4, 10]) (by kernel_rfl) (by simp) (fun j hj => ?_)
        rcases (show j = 4 ∨ j = 10 by simpa using hj) with rfl | rfl
        · refine wpOp_step rfl (fun K' hK => ?_)
          clear hj
          go_simp
          refine hK _ _ ?_
          clear hK K'
          refine wpAny_all (rs := [5, 10]) (by kernel_rfl) (by simp) (fun j hj => ?_)
          rcases (show j = 5 ∨ j = 10 by simpa using hj) with rfl | rfl
          · refine wpOp_step rfl (fun K' hK => ?_)
            clear hj
            refine obCall2 (k1 := 46) (k2 := 50) (d := 51) (x1 := .pointer (some ⟨B, 0, none⟩)) (x2 := .int .i64 (f i)) 10 _ rfl rfl _ _ _ _ (enter_see _ _) rfl rfl (SE.out _ N4.out) (fun e w5 hR => ?_)
            obtain ⟨rfl, n5⟩ := hR
            refine ⟨_, rfl, hK _ _ ?_⟩
            clear hK K'
            have N5 := Lib.hid n5
            have c5 := (n5.bel.cell (p := ⟨b, off + i, none⟩) hb).trans (hc.out i (by omega))
            clear n5
            simp only [Act.put, List.setIfInBounds_toArray, List.set_cons_succ, List.set_cons_zero]
            refine wpAny_all (rs := [10]) (by kernel_rfl) (by simp) (fun j hj => ?_)
            obtain rfl : j = 10 := by simpa using hj
            refine wpOp_step rfl (fun K' hK => ?_)
            clear hj
            go_simp
            refine hK _ _ ?_
            clear hK K'
            refine wpAny_all (rs := [11]) (by kernel_rfl) (by simp) (fun j hj => ?_)
            obtain rfl : j = 11 := by simpa using hj
            refine wpOp_step rfl (fun K' hK => ?_)
            clear hj
            refine obCall2 (k1 := 52) (k2 := 56) (d := 57) (x1 := .pointer (some ⟨R, 0, none⟩)) (x2 := .int .i64 (f i)) 11 _ rfl rfl _ _ _ _ (enter_rsee _ _) rfl rfl (RS.out _ N5.out) (fun e w6 hR => ?_)
            obtain ⟨rfl, n6⟩ := hR
            refine ⟨_, rfl, hK _ _ ?_⟩
            clear hK K'
            have N6 : Hid (RInv w w6 B R (nxt L (f i)) (nxt L (f i))) := n6
            clear n6 N5 SE RS c5
            simp only [Act.put, List.setIfInBounds_toArray, List.set_cons_succ, List.set_cons_zero]
            have gq : (chk L (f i) != chk L (f i)) = false := by simp
            refine wpAny_all (rs := [12]) (by kernel_rfl) (by simp) (fun j hj => ?_)
            obtain rfl : j = 12 := by simpa using hj
            refine wpOp_step rfl (fun K' hK => ?_)
            clear hj
            go_simp
            refine hK _ _ ?_
            clear hK K'
            refine wpAny_done (by kernel_rfl) ?_ 0
            clear gq
            go_wp2_with fail
            refine (TP.out _ N6.out).mono ?_
            rintro e w7 ⟨rfl, n7⟩
            have N7 := Lib.hid n7
            clear n7 N6 TP
            go_wp2_with fail
            refine (TR.out _ N7.out).mono ?_
            rintro e w8 ⟨rfl, n8⟩
            have N8 := Lib.hid n8
            clear n8 N7 TR
            have gt : (top (nxt L (f i)) != top (nxt L (f i))) = false := by simp
            have gb : (decide (0 < (nxt L (f i)).length) != decide (0 < (nxt L (f i)).length)) = false := by simp
            generalize top (nxt L (f i)) = T at *
            generalize hDD : decide (0 < (nxt L (f i)).length) = DD at *
            replace hDD : Hid _ := hDD
            go_wp2_with fail
            go_roundg (M - (i + 1))
            case measure => omega
            case rel => exact ⟨i + 1, nxt L (f i), by omega, by go_num, by have := nxt_len L (f i); omega, N8⟩
          · refine wpOp_step rfl (fun K' hK => ?_)
            clear hj
            go_simp
            refine hK _ _ ?_
            clear hK K'
            refine wpAny_all (rs := [5]) (by kernel_rfl) (by simp) (fun j hj => ?_)
            obtain rfl : j = 5 := by simpa using hj
            refine wpOp_step rfl (fun K' hK => ?_)
            clear hj
            refine obCall2 (k1 := 46) (k2 := 50) (d := 51) (x1 := .pointer (some ⟨B, 0, none⟩)) (x2 := .int .i64 (f i)) 10 _ rfl rfl _ _ _ _ (enter_see _ _) rfl rfl (SE.out _ N4.out) (fun e w5 hR => ?_)
            obtain ⟨rfl, n5⟩ := hR
            refine ⟨_, rfl, hK _ _ ?_⟩
            clear hK K'
            have N5 := Lib.hid n5
            have c5 := (n5.bel.cell (p := ⟨b, off + i, none⟩) hb).trans (hc.out i (by omega))
            clear n5
            simp only [Act.put, List.setIfInBounds_toArray, List.set_cons_succ, List.set_cons_zero]
            refine wpAny_all (rs := [11]) (by kernel_rfl) (by simp) (fun j hj => ?_)
            obtain rfl : j = 11 := by simpa using hj
            refine wpOp_step rfl (fun K' hK => ?_)
            clear hj
            refine obCall2 (k1 := 52) (k2 := 56) (d := 57) (x1 := .pointer (some ⟨R, 0, none⟩)) (x2 := .int .i64 (f i)) 11 _ rfl rfl _ _ _ _ (enter_rsee _ _) rfl rfl (RS.out _ N5.out) (fun e w6 hR => ?_)
            obtain ⟨rfl, n6⟩ := hR
            refine ⟨_, rfl, hK _ _ ?_⟩
            clear hK K'
            have N6 : Hid (RInv w w6 B R (nxt L (f i)) (nxt L (f i))) := n6
            clear n6 N5 SE RS c5
            simp only [Act.put, List.setIfInBounds_toArray, List.set_cons_succ, List.set_cons_zero]
            have gq : (chk L (f i) != chk L (f i)) = false := by simp
            refine wpAny_all (rs := [12]) (by kernel_rfl) (by simp) (fun j hj => ?_)
            obtain rfl : j = 12 := by simpa using hj
            refine wpOp_step rfl (fun K' hK => ?_)
            clear hj
            go_simp
            refine hK _ _ ?_
            clear hK K'
            refine wpAny_done (by kernel_rfl) ?_ 0
            clear gq
            go_wp2_with fail
            refine (TP.out _ N6.out).mono ?_
            rintro e w7 ⟨rfl, n7⟩
            have N7 := Lib.hid n7
            clear n7 N6 TP
            go_wp2_with fail
            refine (TR.out _ N7.out).mono ?_
            rintro e w8 ⟨rfl, n8⟩
            have N8 := Lib.hid n8
            clear n8 N7 TR
            have gt : (top (nxt L (f i)) != top (nxt L (f i))) = false := by simp
            have gb : (decide (0 < (nxt L (f i)).length) != decide (0 < (nxt L (f i)).length)) = false := by simp
            generalize top (nxt L (f i)) = T at *
            generalize hDD : decide (0 < (nxt L (f i)).length) = DD at *
            replace hDD : Hid _ := hDD
            go_wp2_with fail
            go_roundg (M - (i + 1))
            case measure => omega
            case rel => exact ⟨i + 1, nxt L (f i), by omega, by go_num, by have := nxt_len L (f i); omega, N8⟩
        · refine wpOp_step rfl (fun K' hK => ?_)
          clear hj
          go_simp
          refine hK _ _ ?_
          clear hK K'
          refine wpAny_all (rs := [4]) (by kernel_rfl) (by simp) (fun j hj => ?_)
          obtain rfl : j = 4 := by simpa using hj
          refine wpOp_step rfl (fun K' hK => ?_)
          clear hj
          go_simp
          refine hK _ _ ?_
          clear hK K'
          refine wpAny_all (rs := [5]) (by kernel_rfl) (by simp) (fun j hj => ?_)
          obtain rfl : j = 5 := by simpa using hj
          refine wpOp_step rfl (fun K' hK => ?_)
          clear hj
          refine obCall2 (k1 := 46) (k2 := 50) (d := 51) (x1 := .pointer (some ⟨B, 0, none⟩)) (x2 := .int .i64 (f i)) 10 _ rfl rfl _ _ _ _ (enter_see _ _) rfl rfl (SE.out _ N4.out) (fun e w5 hR => ?_)
          obtain ⟨rfl, n5⟩ := hR
          refine ⟨_, rfl, hK _ _ ?_⟩
          clear hK K'
          have N5 := Lib.hid n5
          have c5 := (n5.bel.cell (p := ⟨b, off + i, none⟩) hb).trans (hc.out i (by omega))
          clear n5
          simp only [Act.put, List.setIfInBounds_toArray, List.set_cons_succ, List.set_cons_zero]
          refine wpAny_all (rs := [11]) (by kernel_rfl) (by simp) (fun j hj => ?_)
          obtain rfl : j = 11 := by simpa using hj
          refine wpOp_step rfl (fun K' hK => ?_)
          clear hj
          refine obCall2 (k1 := 52) (k2 := 56) (d := 57) (x1 := .pointer (some ⟨R, 0, none⟩)) (x2 := .int .i64 (f i)) 11 _ rfl rfl _ _ _ _ (enter_rsee _ _) rfl rfl (RS.out _ N5.out) (fun e w6 hR => ?_)
          obtain ⟨rfl, n6⟩ := hR
          refine ⟨_, rfl, hK _ _ ?_⟩
          clear hK K'
          have N6 : Hid (RInv w w6 B R (nxt L (f i)) (nxt L (f i))) := n6
          clear n6 N5 SE RS c5
          simp only [Act.put, List.setIfInBounds_toArray, List.set_cons_succ, List.set_cons_zero]
          have gq : (chk L (f i) != chk L (f i)) = false := by simp
          refine wpAny_all (rs := [12]) (by kernel_rfl) (by simp) (fun j hj => ?_)
          obtain rfl : j = 12 := by simpa using hj
          refine wpOp_step rfl (fun K' hK => ?_)
          clear hj
          go_simp
          refine hK _ _ ?_
          clear hK K'
          refine wpAny_done (by kernel_rfl) ?_ 0
          clear gq
          go_wp2_with fail
          refine (TP.out _ N6.out).mono ?_
          rintro e w7 ⟨rfl, n7⟩
          have N7 := Lib.hid n7
          clear n7 N6 TP
          go_wp2_with fail
          refine (TR.out _ N7.out).mono ?_
          rintro e w8 ⟨rfl, n8⟩
          have N8 := Lib.hid n8
          clear n8 N7 TR
          have gt : (top (nxt L (f i)) != top (nxt L (f i))) = false := by simp
          have gb : (decide (0 < (nxt L (f i)).length) != decide (0 < (nxt L (f i)).length)) = false := by simp
          generalize top (nxt L (f i)) = T at *
          generalize hDD : decide (0 < (nxt L (f i)).length) = DD at *
          replace hDD : Hid _ := hDD
          go_wp2_with fail
          go_roundg (M - (i + 1))
          case measure => omega
          case rel => exact ⟨i + 1, nxt L (f i), by omega, by go_num, by have := nxt_len L (f i); omega, N8⟩
    · clear hc
      by_cases hin : i < m
      · have q1 : decide (i < m) = true := decide_eq_true hin
        have q2 : decide ((i : Int) < 200) = false := decide_eq_false (by omega)
        have q3 : decide (i < 200) = false := decide_eq_false (by omega)
        go_wp2_with fail
        go_ret
        exact ⟨rfl, N.out.bel⟩
      · have q1 : decide (i < m) = false := decide_eq_false hin
        go_wp2_with fail
        go_ret
        exact ⟨rfl, N.out.bel⟩

set_option maxHeartbeats 2000000 in
theorem walk_none (a : Option Addr) (m cap : Nat) (v2 : Value) (hm : m = 0) (w : World) :
    Calls Try.prog 3 #[.slice a m cap, v2] w fun e w' => e = .returned (.bool true) ∧ Below w.heap.size w w' := by
  have NA : Hid (∀ w', Below w.heap.size w w' → _) := fun w' b => winv_new w w' b
  go_enter Try.func3, Try.ntmps3
  go_wp2_with fail
  refine (NA.out _ (Below.refl _ _)).mono ?_
  rintro e w1 ⟨B, rfl, n1⟩
  have hR : Hid (∃ R, R = w1.heap.size) := ⟨_, rfl⟩
  have N2 : Hid (RInv w (w1.alloc (.cells #[.slice none 0 0] 27)) B w1.heap.size [] []) := rinv_new n1 _
  clear n1 NA
  go_wp2_with fail
  obtain ⟨R, hRe⟩ := hR.out
  rw [← hRe] at N2 ⊢
  clear hR
  replace hRe : Hid _ := hRe
  go_loopg [7] 0 (fun g iv wr => ∃ (i : Nat) (L : List Int), i + g = 0 ∧ iv = .int .i64 i ∧ L.length ≤ i ∧ Hid (RInv w wr B R L L))
  case atStart => exact ⟨0, [], by omega, rfl, by simp, N2⟩
  case round =>
    clear N2
    obtain ⟨i, L, hi, rfl, hL, N⟩ := hrel
    have q1 : decide (i < m) = false := decide_eq_false (by omega)
    go_wp2_with fail
    go_ret
    exact ⟨rfl, N.out.bel⟩

theorem walk (a : Option Addr) (m cap : Nat) (f : Nat → Int) (a2 : Option Addr) (mA capA : Nat) (f2 : Nat → Int) (w : World) (hm : m ≤ maxLen) (hs : Nums w a m f) (hmA : mA ≤ maxLen) (hA : Nums w a2 mA f2) :
    Calls Try.prog 3 #[.slice a m cap, .slice a2 mA capA] w fun e w' => e = .returned (.bool true) ∧ Below w.heap.size w w' := by
  have hm' : m ≤ 9223372036854775807 := by unfold maxLen at hm; omega
  have hmA' : mA ≤ 9223372036854775807 := by unfold maxLen at hmA; omega
  rcases hs with h0 | ⟨b, off, rfl, hb, hc⟩
  · exact walk_none a m cap _ h0 w
  · by_cases h : m ≤ 200
    · exact walk_some f b off m cap m a2 mA capA f2 w hb hm' hmA' (.inl ⟨rfl, h⟩) hc hA
    · exact walk_some f b off m cap 200 a2 mA capA f2 w hb hm' hmA' (.inr ⟨rfl, by omega⟩) hc hA

theorem contract (H : Type) (enc : TypeId × Value → H) (W : World) (base : Nat) (args : Array Value) (ds gs : List (DataW H)) (before : List MemPlace)
    (hval : ∀ (j : Nat) t v, Try.f3.params[j]? = some t → args[j]? = some v → Value.okWide Try.prog W .any base t v)
    (hW : DataW.Whole enc Try.prog Try.f3.params.toList Rows.replaySeesSpec.vars false W args.toList ds gs before) :
    Calls Try.prog 3 args W fun e W' => ∃ v, e = .returned v ∧ Rows.replaySeesSpec.post enc Try.prog Try.f3 false true false false W args v W' := by
  have hW' := hW
  obtain ⟨p, q, hA0, hV, rfl, hfz, hnd⟩ := hW
  have hA : DataW.TrodAll enc Try.prog W 0 (fun _ => true) true Try.f3.params.toList args.toList ds p := hA0
  rw [Try.params3] at hA hval
  obtain ⟨v0, vs0, d0, ds0, p0, q0, hargs, rfl, rfl, h0, r0⟩ := trodAll_cons hA
  obtain ⟨v1, vs1, d1, ds1, p1, q1, rfl, rfl, rfl, h1, r1⟩ := trodAll_cons r0
  obtain ⟨rfl, rfl, rfl⟩ := trodAll_nil r1
  obtain rfl : args = #[v0, v1] := by cases args; simp_all
  obtain ⟨rfl, rfl⟩ := trodVars_none hV
  have k0 := h0
  have lt0 : ∀ x ∈ p0, x.block < W.heap.size := by obtain ⟨m, hm⟩ := k0; exact DataW.trod_lt m _ _ _ hm
  obtain ⟨a0, n0, c0, f0, rfl, hn0, hz0, hs0⟩ := open_i64s Try.underlying22 Try.underlying2 (by kernel_rfl) (hval 0 22 v0 rfl rfl) h0
  have k1 := h1
  have lt1 : ∀ x ∈ p1, x.block < W.heap.size := by obtain ⟨m, hm⟩ := k1; exact DataW.trod_lt m _ _ _ hm
  obtain ⟨a1, n1, c1, f1, rfl, hn1, hz1, hs1⟩ := open_i64s Try.underlying22 Try.underlying2 (by kernel_rfl) (hval 1 22 v1 rfl rfl) h1
  clear hA0
  simp only [List.append_nil] at hW'
  refine (walk a0 n0 c0 f0 a1 n1 c1 f1 W hn0 hs0 hn1 hs1).mono fun e W' ⟨he, bel⟩ => ?_
  subst he
  exact ⟨_, rfl, _, _, _, [], _, [], hW', trodAll_mk1 (shut_bool Try.underlying4 _), (trodAll_cons_mk (Below.trod laidOut (by kernel_rfl) (of_decide_eq_true (by kernel_rfl)) k0 bel lt0) (trodAll_cons_mk (Below.trod laidOut (by kernel_rfl) (of_decide_eq_true (by kernel_rfl)) k1 bel lt1) trodAll_mk0)), rfl, bel.frame _, fun h => by cases h⟩

theorem laid_met (os : Os) : laidMet Try.prog Rows.replaySeesRow.laid ((startWorld Try.prog os).forCall (fun _ _ => 0) ⟨#[], #[.slice none 0 0, .slice none 0 0], []⟩).memory :=
  laidMet_of_run' 8 (by kernel_rfl) (by kernel_rfl)
theorem reads (os : Os) {H : Type} (enc : TypeId × Value → H) : ∃ places, DataW.whole enc Try.prog ((startWorld Try.prog os).forCall (fun _ _ => 0) ⟨#[], #[.slice none 0 0, .slice none 0 0], []⟩).memory Try.f3.params.toList Rows.replaySeesSpec.vars false #[Value.slice none 0 0, Value.slice none 0 0].toList 8 = some ([.nil, .nil], [], places) :=
  ⟨[], by kernel_rfl⟩

set_option maxRecDepth 100000 in
theorem lifted (os : Os) (started : os.Started) (H : Type) (enc : TypeId × Value → H) (F : Stop.Interp) :
    ReturnsInHanded {} Try.checked os 3 .any ((OpenSpec.ofChange Rows.replaySeesSpec).preRow enc Try.prog Try.f3 Rows.replaySeesRow.domain false Rows.replaySeesRow.laid) (((OpenSpec.ofChange Rows.replaySeesSpec).at F).post enc Try.prog Try.f3 false true false false) := by
  obtain ⟨places, hx⟩ := reads os enc
  refine returnsInHanded_of_row (C := Try.checked) (s := OpenSpec.ofChange Rows.replaySeesSpec) own started (by kernel_rfl) Try.func3
    (witness_row_at (enc := enc) (C := Try.checked) false (startWorld Try.prog os) #[.slice none 0 0, .slice none 0 0] rfl (by kernel_rfl) (by kernel_rfl) (by kernel_rfl)
      (OpenSpec.preRow_of_cond 8 hx (by kernel_rfl) (fun k hk => by cases hk) (by kernel_rfl) (laid_met os))) ?_
  intro W base args ds gs before hval hW _ _ _ _ _ _
  exact contract H enc W base args ds gs before hval hW

theorem said : Rows.ReplaySeesSaid :=
  OpenClaim.holds_of_cond 3 Try.f3 rfl rfl rfl rfl rfl rfl rfl ⟨rfl, rfl, rfl, rfl, rfl⟩ rfl rfl rfl rfl rfl (by kernel_rfl) Try.func3 (by kernel_rfl)
    (of_decide_eq_true (by kernel_rfl)) (by unfold Func.isWrapper; first | (rw [if_pos (by decide +kernel)]; kernel_rfl) | (rw [if_neg (by decide +kernel)]; exact ⟨rfl, rfl⟩))
    (fun os started H enc _ F => by rw [OpenClaim.pre_eq_preRow]; exact lifted os started H enc F)
end Go.Proofs.Ytjdkmjpajijkdaa.replaySees
namespace Go.Proofs.Ytjdkmjpajijkdaa
theorem replaySees_said : Rows.ReplaySeesSaid := replaySees.said
end Go.Proofs.Ytjdkmjpajijkdaa
