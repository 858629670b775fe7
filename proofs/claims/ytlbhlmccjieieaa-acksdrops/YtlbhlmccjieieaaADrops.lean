/-
  The law AcksDrops returns true for every row of numbers and two numbers: behind a drop a set has what it had from there on. No condition.
-/
import Derived.Test.YtlbhlmccjieieaaAkWorks
import Derived.Test.YtlbhlmccjieieaaObDraw
import Derived.Test.YtlbhlmccjieieaaAkI64
import Derived.Test.YtlbhlmccjieieaaRpOpen
import Derived.LaidLaws
namespace Go.Proofs.Ytlbhlmccjieieaa.acksDrops
set_option maxRecDepth 100000
open Go.ChangeShapes Go.WideShapes Go.ChangeAt Go.RowKit
open Go.ChangeMaps (open_string shut_string)

theorem enter_add (x y z : Value) (w : World) : (callFunc 11 #[x, y, z]).run Try.prog w = .ok (.enter 11 #[x, y, z]) w := by simp [go_sem]
theorem drp_hasB (l : List Rg) (b n : Int) : hasR (drp l b) n = (hasR l n && decide (b ≤ n)) := by
  rw [Bool.eq_iff_iff, drp_has]
  simp
theorem drp_low (l : List Rg) (b : Int) : ∀ x ∈ drp l b, b ≤ x.1 := by
  induction l with
  | nil => intro x hx; cases hx
  | cons y l ih =>
    intro x hx
    unfold drp at hx
    split at hx
    · rcases List.mem_cons.1 hx with rfl | h
      · exact Int.le_max_right ..
      · exact ih x h
    · exact ih x hx
theorem out_small {w : World} {base n cap : Nat} {a : Option Addr} {l : List Rg} (h : Out w base (.slice a (n + 1) cap) l) (ok : Ok l) : n < 9223372036854775807 := by
  obtain ⟨a', cap', e, _⟩ := h.at
  injection e with _ e _
  have := ok.2
  omega
theorem out_last {w : World} {base : Nat} {v : Value} {l : List Rg} {b : Int} (h : Out w base v (drp l b)) : (∃ cap a, v = .slice a 0 cap) ∨ ∃ (k g o cap : Nat) (y : Int), v = .slice (some ⟨g, o, none⟩) (k + 1) cap ∧ w.cell? ⟨g, o + 2 * k, none⟩ = some (.int .i64 y) ∧ b ≤ y := by
  obtain ⟨a, cap, rfl, q⟩ := h.at
  have hlow := drp_low l b
  rcases q with q | ⟨g, o, rfl, q⟩
  · rw [q]
    exact .inl ⟨cap, a, rfl⟩
  · rcases Nat.eq_zero_or_pos (drp l b).length with e | e
    · rw [e]
      exact .inl ⟨cap, _, rfl⟩
    · obtain ⟨k, hk⟩ : ∃ k, (drp l b).length = k + 1 := ⟨(drp l b).length - 1, by omega⟩
      obtain ⟨h1, _⟩ := q k (by omega)
      refine .inr ⟨k, g, o, cap, _, by rw [hk], h1, hlow _ ?_⟩
      simp [List.getD, List.getElem?_eq_getElem (show k < (drp l b).length by omega)]
set_option maxHeartbeats 16000000 in
theorem walk_some (f : Nat → Int) (b off m cap M : Nat) (b0 q : Int) (w : World) (hb : b < w.heap.size) (hm : m ≤ 9223372036854775807) (hz : ∀ i, i < m → I64 (f i)) (bb : I64 b0) (bq : I64 q) (hM : (M = m ∧ m ≤ 60) ∨ (M = 60 ∧ 60 < m))
    (hc : ∀ i, i < m → w.cell? ⟨b, off + i, none⟩ = some (.int .i64 (f i))) :
    Calls Try.prog 6 #[.slice (some ⟨b, off, none⟩) m cap, .int .i64 b0, .int .i64 q] w fun e w' => e = .returned (.bool true) ∧ Below w.heap.size w w' := by
  have hMn : M ≤ m ∧ M ≤ 60 := by omega
  replace hc : Hid _ := hc
  replace hz : Hid _ := hz
  replace bb : Hid _ := bb
  replace bq : Hid _ := bq
  have WO : Hid (∀ w, _) := works_ok
  have NA : Hid (∀ w', Below w.heap.size w w' → _) := fun w' b => pinv_new w w' b
  go_enter Try.func6, Try.ntmps6
  go_wp2_with fail
  refine (WO.out _).mono ?_
  rintro e w1 ⟨rfl, b1⟩
  have Z1 := Lib.hid b1
  clear b1 WO
  go_wp2_with fail
  refine (NA.out _ Z1.out).mono ?_
  rintro e w2 ⟨B, F0, rfl, n2, -⟩
  have N2 : Hid (PInv w w2 B F0 []) := n2
  clear n2 NA Z1
  go_wp2_with fail
  go_loopg [8] M (fun g iv wr => ∃ (i : Nat) (F : Nat → Prop) (L : List Rg), i + g = M ∧ iv = .int .i64 i ∧ Hid (PInv w wr B F L))
  case atStart => exact ⟨0, F0, [], by omega, rfl, N2⟩
  case round =>
    clear N2
    obtain ⟨i, F, L, hi, rfl, N⟩ := hrel
    by_cases hlt : i < M
    · have q1 : decide (i < m) = true := decide_eq_true (by omega)
      have q2 : decide ((i : Int) < 60) = true := decide_eq_true (by omega)
      have q3 : decide (i < 60) = true := decide_eq_true (by omega)
      have ia := fun w' => at_i64s b off m cap i w' (by omega) (i : Int) rfl (off + i) rfl
      have AD : Hid (∀ w', PInv w w' B F L → Calls Try.prog 11 #[.pointer (some ⟨B, 0, none⟩), .int .i64 (f i), .int .i64 (f i)] w' fun e w'' => e = .returned (.int .i64 (addE (f i) (f i))) ∧ ∃ F', PInv w w'' B F' (addS L (f i) (f i))) := fun w' h => (pinv_add h (hz.out i (by omega)) (hz.out i (by omega))).mono fun _ _ ⟨e, F', h, _⟩ => ⟨e, F', h⟩
      go_wp2_with fail
      refine wp_region_held (S := fun w' => w'.cell? ⟨b, off + i, none⟩ = some (.int .i64 (f i))) (by kernel_rfl) ?_
      change wpAnyH _ .any _ _ _ 10 (Array.replicate 10 false) _ wr.drew
      have hS : wr.drew.cell? ⟨b, off + i, none⟩ = some (.int .i64 (f i)) := (N.out.bel.cell (p := ⟨b, off + i, none⟩) hb).trans (hc.out i (by omega))
      have N3 : Hid (PInv w wr.drew B F L) := N.out.keep (drewB _ _)
      clear N
      refine obTakeH (i := 0) (d := 24) (v := .pointer (some ⟨B, 0, none⟩)) rfl rfl (by kernel_rfl) (by kernel_rfl) (by kernel_rfl) (fun _ _ _ h => h) rfl (fun w hS => by obtain s1 := hS; go_simp) hS ?_
      refine obTakeH (i := 1) (d := 25) (v := (.slice (some ⟨b, off, none⟩) m cap)) rfl rfl (by kernel_rfl) (by kernel_rfl) (by kernel_rfl) (fun _ _ _ h => h) rfl (fun w hS => by obtain s1 := hS; go_simp) hS ?_
      refine obTakeH (i := 2) (d := 26) (v := .int .i64 (i : Int)) rfl rfl (by kernel_rfl) (by kernel_rfl) (by kernel_rfl) (fun _ _ _ h => h) rfl (fun w hS => by obtain s1 := hS; go_simp) hS ?_
      refine obTakeH (i := 3) (d := 27) (v := .pointer (some ⟨b, off + i, none⟩)) rfl rfl (by kernel_rfl) (by kernel_rfl) (by kernel_rfl) (fun _ _ _ h => h) rfl (fun w hS => by obtain s1 := hS; go_simp) hS ?_
      refine obTakeH (i := 4) (d := 28) (v := .int .i64 (f i)) rfl rfl (by kernel_rfl) (by kernel_rfl) (by kernel_rfl) (fun _ _ _ h => h) rfl (fun w hS => by obtain s1 := hS; go_simp) hS ?_
      refine obTakeH (i := 5) (d := 29) (v := (.slice (some ⟨b, off, none⟩) m cap)) rfl rfl (by kernel_rfl) (by kernel_rfl) (by kernel_rfl) (fun _ _ _ h => h) rfl (fun w hS => by obtain s1 := hS; go_simp) hS ?_
      refine obTakeH (i := 6) (d := 30) (v := .int .i64 (i : Int)) rfl rfl (by kernel_rfl) (by kernel_rfl) (by kernel_rfl) (fun _ _ _ h => h) rfl (fun w hS => by obtain s1 := hS; go_simp) hS ?_
      refine obTakeH (i := 7) (d := 31) (v := .pointer (some ⟨b, off + i, none⟩)) rfl rfl (by kernel_rfl) (by kernel_rfl) (by kernel_rfl) (fun _ _ _ h => h) rfl (fun w hS => by obtain s1 := hS; go_simp) hS ?_
      refine obTakeH (i := 8) (d := 32) (v := .int .i64 (f i)) rfl rfl (by kernel_rfl) (by kernel_rfl) (by kernel_rfl) (fun _ _ _ h => h) rfl (fun w hS => by obtain s1 := hS; go_simp) hS ?_
      simp only [Act.put, List.setIfInBounds_toArray, List.set_cons_succ, List.set_cons_zero]
      clear ia
      refine wpAnyH_all (rs := [9]) (by kernel_rfl) (by simp) (fun j hj => ?_)
      obtain rfl : j = 9 := by simpa using hj
      refine wpOp_step rfl (fun K' hK => ?_)
      clear hj
      refine obCall3 (k1 := 24) (k2 := 28) (k3 := 32) (d := 33) (x1 := .pointer (some ⟨B, 0, none⟩)) (x2 := .int .i64 (f i)) (x3 := .int .i64 (f i)) 11 _ rfl rfl _ _ _ _ (enter_add _ _ _) rfl rfl rfl (AD.out _ N3.out) (fun e w5 hR => ?_)
      obtain ⟨rfl, F5, n5⟩ := hR
      refine ⟨_, rfl, hK _ _ ⟨?_, ?_⟩⟩
      · exact (n5.bel.cell (p := ⟨b, off + i, none⟩) hb).trans (hc.out i (by omega))
      clear hK K'
      have N5 := Lib.hid n5
      clear n5 N3 AD hS
      simp only [Act.put, List.setIfInBounds_toArray, List.set_cons_succ, List.set_cons_zero]
      refine wpAnyH_done (by kernel_rfl) ?_ 0
      go_wp2_with fail
      go_roundg (M - (i + 1))
      case measure => omega
      case rel => exact ⟨i + 1, F5, addS L (f i) (f i), by omega, by go_num, N5⟩
    · clear hc hz
      replace bb := bb.out
      replace bq := bq.out
      by_cases hin : i < m
      · have q1 : decide (i < m) = true := decide_eq_true hin
        have q2 : decide ((i : Int) < 60) = false := decide_eq_false (by omega)
        have q3 : decide (i < 60) = false := decide_eq_false (by omega)
        have HA : Hid (∀ _ : Unit, _) := fun _ => pinv_has (n := q) N.out bq
        have hdh := drp_hasB L b0 q
        cases hH : hasR L q
        · have hD : hasR (drp L b0) q = false := by rw [hdh, hH]; rfl
          rw [hH] at HA
          clear hdh hH
          go_wp2_with fail
          refine (HA.out ()).mono ?_
          rintro e w3 ⟨rfl, b3⟩
          have N3 := Lib.hid (N.out.keep b3)
          clear b3 HA N
          go_wp2_with fail
          refine (pinv_drop N3.out bb).mono ?_
          rintro e w4 ⟨rfl, F4, n4, -⟩
          have N4 := Lib.hid n4
          clear n4 N3
          have HB : Hid (∀ _ : Unit, _) := fun _ => pinv_has (n := q) N4.out bq
          rw [hD] at HB
          go_wp2_with fail
          refine (HB.out ()).mono ?_
          rintro e w5 ⟨rfl, b5⟩
          have N5 := Lib.hid (N4.out.keep b5)
          clear b5 HB N4
          go_wp2_with fail
          refine (pinv_ranges N5.out).mono ?_
          rintro e w6 ⟨v, rfl, ho, b6⟩
          have N6 := Lib.hid (N5.out.keep b6)
          have CK : Hid (∀ _ : Unit, _) := fun _ => N5.out.ok.chk_ok ho.at
          clear ho b6 N5
          go_wp2_with fail
          refine (CK.out ()).mono ?_
          rintro e w7 ⟨rfl, b7⟩
          have N7 := Lib.hid (N6.out.keep b7)
          clear b7 CK N6
          go_wp2_with fail
          refine (pinv_ranges N7.out).mono ?_
          rintro e w8 ⟨v8, rfl, ho, b8⟩
          have N8 := Lib.hid (N7.out.keep b8)
          have hok := N7.out.ok.2
          clear b8 N7
          rcases out_last ho with ⟨cap8, a8, rfl⟩ | ⟨k8, g8, o8, cap8, y8, rfl, c8, hy8⟩
          · clear ho
            go_wp2_with fail
            go_ret
            exact ⟨rfl, N8.out.bel⟩
          · have g9 : (((k8 : Int) + 1) == 0) = false := by simp; omega
            have ia8 := fun w' => at_rgs g8 o8 (k8 + 1) cap8 k8 w' (by omega) (k8 : Int) rfl (o8 + 2 * k8) rfl
            have y9 : decide (b0 ≤ y8) = true := decide_eq_true hy8
            have hk8 : k8 < 9223372036854775807 := out_small ho N8.out.ok
            clear ho hy8
            go_wp2_with fail
            go_ret
            exact ⟨rfl, N8.out.bel⟩
        · by_cases hbq : b0 ≤ q
          · have hD : hasR (drp L b0) q = true := by rw [hdh, hH, decide_eq_true hbq]; rfl
            have p1 : decide (b0 ≤ q) = true := decide_eq_true hbq
            rw [hH] at HA
            clear hdh hH
            go_wp2_with fail
            refine (HA.out ()).mono ?_
            rintro e w3 ⟨rfl, b3⟩
            have N3 := Lib.hid (N.out.keep b3)
            clear b3 HA N
            go_wp2_with fail
            refine (pinv_drop N3.out bb).mono ?_
            rintro e w4 ⟨rfl, F4, n4, -⟩
            have N4 := Lib.hid n4
            clear n4 N3
            have HB : Hid (∀ _ : Unit, _) := fun _ => pinv_has (n := q) N4.out bq
            rw [hD] at HB
            go_wp2_with fail
            refine (HB.out ()).mono ?_
            rintro e w5 ⟨rfl, b5⟩
            have N5 := Lib.hid (N4.out.keep b5)
            clear b5 HB N4
            go_wp2_with fail
            refine (pinv_ranges N5.out).mono ?_
            rintro e w6 ⟨v, rfl, ho, b6⟩
            have N6 := Lib.hid (N5.out.keep b6)
            have CK : Hid (∀ _ : Unit, _) := fun _ => N5.out.ok.chk_ok ho.at
            clear ho b6 N5
            go_wp2_with fail
            refine (CK.out ()).mono ?_
            rintro e w7 ⟨rfl, b7⟩
            have N7 := Lib.hid (N6.out.keep b7)
            clear b7 CK N6
            go_wp2_with fail
            refine (pinv_ranges N7.out).mono ?_
            rintro e w8 ⟨v8, rfl, ho, b8⟩
            have N8 := Lib.hid (N7.out.keep b8)
            have hok := N7.out.ok.2
            clear b8 N7
            rcases out_last ho with ⟨cap8, a8, rfl⟩ | ⟨k8, g8, o8, cap8, y8, rfl, c8, hy8⟩
            · clear ho
              go_wp2_with fail
              go_ret
              exact ⟨rfl, N8.out.bel⟩
            · have g9 : (((k8 : Int) + 1) == 0) = false := by simp; omega
              have ia8 := fun w' => at_rgs g8 o8 (k8 + 1) cap8 k8 w' (by omega) (k8 : Int) rfl (o8 + 2 * k8) rfl
              have y9 : decide (b0 ≤ y8) = true := decide_eq_true hy8
              have hk8 : k8 < 9223372036854775807 := out_small ho N8.out.ok
              clear ho hy8
              go_wp2_with fail
              go_ret
              exact ⟨rfl, N8.out.bel⟩
          · have p1 : decide (b0 ≤ q) = false := decide_eq_false hbq
            have hD : hasR (drp L b0) q = false := by rw [hdh, hH, p1]; rfl
            rw [hH] at HA
            clear hdh hH
            go_wp2_with fail
            refine (HA.out ()).mono ?_
            rintro e w3 ⟨rfl, b3⟩
            have N3 := Lib.hid (N.out.keep b3)
            clear b3 HA N
            go_wp2_with fail
            refine (pinv_drop N3.out bb).mono ?_
            rintro e w4 ⟨rfl, F4, n4, -⟩
            have N4 := Lib.hid n4
            clear n4 N3
            have HB : Hid (∀ _ : Unit, _) := fun _ => pinv_has (n := q) N4.out bq
            rw [hD] at HB
            go_wp2_with fail
            refine (HB.out ()).mono ?_
            rintro e w5 ⟨rfl, b5⟩
            have N5 := Lib.hid (N4.out.keep b5)
            clear b5 HB N4
            go_wp2_with fail
            refine (pinv_ranges N5.out).mono ?_
            rintro e w6 ⟨v, rfl, ho, b6⟩
            have N6 := Lib.hid (N5.out.keep b6)
            have CK : Hid (∀ _ : Unit, _) := fun _ => N5.out.ok.chk_ok ho.at
            clear ho b6 N5
            go_wp2_with fail
            refine (CK.out ()).mono ?_
            rintro e w7 ⟨rfl, b7⟩
            have N7 := Lib.hid (N6.out.keep b7)
            clear b7 CK N6
            go_wp2_with fail
            refine (pinv_ranges N7.out).mono ?_
            rintro e w8 ⟨v8, rfl, ho, b8⟩
            have N8 := Lib.hid (N7.out.keep b8)
            have hok := N7.out.ok.2
            clear b8 N7
            rcases out_last ho with ⟨cap8, a8, rfl⟩ | ⟨k8, g8, o8, cap8, y8, rfl, c8, hy8⟩
            · clear ho
              go_wp2_with fail
              go_ret
              exact ⟨rfl, N8.out.bel⟩
            · have g9 : (((k8 : Int) + 1) == 0) = false := by simp; omega
              have ia8 := fun w' => at_rgs g8 o8 (k8 + 1) cap8 k8 w' (by omega) (k8 : Int) rfl (o8 + 2 * k8) rfl
              have y9 : decide (b0 ≤ y8) = true := decide_eq_true hy8
              have hk8 : k8 < 9223372036854775807 := out_small ho N8.out.ok
              clear ho hy8
              go_wp2_with fail
              go_ret
              exact ⟨rfl, N8.out.bel⟩
      · have q1 : decide (i < m) = false := decide_eq_false hin
        have HA : Hid (∀ _ : Unit, _) := fun _ => pinv_has (n := q) N.out bq
        have hdh := drp_hasB L b0 q
        cases hH : hasR L q
        · have hD : hasR (drp L b0) q = false := by rw [hdh, hH]; rfl
          rw [hH] at HA
          clear hdh hH
          go_wp2_with fail
          refine (HA.out ()).mono ?_
          rintro e w3 ⟨rfl, b3⟩
          have N3 := Lib.hid (N.out.keep b3)
          clear b3 HA N
          go_wp2_with fail
          refine (pinv_drop N3.out bb).mono ?_
          rintro e w4 ⟨rfl, F4, n4, -⟩
          have N4 := Lib.hid n4
          clear n4 N3
          have HB : Hid (∀ _ : Unit, _) := fun _ => pinv_has (n := q) N4.out bq
          rw [hD] at HB
          go_wp2_with fail
          refine (HB.out ()).mono ?_
          rintro e w5 ⟨rfl, b5⟩
          have N5 := Lib.hid (N4.out.keep b5)
          clear b5 HB N4
          go_wp2_with fail
          refine (pinv_ranges N5.out).mono ?_
          rintro e w6 ⟨v, rfl, ho, b6⟩
          have N6 := Lib.hid (N5.out.keep b6)
          have CK : Hid (∀ _ : Unit, _) := fun _ => N5.out.ok.chk_ok ho.at
          clear ho b6 N5
          go_wp2_with fail
          refine (CK.out ()).mono ?_
          rintro e w7 ⟨rfl, b7⟩
          have N7 := Lib.hid (N6.out.keep b7)
          clear b7 CK N6
          go_wp2_with fail
          refine (pinv_ranges N7.out).mono ?_
          rintro e w8 ⟨v8, rfl, ho, b8⟩
          have N8 := Lib.hid (N7.out.keep b8)
          have hok := N7.out.ok.2
          clear b8 N7
          rcases out_last ho with ⟨cap8, a8, rfl⟩ | ⟨k8, g8, o8, cap8, y8, rfl, c8, hy8⟩
          · clear ho
            go_wp2_with fail
            go_ret
            exact ⟨rfl, N8.out.bel⟩
          · have g9 : (((k8 : Int) + 1) == 0) = false := by simp; omega
            have ia8 := fun w' => at_rgs g8 o8 (k8 + 1) cap8 k8 w' (by omega) (k8 : Int) rfl (o8 + 2 * k8) rfl
            have y9 : decide (b0 ≤ y8) = true := decide_eq_true hy8
            have hk8 : k8 < 9223372036854775807 := out_small ho N8.out.ok
            clear ho hy8
            go_wp2_with fail
            go_ret
            exact ⟨rfl, N8.out.bel⟩
        · by_cases hbq : b0 ≤ q
          · have hD : hasR (drp L b0) q = true := by rw [hdh, hH, decide_eq_true hbq]; rfl
            have p1 : decide (b0 ≤ q) = true := decide_eq_true hbq
            rw [hH] at HA
            clear hdh hH
            go_wp2_with fail
            refine (HA.out ()).mono ?_
            rintro e w3 ⟨rfl, b3⟩
            have N3 := Lib.hid (N.out.keep b3)
            clear b3 HA N
            go_wp2_with fail
            refine (pinv_drop N3.out bb).mono ?_
            rintro e w4 ⟨rfl, F4, n4, -⟩
            have N4 := Lib.hid n4
            clear n4 N3
            have HB : Hid (∀ _ : Unit, _) := fun _ => pinv_has (n := q) N4.out bq
            rw [hD] at HB
            go_wp2_with fail
            refine (HB.out ()).mono ?_
            rintro e w5 ⟨rfl, b5⟩
            have N5 := Lib.hid (N4.out.keep b5)
            clear b5 HB N4
            go_wp2_with fail
            refine (pinv_ranges N5.out).mono ?_
            rintro e w6 ⟨v, rfl, ho, b6⟩
            have N6 := Lib.hid (N5.out.keep b6)
            have CK : Hid (∀ _ : Unit, _) := fun _ => N5.out.ok.chk_ok ho.at
            clear ho b6 N5
            go_wp2_with fail
            refine (CK.out ()).mono ?_
            rintro e w7 ⟨rfl, b7⟩
            have N7 := Lib.hid (N6.out.keep b7)
            clear b7 CK N6
            go_wp2_with fail
            refine (pinv_ranges N7.out).mono ?_
            rintro e w8 ⟨v8, rfl, ho, b8⟩
            have N8 := Lib.hid (N7.out.keep b8)
            have hok := N7.out.ok.2
            clear b8 N7
            rcases out_last ho with ⟨cap8, a8, rfl⟩ | ⟨k8, g8, o8, cap8, y8, rfl, c8, hy8⟩
            · clear ho
              go_wp2_with fail
              go_ret
              exact ⟨rfl, N8.out.bel⟩
            · have g9 : (((k8 : Int) + 1) == 0) = false := by simp; omega
              have ia8 := fun w' => at_rgs g8 o8 (k8 + 1) cap8 k8 w' (by omega) (k8 : Int) rfl (o8 + 2 * k8) rfl
              have y9 : decide (b0 ≤ y8) = true := decide_eq_true hy8
              have hk8 : k8 < 9223372036854775807 := out_small ho N8.out.ok
              clear ho hy8
              go_wp2_with fail
              go_ret
              exact ⟨rfl, N8.out.bel⟩
          · have p1 : decide (b0 ≤ q) = false := decide_eq_false hbq
            have hD : hasR (drp L b0) q = false := by rw [hdh, hH, p1]; rfl
            rw [hH] at HA
            clear hdh hH
            go_wp2_with fail
            refine (HA.out ()).mono ?_
            rintro e w3 ⟨rfl, b3⟩
            have N3 := Lib.hid (N.out.keep b3)
            clear b3 HA N
            go_wp2_with fail
            refine (pinv_drop N3.out bb).mono ?_
            rintro e w4 ⟨rfl, F4, n4, -⟩
            have N4 := Lib.hid n4
            clear n4 N3
            have HB : Hid (∀ _ : Unit, _) := fun _ => pinv_has (n := q) N4.out bq
            rw [hD] at HB
            go_wp2_with fail
            refine (HB.out ()).mono ?_
            rintro e w5 ⟨rfl, b5⟩
            have N5 := Lib.hid (N4.out.keep b5)
            clear b5 HB N4
            go_wp2_with fail
            refine (pinv_ranges N5.out).mono ?_
            rintro e w6 ⟨v, rfl, ho, b6⟩
            have N6 := Lib.hid (N5.out.keep b6)
            have CK : Hid (∀ _ : Unit, _) := fun _ => N5.out.ok.chk_ok ho.at
            clear ho b6 N5
            go_wp2_with fail
            refine (CK.out ()).mono ?_
            rintro e w7 ⟨rfl, b7⟩
            have N7 := Lib.hid (N6.out.keep b7)
            clear b7 CK N6
            go_wp2_with fail
            refine (pinv_ranges N7.out).mono ?_
            rintro e w8 ⟨v8, rfl, ho, b8⟩
            have N8 := Lib.hid (N7.out.keep b8)
            have hok := N7.out.ok.2
            clear b8 N7
            rcases out_last ho with ⟨cap8, a8, rfl⟩ | ⟨k8, g8, o8, cap8, y8, rfl, c8, hy8⟩
            · clear ho
              go_wp2_with fail
              go_ret
              exact ⟨rfl, N8.out.bel⟩
            · have g9 : (((k8 : Int) + 1) == 0) = false := by simp; omega
              have ia8 := fun w' => at_rgs g8 o8 (k8 + 1) cap8 k8 w' (by omega) (k8 : Int) rfl (o8 + 2 * k8) rfl
              have y9 : decide (b0 ≤ y8) = true := decide_eq_true hy8
              have hk8 : k8 < 9223372036854775807 := out_small ho N8.out.ok
              clear ho hy8
              go_wp2_with fail
              go_ret
              exact ⟨rfl, N8.out.bel⟩

set_option maxHeartbeats 16000000 in
theorem walk_none (a : Option Addr) (m cap : Nat) (b0 q : Int) (hm : m = 0) (bb : I64 b0) (bq : I64 q) (w : World) :
    Calls Try.prog 6 #[.slice a m cap, .int .i64 b0, .int .i64 q] w fun e w' => e = .returned (.bool true) ∧ Below w.heap.size w w' := by
  have WO : Hid (∀ w, _) := works_ok
  have NA : Hid (∀ w', Below w.heap.size w w' → _) := fun w' b => pinv_new w w' b
  go_enter Try.func6, Try.ntmps6
  go_wp2_with fail
  refine (WO.out _).mono ?_
  rintro e w1 ⟨rfl, b1⟩
  have Z1 := Lib.hid b1
  clear b1 WO
  go_wp2_with fail
  refine (NA.out _ Z1.out).mono ?_
  rintro e w2 ⟨B, F0, rfl, n2, -⟩
  have N2 : Hid (PInv w w2 B F0 []) := n2
  clear n2 NA Z1
  go_wp2_with fail
  go_loopg [8] 0 (fun g iv wr => ∃ (i : Nat) (F : Nat → Prop) (L : List Rg), i + g = 0 ∧ iv = .int .i64 i ∧ Hid (PInv w wr B F L))
  case atStart => exact ⟨0, F0, [], by omega, rfl, N2⟩
  case round =>
    clear N2
    obtain ⟨i, F, L, hi, rfl, N⟩ := hrel
    have q1 : decide (i < m) = false := decide_eq_false (by omega)
    have HA : Hid (∀ _ : Unit, _) := fun _ => pinv_has (n := q) N.out bq
    have hdh := drp_hasB L b0 q
    cases hH : hasR L q
    · have hD : hasR (drp L b0) q = false := by rw [hdh, hH]; rfl
      rw [hH] at HA
      clear hdh hH
      go_wp2_with fail
      refine (HA.out ()).mono ?_
      rintro e w3 ⟨rfl, b3⟩
      have N3 := Lib.hid (N.out.keep b3)
      clear b3 HA N
      go_wp2_with fail
      refine (pinv_drop N3.out bb).mono ?_
      rintro e w4 ⟨rfl, F4, n4, -⟩
      have N4 := Lib.hid n4
      clear n4 N3
      have HB : Hid (∀ _ : Unit, _) := fun _ => pinv_has (n := q) N4.out bq
      rw [hD] at HB
      go_wp2_with fail
      refine (HB.out ()).mono ?_
      rintro e w5 ⟨rfl, b5⟩
      have N5 := Lib.hid (N4.out.keep b5)
      clear b5 HB N4
      go_wp2_with fail
      refine (pinv_ranges N5.out).mono ?_
      rintro e w6 ⟨v, rfl, ho, b6⟩
      have N6 := Lib.hid (N5.out.keep b6)
      have CK : Hid (∀ _ : Unit, _) := fun _ => N5.out.ok.chk_ok ho.at
      clear ho b6 N5
      go_wp2_with fail
      refine (CK.out ()).mono ?_
      rintro e w7 ⟨rfl, b7⟩
      have N7 := Lib.hid (N6.out.keep b7)
      clear b7 CK N6
      go_wp2_with fail
      refine (pinv_ranges N7.out).mono ?_
      rintro e w8 ⟨v8, rfl, ho, b8⟩
      have N8 := Lib.hid (N7.out.keep b8)
      have hok := N7.out.ok.2
      clear b8 N7
      rcases out_last ho with ⟨cap8, a8, rfl⟩ | ⟨k8, g8, o8, cap8, y8, rfl, c8, hy8⟩
      · clear ho
        go_wp2_with fail
        go_ret
        exact ⟨rfl, N8.out.bel⟩
      · have g9 : (((k8 : Int) + 1) == 0) = false := by simp; omega
        have ia8 := fun w' => at_rgs g8 o8 (k8 + 1) cap8 k8 w' (by omega) (k8 : Int) rfl (o8 + 2 * k8) rfl
        have y9 : decide (b0 ≤ y8) = true := decide_eq_true hy8
        have hk8 : k8 < 9223372036854775807 := out_small ho N8.out.ok
        clear ho hy8
        go_wp2_with fail
        go_ret
        exact ⟨rfl, N8.out.bel⟩
    · by_cases hbq : b0 ≤ q
      · have hD : hasR (drp L b0) q = true := by rw [hdh, hH, decide_eq_true hbq]; rfl
        have p1 : decide (b0 ≤ q) = true := decide_eq_true hbq
        rw [hH] at HA
        clear hdh hH
        go_wp2_with fail
        refine (HA.out ()).mono ?_
        rintro e w3 ⟨rfl, b3⟩
        have N3 := Lib.hid (N.out.keep b3)
        clear b3 HA N
        go_wp2_with fail
        refine (pinv_drop N3.out bb).mono ?_
        rintro e w4 ⟨rfl, F4, n4, -⟩
        have N4 := Lib.hid n4
        clear n4 N3
        have HB : Hid (∀ _ : Unit, _) := fun _ => pinv_has (n := q) N4.out bq
        rw [hD] at HB
        go_wp2_with fail
        refine (HB.out ()).mono ?_
        rintro e w5 ⟨rfl, b5⟩
        have N5 := Lib.hid (N4.out.keep b5)
        clear b5 HB N4
        go_wp2_with fail
        refine (pinv_ranges N5.out).mono ?_
        rintro e w6 ⟨v, rfl, ho, b6⟩
        have N6 := Lib.hid (N5.out.keep b6)
        have CK : Hid (∀ _ : Unit, _) := fun _ => N5.out.ok.chk_ok ho.at
        clear ho b6 N5
        go_wp2_with fail
        refine (CK.out ()).mono ?_
        rintro e w7 ⟨rfl, b7⟩
        have N7 := Lib.hid (N6.out.keep b7)
        clear b7 CK N6
        go_wp2_with fail
        refine (pinv_ranges N7.out).mono ?_
        rintro e w8 ⟨v8, rfl, ho, b8⟩
        have N8 := Lib.hid (N7.out.keep b8)
        have hok := N7.out.ok.2
        clear b8 N7
        rcases out_last ho with ⟨cap8, a8, rfl⟩ | ⟨k8, g8, o8, cap8, y8, rfl, c8, hy8⟩
        · clear ho
          go_wp2_with fail
          go_ret
          exact ⟨rfl, N8.out.bel⟩
        · have g9 : (((k8 : Int) + 1) == 0) = false := by simp; omega
          have ia8 := fun w' => at_rgs g8 o8 (k8 + 1) cap8 k8 w' (by omega) (k8 : Int) rfl (o8 + 2 * k8) rfl
          have y9 : decide (b0 ≤ y8) = true := decide_eq_true hy8
          have hk8 : k8 < 9223372036854775807 := out_small ho N8.out.ok
          clear ho hy8
          go_wp2_with fail
          go_ret
          exact ⟨rfl, N8.out.bel⟩
      · have p1 : decide (b0 ≤ q) = false := decide_eq_false hbq
        have hD : hasR (drp L b0) q = false := by rw [hdh, hH, p1]; rfl
        rw [hH] at HA
        clear hdh hH
        go_wp2_with fail
        refine (HA.out ()).mono ?_
        rintro e w3 ⟨rfl, b3⟩
        have N3 := Lib.hid (N.out.keep b3)
        clear b3 HA N
        go_wp2_with fail
        refine (pinv_drop N3.out bb).mono ?_
        rintro e w4 ⟨rfl, F4, n4, -⟩
        have N4 := Lib.hid n4
        clear n4 N3
        have HB : Hid (∀ _ : Unit, _) := fun _ => pinv_has (n := q) N4.out bq
        rw [hD] at HB
        go_wp2_with fail
        refine (HB.out ()).mono ?_
        rintro e w5 ⟨rfl, b5⟩
        have N5 := Lib.hid (N4.out.keep b5)
        clear b5 HB N4
        go_wp2_with fail
        refine (pinv_ranges N5.out).mono ?_
        rintro e w6 ⟨v, rfl, ho, b6⟩
        have N6 := Lib.hid (N5.out.keep b6)
        have CK : Hid (∀ _ : Unit, _) := fun _ => N5.out.ok.chk_ok ho.at
        clear ho b6 N5
        go_wp2_with fail
        refine (CK.out ()).mono ?_
        rintro e w7 ⟨rfl, b7⟩
        have N7 := Lib.hid (N6.out.keep b7)
        clear b7 CK N6
        go_wp2_with fail
        refine (pinv_ranges N7.out).mono ?_
        rintro e w8 ⟨v8, rfl, ho, b8⟩
        have N8 := Lib.hid (N7.out.keep b8)
        have hok := N7.out.ok.2
        clear b8 N7
        rcases out_last ho with ⟨cap8, a8, rfl⟩ | ⟨k8, g8, o8, cap8, y8, rfl, c8, hy8⟩
        · clear ho
          go_wp2_with fail
          go_ret
          exact ⟨rfl, N8.out.bel⟩
        · have g9 : (((k8 : Int) + 1) == 0) = false := by simp; omega
          have ia8 := fun w' => at_rgs g8 o8 (k8 + 1) cap8 k8 w' (by omega) (k8 : Int) rfl (o8 + 2 * k8) rfl
          have y9 : decide (b0 ≤ y8) = true := decide_eq_true hy8
          have hk8 : k8 < 9223372036854775807 := out_small ho N8.out.ok
          clear ho hy8
          go_wp2_with fail
          go_ret
          exact ⟨rfl, N8.out.bel⟩

theorem walk (a : Option Addr) (m cap : Nat) (f : Nat → Int) (b0 q : Int) (w : World) (hm : m ≤ maxLen) (hz : ∀ i, i < m → I64 (f i)) (hs : Nums w a m f) (bb : I64 b0) (bq : I64 q) :
    Calls Try.prog 6 #[.slice a m cap, .int .i64 b0, .int .i64 q] w fun e w' => e = .returned (.bool true) ∧ Below w.heap.size w w' := by
  have hm' : m ≤ 9223372036854775807 := by unfold maxLen at hm; omega
  rcases hs with h0 | ⟨b, off, rfl, hb, hc⟩
  · exact walk_none a m cap b0 q h0 bb bq w
  · by_cases h : m ≤ 60
    · exact walk_some f b off m cap m b0 q w hb hm' hz bb bq (.inl ⟨rfl, h⟩) hc
    · exact walk_some f b off m cap 60 b0 q w hb hm' hz bb bq (.inr ⟨rfl, by omega⟩) hc

theorem contract (H : Type) (enc : TypeId × Value → H) (W : World) (base : Nat) (args : Array Value) (ds gs : List (DataW H)) (before : List MemPlace)
    (hval : ∀ (j : Nat) t v, Try.f6.params[j]? = some t → args[j]? = some v → Value.okWide Try.prog W .any base t v)
    (hW : DataW.Whole enc Try.prog Try.f6.params.toList Rows.acksDropsSpec.vars false W args.toList ds gs before) :
    Calls Try.prog 6 args W fun e W' => ∃ v, e = .returned v ∧ Rows.acksDropsSpec.post enc Try.prog Try.f6 false true false false W args v W' := by
  have hW' := hW
  obtain ⟨p, q, hA0, hV, rfl, hfz, hnd⟩ := hW
  have hA : DataW.TrodAll enc Try.prog W 0 (fun _ => true) true Try.f6.params.toList args.toList ds p := hA0
  rw [Try.params6] at hA hval
  obtain ⟨v0, vs0, d0, ds0, p0, q0, hargs, rfl, rfl, h0, r0⟩ := trodAll_cons hA
  obtain ⟨v1, vs1, d1, ds1, p1, q1, rfl, rfl, rfl, h1, r1⟩ := trodAll_cons r0
  obtain ⟨v2, vs2, d2, ds2, p2, q2, rfl, rfl, rfl, h2, r2⟩ := trodAll_cons r1
  obtain ⟨rfl, rfl, rfl⟩ := trodAll_nil r2
  obtain rfl : args = #[v0, v1, v2] := by cases args; simp_all
  obtain ⟨rfl, rfl⟩ := trodVars_none hV
  have k0 := h0
  have lt0 : ∀ x ∈ p0, x.block < W.heap.size := by obtain ⟨m, hm⟩ := k0; exact DataW.trod_lt m _ _ _ hm
  obtain ⟨a0, n0, c0, f0, rfl, hn0, hz0, hs0⟩ := open_i64s Try.underlying23 Try.underlying2 (by kernel_rfl) (hval 0 23 v0 rfl rfl) h0
  obtain ⟨a1, rfl, rfl, rfl, w1⟩ := open_int Try.underlying2 (hval 1 2 v1 rfl rfl) h1
  have b1 := bounds_i64 w1
  obtain ⟨a2, rfl, rfl, rfl, w2⟩ := open_int Try.underlying2 (hval 2 2 v2 rfl rfl) h2
  have b2 := bounds_i64 w2
  clear hA0
  simp only [List.append_nil] at hW'
  refine (walk a0 n0 c0 f0 a1 a2 W hn0 hz0 hs0 b1 b2).mono fun e W' ⟨he, bel⟩ => ?_
  subst he
  exact ⟨_, rfl, _, _, _, [], _, [], hW', trodAll_mk1 (shut_bool Try.underlying4 _), (trodAll_cons_mk (Below.trod laidOut (by kernel_rfl) (of_decide_eq_true (by kernel_rfl)) k0 bel lt0) (trodAll_cons_mk (shut_int Try.underlying2 w1) (trodAll_cons_mk (shut_int Try.underlying2 w2) trodAll_mk0))), rfl, bel.frame _, fun h => by cases h⟩

theorem laid_met (os : Os) : laidMet Try.prog Rows.acksDropsRow.laid ((startWorld Try.prog os).forCall (fun _ _ => 0) ⟨#[], #[.slice none 0 0, .int .i64 0, .int .i64 0], []⟩).memory :=
  laidMet_of_run' 8 (by kernel_rfl) (by kernel_rfl)
theorem reads (os : Os) {H : Type} (enc : TypeId × Value → H) : ∃ places, DataW.whole enc Try.prog ((startWorld Try.prog os).forCall (fun _ _ => 0) ⟨#[], #[.slice none 0 0, .int .i64 0, .int .i64 0], []⟩).memory Try.f6.params.toList Rows.acksDropsSpec.vars false #[Value.slice none 0 0, Value.int .i64 0, Value.int .i64 0].toList 8 = some ([.nil, .lit (.int .i64 0), .lit (.int .i64 0)], [], places) :=
  ⟨[], by kernel_rfl⟩

set_option maxRecDepth 100000 in
theorem lifted (os : Os) (started : os.Started) (H : Type) (enc : TypeId × Value → H) (F : Stop.Interp) :
    ReturnsInHanded {} Try.checked os 6 .any ((OpenSpec.ofChange Rows.acksDropsSpec).preRow enc Try.prog Try.f6 Rows.acksDropsRow.domain false Rows.acksDropsRow.laid) (((OpenSpec.ofChange Rows.acksDropsSpec).at F).post enc Try.prog Try.f6 false true false false) := by
  obtain ⟨places, hx⟩ := reads os enc
  refine returnsInHanded_of_row (C := Try.checked) (s := OpenSpec.ofChange Rows.acksDropsSpec) own started (by kernel_rfl) Try.func6
    (witness_row_at (enc := enc) (C := Try.checked) false (startWorld Try.prog os) #[.slice none 0 0, .int .i64 0, .int .i64 0] rfl (by kernel_rfl) (by kernel_rfl) (by kernel_rfl)
      (OpenSpec.preRow_of_cond 8 hx (by kernel_rfl) (fun k hk => by cases hk) (by kernel_rfl) (laid_met os))) ?_
  intro W base args ds gs before hval hW _ _ _ _ _ _
  exact contract H enc W base args ds gs before hval hW

theorem said : Rows.AcksDropsSaid :=
  OpenClaim.holds_of_cond 6 Try.f6 rfl rfl rfl rfl rfl rfl rfl ⟨rfl, rfl, rfl, rfl, rfl⟩ rfl rfl rfl rfl rfl (by kernel_rfl) Try.func6 (by kernel_rfl)
    (of_decide_eq_true (by kernel_rfl)) (by unfold Func.isWrapper; first | (rw [if_pos (by decide +kernel)]; kernel_rfl) | (rw [if_neg (by decide +kernel)]; exact ⟨rfl, rfl⟩))
    (fun os started H enc _ F => by rw [OpenClaim.pre_eq_preRow]; exact lifted os started H enc F)
end Go.Proofs.Ytlbhlmccjieieaa.acksDrops
namespace Go.Proofs.Ytlbhlmccjieieaa
theorem acksDrops_said : Rows.AcksDropsSaid := acksDrops.said
end Go.Proofs.Ytlbhlmccjieieaa
