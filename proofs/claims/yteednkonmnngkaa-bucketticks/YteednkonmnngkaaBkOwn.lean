/-
  What the program's own bucket answers, and what it leaves: New, Tick, Take, Level, Counts. No condition.
-/
import Derived.Test.YteednkonmnngkaaBkMath
import Derived.Test.YteednkonmnngkaaObDraw
import Derived.Tactics
import Derived.Tactics2
import Derived.Laws.Pointers
import Derived.Laws.LoneSync
import Derived.RegionTactic
import Derived.RegionCalls
import Derived.Laws.NewBlocks
import Derived.BigQuiet
import Derived.Deep.Cut
namespace Go.Proofs.Yteednkonmnngkaa
set_option maxRecDepth 100000
open Go.RowKit

/-- A number is read. -/
theorem nload_ok (a : Addr) (x : Int) (w : World) (hc : w.cell? a = some (.int .i64 x)) :
    Calls Try.prog 22 #[.pointer (some a)] w fun e w' => e = .returned (.int .i64 x) ∧ w = w' := by
  have hl := run_call_load (P := Try.prog) Try.func26 (by kernel_rfl) (by kernel_rfl) (by kernel_rfl) .i64 (by kernel_rfl) hc
  go_enter Try.func22, Try.ntmps22
  go_wp2
  go_ret
  exact ⟨rfl, rfl⟩
/-- A number is laid. -/
theorem nstore_ok (a : Addr) (x y : Int) (w : World) (hc : w.cell? a = some (.int .i64 x)) (hz : w.frozen? a = false) :
    Calls Try.prog 16 #[.pointer (some a), .int .i64 y] w fun e w' => e = .returned (.tuple #[]) ∧ w' = w.setCell a (.int .i64 y) := by
  have hs := run_call_store (P := Try.prog) Try.func23 (by kernel_rfl) (by kernel_rfl) (by kernel_rfl) (by kernel_rfl) (k := .i64) (y := y) hc hz
  go_enter Try.func16, Try.ntmps16
  go_wp2
  go_end0
  exact ⟨rfl, rfl⟩
/-- A number that is still what it was is changed. -/
theorem ncas_ok (a : Addr) (x y : Int) (w : World) (hc : w.cell? a = some (.int .i64 x)) (hz : w.frozen? a = false) :
    Calls Try.prog 24 #[.pointer (some a), .int .i64 x, .int .i64 y] w fun e w' => e = .returned (.bool true) ∧ w' = w.setCell a (.int .i64 y) := by
  have hcas := run_call_cas_hit (P := Try.prog) Try.func27 (by kernel_rfl) (by kernel_rfl) (by kernel_rfl) .i64 (by kernel_rfl) (y := y) hc hz
  go_enter Try.func24, Try.ntmps24
  go_wp2
  go_ret
  exact ⟨rfl, rfl⟩
theorem bwithin_ok (n : Int) (w : World) : Calls Try.prog 15 #[.int .i64 n] w fun e w' => e = .returned (.int .i64 (cutB n)) ∧ w = w' := by
  by_cases h0 : n < 0
  · have e : cutB n = 0 := by unfold cutB; rw [if_pos h0]
    rw [e]
    have g : (if n < 0 then (0 : Int) else n) = 0 := if_pos h0
    have g1 : max n 0 = 0 := by omega
    go_enter Try.func15, Try.ntmps15
    go_wp2
    go_ret
    exact ⟨rfl, rfl⟩
  · by_cases h1 : 1073741824 < n
    · have e : cutB n = 1073741824 := by unfold cutB; rw [if_neg h0, if_pos h1]
      rw [e]
      go_enter Try.func15, Try.ntmps15
      go_wp2
      go_ret
      exact ⟨rfl, rfl⟩
    · have e : cutB n = n := by unfold cutB; rw [if_neg h0, if_neg h1]
      rw [e]
      go_enter Try.func15, Try.ntmps15
      go_wp2
      go_ret
      exact ⟨rfl, rfl⟩
/-- A number is changed in one go, as a closure says. -/
theorem change_ok (a : Addr) (x y : Int) (ok : Bool) (f : FuncId) (caps : Array Value) (w : World) (hc : w.cell? a = some (.int .i64 x)) (hz : w.frozen? a = false)
    (hcf : ∀ w, (callFunc f (#[.int .i64 x] ++ caps)).run Try.prog w = .ok (.enter f (#[.int .i64 x] ++ caps)) w)
    (C : Calls Try.prog f (#[.int .i64 x] ++ caps) w fun e w' => e = .returned (.tuple #[.int .i64 y, .bool ok]) ∧ Below w.heap.size w w') :
    Calls Try.prog 18 #[.pointer (some a), .func (.func f) #[] caps] w fun e w' => e = .returned (.bool ok) ∧ ∃ w1, Below w.heap.size w w1 ∧ w' = if ok then w1.setCell a (.int .i64 y) else w1 := by
  have hl := World.block_lt_of_cell? w _ hc
  replace C := Lib.hid C
  go_enter Try.func18, Try.ntmps18
  go_wp2
  refine wp_loop_rounds 1 ?_
  rw [rounds_succ]
  go_wp2_with fail
  refine (nload_ok a x w hc).mono ?_
  rintro e w' ⟨rfl, rfl⟩
  go_wp2_with fail
  refine C.out.mono ?_
  rintro e w1 ⟨rfl, b1⟩
  have c1 := (b1.cell hl).trans hc
  have z1 : w1.frozen? a = false := by rw [World.frozen?_of_block (b1.block _ hl)]; exact hz
  replace b1 := Lib.hid b1
  cases ok
  · go_wp2_with fail
    go_ret
    first | exact ⟨rfl, b1.out⟩ | exact ⟨rfl, w1, b1.out, rfl⟩
  · go_wp2_with fail
    refine (ncas_ok a x y w1 c1 z1).mono ?_
    rintro e w2 ⟨rfl, rfl⟩
    go_wp2_with fail
    go_ret
    exact ⟨rfl, w1, b1.out, rfl⟩
/-- The cell behind a change. -/
theorem Kept.turned {w w1 : World} {B k : Nat} {y : Int} (b : Below w.heap.size w w1) : Kept (fun j => j = B) w (w1.setCell ⟨B, k, none⟩ (.int .i64 y)) := (Kept.of (fun j => j = B) b).set ⟨B, k, none⟩ rfl _
theorem tick1_ok (M H B : Nat) (m x v : Int) (w : World) (hM : w.cell? ⟨M, 0, none⟩ = some (.int .i64 m)) (hH : w.cell? ⟨H, 0, none⟩ = some (.pointer (some ⟨B, 0, none⟩))) (hB : w.cell? ⟨B, 1, none⟩ = some (.int .i64 v)) (h0 : -4611686018427387904 ≤ x + m) (h1 : x + m ≤ 4611686018427387904) :
    Calls Try.prog 19 #[.int .i64 x, .pointer (some ⟨M, 0, none⟩), .pointer (some ⟨H, 0, none⟩)] w fun e w' => e = .returned (.tuple #[.int .i64 (if v < x + m then v else x + m), .bool true]) ∧ Below w.heap.size w w' := by
  have e1 : wrap64 (x + m) = x + m := by unfold wrap64; omega
  have b0 := Lib.hid (drewB w.heap.size w)
  go_enter Try.func19, Try.ntmps19
  by_cases h : v < x + m
  · rw [if_pos h]
    go_wp2
    go_region
    all_goals (go_wp2; go_ret2; exact ⟨rfl, b0.out⟩)
  · rw [if_neg h]
    go_wp2
    go_region
    all_goals (go_wp2; go_ret2; exact ⟨rfl, b0.out⟩)
theorem take1_ok (M : Nat) (n x : Int) (w : World) (hM : w.cell? ⟨M, 0, none⟩ = some (.int .i64 n)) :
    Calls Try.prog 20 #[.int .i64 x, .pointer (some ⟨M, 0, none⟩)] w fun e w' => e = .returned (.tuple #[.int .i64 (wrap64 (x - n)), .bool (decide (0 ≤ n) && decide (n ≤ x))]) ∧ Below w.heap.size w w' := by
  go_enter Try.func20, Try.ntmps20
  by_cases h : 0 ≤ n
  · have g : decide (0 ≤ n) = true := decide_eq_true h
    rw [g]
    go_wp2
    go_quiet (fail)
    all_goals (go_wp2; go_ret2; exact ⟨by simp, ⟨rfl, rfl, rfl, Nat.le_refl _, fun _ _ => rfl⟩⟩)
  · have g : decide (0 ≤ n) = false := decide_eq_false h
    rw [g]
    go_wp2
    go_quiet (fail)
    all_goals (go_wp2; go_ret2; exact ⟨by simp, ⟨rfl, rfl, rfl, Nat.le_refl _, fun _ _ => rfl⟩⟩)
theorem add1_ok (M : Nat) (n x : Int) (w : World) (hM : w.cell? ⟨M, 0, none⟩ = some (.int .i64 n)) :
    Calls Try.prog 25 #[.int .i64 x, .pointer (some ⟨M, 0, none⟩)] w fun e w' => e = .returned (.tuple #[.int .i64 (wrap64 (x + n)), .bool true]) ∧ Below w.heap.size w w' := by
  go_enter Try.func25, Try.ntmps25
  go_wp2
  go_ret2
  exact ⟨rfl, Below.refl _ _⟩
/-- A call of a slot. -/
theorem obCall1 (f : FuncId) (o : Oper) {k1 d : Nat} {tys : Array TypeId} {x1 : Value} {R : Ending → World → Prop} (ho : o.op = .call { callee := .value (.func f), args := #[.tmp k1], argTypes := tys }) (hd : o.dst = some d) (a : Act) (w : World) (K : Act → World → Prop) (Q : Exit → Act → World → Prop)
    (hcf : ∀ w, (callFunc f #[x1]).run Try.prog w = .ok (.enter f #[x1]) w) (h1 : a.eval (.tmp k1) = x1) (C : Calls Try.prog f #[x1] w R) (hK : ∀ e w', R e w' → ∃ v, e = .returned v ∧ K (a.put (some d) v) w') : o.wp Try.prog a w K Q := by
  unfold Oper.wp
  have hr : (execOp a.eval o).run Try.prog w = .ok (.enter f #[x1]) w := by
    unfold execOp
    rw [ho]
    simp only [go_sem] at h1 ⊢
    simp [go_sem, h1, hcf]
  rw [hr]
  exact C.mono fun e w' h => by
    obtain ⟨v, rfl, hk⟩ := hK e w' h
    rw [hd]
    exact hk
theorem drewNB (B : Nat) (w : World) (k : Nat) : Below B w (w.drewN k) := ⟨rfl, rfl, rfl, Nat.le_refl _, fun _ _ => rfl⟩
/-- So many more are counted. -/
theorem add_ok (a : Addr) (x n : Int) (w : World) (hc : w.cell? a = some (.int .i64 x)) (hz : w.frozen? a = false) :
    Calls Try.prog 21 #[.pointer (some a), .int .i64 n] w fun e w' => e = .returned (.tuple #[]) ∧ ∃ w1, Below w.heap.size w w1 ∧ w' = w1.setCell a (.int .i64 (wrap64 (x + n))) := by
  have hl := World.block_lt_of_cell? w _ hc
  obtain ⟨wa, hwa⟩ : ∃ wa, wa = w.alloc (.cells #[.int .i64 n] 2) := ⟨_, rfl⟩
  obtain ⟨M, hM⟩ : ∃ M, M = w.heap.size := ⟨_, rfl⟩
  have ba : Below w.heap.size w wa := by rw [hwa]; exact (Below.refl _ _).alloc (Nat.le_refl _) _
  have lM : Lies wa M [.int .i64 n] := by rw [hwa, hM]; exact Lies.new w _ _
  have ca := (ba.cell hl).trans hc
  have za : wa.frozen? a = false := by rw [World.frozen?_of_block (ba.block _ hl)]; exact hz
  have C := Lib.hid (change_ok a x (wrap64 (x + n)) true 25 #[.pointer (some ⟨M, 0, none⟩)] wa ca za (by intro w; simp [go_sem]) (add1_ok M n x wa (lM.cell 0 rfl)))
  replace ba := Lib.hid ba
  clear lM ca za hc hz
  go_enter Try.func21, Try.ntmps21
  go_upto_region 1 with fail
  rw [← hwa, ← hM]
  clear hwa
  replace hM := Lib.hid hM
  go_wp2_with fail
  refine C.out.mono ?_
  rintro e w' ⟨rfl, w1, b1, rfl⟩
  have bb := Lib.hid (ba.out.trans (b1.mono ba.out.size))
  go_wp2_with fail
  go_end0
  exact ⟨rfl, w1, bb.out, rfl⟩
/-- A new bucket. -/
theorem bknew_ok (r b : Int) (w : World) :
    Calls Try.prog 6 #[.int .i64 r, .int .i64 b] w fun e w' => ∃ B, e = .returned (.pointer (some ⟨B, 0, none⟩)) ∧ Lies w' B (bkNew r b).cells ∧ w.heap.size ≤ B ∧ Below w.heap.size w w' := by
  obtain ⟨R, hR⟩ : ∃ R, R = cutB r := ⟨_, rfl⟩
  obtain ⟨D, hD⟩ : ∃ D, D = cutB b := ⟨_, rfl⟩
  unfold bkNew
  have W1 := Lib.hid fun w' => bwithin_ok r w'
  have W2 := Lib.hid fun w' => bwithin_ok b w'
  rw [← hR] at W1 ⊢
  rw [← hD] at W2 ⊢
  clear hR hD
  obtain ⟨wa, hwa⟩ : ∃ wa, wa = w.alloc (.cells #[.int .i64 R, .int .i64 D, .int .i64 0, .int .i64 0, .int .i64 0] 47) := ⟨_, rfl⟩
  obtain ⟨M, hM⟩ : ∃ M, M = w.heap.size := ⟨_, rfl⟩
  have ba : Below w.heap.size w wa := by rw [hwa]; exact (Below.refl _ _).alloc (Nat.le_refl _) _
  have lM : Lies wa M [.int .i64 R, .int .i64 D, .int .i64 0, .int .i64 0, .int .i64 0] := by rw [hwa, hM]; exact Lies.new w _ _
  have LD : Hid (∀ w', Below wa.heap.size wa w' → Lies w' M [.int .i64 R, .int .i64 D, .int .i64 0, .int .i64 0, .int .i64 0]) := fun w' b => lM.keep (by show 0 < 5; decide) b
  clear lM
  replace ba := Lib.hid ba
  go_enter Try.func6, Try.ntmps6
  go_wp2_with fail
  refine (W1.out w).mono ?_
  rintro e w' ⟨rfl, rfl⟩
  go_wp2_with fail
  refine (W2.out w).mono ?_
  rintro e w' ⟨rfl, rfl⟩
  go_upto_region 2 with fail
  rw [← hwa, ← hM]
  clear hwa W1 W2
  replace hM := Lib.hid hM
  have lM := (LD.out wa.drew (drewB _ _))
  have bM := Lib.hid (ba.out.trans ((drewB wa.heap.size wa).mono ba.out.size))
  have hS := lM.cell 1 (v := .int .i64 D) rfl
  have hB : Hid (w.heap.size ≤ M) := Nat.le_of_eq hM.out.symm
  clear LD ba hM
  replace lM := Lib.hid lM
  refine wp_region_held (S := fun w' => w'.cell? ⟨M, 1, none⟩ = some (.int .i64 D)) (by kernel_rfl) ?_
  change wpAnyH _ .any _ _ _ 8 (Array.replicate 8 false) _ wa.drew
  generalize wa.drew = wd at *
  refine obTakeH (i := 0) (d := 12) (v := .pointer (some ⟨M, 0, none⟩)) rfl rfl (by kernel_rfl) (by kernel_rfl) (by kernel_rfl) (fun _ _ _ h => h) rfl (fun w hS => by go_simp) hS ?_
  refine obTakeH (i := 1) (d := 13) (v := .pointer (some ⟨M, 0, none⟩)) rfl rfl (by kernel_rfl) (by kernel_rfl) (by kernel_rfl) (fun _ _ _ h => h) rfl (fun w hS => by go_simp) hS ?_
  refine obTakeH (i := 2) (d := 14) (v := .pointer (some ⟨M, 2, none⟩)) rfl rfl (by kernel_rfl) (by kernel_rfl) (by kernel_rfl) (fun _ _ _ h => h) rfl (fun w hS => by go_simp) hS ?_
  refine obTakeH (i := 3) (d := 15) (v := .pointer (some ⟨M, 0, none⟩)) rfl rfl (by kernel_rfl) (by kernel_rfl) (by kernel_rfl) (fun _ _ _ h => h) rfl (fun w hS => by go_simp) hS ?_
  refine obTakeH (i := 4) (d := 16) (v := .pointer (some ⟨M, 0, none⟩)) rfl rfl (by kernel_rfl) (by kernel_rfl) (by kernel_rfl) (fun _ _ _ h => h) rfl (fun w hS => by go_simp) hS ?_
  refine obTakeH (i := 5) (d := 17) (v := .pointer (some ⟨M, 1, none⟩)) rfl rfl (by kernel_rfl) (by kernel_rfl) (by kernel_rfl) (fun _ _ _ h => h) rfl (fun w hS => by go_simp) hS ?_
  refine obTakeH (i := 6) (d := 18) (v := .int .i64 D) rfl rfl (by kernel_rfl) (by kernel_rfl) (by kernel_rfl) (fun _ _ _ h => h) rfl (fun w hS => by go_simp) hS ?_
  try simp only [Act.put, List.setIfInBounds_toArray, List.set_cons_succ, List.set_cons_zero]
  refine wpAnyH_all (rs := [7]) (by kernel_rfl) (by simp) (fun y hy => ?_)
  obtain rfl : y = 7 := by simpa using hy
  clear hy
  refine wpOp_step rfl (fun K' hK => ?_)
  refine obCall2 (k1 := 14) (k2 := 18) (d := 19) (x1 := .pointer (some ⟨M, 2, none⟩)) (x2 := .int .i64 D) 16 _ rfl rfl _ _ _ _ (fun _ => rfl) rfl rfl (nstore_ok ⟨M, 2, none⟩ 0 D _ (lM.out.cell 2 rfl) (lM.out.free 2 (by show 2 < 5; decide))) (fun e w2 hR => ?_)
  obtain ⟨rfl, hw2⟩ := hR
  have l2 : Lies w2 M [.int .i64 R, .int .i64 D, .int .i64 D, .int .i64 0, .int .i64 0] := by rw [hw2]; exact lM.out.put 2 (by show 2 < 5; decide) (.int .i64 D)
  have b2 : Below w.heap.size w w2 := by rw [hw2]; exact bM.out.setCell hB.out _
  clear hw2 lM bM
  refine ⟨_, rfl, hK _ _ ⟨l2.cell 1 rfl, ?_⟩⟩
  clear hK K'
  try simp only [Act.put, List.setIfInBounds_toArray, List.set_cons_succ, List.set_cons_zero]
  refine wpAnyH_done (by kernel_rfl) ?_ 0
  replace l2 := Lib.hid l2
  replace b2 := Lib.hid b2
  go_wp2_with fail
  go_ret
  exact ⟨M, rfl, l2.out, hB.out, b2.out⟩
theorem blevel_ok (B : Nat) (s : Bkt) (w : World) (h : Lies w B s.cells) : Calls Try.prog 13 #[.pointer (some ⟨B, 0, none⟩)] w fun e w' => e = .returned (.int .i64 s.lv) ∧ w = w' := by
  have L := Lib.hid (nload_ok ⟨B, 2, none⟩ s.lv w (h.cell 2 rfl))
  have c0 := h.cell 0 (v := .int .i64 s.r) rfl
  go_enter Try.func13, Try.ntmps13
  go_wp2_with fail
  refine L.out.mono ?_
  rintro e w' ⟨rfl, rfl⟩
  go_wp2_with fail
  go_ret
  exact ⟨rfl, rfl⟩
theorem bcounts_ok (B : Nat) (s : Bkt) (w : World) (h : Lies w B s.cells) : Calls Try.prog 12 #[.pointer (some ⟨B, 0, none⟩)] w fun e w' => e = .returned (.tuple #[.int .i64 s.tk, .int .i64 s.nt]) ∧ Below w.heap.size w w' := by
  have L1 : Hid (∀ w', Below w.heap.size w w' → Calls Try.prog 22 #[.pointer (some ⟨B, 3, none⟩)] w' fun e w'' => e = .returned (.int .i64 s.tk) ∧ w' = w'') := fun w' b => nload_ok ⟨B, 3, none⟩ s.tk w' ((h.keep (by show 0 < 5; decide) b).cell 3 rfl)
  have L2 : Hid (∀ w', Below w.heap.size w w' → Calls Try.prog 22 #[.pointer (some ⟨B, 4, none⟩)] w' fun e w'' => e = .returned (.int .i64 s.nt) ∧ w' = w'') := fun w' b => nload_ok ⟨B, 4, none⟩ s.nt w' ((h.keep (by show 0 < 5; decide) b).cell 4 rfl)
  have c0 := h.cell 0 (v := .int .i64 s.r) rfl
  clear h
  go_enter Try.func12, Try.ntmps12
  go_upto_region 1 with fail
  have hS : Below w.heap.size w w.drew := drewB _ _
  refine wp_region_held (S := fun w' => Below w.heap.size w w') (by kernel_rfl) ?_
  change wpAnyH _ .any _ _ _ 10 (Array.replicate 10 false) _ w.drew
  generalize w.drew = wd at *
  refine obTakeH (i := 0) (d := 4) (v := .pointer (some ⟨B, 0, none⟩)) rfl rfl (by kernel_rfl) (by kernel_rfl) (by kernel_rfl) (fun _ _ _ h => h) rfl (fun w hS => by go_simp) hS ?_
  refine obTakeH (i := 1) (d := 5) (v := .pointer (some ⟨B, 0, none⟩)) rfl rfl (by kernel_rfl) (by kernel_rfl) (by kernel_rfl) (fun _ _ _ h => h) rfl (fun w hS => by go_simp) hS ?_
  refine obTakeH (i := 2) (d := 6) (v := .pointer (some ⟨B, 3, none⟩)) rfl rfl (by kernel_rfl) (by kernel_rfl) (by kernel_rfl) (fun _ _ _ h => h) rfl (fun w hS => by go_simp) hS ?_
  refine obTakeH (i := 4) (d := 8) (v := .pointer (some ⟨B, 0, none⟩)) rfl rfl (by kernel_rfl) (by kernel_rfl) (by kernel_rfl) (fun _ _ _ h => h) rfl (fun w hS => by go_simp) hS ?_
  refine obTakeH (i := 5) (d := 9) (v := .pointer (some ⟨B, 0, none⟩)) rfl rfl (by kernel_rfl) (by kernel_rfl) (by kernel_rfl) (fun _ _ _ h => h) rfl (fun w hS => by go_simp) hS ?_
  refine obTakeH (i := 6) (d := 10) (v := .pointer (some ⟨B, 4, none⟩)) rfl rfl (by kernel_rfl) (by kernel_rfl) (by kernel_rfl) (fun _ _ _ h => h) rfl (fun w hS => by go_simp) hS ?_
  try simp only [Act.put, List.setIfInBounds_toArray, List.set_cons_succ, List.set_cons_zero]
  refine wpAnyH_all (rs := [3]) (by kernel_rfl) (by simp) (fun y hy => ?_)
  obtain rfl : y = 3 := by simpa using hy
  clear hy
  refine wpOp_step rfl (fun K' hK => ?_)
  refine obCall1 (k1 := 6) (d := 7) (x1 := .pointer (some ⟨B, 3, none⟩)) 22 _ rfl rfl _ _ _ _ (fun _ => rfl) rfl (L1.out _ hS) (fun e w2 hR => ?_)
  obtain ⟨rfl, rfl⟩ := hR
  refine ⟨_, rfl, hK _ _ ⟨hS, ?_⟩⟩
  clear hK K'
  try simp only [Act.put, List.setIfInBounds_toArray, List.set_cons_succ, List.set_cons_zero]
  refine wpAnyH_all (rs := [7]) (by kernel_rfl) (by simp) (fun y hy => ?_)
  obtain rfl : y = 7 := by simpa using hy
  clear hy
  refine wpOp_step rfl (fun K' hK => ?_)
  refine obCall1 (k1 := 10) (d := 11) (x1 := .pointer (some ⟨B, 4, none⟩)) 22 _ rfl rfl _ _ _ _ (fun _ => rfl) rfl (L2.out _ hS) (fun e w2 hR => ?_)
  obtain ⟨rfl, rfl⟩ := hR
  refine ⟨_, rfl, hK _ _ ⟨hS, ?_⟩⟩
  clear hK K'
  try simp only [Act.put, List.setIfInBounds_toArray, List.set_cons_succ, List.set_cons_zero]
  refine obTakeH (i := 8) (d := 2) (v := .int .i64 (s.tk)) rfl rfl (by kernel_rfl) (by kernel_rfl) (by kernel_rfl) (fun _ _ _ h => h) rfl (fun w hS => by go_simp) hS ?_
  refine obTakeH (i := 9) (d := 3) (v := .int .i64 (s.nt)) rfl rfl (by kernel_rfl) (by kernel_rfl) (by kernel_rfl) (fun _ _ _ h => h) rfl (fun w hS => by go_simp) hS ?_
  try simp only [Act.put, List.setIfInBounds_toArray, List.set_cons_succ, List.set_cons_zero]
  refine wpAnyH_done (by kernel_rfl) ?_ 0
  replace hS := Lib.hid hS
  go_wp2_with fail
  go_ret2
  exact ⟨rfl, hS.out⟩
/-- So many ticks. -/
theorem btick_ok (B : Nat) (s : Bkt) (n : Int) (w : World) (h : Lies w B s.cells) (ok : s.Ok) :
    Calls Try.prog 8 #[.pointer (some ⟨B, 0, none⟩), .int .i64 n] w fun e w' => e = .returned (.tuple #[]) ∧ Lies w' B (bkTick s n).cells ∧ Kept (fun j => j = B) w w' := by
  obtain ⟨m, hm⟩ : ∃ m, m = s.r * cutB n := ⟨_, rfl⟩
  have em := mul_cut (n := n) ok.r0 ok.r1
  have e1 : wrap64 (s.r * cutB n) = m := by unfold wrap64; omega
  rw [← hm] at em
  have W1 := Lib.hid fun w' => bwithin_ok n w'
  obtain ⟨D, hD⟩ : ∃ D, D = cutB n := ⟨_, rfl⟩
  rw [← hD] at W1 e1
  have e2 : IntKind.i64.wrap (s.r * D) = m := by
    simp only [IntKind.wrap, IntKind.bits, IntKind.signed]
    unfold wrap64 at e1
    simp
    omega
  clear hD
  obtain ⟨wa, hwa⟩ : ∃ wa, wa = w.alloc (.cells #[.pointer (some ⟨B, 0, none⟩)] 23) := ⟨_, rfl⟩
  obtain ⟨H, hH⟩ : ∃ H, H = w.heap.size := ⟨_, rfl⟩
  have ba : Below w.heap.size w wa := by rw [hwa]; exact (Below.refl _ _).alloc (Nat.le_refl _) _
  have lH : Lies wa H [.pointer (some ⟨B, 0, none⟩)] := by rw [hwa, hH]; exact Lies.new w _ _
  have h5 : 0 < s.cells.length := by show 0 < 5; decide
  have LD : Hid (∀ w', Below wa.heap.size wa w' → w'.cell? ⟨H, 0, none⟩ = some (.pointer (some ⟨B, 0, none⟩)) ∧ Lies w' B s.cells) := fun w' b => ⟨(lH.keep (by show 0 < 1; decide) b).cell 0 rfl, (h.keep h5 ba).keep h5 b⟩
  have CH : Hid (∀ w' M, Below wa.heap.size wa w' → Lies w' M [.int .i64 m] → Calls Try.prog 18 #[.pointer (some ⟨B, 2, none⟩), .func (.func 19) #[] #[.pointer (some ⟨M, 0, none⟩), .pointer (some ⟨H, 0, none⟩)]] w' fun e w'' => e = .returned (.bool true) ∧ Lies w'' B (bkTick s n).cells ∧ Kept (fun j => j = B) w' w'') := fun w' M b hM => by
    obtain ⟨d1, d2⟩ := LD.out w' b
    have := tick1_ok M H B m s.lv s.b w' (hM.cell 0 rfl) d1 (d2.cell 1 rfl) (by have := ok.l0; omega) (by have := ok.l1; have := ok.b1; omega)
    refine (change_ok ⟨B, 2, none⟩ s.lv _ true 19 #[.pointer (some ⟨M, 0, none⟩), .pointer (some ⟨H, 0, none⟩)] w' (d2.cell 2 rfl) (d2.free 2 (by show 2 < 5; decide)) (by intro w; simp [go_sem]) this).mono ?_
    rintro e w2 ⟨rfl, w1, b1, rfl⟩
    refine ⟨rfl, ?_, (Kept.of (fun j => j = B) b1).set ⟨B, 2, none⟩ rfl _⟩
    have := (d2.keep h5 b1).put 2 (by show 2 < 5; decide) (.int .i64 (if s.b < s.lv + m then s.b else s.lv + m))
    rw [hm] at this ⊢
    exact this
  replace ba := Lib.hid ba
  clear h5 lH h em hm ok
  go_enter Try.func8, Try.ntmps8
  go_upto_region 1 with fail
  rw [← hwa, ← hH]
  clear hwa hH
  have hS : Below wa.heap.size wa wa.drew := drewB _ _
  refine wp_region_held (S := fun w' => Below wa.heap.size wa w') (by kernel_rfl) ?_
  change wpAnyH _ .any _ _ _ 9 (Array.replicate 9 false) _ wa.drew
  generalize wa.drew = wd at *
  refine obTakeH (i := 0) (d := 5) (v := .pointer (some ⟨B, 0, none⟩)) rfl rfl (by kernel_rfl) (by kernel_rfl) (by kernel_rfl) (fun _ _ _ h => h) rfl (fun w hS => by obtain ⟨d1, d2⟩ := LD.out w hS; have c0 := d2.cell 0 (v := .int .i64 s.r) rfl; go_simp) hS ?_
  refine obTakeH (i := 1) (d := 6) (v := .pointer (some ⟨B, 0, none⟩)) rfl rfl (by kernel_rfl) (by kernel_rfl) (by kernel_rfl) (fun _ _ _ h => h) rfl (fun w hS => by obtain ⟨d1, d2⟩ := LD.out w hS; have c0 := d2.cell 0 (v := .int .i64 s.r) rfl; go_simp) hS ?_
  refine obTakeH (i := 2) (d := 7) (v := .pointer (some ⟨B, 0, none⟩)) rfl rfl (by kernel_rfl) (by kernel_rfl) (by kernel_rfl) (fun _ _ _ h => h) rfl (fun w hS => by obtain ⟨d1, d2⟩ := LD.out w hS; have c0 := d2.cell 0 (v := .int .i64 s.r) rfl; go_simp) hS ?_
  refine obTakeH (i := 3) (d := 8) (v := .int .i64 (s.r)) rfl rfl (by kernel_rfl) (by kernel_rfl) (by kernel_rfl) (fun _ _ _ h => h) rfl (fun w hS => by obtain ⟨d1, d2⟩ := LD.out w hS; have c0 := d2.cell 0 (v := .int .i64 s.r) rfl; go_simp) hS ?_
  refine obTakeH (i := 4) (d := 9) (v := .int .i64 n) rfl rfl (by kernel_rfl) (by kernel_rfl) (by kernel_rfl) (fun _ _ _ h => h) rfl (fun w hS => by obtain ⟨d1, d2⟩ := LD.out w hS; have c0 := d2.cell 0 (v := .int .i64 s.r) rfl; go_simp) hS ?_
  try simp only [Act.put, List.setIfInBounds_toArray, List.set_cons_succ, List.set_cons_zero]
  refine wpAnyH_all (rs := [5, 7]) (by kernel_rfl) (by simp) (fun y hy => ?_)
  have hy2 : y = 5 ∨ y = 7 := by simpa using hy
  clear hy
  rcases hy2 with rfl | rfl
  · refine wpOp_step rfl (fun K' hK => ?_)
    refine obCall1 (k1 := 9) (d := 10) (x1 := .int .i64 n) 15 _ rfl rfl _ _ _ _ (fun _ => rfl) rfl (W1.out _) (fun e w2 hR => ?_)
    obtain ⟨rfl, rfl⟩ := hR
    refine ⟨_, rfl, hK _ _ ⟨hS, ?_⟩⟩
    clear hK K'
    try simp only [Act.put, List.setIfInBounds_toArray, List.set_cons_succ, List.set_cons_zero]
    refine obTakeH (i := 6) (d := 11) (v := .int .i64 m) rfl rfl (by kernel_rfl) (by kernel_rfl) (by kernel_rfl) (fun _ _ _ h => h) rfl (fun w hS => by obtain ⟨d1, d2⟩ := LD.out w hS; have c0 := d2.cell 0 (v := .int .i64 s.r) rfl; go_simp) hS ?_
    try simp only [Act.put, List.setIfInBounds_toArray, List.set_cons_succ, List.set_cons_zero]
    refine wpAnyH_all (rs := [7]) (by kernel_rfl) (by simp) (fun y hy => ?_)
    obtain rfl : y = 7 := by simpa using hy
    clear hy
    refine wpOp_step rfl (fun K' hK => ?_)
    have lM : Lies (wd.alloc (.cells #[.int .i64 0] 2)) wd.heap.size [.int .i64 0] := Lies.new wd _ _
    have hb := hS.alloc hS.size (.cells #[.int .i64 0] 2)
    have hz : wa.heap.size ≤ wd.heap.size := hS.size
    go_simp
    refine hK _ _ ⟨hb, ?_⟩
    clear hK K'
    generalize wd.alloc (.cells #[.int .i64 0] 2) = wb at *
    generalize wd.heap.size = M at *
    replace hS := hb
    clear hb
    try simp only [Act.put, List.setIfInBounds_toArray, List.set_cons_succ, List.set_cons_zero]
    refine wpAnyH_all (rs := [8]) (by kernel_rfl) (by simp) (fun y hy => ?_)
    obtain rfl : y = 8 := by simpa using hy
    clear hy
    refine wpOp_step rfl (fun K' hK => ?_)
    have c0 := lM.cell 0 (v := .int .i64 0) rfl
    have z0 := lM.free 0 (by decide)
    have l2 := Lib.hid (lM.put 0 (by decide) (.int .i64 m))
    have hb := hS.setCell (p := ⟨M, 0, none⟩) hz (.int .i64 m)
    clear lM
    go_simp
    refine hK _ _ ⟨hb, ?_⟩
    clear hK K' c0 z0 hS
    generalize wb.setCell ⟨M, 0, none⟩ (.int .i64 m) = wc at *
    try simp only [Act.put, List.setIfInBounds_toArray, List.set_cons_succ, List.set_cons_zero]
    refine wpAnyH_done (by kernel_rfl) ?_ 0
    obtain ⟨d1, d2⟩ := LD.out wc hb
    have c0 := d2.cell 0 (v := .int .i64 s.r) rfl
    have C := Lib.hid (CH.out wc M hb l2.out)
    have BB := Lib.hid (ba.out.trans (hb.mono ba.out.size))
    clear d2 hb l2 CH LD ba
    go_wp2_with fail
    refine C.out.mono ?_
    rintro e w3 ⟨rfl, l3, k3⟩
    have K3 := Lib.hid ((Kept.of (fun j => j = B) BB.out).trans k3)
    replace l3 := Lib.hid l3
    clear k3
    go_wp2_with fail
    go_end0
    exact ⟨rfl, l3.out, K3.out⟩
  · refine wpOp_step rfl (fun K' hK => ?_)
    have lM : Lies (wd.alloc (.cells #[.int .i64 0] 2)) wd.heap.size [.int .i64 0] := Lies.new wd _ _
    have hb := hS.alloc hS.size (.cells #[.int .i64 0] 2)
    have hz : wa.heap.size ≤ wd.heap.size := hS.size
    go_simp
    refine hK _ _ ⟨hb, ?_⟩
    clear hK K'
    generalize wd.alloc (.cells #[.int .i64 0] 2) = wb at *
    generalize wd.heap.size = M at *
    replace hS := hb
    clear hb
    try simp only [Act.put, List.setIfInBounds_toArray, List.set_cons_succ, List.set_cons_zero]
    refine wpAnyH_all (rs := [5]) (by kernel_rfl) (by simp) (fun y hy => ?_)
    obtain rfl : y = 5 := by simpa using hy
    clear hy
    refine wpOp_step rfl (fun K' hK => ?_)
    refine obCall1 (k1 := 9) (d := 10) (x1 := .int .i64 n) 15 _ rfl rfl _ _ _ _ (fun _ => rfl) rfl (W1.out _) (fun e w2 hR => ?_)
    obtain ⟨rfl, rfl⟩ := hR
    refine ⟨_, rfl, hK _ _ ⟨hS, ?_⟩⟩
    clear hK K'
    try simp only [Act.put, List.setIfInBounds_toArray, List.set_cons_succ, List.set_cons_zero]
    refine obTakeH (i := 6) (d := 11) (v := .int .i64 m) rfl rfl (by kernel_rfl) (by kernel_rfl) (by kernel_rfl) (fun _ _ _ h => h) rfl (fun w hS => by obtain ⟨d1, d2⟩ := LD.out w hS; have c0 := d2.cell 0 (v := .int .i64 s.r) rfl; go_simp) hS ?_
    try simp only [Act.put, List.setIfInBounds_toArray, List.set_cons_succ, List.set_cons_zero]
    refine wpAnyH_all (rs := [8]) (by kernel_rfl) (by simp) (fun y hy => ?_)
    obtain rfl : y = 8 := by simpa using hy
    clear hy
    refine wpOp_step rfl (fun K' hK => ?_)
    have c0 := lM.cell 0 (v := .int .i64 0) rfl
    have z0 := lM.free 0 (by decide)
    have l2 := Lib.hid (lM.put 0 (by decide) (.int .i64 m))
    have hb := hS.setCell (p := ⟨M, 0, none⟩) hz (.int .i64 m)
    clear lM
    go_simp
    refine hK _ _ ⟨hb, ?_⟩
    clear hK K' c0 z0 hS
    generalize wb.setCell ⟨M, 0, none⟩ (.int .i64 m) = wc at *
    try simp only [Act.put, List.setIfInBounds_toArray, List.set_cons_succ, List.set_cons_zero]
    refine wpAnyH_done (by kernel_rfl) ?_ 0
    obtain ⟨d1, d2⟩ := LD.out wc hb
    have c0 := d2.cell 0 (v := .int .i64 s.r) rfl
    have C := Lib.hid (CH.out wc M hb l2.out)
    have BB := Lib.hid (ba.out.trans (hb.mono ba.out.size))
    clear d2 hb l2 CH LD ba
    go_wp2_with fail
    refine C.out.mono ?_
    rintro e w3 ⟨rfl, l3, k3⟩
    have K3 := Lib.hid ((Kept.of (fun j => j = B) BB.out).trans k3)
    replace l3 := Lib.hid l3
    clear k3
    go_wp2_with fail
    go_end0
    exact ⟨rfl, l3.out, K3.out⟩
/-- So many bytes are asked for. -/
theorem btake_ok (B : Nat) (s : Bkt) (n : Int) (w : World) (h : Lies w B s.cells) (ok : s.Ok) (hn : -9223372036854775808 ≤ n ∧ n ≤ 9223372036854775807) :
    Calls Try.prog 10 #[.pointer (some ⟨B, 0, none⟩), .int .i64 n] w fun e w' => e = .returned (.bool (bkYes s n)) ∧ Lies w' B (bkTake s n).cells ∧ Kept (fun j => j = B) w w' := by
  obtain ⟨wa, hwa⟩ : ∃ wa, wa = w.alloc (.cells #[.int .i64 n] 2) := ⟨_, rfl⟩
  obtain ⟨M, hM⟩ : ∃ M, M = w.heap.size := ⟨_, rfl⟩
  have h5 : 0 < s.cells.length := by show 0 < 5; decide
  have hl := h.lt h5
  have ba : Below w.heap.size w wa := by rw [hwa]; exact (Below.refl _ _).alloc (Nat.le_refl _) _
  have lM : Lies wa M [.int .i64 n] := by rw [hwa, hM]; exact Lies.new w _ _
  have ha := h.keep h5 ba
  have hMB : M ≠ B := by omega
  have T := take1_ok M n s.lv wa (lM.cell 0 rfl)
  have C := Lib.hid (change_ok ⟨B, 2, none⟩ s.lv _ _ 20 #[.pointer (some ⟨M, 0, none⟩)] wa (ha.cell 2 rfl) (ha.free 2 (by show 2 < 5; decide)) (by intro w; simp [go_sem]) T)
  have c0 := ha.cell 0 (v := .int .i64 s.r) rfl
  by_cases hyes : 0 ≤ n ∧ n ≤ s.lv
  · have hy : (decide (0 ≤ n) && decide (n ≤ s.lv)) = true := by simp [hyes]
    have hy2 : bkYes s n = true := hy
    rw [hy] at C
    rw [hy2]
    have et : bkTake s n = { s with lv := s.lv - n, tk := wrap64 (s.tk + n) } := by unfold bkTake; rw [if_neg (by omega), if_neg (by omega)]
    have ew : wrap64 (s.lv - n) = s.lv - n := by have := ok.l1; have := ok.b1; unfold wrap64; omega
    rw [ew] at C
    have AD : Hid (∀ w', Kept (fun j => j = B) wa w' → Lies w' B [.int .i64 s.r, .int .i64 s.b, .int .i64 (s.lv - n), .int .i64 s.tk, .int .i64 s.nt] → Calls Try.prog 21 #[.pointer (some ⟨B, 3, none⟩), .int .i64 n] w' fun e w'' => e = .returned (.tuple #[]) ∧ Lies w'' B (bkTake s n).cells ∧ Kept (fun j => j = B) wa w'') := fun w' k l => by
      refine (add_ok ⟨B, 3, none⟩ s.tk n w' (l.cell 3 rfl) (l.free 3 (by show 3 < 5; decide))).mono ?_
      rintro e w2 ⟨rfl, w1, b1, rfl⟩
      refine ⟨rfl, ?_, (k.add b1).set ⟨B, 3, none⟩ rfl _⟩
      rw [et]
      exact (l.keep (by show 0 < 5; decide) b1).put 3 (by show 3 < 5; decide) _
    have LM : Hid (∀ w', Kept (fun j => j = B) wa w' → w'.cell? ⟨M, 0, none⟩ = some (.int .i64 n)) := fun w' k => (lM.of_block (k.block M (lM.lt (by show 0 < 1; decide)) hMB)).cell 0 rfl
    have B2 : Hid (∀ w1, Below wa.heap.size wa w1 → Lies (w1.setCell ⟨B, 2, none⟩ (.int .i64 (s.lv - n))) B [.int .i64 s.r, .int .i64 s.b, .int .i64 (s.lv - n), .int .i64 s.tk, .int .i64 s.nt] ∧ Kept (fun j => j = B) wa (w1.setCell ⟨B, 2, none⟩ (.int .i64 (s.lv - n)))) := fun w1 b1 => ⟨(ha.keep h5 b1).put 2 (by show 2 < 5; decide) _, (Kept.of (fun j => j = B) b1).set ⟨B, 2, none⟩ rfl _⟩
    replace ba := Lib.hid ba
    replace ha := Lib.hid ha
    clear et hy hy2 ew lM hMB hl h ok T h5
    go_enter Try.func10, Try.ntmps10
    go_upto_region 2 with fail
    rw [← hwa, ← hM]
    clear hwa
    replace hM := Lib.hid hM
    go_wp2_with fail
    refine C.out.mono ?_
    rintro e w' ⟨rfl, w1, b1, hw'⟩
    simp only [if_true] at hw'
    obtain ⟨l2, k2⟩ := B2.out w1 b1
    rw [← hw'] at l2 k2
    clear hw' b1 C B2
    replace l2 := Lib.hid l2
    replace k2 := Lib.hid k2
    go_upto_region 4 with fail
    clear c0
    have hS : Kept (fun j => j = B) wa w'.drew ∧ Lies w'.drew B [.int .i64 s.r, .int .i64 s.b, .int .i64 (s.lv - n), .int .i64 s.tk, .int .i64 s.nt] := ⟨k2.out.trans (.of _ (drewB _ _)), l2.out.keep (by show 0 < 5; decide) (drewB _ _)⟩
    have hS0 := hS
    replace hS := LM.out _ hS.1
    clear l2 k2
    refine wp_region_held (S := fun w' => w'.cell? ⟨M, 0, none⟩ = some (.int .i64 n)) (by kernel_rfl) ?_
    change wpAnyH _ .any _ _ _ 5 (Array.replicate 5 false) _ w'.drew
    generalize w'.drew = wd at *
    refine obTakeH (i := 0) (d := 15) (v := .pointer (some ⟨B, 0, none⟩)) rfl rfl (by kernel_rfl) (by kernel_rfl) (by kernel_rfl) (fun _ _ _ h => h) rfl (fun w hS => by go_simp) hS ?_
    refine obTakeH (i := 1) (d := 16) (v := .pointer (some ⟨B, 0, none⟩)) rfl rfl (by kernel_rfl) (by kernel_rfl) (by kernel_rfl) (fun _ _ _ h => h) rfl (fun w hS => by go_simp) hS ?_
    refine obTakeH (i := 2) (d := 17) (v := .pointer (some ⟨B, 3, none⟩)) rfl rfl (by kernel_rfl) (by kernel_rfl) (by kernel_rfl) (fun _ _ _ h => h) rfl (fun w hS => by go_simp) hS ?_
    refine obTakeH (i := 3) (d := 18) (v := .int .i64 n) rfl rfl (by kernel_rfl) (by kernel_rfl) (by kernel_rfl) (fun _ _ _ h => h) rfl (fun w hS => by go_simp) hS ?_
    try simp only [Act.put, List.setIfInBounds_toArray, List.set_cons_succ, List.set_cons_zero]
    refine wpAnyH_all (rs := [4]) (by kernel_rfl) (by simp) (fun y hy => ?_)
    obtain rfl : y = 4 := by simpa using hy
    clear hy
    refine wpOp_step rfl (fun K' hK => ?_)
    refine obCall2 (k1 := 17) (k2 := 18) (d := 19) (x1 := .pointer (some ⟨B, 3, none⟩)) (x2 := .int .i64 n) 21 _ rfl rfl _ _ _ _ (fun _ => rfl) rfl rfl (AD.out _ hS0.1 hS0.2) (fun e w2 hR => ?_)
    obtain ⟨rfl, l3, k3⟩ := hR
    refine ⟨_, rfl, hK _ _ ⟨LM.out _ k3, ?_⟩⟩
    clear hK K' hS0
    try simp only [Act.put, List.setIfInBounds_toArray, List.set_cons_succ, List.set_cons_zero]
    refine wpAnyH_done (by kernel_rfl) ?_ 0
    have K3 := Lib.hid ((Kept.of (fun j => j = B) ba.out).trans k3)
    replace l3 := Lib.hid l3
    clear k3
    go_wp2_with fail
    go_ret
    exact ⟨rfl, l3.out, K3.out⟩
  · have hy : (decide (0 ≤ n) && decide (n ≤ s.lv)) = false := by simp; omega
    have hy2 : bkYes s n = false := hy
    rw [hy] at C
    rw [hy2]
    by_cases h0 : 0 < n
    · have et : bkTake s n = { s with nt := wrap64 (s.nt + n) } := by unfold bkTake; rw [if_neg (by omega), if_pos (by omega)]
      have AD : Hid (∀ w', Kept (fun j => j = B) wa w' → Lies w' B [.int .i64 s.r, .int .i64 s.b, .int .i64 s.lv, .int .i64 s.tk, .int .i64 s.nt] → Calls Try.prog 21 #[.pointer (some ⟨B, 4, none⟩), .int .i64 n] w' fun e w'' => e = .returned (.tuple #[]) ∧ Lies w'' B (bkTake s n).cells ∧ Kept (fun j => j = B) wa w'') := fun w' k l => by
        refine (add_ok ⟨B, 4, none⟩ s.nt n w' (l.cell 4 rfl) (l.free 4 (by show 4 < 5; decide))).mono ?_
        rintro e w2 ⟨rfl, w1, b1, rfl⟩
        refine ⟨rfl, ?_, (k.add b1).set ⟨B, 4, none⟩ rfl _⟩
        rw [et]
        exact (l.keep (by show 0 < 5; decide) b1).put 4 (by show 4 < 5; decide) _
      have LM : Hid (∀ w', Kept (fun j => j = B) wa w' → w'.cell? ⟨M, 0, none⟩ = some (.int .i64 n)) := fun w' k => (lM.of_block (k.block M (lM.lt (by show 0 < 1; decide)) hMB)).cell 0 rfl
      have B2 : Hid (∀ w1, Below wa.heap.size wa w1 → Lies w1 B [.int .i64 s.r, .int .i64 s.b, .int .i64 s.lv, .int .i64 s.tk, .int .i64 s.nt] ∧ Kept (fun j => j = B) wa w1) := fun w1 b1 => ⟨ha.keep h5 b1, Kept.of (fun j => j = B) b1⟩
      have d0 : decide (0 < n) = true := decide_eq_true h0
      replace ba := Lib.hid ba
      replace ha := Lib.hid ha
      clear et hy hy2 lM hMB hl h ok T h5 hyes
      go_enter Try.func10, Try.ntmps10
      go_upto_region 2 with fail
      rw [← hwa, ← hM]
      clear hwa
      replace hM := Lib.hid hM
      go_wp2_with fail
      refine C.out.mono ?_
      rintro e w' ⟨rfl, w1, b1, hw'⟩
      simp only [Bool.false_eq_true, if_false] at hw'
      subst hw'
      obtain ⟨l2, k2⟩ := B2.out w' b1
      have cM := LM.out _ k2
      clear b1 C B2
      replace l2 := Lib.hid l2
      replace k2 := Lib.hid k2
      go_upto_region 6 with fail
      clear c0 cM
      have hS : Kept (fun j => j = B) wa w'.drew ∧ Lies w'.drew B [.int .i64 s.r, .int .i64 s.b, .int .i64 s.lv, .int .i64 s.tk, .int .i64 s.nt] := ⟨k2.out.trans (.of _ (drewB _ _)), l2.out.keep (by show 0 < 5; decide) (drewB _ _)⟩
      have hS0 := hS
      replace hS := LM.out _ hS.1
      clear l2 k2
      refine wp_region_held (S := fun w' => w'.cell? ⟨M, 0, none⟩ = some (.int .i64 n)) (by kernel_rfl) ?_
      change wpAnyH _ .any _ _ _ 5 (Array.replicate 5 false) _ w'.drew
      generalize w'.drew = wd at *
      refine obTakeH (i := 0) (d := 23) (v := .pointer (some ⟨B, 0, none⟩)) rfl rfl (by kernel_rfl) (by kernel_rfl) (by kernel_rfl) (fun _ _ _ h => h) rfl (fun w hS => by go_simp) hS ?_
      refine obTakeH (i := 1) (d := 24) (v := .pointer (some ⟨B, 0, none⟩)) rfl rfl (by kernel_rfl) (by kernel_rfl) (by kernel_rfl) (fun _ _ _ h => h) rfl (fun w hS => by go_simp) hS ?_
      refine obTakeH (i := 2) (d := 25) (v := .pointer (some ⟨B, 4, none⟩)) rfl rfl (by kernel_rfl) (by kernel_rfl) (by kernel_rfl) (fun _ _ _ h => h) rfl (fun w hS => by go_simp) hS ?_
      refine obTakeH (i := 3) (d := 26) (v := .int .i64 n) rfl rfl (by kernel_rfl) (by kernel_rfl) (by kernel_rfl) (fun _ _ _ h => h) rfl (fun w hS => by go_simp) hS ?_
      try simp only [Act.put, List.setIfInBounds_toArray, List.set_cons_succ, List.set_cons_zero]
      refine wpAnyH_all (rs := [4]) (by kernel_rfl) (by simp) (fun y hy => ?_)
      obtain rfl : y = 4 := by simpa using hy
      clear hy
      refine wpOp_step rfl (fun K' hK => ?_)
      refine obCall2 (k1 := 25) (k2 := 26) (d := 27) (x1 := .pointer (some ⟨B, 4, none⟩)) (x2 := .int .i64 n) 21 _ rfl rfl _ _ _ _ (fun _ => rfl) rfl rfl (AD.out _ hS0.1 hS0.2) (fun e w2 hR => ?_)
      obtain ⟨rfl, l3, k3⟩ := hR
      refine ⟨_, rfl, hK _ _ ⟨LM.out _ k3, ?_⟩⟩
      clear hK K' hS0
      try simp only [Act.put, List.setIfInBounds_toArray, List.set_cons_succ, List.set_cons_zero]
      refine wpAnyH_done (by kernel_rfl) ?_ 0
      have K3 := Lib.hid ((Kept.of (fun j => j = B) ba.out).trans k3)
      replace l3 := Lib.hid l3
      clear k3
      go_wp2_with fail
      go_ret
      exact ⟨rfl, l3.out, K3.out⟩
    · have et : bkTake s n = s := by
        unfold bkTake
        have := ok.l0
        rw [if_pos (by omega)]
      rw [et]
      have d0 : decide (0 < n) = false := decide_eq_false h0
      have LM : Hid (∀ w', Below wa.heap.size wa w' → w'.cell? ⟨M, 0, none⟩ = some (.int .i64 n)) := fun w' k => (lM.keep (by show 0 < 1; decide) k).cell 0 rfl
      have B2 : Hid (∀ w1, Below wa.heap.size wa w1 → Lies w1 B s.cells ∧ Below w.heap.size w w1) := fun w1 b1 => ⟨ha.keep h5 b1, ba.trans (b1.mono ba.size)⟩
      clear et hy hy2 lM hMB hl h ok T h5 hyes ba ha
      go_enter Try.func10, Try.ntmps10
      go_upto_region 2 with fail
      rw [← hwa, ← hM]
      clear hwa hM
      go_wp2_with fail
      refine C.out.mono ?_
      rintro e w' ⟨rfl, w1, b1, hw'⟩
      simp only [Bool.false_eq_true, if_false] at hw'
      subst hw'
      obtain ⟨l2, k2⟩ := B2.out w' b1
      have cM := LM.out _ b1
      clear b1 C B2
      replace l2 := Lib.hid l2
      replace k2 := Lib.hid k2
      go_wp2_with fail
      go_ret
      exact ⟨rfl, l2.out, Kept.of _ k2.out⟩
end Go.Proofs.Yteednkonmnngkaa
