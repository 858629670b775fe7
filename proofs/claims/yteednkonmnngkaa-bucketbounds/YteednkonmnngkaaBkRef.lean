/-
  What the document's own bucket answers, and what it leaves. No condition.
-/
import Derived.Test.YteednkonmnngkaaBkOwn
namespace Go.Proofs.Yteednkonmnngkaa
set_option maxRecDepth 100000
open Go.RowKit

theorem rbcut_ok (n : Int) (w : World) : Calls Try.prog 17 #[.int .i64 n] w fun e w' => e = .returned (.int .i64 (cutB n)) ∧ w = w' := by
  by_cases h0 : n < 0
  · have e : cutB n = 0 := by unfold cutB; rw [if_pos h0]
    have h1 : ¬ 1073741824 < n := by omega
    rw [e]
    go_enter Try.func17, Try.ntmps17
    go_wp2
    go_ret
    exact ⟨rfl, rfl⟩
  · by_cases h1 : 1073741824 < n
    · have e : cutB n = 1073741824 := by unfold cutB; rw [if_neg h0, if_pos h1]
      rw [e]
      go_enter Try.func17, Try.ntmps17
      go_wp2
      go_ret
      exact ⟨rfl, rfl⟩
    · have e : cutB n = n := by unfold cutB; rw [if_neg h0, if_neg h1]
      rw [e]
      by_cases z0 : n = 0
      · subst z0
        go_enter Try.func17, Try.ntmps17
        go_wp2
        go_ret
        exact ⟨rfl, rfl⟩
      by_cases z1 : n = 1073741824
      · subst z1
        go_enter Try.func17, Try.ntmps17
        go_wp2
        go_ret
        exact ⟨rfl, rfl⟩
      have z2 : n < 1073741824 := by omega
      have z3 : (if n < 1073741824 then n else 1073741824) = n := if_pos z2
      have z4 : 0 < n := by omega
      go_enter Try.func17, Try.ntmps17
      go_wp2
      go_ret
      exact ⟨rfl, rfl⟩
theorem rbnew_ok (r b : Int) (w : World) :
    Calls Try.prog 7 #[.int .i64 r, .int .i64 b] w fun e w' => ∃ B, e = .returned (.pointer (some ⟨B, 0, none⟩)) ∧ Lies w' B (bkNew r b).cells ∧ w.heap.size ≤ B ∧ Below w.heap.size w w' := by
  obtain ⟨R, hR⟩ : ∃ R, R = cutB r := ⟨_, rfl⟩
  obtain ⟨D, hD⟩ : ∃ D, D = cutB b := ⟨_, rfl⟩
  unfold bkNew
  have W1 := Lib.hid fun w' => rbcut_ok r w'
  have W2 := Lib.hid fun w' => rbcut_ok b w'
  rw [← hR] at W1 ⊢
  rw [← hD] at W2 ⊢
  clear hR hD
  go_enter Try.func7, Try.ntmps7
  go_wp2_with fail
  refine (W2.out w).mono ?_
  rintro e w' ⟨rfl, rfl⟩
  go_wp2_with fail
  refine (W1.out w).mono ?_
  rintro e w' ⟨rfl, rfl⟩
  go_wp2_with fail
  go_ret
  exact ⟨w.heap.size, rfl, Lies.new w [.int .i64 R, .int .i64 D, .int .i64 D, .int .i64 0, .int .i64 0] 35, Nat.le_refl _, (Below.refl _ _).alloc (Nat.le_refl _) _⟩
set_option maxHeartbeats 4000000 in
theorem rbtick_ok (B : Nat) (s : Bkt) (n : Int) (w : World) (h : Lies w B s.cells) (ok : s.Ok) :
    Calls Try.prog 9 #[.pointer (some ⟨B, 0, none⟩), .int .i64 n] w fun e w' => e = .returned (.tuple #[]) ∧ Lies w' B (bkTick s n).cells ∧ Kept (fun j => j = B) w w' := by
  obtain ⟨m, hm⟩ : ∃ m, m = s.r * cutB n := ⟨_, rfl⟩
  have em := mul_cut (n := n) ok.r0 ok.r1
  have e1 : wrap64 (s.r * cutB n) = m := by unfold wrap64; omega
  rw [← hm] at em
  have W1 := Lib.hid fun w' => rbcut_ok n w'
  have ef : bkFill s n = if s.b < s.lv + m then s.b else s.lv + m := by unfold bkFill; rw [hm]
  have ec : (bkTick s n).cells = [.int .i64 s.r, .int .i64 s.b, .int .i64 (bkFill s n), .int .i64 s.tk, .int .i64 s.nt] := rfl
  rw [ec]
  obtain ⟨D, hD⟩ : ∃ D, D = cutB n := ⟨_, rfl⟩
  rw [← hD] at W1 e1
  clear hD hm
  have e2 : IntKind.i64.wrap (s.r * D) = m := by
    simp only [IntKind.wrap, IntKind.bits, IntKind.signed]
    unfold wrap64 at e1
    simp
    omega
  have e3 : IntKind.i64.wrap (s.lv + m) = s.lv + m := by
    have := ok.l0
    have := ok.l1
    have := ok.b1
    simp only [IntKind.wrap, IntKind.bits, IntKind.signed]
    simp
    omega
  have h' : Lies w B [.int .i64 s.r, .int .i64 s.b, .int .i64 s.lv, .int .i64 s.tk, .int .i64 s.nt] := h
  clear h ok em
  obtain ⟨F, hF⟩ : ∃ F, F = bkFill s n := ⟨_, rfl⟩
  rw [← hF] at ef ⊢
  clear hF
  obtain ⟨sr, sb, sl, st, sn⟩ := s
  simp only at *
  obtain ⟨q, hq⟩ : ∃ q, q = sl + m := ⟨_, rfl⟩
  rw [← hq] at e3 ef
  replace hq := Lib.hid hq
  go_enter Try.func9, Try.ntmps9
  have hd := h'.keep (by show 0 < 5; decide) (drewB w.heap.size w)
  have hk := Lib.hid ((Kept.refl (fun j => j = B) w).drew)
  clear h'
  have hS : w.drew.cell? ⟨B, 0, none⟩ = some (.int .i64 sr) ∧ w.drew.cell? ⟨B, 1, none⟩ = some (.int .i64 sb) := ⟨hd.cell 0 rfl, hd.cell 1 rfl⟩
  have hc2 := hd.cell 2 (v := .int .i64 sl) rfl
  have hf2 := hd.free 2 (by show 2 < 5; decide)
  have hput := hd.put 2 (by show 2 < 5; decide) (.int .i64 F)
  have hkp := hk.out.set ⟨B, 2, none⟩ rfl (.int .i64 F)
  have hput : Hid (Lies (w.drew.setCell ⟨B, 2, none⟩ (.int .i64 F)) B [.int .i64 sr, .int .i64 sb, .int .i64 F, .int .i64 st, .int .i64 sn] ∧ Kept (fun j => j = B) w (w.drew.setCell ⟨B, 2, none⟩ (.int .i64 F))) := ⟨hput, hkp⟩
  have hz : (if q < sb then q else sb) = F := by rw [ef]; split <;> split <;> omega
  have hz2 : min sb q = F := by rw [← hz]; split <;> omega
  have hz3 : (if sb < q then sb else q) = F := by rw [← hz]; split <;> split <;> omega
  clear hd hk hkp ef e1
  replace hz := Lib.hid hz
  replace hz2 := Lib.hid hz2
  replace hz3 := Lib.hid hz3
  replace e2 := Lib.hid e2
  replace e3 := Lib.hid e3
  refine wp_region_held (S := fun w' => w'.cell? ⟨B, 0, none⟩ = some (.int .i64 sr) ∧ w'.cell? ⟨B, 1, none⟩ = some (.int .i64 sb)) (by kernel_rfl) ?_
  change wpAnyH _ .any _ _ _ 21 (Array.replicate 21 false) _ w.drew
  generalize w.drew = wd at *
  refine obTakeH (i := 0) (d := 4) (v := .pointer (some ⟨B, 0, none⟩)) rfl rfl (by kernel_rfl) (by kernel_rfl) (by kernel_rfl) (fun _ _ _ h => h) rfl (fun w hS => by obtain ⟨c0, c1⟩ := hS; go_simp) hS ?_
  refine obTakeH (i := 1) (d := 5) (v := .pointer (some ⟨B, 0, none⟩)) rfl rfl (by kernel_rfl) (by kernel_rfl) (by kernel_rfl) (fun _ _ _ h => h) rfl (fun w hS => by obtain ⟨c0, c1⟩ := hS; go_simp) hS ?_
  refine obTakeH (i := 2) (d := 6) (v := .pointer (some ⟨B, 0, none⟩)) rfl rfl (by kernel_rfl) (by kernel_rfl) (by kernel_rfl) (fun _ _ _ h => h) rfl (fun w hS => by obtain ⟨c0, c1⟩ := hS; go_simp) hS ?_
  refine obTakeH (i := 3) (d := 7) (v := .pointer (some ⟨B, 1, none⟩)) rfl rfl (by kernel_rfl) (by kernel_rfl) (by kernel_rfl) (fun _ _ _ h => h) rfl (fun w hS => by obtain ⟨c0, c1⟩ := hS; go_simp) hS ?_
  refine obTakeH (i := 4) (d := 8) (v := .int .i64 sb) rfl rfl (by kernel_rfl) (by kernel_rfl) (by kernel_rfl) (fun _ _ _ h => h) rfl (fun w hS => by obtain ⟨c0, c1⟩ := hS; go_simp) hS ?_
  refine obTakeH (i := 5) (d := 9) (v := .pointer (some ⟨B, 0, none⟩)) rfl rfl (by kernel_rfl) (by kernel_rfl) (by kernel_rfl) (fun _ _ _ h => h) rfl (fun w hS => by obtain ⟨c0, c1⟩ := hS; go_simp) hS ?_
  refine obTakeH (i := 6) (d := 10) (v := .pointer (some ⟨B, 0, none⟩)) rfl rfl (by kernel_rfl) (by kernel_rfl) (by kernel_rfl) (fun _ _ _ h => h) rfl (fun w hS => by obtain ⟨c0, c1⟩ := hS; go_simp) hS ?_
  refine obTakeH (i := 7) (d := 11) (v := .pointer (some ⟨B, 2, none⟩)) rfl rfl (by kernel_rfl) (by kernel_rfl) (by kernel_rfl) (fun _ _ _ h => h) rfl (fun w hS => by obtain ⟨c0, c1⟩ := hS; go_simp) hS ?_
  refine obTakeH (i := 9) (d := 13) (v := .pointer (some ⟨B, 0, none⟩)) rfl rfl (by kernel_rfl) (by kernel_rfl) (by kernel_rfl) (fun _ _ _ h => h) rfl (fun w hS => by obtain ⟨c0, c1⟩ := hS; go_simp) hS ?_
  refine obTakeH (i := 10) (d := 14) (v := .pointer (some ⟨B, 0, none⟩)) rfl rfl (by kernel_rfl) (by kernel_rfl) (by kernel_rfl) (fun _ _ _ h => h) rfl (fun w hS => by obtain ⟨c0, c1⟩ := hS; go_simp) hS ?_
  refine obTakeH (i := 11) (d := 15) (v := .pointer (some ⟨B, 0, none⟩)) rfl rfl (by kernel_rfl) (by kernel_rfl) (by kernel_rfl) (fun _ _ _ h => h) rfl (fun w hS => by obtain ⟨c0, c1⟩ := hS; go_simp) hS ?_
  refine obTakeH (i := 12) (d := 16) (v := .int .i64 sr) rfl rfl (by kernel_rfl) (by kernel_rfl) (by kernel_rfl) (fun _ _ _ h => h) rfl (fun w hS => by obtain ⟨c0, c1⟩ := hS; go_simp) hS ?_
  refine obTakeH (i := 13) (d := 17) (v := .int .i64 n) rfl rfl (by kernel_rfl) (by kernel_rfl) (by kernel_rfl) (fun _ _ _ h => h) rfl (fun w hS => by obtain ⟨c0, c1⟩ := hS; go_simp) hS ?_
  try simp only [Act.put, List.setIfInBounds_toArray, List.set_cons_succ, List.set_cons_zero]
  refine wpAnyH_all (rs := [8, 14]) (by kernel_rfl) (by simp) (fun y hy => ?_)
  have hy2 : y = 8 ∨ y = 14 := by simpa using hy
  clear hy
  rcases hy2 with rfl | rfl
  · refine wpOp_step rfl (fun K' hK => ?_)
    go_simp
    refine hK _ _ ⟨hS, ?_⟩
    clear hK K'
    try simp only [Act.put, List.setIfInBounds_toArray, List.set_cons_succ, List.set_cons_zero]
    refine wpAnyH_all (rs := [14]) (by kernel_rfl) (by simp) (fun y hy => ?_)
    obtain rfl : y = 14 := by simpa using hy
    clear hy
    refine wpOp_step rfl (fun K' hK => ?_)
    refine obCall1 (k1 := 17) (d := 18) (x1 := .int .i64 n) 17 _ rfl rfl _ _ _ _ (fun _ => rfl) rfl (W1.out _) (fun e w2 hR => ?_)
    obtain ⟨rfl, rfl⟩ := hR
    refine ⟨_, rfl, hK _ _ ⟨hS, ?_⟩⟩
    clear hK K'
    try simp only [Act.put, List.setIfInBounds_toArray, List.set_cons_succ, List.set_cons_zero]
    refine obTakeH (i := 15) (d := 19) (v := .int .i64 m) rfl rfl (by kernel_rfl) (by kernel_rfl) (by kernel_rfl) (fun _ _ _ h => h) rfl (fun w hS => by obtain ⟨c0, c1⟩ := hS; have e2 := e2.out; go_simp) hS ?_
    try simp only [Act.put, List.setIfInBounds_toArray, List.set_cons_succ, List.set_cons_zero]
    refine obTakeH (i := 16) (d := 20) (v := .int .i64 q) rfl rfl (by kernel_rfl) (by kernel_rfl) (by kernel_rfl) (fun _ _ _ h => h) rfl (fun w hS => by obtain ⟨c0, c1⟩ := hS; have e3 := e3.out; have hq := hq.out; subst hq; go_simp) hS ?_
    try simp only [Act.put, List.setIfInBounds_toArray, List.set_cons_succ, List.set_cons_zero]
    refine obTakeH (i := 17) (d := 21) (v := .int .i64 F) rfl rfl (by kernel_rfl) (by kernel_rfl) (by kernel_rfl) (fun _ _ _ h => h) rfl (fun w hS => by obtain ⟨c0, c1⟩ := hS; have hz := hz.out; have hz2 := hz2.out; have hz3 := hz3.out; go_simp) hS ?_
    try simp only [Act.put, List.setIfInBounds_toArray, List.set_cons_succ, List.set_cons_zero]
    refine obTakeH (i := 18) (d := 22) (v := .pointer (some ⟨B, 0, none⟩)) rfl rfl (by kernel_rfl) (by kernel_rfl) (by kernel_rfl) (fun _ _ _ h => h) rfl (fun w hS => by obtain ⟨c0, c1⟩ := hS; go_simp) hS ?_
    try simp only [Act.put, List.setIfInBounds_toArray, List.set_cons_succ, List.set_cons_zero]
    refine obTakeH (i := 19) (d := 23) (v := .pointer (some ⟨B, 2, none⟩)) rfl rfl (by kernel_rfl) (by kernel_rfl) (by kernel_rfl) (fun _ _ _ h => h) rfl (fun w hS => by obtain ⟨c0, c1⟩ := hS; go_simp) hS ?_
    try simp only [Act.put, List.setIfInBounds_toArray, List.set_cons_succ, List.set_cons_zero]
    refine wpAnyH_all (rs := [20]) (by kernel_rfl) (by simp) (fun y hy => ?_)
    obtain rfl : y = 20 := by simpa using hy
    clear hy
    refine wpOp_step rfl (fun K' hK => ?_)
    obtain ⟨hp, hkp⟩ := hput.out
    go_simp
    refine hK _ _ ⟨⟨hp.cell 0 rfl, hp.cell 1 rfl⟩, ?_⟩
    clear hK K' hc2 hf2 hS hput
    generalize wd.setCell ⟨B, 2, none⟩ (.int .i64 F) = wc at *
    try simp only [Act.put, List.setIfInBounds_toArray, List.set_cons_succ, List.set_cons_zero]
    refine wpAnyH_done (by kernel_rfl) ?_ 0
    replace hp := Lib.hid hp
    replace hkp := Lib.hid hkp
    go_wp2_with fail
    go_end0
    exact ⟨rfl, hp.out, hkp.out⟩
  · refine wpOp_step rfl (fun K' hK => ?_)
    refine obCall1 (k1 := 17) (d := 18) (x1 := .int .i64 n) 17 _ rfl rfl _ _ _ _ (fun _ => rfl) rfl (W1.out _) (fun e w2 hR => ?_)
    obtain ⟨rfl, rfl⟩ := hR
    refine ⟨_, rfl, hK _ _ ⟨hS, ?_⟩⟩
    clear hK K'
    try simp only [Act.put, List.setIfInBounds_toArray, List.set_cons_succ, List.set_cons_zero]
    refine obTakeH (i := 15) (d := 19) (v := .int .i64 m) rfl rfl (by kernel_rfl) (by kernel_rfl) (by kernel_rfl) (fun _ _ _ h => h) rfl (fun w hS => by obtain ⟨c0, c1⟩ := hS; have e2 := e2.out; go_simp) hS ?_
    try simp only [Act.put, List.setIfInBounds_toArray, List.set_cons_succ, List.set_cons_zero]
    refine wpAnyH_all (rs := [8]) (by kernel_rfl) (by simp) (fun y hy => ?_)
    obtain rfl : y = 8 := by simpa using hy
    clear hy
    refine wpOp_step rfl (fun K' hK => ?_)
    go_simp
    refine hK _ _ ⟨hS, ?_⟩
    clear hK K'
    try simp only [Act.put, List.setIfInBounds_toArray, List.set_cons_succ, List.set_cons_zero]
    refine obTakeH (i := 16) (d := 20) (v := .int .i64 q) rfl rfl (by kernel_rfl) (by kernel_rfl) (by kernel_rfl) (fun _ _ _ h => h) rfl (fun w hS => by obtain ⟨c0, c1⟩ := hS; have e3 := e3.out; have hq := hq.out; subst hq; go_simp) hS ?_
    try simp only [Act.put, List.setIfInBounds_toArray, List.set_cons_succ, List.set_cons_zero]
    refine obTakeH (i := 17) (d := 21) (v := .int .i64 F) rfl rfl (by kernel_rfl) (by kernel_rfl) (by kernel_rfl) (fun _ _ _ h => h) rfl (fun w hS => by obtain ⟨c0, c1⟩ := hS; have hz := hz.out; have hz2 := hz2.out; have hz3 := hz3.out; go_simp) hS ?_
    try simp only [Act.put, List.setIfInBounds_toArray, List.set_cons_succ, List.set_cons_zero]
    refine obTakeH (i := 18) (d := 22) (v := .pointer (some ⟨B, 0, none⟩)) rfl rfl (by kernel_rfl) (by kernel_rfl) (by kernel_rfl) (fun _ _ _ h => h) rfl (fun w hS => by obtain ⟨c0, c1⟩ := hS; go_simp) hS ?_
    try simp only [Act.put, List.setIfInBounds_toArray, List.set_cons_succ, List.set_cons_zero]
    refine obTakeH (i := 19) (d := 23) (v := .pointer (some ⟨B, 2, none⟩)) rfl rfl (by kernel_rfl) (by kernel_rfl) (by kernel_rfl) (fun _ _ _ h => h) rfl (fun w hS => by obtain ⟨c0, c1⟩ := hS; go_simp) hS ?_
    try simp only [Act.put, List.setIfInBounds_toArray, List.set_cons_succ, List.set_cons_zero]
    refine wpAnyH_all (rs := [20]) (by kernel_rfl) (by simp) (fun y hy => ?_)
    obtain rfl : y = 20 := by simpa using hy
    clear hy
    refine wpOp_step rfl (fun K' hK => ?_)
    obtain ⟨hp, hkp⟩ := hput.out
    go_simp
    refine hK _ _ ⟨⟨hp.cell 0 rfl, hp.cell 1 rfl⟩, ?_⟩
    clear hK K' hc2 hf2 hS hput
    generalize wd.setCell ⟨B, 2, none⟩ (.int .i64 F) = wc at *
    try simp only [Act.put, List.setIfInBounds_toArray, List.set_cons_succ, List.set_cons_zero]
    refine wpAnyH_done (by kernel_rfl) ?_ 0
    replace hp := Lib.hid hp
    replace hkp := Lib.hid hkp
    go_wp2_with fail
    go_end0
    exact ⟨rfl, hp.out, hkp.out⟩
theorem rbtake_ok (B : Nat) (s : Bkt) (n : Int) (w : World) (h : Lies w B s.cells) (ok : s.Ok) :
    Calls Try.prog 11 #[.pointer (some ⟨B, 0, none⟩), .int .i64 n] w fun e w' => e = .returned (.bool (bkYes s n)) ∧ Lies w' B (bkTake s n).cells ∧ Kept (fun j => j = B) w w' := by
  have c0 := h.cell 0 (v := .int .i64 s.r) rfl
  have c2 := h.cell 2 (v := .int .i64 s.lv) rfl
  have c3 := h.cell 3 (v := .int .i64 s.tk) rfl
  have c4 := h.cell 4 (v := .int .i64 s.nt) rfl
  have z2 := h.free 2 (by show 2 < 5; decide)
  have z3 := h.free 3 (by show 3 < 5; decide)
  have z4 := h.free 4 (by show 4 < 5; decide)
  by_cases h0 : n < 0
  · have ey : bkYes s n = false := by unfold bkYes; rw [decide_eq_false (by omega)]; rfl
    have et : bkTake s n = s := by unfold bkTake; rw [if_pos h0]
    rw [ey, et]
    replace h := Lib.hid h
    go_enter Try.func11, Try.ntmps11
    go_wp2
    go_ret
    exact ⟨rfl, h.out, Kept.refl _ _⟩
  by_cases h1 : s.lv < n
  · have ey : bkYes s n = false := by unfold bkYes; rw [decide_eq_false (p := n ≤ s.lv) (by omega)]; simp
    have et : bkTake s n = { s with nt := wrap64 (s.nt + n) } := by unfold bkTake; rw [if_neg h0, if_pos h1]
    rw [ey, et]
    have hp := Lib.hid (h.put 4 (by show 4 < 5; decide) (.int .i64 (wrap64 (s.nt + n))))
    have hk := Lib.hid ((Kept.refl (fun j => j = B) w).set ⟨B, 4, none⟩ rfl (.int .i64 (wrap64 (s.nt + n))))
    clear h
    go_enter Try.func11, Try.ntmps11
    go_wp2
    go_ret
    exact ⟨rfl, hp.out, hk.out⟩
  · have ey : bkYes s n = true := by unfold bkYes; rw [decide_eq_true (by omega), decide_eq_true (by omega)]; rfl
    have et : bkTake s n = { s with lv := s.lv - n, tk := wrap64 (s.tk + n) } := by unfold bkTake; rw [if_neg h0, if_neg h1]
    have ew : wrap64 (s.lv - n) = s.lv - n := by have := ok.l1; have := ok.b1; unfold wrap64; omega
    rw [ey, et]
    have hp1 := h.put 2 (by show 2 < 5; decide) (.int .i64 (s.lv - n))
    have d3 := hp1.cell 3 (v := .int .i64 s.tk) rfl
    have y3 := hp1.free 3 (by show 3 < 5; decide)
    have hp := Lib.hid (hp1.put 3 (by show 3 < 5; decide) (.int .i64 (wrap64 (s.tk + n))))
    have hk := Lib.hid (((Kept.refl (fun j => j = B) w).set ⟨B, 2, none⟩ rfl (.int .i64 (s.lv - n))).set ⟨B, 3, none⟩ rfl (.int .i64 (wrap64 (s.tk + n))))
    clear h hp1
    go_enter Try.func11, Try.ntmps11
    go_wp2
    go_ret
    exact ⟨rfl, hp.out, hk.out⟩
end Go.Proofs.Yteednkonmnngkaa
