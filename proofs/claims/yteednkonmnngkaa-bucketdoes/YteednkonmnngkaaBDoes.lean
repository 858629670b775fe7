/-
  The law BucketDoes returns true for every rate, every burst and every row of acts: whatever is asked of a bucket is answered as the chapter says. No condition.
-/
import Derived.Test.YteednkonmnngkaaBkTwo
import Derived.Test.YteednkonmnngkaaBkOpen
import Derived.Deep.Cut
import Derived.Test.YteednkonmnngkaaBkOpen
import Derived.LaidLaws
namespace Go.Proofs.Yteednkonmnngkaa.bucketDoes
set_option maxRecDepth 100000
open Go.ChangeShapes Go.WideShapes Go.ChangeAt Go.RowKit
open Go.ChangeMaps (open_string shut_string)
set_option maxHeartbeats 16000000 in
theorem walk (r b : Int) (v : Value) (l : List BOp) (w : World) (h : BosAt w v l) (hz : l.length * 16 ≤ 140737488351232) (HB : ∀ x ∈ l, BoB x) :
    Calls Try.prog 3 #[.int .i64 r, .int .i64 b, v] w fun e w' => e = .returned (.bool true) ∧ Below w.heap.size w w' := by
  obtain ⟨a0, c0, hv, hcap⟩ : ∃ a c, v = .slice a l.length c ∧ l.length ≤ c := by
    obtain ⟨a, c, e, hc, _⟩ := h
    exact ⟨a, c, e, hc⟩
  obtain ⟨m, hm⟩ : ∃ m, m = l.length := ⟨_, rfl⟩
  have H : Hid (∀ i, i < m → ∃ g o, a0 = some ⟨g, o, none⟩ ∧ (∀ w', (Instr.indexAt 22 (.slice a0 m c0) (.int .i64 (i : Int))).run Try.prog w' = .ok (.pointer (some ⟨g, o + 2 * i, none⟩)) w') ∧ (∀ w', Below w.heap.size w w' → w'.cell? ⟨g, o + 2 * i, none⟩ = some (.bool (l.getD i bo0).tick) ∧ w'.cell? ⟨g, o + 2 * i + 1, none⟩ = some (.int .i64 (l.getD i bo0).n)) ∧ BoB (l.getD i bo0)) := fun i hi => by
    rw [hv, ← hm] at h
    obtain ⟨g, o, e, hg, c1, c2⟩ := h.get i hi
    refine ⟨g, o, e, fun w' => by rw [e]; exact at_bops g o m c0 i w' hi _ rfl _ rfl, fun w' b => ⟨(b.cell hg).trans c1, (b.cell hg).trans c2⟩, HB _ ?_⟩
    rw [List.getD_eq_getElem?_getD, List.getElem?_eq_getElem (by rw [← hm]; exact hi)]
    exact List.getElem_mem _
  obtain ⟨M, hM⟩ : ∃ M, M = min m 200 := ⟨_, rfl⟩
  have hMn : M ≤ m ∧ M ≤ 200 ∧ (M = m ∨ M = 200) := by omega
  rw [← hm] at hv hz
  subst hv
  clear h HB hM hcap hm
  have N1 := Lib.hid (one_new r b w w (Below.refl _ _))
  have N2 := Lib.hid fun (w' : World) (A : Nat) (s : Bkt) (h : One w w' A s) => two_rnew r b h
  have K := Lib.hid fun (w' : World) (A B : Nat) (s u : Bkt) (h : Two w w' A s B u) (n : Int) (hn : -9223372036854775808 ≤ n ∧ n ≤ 9223372036854775807) => two_take h n hn
  have KR := Lib.hid fun (w' : World) (A B : Nat) (s u : Bkt) (h : Two w w' A s B u) (n : Int) => two_rtake h n
  have T := Lib.hid fun (w' : World) (A B : Nat) (s u : Bkt) (h : Two w w' A s B u) (n : Int) => two_tick h n
  have TR := Lib.hid fun (w' : World) (A B : Nat) (s u : Bkt) (h : Two w w' A s B u) (n : Int) => two_rtick h n
  have L := Lib.hid fun (w' : World) (A B : Nat) (s u : Bkt) (h : Two w w' A s B u) => two_level h
  have CT := Lib.hid fun (w' : World) (A B : Nat) (s u : Bkt) (h : Two w w' A s B u) => two_counts h
  go_enter Try.func3, Try.ntmps3
  go_wp2_with fail
  refine N1.out.mono ?_
  rintro e w1 ⟨A, rfl, o⟩
  replace o := Lib.hid o
  clear N1
  generalize bkNew r b = s0 at *
  go_wp2_with fail
  refine (N2.out _ _ _ o.out).mono ?_
  rintro e w2 ⟨B, rfl, o2⟩
  replace o2 := Lib.hid o2
  clear N2 o
  go_wp2_with fail
  go_loopg [9] M (fun g iv wr => ∃ (i : Nat) (s : Bkt), i + g = M ∧ iv = .int .i64 i ∧ Hid (Two w wr A s B s))
  case atStart => exact ⟨0, s0, by omega, rfl, o2⟩
  case round =>
    clear o2
    obtain ⟨i, s, hi, rfl, o⟩ := hrel
    by_cases hlt : i < M
    · have q1 : decide (i < m) = true := decide_eq_true (by omega)
      have q2 : decide ((i : Int) < (m : Int)) = true := decide_eq_true (by omega)
      have q3 : decide ((i : Int) < 200) = true := decide_eq_true (by omega)
      have q4 : decide (i < 200) = true := decide_eq_true (by omega)
      obtain ⟨g, po, rfl, ia, CC, hb⟩ := H.out i (by omega)
      replace CC := Lib.hid CC
      obtain ⟨d1, d2⟩ := CC.out wr o.out.bel
      obtain ⟨x, hx⟩ : ∃ x, x = l.getD i bo0 := ⟨_, rfl⟩
      rw [← hx] at CC d1 d2 hb
      clear hx
      obtain ⟨tk, n⟩ := x
      simp only at CC d1 d2 hb
      cases tk
      · have C1 := Lib.hid fun w' h => K.out w' A B s s h n hb
        have C2 := Lib.hid fun w' h => KR.out w' A B (bkTake s n) s h n
        have eq : (bkYes s n != bkYes s n) = false := by simp
        clear K KR T TR H
        go_upto_region 10 with fail
        have hS : Two w wr.drew A s B s := o.out.keep (drewB _ _)
        clear o d1 d2 q1 q2 q3 q4
        have LD : Hid (∀ w', Below w.heap.size w w' → w'.cell? ⟨g, po + 2 * i + 1, none⟩ = some (.int .i64 n)) := fun w' b => (CC.out w' b).2
        clear CC
        refine wp_region_held (S := fun w' => Below w.heap.size w w') (by kernel_rfl) ?_
        change wpAnyH _ .any _ _ _ 15 (Array.replicate 15 false) _ wr.drew
        generalize wr.drew = wd at *
        have o := hS
        replace hS := hS.bel
        refine obTakeH (i := 0) (d := 49) (v := .pointer (some ⟨A, 0, none⟩)) rfl rfl (by kernel_rfl) (by kernel_rfl) (by kernel_rfl) (fun _ _ _ h => h) rfl (fun w' hS => by have c0 := LD.out w' hS; go_simp) hS ?_
        refine obTakeH (i := 1) (d := 50) (v := .slice (some ⟨g, po, none⟩) m c0) rfl rfl (by kernel_rfl) (by kernel_rfl) (by kernel_rfl) (fun _ _ _ h => h) rfl (fun w' hS => by have c0 := LD.out w' hS; go_simp) hS ?_
        refine obTakeH (i := 2) (d := 51) (v := .int .i64 i) rfl rfl (by kernel_rfl) (by kernel_rfl) (by kernel_rfl) (fun _ _ _ h => h) rfl (fun w' hS => by have c0 := LD.out w' hS; go_simp) hS ?_
        refine obTakeH (i := 3) (d := 52) (v := .pointer (some ⟨g, po + 2 * i, none⟩)) rfl rfl (by kernel_rfl) (by kernel_rfl) (by kernel_rfl) (fun _ _ _ h => h) rfl (fun w' hS => by have c0 := LD.out w' hS; go_simp) hS ?_
        refine obTakeH (i := 4) (d := 53) (v := .pointer (some ⟨g, po + 2 * i + 1, none⟩)) rfl rfl (by kernel_rfl) (by kernel_rfl) (by kernel_rfl) (fun _ _ _ h => h) rfl (fun w' hS => by have c0 := LD.out w' hS; go_simp) hS ?_
        refine obTakeH (i := 5) (d := 54) (v := .int .i64 n) rfl rfl (by kernel_rfl) (by kernel_rfl) (by kernel_rfl) (fun _ _ _ h => h) rfl (fun w' hS => by have c0 := LD.out w' hS; go_simp) hS ?_
        refine obTakeH (i := 7) (d := 56) (v := .pointer (some ⟨B, 0, none⟩)) rfl rfl (by kernel_rfl) (by kernel_rfl) (by kernel_rfl) (fun _ _ _ h => h) rfl (fun w' hS => by have c0 := LD.out w' hS; go_simp) hS ?_
        refine obTakeH (i := 8) (d := 57) (v := .slice (some ⟨g, po, none⟩) m c0) rfl rfl (by kernel_rfl) (by kernel_rfl) (by kernel_rfl) (fun _ _ _ h => h) rfl (fun w' hS => by have c0 := LD.out w' hS; go_simp) hS ?_
        refine obTakeH (i := 9) (d := 58) (v := .int .i64 i) rfl rfl (by kernel_rfl) (by kernel_rfl) (by kernel_rfl) (fun _ _ _ h => h) rfl (fun w' hS => by have c0 := LD.out w' hS; go_simp) hS ?_
        refine obTakeH (i := 10) (d := 59) (v := .pointer (some ⟨g, po + 2 * i, none⟩)) rfl rfl (by kernel_rfl) (by kernel_rfl) (by kernel_rfl) (fun _ _ _ h => h) rfl (fun w' hS => by have c0 := LD.out w' hS; go_simp) hS ?_
        refine obTakeH (i := 11) (d := 60) (v := .pointer (some ⟨g, po + 2 * i + 1, none⟩)) rfl rfl (by kernel_rfl) (by kernel_rfl) (by kernel_rfl) (fun _ _ _ h => h) rfl (fun w' hS => by have c0 := LD.out w' hS; go_simp) hS ?_
        refine obTakeH (i := 12) (d := 61) (v := .int .i64 n) rfl rfl (by kernel_rfl) (by kernel_rfl) (by kernel_rfl) (fun _ _ _ h => h) rfl (fun w' hS => by have c0 := LD.out w' hS; go_simp) hS ?_
        try simp only [Act.put, List.setIfInBounds_toArray, List.set_cons_succ, List.set_cons_zero]
        refine wpAnyH_all (rs := [6]) (by kernel_rfl) (by simp) (fun y hy => ?_)
        obtain rfl : y = 6 := by simpa using hy
        clear hy
        refine wpOp_step rfl (fun K' hK => ?_)
        refine obCall2 (k1 := 49) (k2 := 54) (d := 55) (x1 := .pointer (some ⟨A, 0, none⟩)) (x2 := .int .i64 n) 10 _ rfl rfl _ _ _ _ (fun _ => rfl) rfl rfl (C1.out _ o) (fun e w5 hR => ?_)
        obtain ⟨rfl, o1⟩ := hR
        refine ⟨_, rfl, hK _ _ ⟨o1.bel, ?_⟩⟩
        clear hK K' o
        try simp only [Act.put, List.setIfInBounds_toArray, List.set_cons_succ, List.set_cons_zero]
        refine wpAnyH_all (rs := [13]) (by kernel_rfl) (by simp) (fun y hy => ?_)
        obtain rfl : y = 13 := by simpa using hy
        clear hy
        refine wpOp_step rfl (fun K' hK => ?_)
        refine obCall2 (k1 := 56) (k2 := 61) (d := 62) (x1 := .pointer (some ⟨B, 0, none⟩)) (x2 := .int .i64 n) 11 _ rfl rfl _ _ _ _ (fun _ => rfl) rfl rfl (C2.out _ o1) (fun e w6 hR => ?_)
        obtain ⟨rfl, o2⟩ := hR
        refine ⟨_, rfl, hK _ _ ⟨o2.bel, ?_⟩⟩
        clear hK K' o1
        replace hS := o2.bel
        try simp only [Act.put, List.setIfInBounds_toArray, List.set_cons_succ, List.set_cons_zero]
        refine obTakeH (i := 14) (d := 63) (v := .bool false) rfl rfl (by kernel_rfl) (by kernel_rfl) (by kernel_rfl) (fun _ _ _ h => h) rfl (fun w' hS => by have c0 := LD.out w' hS; go_simp) hS ?_
        try simp only [Act.put, List.setIfInBounds_toArray, List.set_cons_succ, List.set_cons_zero]
        refine wpAnyH_done (by kernel_rfl) ?_ 0
        clear hS C1 C2 eq LD
        have o := o2
        clear o2
        generalize bkTake s n = s at *
        replace o := Lib.hid o
        go_wp2_with fail
        refine (CT.out _ _ _ _ _ o.out).mono ?_
        rintro e w8 ⟨rfl, o⟩
        have bel := Lib.hid o.bel
        have L0 := Lib.hid fun w' (h : Two w w' A s B s) => L.out w' A B s s h
        have SB : Hid (∀ w', Two w w' A s B s → w'.cell? ⟨B, 2, none⟩ = some (.int .i64 s.lv) ∧ w'.cell? ⟨B, 3, none⟩ = some (.int .i64 s.tk) ∧ w'.cell? ⟨B, 4, none⟩ = some (.int .i64 s.nt)) := fun w' h => ⟨h.lb.cell 2 rfl, h.lb.cell 3 rfl, h.lb.cell 4 rfl⟩
        go_upto_region 13 with fail
        have hS : Two w w8.drew A s B s := o.keep (drewB _ _)
        clear o
        refine wp_region_held (S := fun w' => Two w w' A s B s) (by kernel_rfl) ?_
        change wpAnyH _ .any _ _ _ 23 (Array.replicate 23 false) _ w8.drew
        generalize w8.drew = wd at *
        refine obTakeH (i := 0) (d := 69) (v := .pointer (some ⟨A, 0, none⟩)) rfl rfl (by kernel_rfl) (by kernel_rfl) (by kernel_rfl) (fun _ _ _ h => h) rfl (fun w' hS => by obtain ⟨c2, c3, c4⟩ := SB.out w' hS; go_simp) hS ?_
        refine obTakeH (i := 2) (d := 71) (v := .pointer (some ⟨B, 0, none⟩)) rfl rfl (by kernel_rfl) (by kernel_rfl) (by kernel_rfl) (fun _ _ _ h => h) rfl (fun w' hS => by obtain ⟨c2, c3, c4⟩ := SB.out w' hS; go_simp) hS ?_
        refine obTakeH (i := 3) (d := 72) (v := .pointer (some ⟨B, 0, none⟩)) rfl rfl (by kernel_rfl) (by kernel_rfl) (by kernel_rfl) (fun _ _ _ h => h) rfl (fun w' hS => by obtain ⟨c2, c3, c4⟩ := SB.out w' hS; go_simp) hS ?_
        refine obTakeH (i := 4) (d := 73) (v := .pointer (some ⟨B, 2, none⟩)) rfl rfl (by kernel_rfl) (by kernel_rfl) (by kernel_rfl) (fun _ _ _ h => h) rfl (fun w' hS => by obtain ⟨c2, c3, c4⟩ := SB.out w' hS; go_simp) hS ?_
        refine obTakeH (i := 5) (d := 74) (v := .int .i64 s.lv) rfl rfl (by kernel_rfl) (by kernel_rfl) (by kernel_rfl) (fun _ _ _ h => h) rfl (fun w' hS => by obtain ⟨c2, c3, c4⟩ := SB.out w' hS; go_simp) hS ?_
        try simp only [Act.put, List.setIfInBounds_toArray, List.set_cons_succ, List.set_cons_zero]
        refine wpAnyH_all (rs := [1]) (by kernel_rfl) (by simp) (fun y hy => ?_)
        obtain rfl : y = 1 := by simpa using hy
        clear hy
        refine wpOp_step rfl (fun K' hK => ?_)
        refine obCall1 (k1 := 69) (d := 70) (x1 := .pointer (some ⟨A, 0, none⟩)) 13 _ rfl rfl _ _ _ _ (fun _ => rfl) rfl (L0.out _ hS) (fun e w9 hR => ?_)
        obtain ⟨rfl, rfl⟩ := hR
        refine ⟨_, rfl, hK _ _ ⟨hS, ?_⟩⟩
        clear hK K'
        try simp only [Act.put, List.setIfInBounds_toArray, List.set_cons_succ, List.set_cons_zero]
        refine obTakeH (i := 6) (d := 75) (v := .bool false) rfl rfl (by kernel_rfl) (by kernel_rfl) (by kernel_rfl) (fun _ _ _ h => h) rfl (fun w' hS => by obtain ⟨c2, c3, c4⟩ := SB.out w' hS; go_simp) hS ?_
        refine obTakeH (i := 7) (d := 76) (v := .bool false) rfl rfl (by kernel_rfl) (by kernel_rfl) (by kernel_rfl) (fun _ _ _ h => h) rfl (fun w' hS => by obtain ⟨c2, c3, c4⟩ := SB.out w' hS; go_simp) hS ?_
        try simp only [Act.put, List.setIfInBounds_toArray, List.set_cons_succ, List.set_cons_zero]
        refine obTakeHG (i := 8) (d := 77) (v := .int .i64 s.tk) rfl rfl (by kernel_rfl) (by kernel_rfl) (by kernel_rfl) (fun _ _ _ h => h) (by kernel_rfl) (fun w' hS => by obtain ⟨c2, c3, c4⟩ := SB.out w' hS; go_simp) hS ?_
        try simp only [Act.put, List.setIfInBounds_toArray, List.set_cons_succ, List.set_cons_zero]
        refine obTakeHG (i := 9) (d := 78) (v := .pointer (some ⟨B, 0, none⟩)) rfl rfl (by kernel_rfl) (by kernel_rfl) (by kernel_rfl) (fun _ _ _ h => h) (by kernel_rfl) (fun w' hS => by obtain ⟨c2, c3, c4⟩ := SB.out w' hS; go_simp) hS ?_
        try simp only [Act.put, List.setIfInBounds_toArray, List.set_cons_succ, List.set_cons_zero]
        refine obTakeHG (i := 10) (d := 79) (v := .pointer (some ⟨B, 0, none⟩)) rfl rfl (by kernel_rfl) (by kernel_rfl) (by kernel_rfl) (fun _ _ _ h => h) (by kernel_rfl) (fun w' hS => by obtain ⟨c2, c3, c4⟩ := SB.out w' hS; go_simp) hS ?_
        try simp only [Act.put, List.setIfInBounds_toArray, List.set_cons_succ, List.set_cons_zero]
        refine obTakeHG (i := 11) (d := 80) (v := .pointer (some ⟨B, 3, none⟩)) rfl rfl (by kernel_rfl) (by kernel_rfl) (by kernel_rfl) (fun _ _ _ h => h) (by kernel_rfl) (fun w' hS => by obtain ⟨c2, c3, c4⟩ := SB.out w' hS; go_simp) hS ?_
        try simp only [Act.put, List.setIfInBounds_toArray, List.set_cons_succ, List.set_cons_zero]
        refine obTakeHG (i := 12) (d := 81) (v := .int .i64 s.tk) rfl rfl (by kernel_rfl) (by kernel_rfl) (by kernel_rfl) (fun _ _ _ h => h) (by kernel_rfl) (fun w' hS => by obtain ⟨c2, c3, c4⟩ := SB.out w' hS; go_simp) hS ?_
        try simp only [Act.put, List.setIfInBounds_toArray, List.set_cons_succ, List.set_cons_zero]
        refine obTakeHG (i := 13) (d := 82) (v := .bool false) rfl rfl (by kernel_rfl) (by kernel_rfl) (by kernel_rfl) (fun _ _ _ h => h) (by kernel_rfl) (fun w' hS => by obtain ⟨c2, c3, c4⟩ := SB.out w' hS; go_simp) hS ?_
        try simp only [Act.put, List.setIfInBounds_toArray, List.set_cons_succ, List.set_cons_zero]
        refine obTakeH (i := 14) (d := 83) (v := .bool false) rfl rfl (by kernel_rfl) (by kernel_rfl) (by kernel_rfl) (fun _ _ _ h => h) rfl (fun w' hS => by obtain ⟨c2, c3, c4⟩ := SB.out w' hS; go_simp) hS ?_
        refine obTakeH (i := 15) (d := 84) (v := .bool false) rfl rfl (by kernel_rfl) (by kernel_rfl) (by kernel_rfl) (fun _ _ _ h => h) rfl (fun w' hS => by obtain ⟨c2, c3, c4⟩ := SB.out w' hS; go_simp) hS ?_
        try simp only [Act.put, List.setIfInBounds_toArray, List.set_cons_succ, List.set_cons_zero]
        refine obTakeHG (i := 16) (d := 85) (v := .int .i64 s.nt) rfl rfl (by kernel_rfl) (by kernel_rfl) (by kernel_rfl) (fun _ _ _ h => h) (by kernel_rfl) (fun w' hS => by obtain ⟨c2, c3, c4⟩ := SB.out w' hS; go_simp) hS ?_
        try simp only [Act.put, List.setIfInBounds_toArray, List.set_cons_succ, List.set_cons_zero]
        refine obTakeHG (i := 17) (d := 86) (v := .pointer (some ⟨B, 0, none⟩)) rfl rfl (by kernel_rfl) (by kernel_rfl) (by kernel_rfl) (fun _ _ _ h => h) (by kernel_rfl) (fun w' hS => by obtain ⟨c2, c3, c4⟩ := SB.out w' hS; go_simp) hS ?_
        try simp only [Act.put, List.setIfInBounds_toArray, List.set_cons_succ, List.set_cons_zero]
        refine obTakeHG (i := 18) (d := 87) (v := .pointer (some ⟨B, 0, none⟩)) rfl rfl (by kernel_rfl) (by kernel_rfl) (by kernel_rfl) (fun _ _ _ h => h) (by kernel_rfl) (fun w' hS => by obtain ⟨c2, c3, c4⟩ := SB.out w' hS; go_simp) hS ?_
        try simp only [Act.put, List.setIfInBounds_toArray, List.set_cons_succ, List.set_cons_zero]
        refine obTakeHG (i := 19) (d := 88) (v := .pointer (some ⟨B, 4, none⟩)) rfl rfl (by kernel_rfl) (by kernel_rfl) (by kernel_rfl) (fun _ _ _ h => h) (by kernel_rfl) (fun w' hS => by obtain ⟨c2, c3, c4⟩ := SB.out w' hS; go_simp) hS ?_
        try simp only [Act.put, List.setIfInBounds_toArray, List.set_cons_succ, List.set_cons_zero]
        refine obTakeHG (i := 20) (d := 89) (v := .int .i64 s.nt) rfl rfl (by kernel_rfl) (by kernel_rfl) (by kernel_rfl) (fun _ _ _ h => h) (by kernel_rfl) (fun w' hS => by obtain ⟨c2, c3, c4⟩ := SB.out w' hS; go_simp) hS ?_
        try simp only [Act.put, List.setIfInBounds_toArray, List.set_cons_succ, List.set_cons_zero]
        refine obTakeHG (i := 21) (d := 90) (v := .bool false) rfl rfl (by kernel_rfl) (by kernel_rfl) (by kernel_rfl) (fun _ _ _ h => h) (by kernel_rfl) (fun w' hS => by obtain ⟨c2, c3, c4⟩ := SB.out w' hS; go_simp) hS ?_
        try simp only [Act.put, List.setIfInBounds_toArray, List.set_cons_succ, List.set_cons_zero]
        refine obTakeH (i := 22) (d := 91) (v := .bool false) rfl rfl (by kernel_rfl) (by kernel_rfl) (by kernel_rfl) (fun _ _ _ h => h) rfl (fun w' hS => by obtain ⟨c2, c3, c4⟩ := SB.out w' hS; go_simp) hS ?_
        try simp only [Act.put, List.setIfInBounds_toArray, List.set_cons_succ, List.set_cons_zero]
        refine wpAnyH_done (by kernel_rfl) ?_ 0
        replace hS := Lib.hid hS
        clear SB L0
        go_wp2_with fail
        go_roundg (M - (i + 1))
        case measure => omega
        case rel => exact ⟨i + 1, s, by omega, by go_num, hS.out⟩
      · have hn : Hid (-9223372036854775808 ≤ n ∧ n ≤ 9223372036854775807) := hb
        clear K KR H
        go_wp2_with fail
        refine (T.out _ _ _ _ _ o.out n).mono ?_
        rintro e w5 ⟨rfl, o⟩
        obtain ⟨d1, d2⟩ := CC.out w5 o.bel
        replace o := Lib.hid o
        go_wp2_with fail
        refine (TR.out _ _ _ _ _ o.out n).mono ?_
        rintro e w6 ⟨rfl, o⟩
        clear T TR CC d1 d2
        generalize bkTick s n = s at *
        replace o := Lib.hid o
        go_wp2_with fail
        refine (CT.out _ _ _ _ _ o.out).mono ?_
        rintro e w8 ⟨rfl, o⟩
        have bel := Lib.hid o.bel
        have L0 := Lib.hid fun w' (h : Two w w' A s B s) => L.out w' A B s s h
        have SB : Hid (∀ w', Two w w' A s B s → w'.cell? ⟨B, 2, none⟩ = some (.int .i64 s.lv) ∧ w'.cell? ⟨B, 3, none⟩ = some (.int .i64 s.tk) ∧ w'.cell? ⟨B, 4, none⟩ = some (.int .i64 s.nt)) := fun w' h => ⟨h.lb.cell 2 rfl, h.lb.cell 3 rfl, h.lb.cell 4 rfl⟩
        go_upto_region 13 with fail
        have hS : Two w w8.drew A s B s := o.keep (drewB _ _)
        clear o
        refine wp_region_held (S := fun w' => Two w w' A s B s) (by kernel_rfl) ?_
        change wpAnyH _ .any _ _ _ 23 (Array.replicate 23 false) _ w8.drew
        generalize w8.drew = wd at *
        refine obTakeH (i := 0) (d := 69) (v := .pointer (some ⟨A, 0, none⟩)) rfl rfl (by kernel_rfl) (by kernel_rfl) (by kernel_rfl) (fun _ _ _ h => h) rfl (fun w' hS => by obtain ⟨c2, c3, c4⟩ := SB.out w' hS; go_simp) hS ?_
        refine obTakeH (i := 2) (d := 71) (v := .pointer (some ⟨B, 0, none⟩)) rfl rfl (by kernel_rfl) (by kernel_rfl) (by kernel_rfl) (fun _ _ _ h => h) rfl (fun w' hS => by obtain ⟨c2, c3, c4⟩ := SB.out w' hS; go_simp) hS ?_
        refine obTakeH (i := 3) (d := 72) (v := .pointer (some ⟨B, 0, none⟩)) rfl rfl (by kernel_rfl) (by kernel_rfl) (by kernel_rfl) (fun _ _ _ h => h) rfl (fun w' hS => by obtain ⟨c2, c3, c4⟩ := SB.out w' hS; go_simp) hS ?_
        refine obTakeH (i := 4) (d := 73) (v := .pointer (some ⟨B, 2, none⟩)) rfl rfl (by kernel_rfl) (by kernel_rfl) (by kernel_rfl) (fun _ _ _ h => h) rfl (fun w' hS => by obtain ⟨c2, c3, c4⟩ := SB.out w' hS; go_simp) hS ?_
        refine obTakeH (i := 5) (d := 74) (v := .int .i64 s.lv) rfl rfl (by kernel_rfl) (by kernel_rfl) (by kernel_rfl) (fun _ _ _ h => h) rfl (fun w' hS => by obtain ⟨c2, c3, c4⟩ := SB.out w' hS; go_simp) hS ?_
        try simp only [Act.put, List.setIfInBounds_toArray, List.set_cons_succ, List.set_cons_zero]
        refine wpAnyH_all (rs := [1]) (by kernel_rfl) (by simp) (fun y hy => ?_)
        obtain rfl : y = 1 := by simpa using hy
        clear hy
        refine wpOp_step rfl (fun K' hK => ?_)
        refine obCall1 (k1 := 69) (d := 70) (x1 := .pointer (some ⟨A, 0, none⟩)) 13 _ rfl rfl _ _ _ _ (fun _ => rfl) rfl (L0.out _ hS) (fun e w9 hR => ?_)
        obtain ⟨rfl, rfl⟩ := hR
        refine ⟨_, rfl, hK _ _ ⟨hS, ?_⟩⟩
        clear hK K'
        try simp only [Act.put, List.setIfInBounds_toArray, List.set_cons_succ, List.set_cons_zero]
        refine obTakeH (i := 6) (d := 75) (v := .bool false) rfl rfl (by kernel_rfl) (by kernel_rfl) (by kernel_rfl) (fun _ _ _ h => h) rfl (fun w' hS => by obtain ⟨c2, c3, c4⟩ := SB.out w' hS; go_simp) hS ?_
        refine obTakeH (i := 7) (d := 76) (v := .bool false) rfl rfl (by kernel_rfl) (by kernel_rfl) (by kernel_rfl) (fun _ _ _ h => h) rfl (fun w' hS => by obtain ⟨c2, c3, c4⟩ := SB.out w' hS; go_simp) hS ?_
        try simp only [Act.put, List.setIfInBounds_toArray, List.set_cons_succ, List.set_cons_zero]
        refine obTakeHG (i := 8) (d := 77) (v := .int .i64 s.tk) rfl rfl (by kernel_rfl) (by kernel_rfl) (by kernel_rfl) (fun _ _ _ h => h) (by kernel_rfl) (fun w' hS => by obtain ⟨c2, c3, c4⟩ := SB.out w' hS; go_simp) hS ?_
        try simp only [Act.put, List.setIfInBounds_toArray, List.set_cons_succ, List.set_cons_zero]
        refine obTakeHG (i := 9) (d := 78) (v := .pointer (some ⟨B, 0, none⟩)) rfl rfl (by kernel_rfl) (by kernel_rfl) (by kernel_rfl) (fun _ _ _ h => h) (by kernel_rfl) (fun w' hS => by obtain ⟨c2, c3, c4⟩ := SB.out w' hS; go_simp) hS ?_
        try simp only [Act.put, List.setIfInBounds_toArray, List.set_cons_succ, List.set_cons_zero]
        refine obTakeHG (i := 10) (d := 79) (v := .pointer (some ⟨B, 0, none⟩)) rfl rfl (by kernel_rfl) (by kernel_rfl) (by kernel_rfl) (fun _ _ _ h => h) (by kernel_rfl) (fun w' hS => by obtain ⟨c2, c3, c4⟩ := SB.out w' hS; go_simp) hS ?_
        try simp only [Act.put, List.setIfInBounds_toArray, List.set_cons_succ, List.set_cons_zero]
        refine obTakeHG (i := 11) (d := 80) (v := .pointer (some ⟨B, 3, none⟩)) rfl rfl (by kernel_rfl) (by kernel_rfl) (by kernel_rfl) (fun _ _ _ h => h) (by kernel_rfl) (fun w' hS => by obtain ⟨c2, c3, c4⟩ := SB.out w' hS; go_simp) hS ?_
        try simp only [Act.put, List.setIfInBounds_toArray, List.set_cons_succ, List.set_cons_zero]
        refine obTakeHG (i := 12) (d := 81) (v := .int .i64 s.tk) rfl rfl (by kernel_rfl) (by kernel_rfl) (by kernel_rfl) (fun _ _ _ h => h) (by kernel_rfl) (fun w' hS => by obtain ⟨c2, c3, c4⟩ := SB.out w' hS; go_simp) hS ?_
        try simp only [Act.put, List.setIfInBounds_toArray, List.set_cons_succ, List.set_cons_zero]
        refine obTakeHG (i := 13) (d := 82) (v := .bool false) rfl rfl (by kernel_rfl) (by kernel_rfl) (by kernel_rfl) (fun _ _ _ h => h) (by kernel_rfl) (fun w' hS => by obtain ⟨c2, c3, c4⟩ := SB.out w' hS; go_simp) hS ?_
        try simp only [Act.put, List.setIfInBounds_toArray, List.set_cons_succ, List.set_cons_zero]
        refine obTakeH (i := 14) (d := 83) (v := .bool false) rfl rfl (by kernel_rfl) (by kernel_rfl) (by kernel_rfl) (fun _ _ _ h => h) rfl (fun w' hS => by obtain ⟨c2, c3, c4⟩ := SB.out w' hS; go_simp) hS ?_
        refine obTakeH (i := 15) (d := 84) (v := .bool false) rfl rfl (by kernel_rfl) (by kernel_rfl) (by kernel_rfl) (fun _ _ _ h => h) rfl (fun w' hS => by obtain ⟨c2, c3, c4⟩ := SB.out w' hS; go_simp) hS ?_
        try simp only [Act.put, List.setIfInBounds_toArray, List.set_cons_succ, List.set_cons_zero]
        refine obTakeHG (i := 16) (d := 85) (v := .int .i64 s.nt) rfl rfl (by kernel_rfl) (by kernel_rfl) (by kernel_rfl) (fun _ _ _ h => h) (by kernel_rfl) (fun w' hS => by obtain ⟨c2, c3, c4⟩ := SB.out w' hS; go_simp) hS ?_
        try simp only [Act.put, List.setIfInBounds_toArray, List.set_cons_succ, List.set_cons_zero]
        refine obTakeHG (i := 17) (d := 86) (v := .pointer (some ⟨B, 0, none⟩)) rfl rfl (by kernel_rfl) (by kernel_rfl) (by kernel_rfl) (fun _ _ _ h => h) (by kernel_rfl) (fun w' hS => by obtain ⟨c2, c3, c4⟩ := SB.out w' hS; go_simp) hS ?_
        try simp only [Act.put, List.setIfInBounds_toArray, List.set_cons_succ, List.set_cons_zero]
        refine obTakeHG (i := 18) (d := 87) (v := .pointer (some ⟨B, 0, none⟩)) rfl rfl (by kernel_rfl) (by kernel_rfl) (by kernel_rfl) (fun _ _ _ h => h) (by kernel_rfl) (fun w' hS => by obtain ⟨c2, c3, c4⟩ := SB.out w' hS; go_simp) hS ?_
        try simp only [Act.put, List.setIfInBounds_toArray, List.set_cons_succ, List.set_cons_zero]
        refine obTakeHG (i := 19) (d := 88) (v := .pointer (some ⟨B, 4, none⟩)) rfl rfl (by kernel_rfl) (by kernel_rfl) (by kernel_rfl) (fun _ _ _ h => h) (by kernel_rfl) (fun w' hS => by obtain ⟨c2, c3, c4⟩ := SB.out w' hS; go_simp) hS ?_
        try simp only [Act.put, List.setIfInBounds_toArray, List.set_cons_succ, List.set_cons_zero]
        refine obTakeHG (i := 20) (d := 89) (v := .int .i64 s.nt) rfl rfl (by kernel_rfl) (by kernel_rfl) (by kernel_rfl) (fun _ _ _ h => h) (by kernel_rfl) (fun w' hS => by obtain ⟨c2, c3, c4⟩ := SB.out w' hS; go_simp) hS ?_
        try simp only [Act.put, List.setIfInBounds_toArray, List.set_cons_succ, List.set_cons_zero]
        refine obTakeHG (i := 21) (d := 90) (v := .bool false) rfl rfl (by kernel_rfl) (by kernel_rfl) (by kernel_rfl) (fun _ _ _ h => h) (by kernel_rfl) (fun w' hS => by obtain ⟨c2, c3, c4⟩ := SB.out w' hS; go_simp) hS ?_
        try simp only [Act.put, List.setIfInBounds_toArray, List.set_cons_succ, List.set_cons_zero]
        refine obTakeH (i := 22) (d := 91) (v := .bool false) rfl rfl (by kernel_rfl) (by kernel_rfl) (by kernel_rfl) (fun _ _ _ h => h) rfl (fun w' hS => by obtain ⟨c2, c3, c4⟩ := SB.out w' hS; go_simp) hS ?_
        try simp only [Act.put, List.setIfInBounds_toArray, List.set_cons_succ, List.set_cons_zero]
        refine wpAnyH_done (by kernel_rfl) ?_ 0
        replace hS := Lib.hid hS
        clear SB L0
        go_wp2_with fail
        go_roundg (M - (i + 1))
        case measure => omega
        case rel => exact ⟨i + 1, s, by omega, by go_num, hS.out⟩
    · obtain rfl : i = M := by omega
      have bel := Lib.hid o.out.bel
      rcases hMn.2.2 with e | e
      · subst e
        have q1 : decide (i < i) = false := decide_eq_false (by omega)
        have q2 : decide ((i : Int) < (i : Int)) = false := decide_eq_false (by omega)
        clear H hMn hlt
        go_wp2_with fail
        go_ret
        exact ⟨rfl, bel.out⟩
      · subst e
        have q3 : decide (((200 : Nat) : Int) < 200) = false := by decide
        by_cases hm2 : 200 < m
        · have q1 : decide (200 < m) = true := decide_eq_true hm2
          have q2 : decide (((200 : Nat) : Int) < (m : Int)) = true := decide_eq_true (by omega)
          clear H hMn hlt
          go_wp2_with fail
          go_ret
          exact ⟨rfl, bel.out⟩
        · have q1 : decide (200 < m) = false := decide_eq_false hm2
          have q2 : decide (((200 : Nat) : Int) < (m : Int)) = false := decide_eq_false (by omega)
          clear H hMn hlt
          go_wp2_with fail
          go_ret
          exact ⟨rfl, bel.out⟩

theorem contract (H : Type) (enc : TypeId × Value → H) (W : World) (base : Nat) (args : Array Value) (ds gs : List (DataW H)) (before : List MemPlace)
    (hval : ∀ (j : Nat) t v, Try.f3.params[j]? = some t → args[j]? = some v → Value.okWide Try.prog W .any base t v)
    (hW : DataW.Whole enc Try.prog Try.f3.params.toList Rows.bucketDoesSpec.vars false W args.toList ds gs before)
    (hsz : (DataW.weightsEach Try.prog (Try.f3.params.toList ++ (OpenSpec.ofChange Rows.bucketDoesSpec).bare.plain.varTypes Try.prog) (ds ++ gs)).all (· ≤ reachBytes) = true) :
    Calls Try.prog 3 args W fun e W' => ∃ v, e = .returned v ∧ Rows.bucketDoesSpec.post enc Try.prog Try.f3 false true false false W args v W' := by
  have hW' := hW
  obtain ⟨p, q, hA0, hV, rfl, hfz, hnd⟩ := hW
  have hA : DataW.TrodAll enc Try.prog W 0 (fun _ => true) true Try.f3.params.toList args.toList ds p := hA0
  rw [Try.params3] at hA hval hsz
  obtain ⟨v0, vs0, d0, ds0, p0, q0, hargs, rfl, rfl, h0, r0⟩ := trodAll_cons hA
  obtain ⟨v1, vs1, d1, ds1, p1, q1, rfl, rfl, rfl, h1, r1⟩ := trodAll_cons r0
  obtain ⟨v2, vs2, d2, ds2, p2, q2, rfl, rfl, rfl, h2, r2⟩ := trodAll_cons r1
  obtain ⟨rfl, rfl, rfl⟩ := trodAll_nil r2
  obtain rfl : args = #[v0, v1, v2] := by cases args; simp_all
  obtain ⟨rfl, rfl⟩ := trodVars_none hV
  obtain ⟨a0, rfl, rfl, rfl, w0⟩ := open_int Try.underlying3 (hval 0 3 v0 rfl rfl) h0
  have b0 := bounds_i64 w0
  obtain ⟨a1, rfl, rfl, rfl, w1⟩ := open_int Try.underlying3 (hval 1 3 v1 rfl rfl) h1
  have b1 := bounds_i64 w1
  have k2 := h2
  have lt2 : ∀ x ∈ p2, x.block < W.heap.size := by obtain ⟨m, hm⟩ := k2; exact DataW.trod_lt m _ _ _ hm
  obtain ⟨l2, hs2, hz2, hb2⟩ := open_bops (hval 2 22 v2 rfl rfl) h2 (fun n hn => by simpa using List.all_eq_true.1 hsz _ (DataW.weights_mem_each (j := 2) (t := 22) rfl rfl n hn))
  clear hA0
  simp only [List.append_nil] at hW'
  refine (walk a0 a1 v2 l2 W hs2 hz2 hb2).mono fun e W' ⟨he, bel⟩ => ?_
  subst he
  exact ⟨_, rfl, _, _, _, [], _, [], hW', trodAll_mk1 (shut_bool Try.underlying4 _), (trodAll_cons_mk (shut_int Try.underlying3 w0) (trodAll_cons_mk (shut_int Try.underlying3 w1) (trodAll_cons_mk (Below.trod laidOut (by kernel_rfl) (of_decide_eq_true (by kernel_rfl)) k2 bel lt2) trodAll_mk0))), rfl, bel.frame _, fun h => by cases h⟩

theorem laid_met (os : Os) : laidMet Try.prog Rows.bucketDoesRow.laid ((startWorld Try.prog os).forCall (fun _ _ => 0) ⟨#[], #[.int .i64 0, .int .i64 0, .slice none 0 0], []⟩).memory :=
  laidMet_of_run' 8 (by kernel_rfl) (by kernel_rfl)
theorem reads (os : Os) {H : Type} (enc : TypeId × Value → H) : ∃ places, DataW.whole enc Try.prog ((startWorld Try.prog os).forCall (fun _ _ => 0) ⟨#[], #[.int .i64 0, .int .i64 0, .slice none 0 0], []⟩).memory Try.f3.params.toList Rows.bucketDoesSpec.vars false #[Value.int .i64 0, Value.int .i64 0, Value.slice none 0 0].toList 8 = some ([.lit (.int .i64 0), .lit (.int .i64 0), .nil], [], places) :=
  ⟨[], by kernel_rfl⟩

set_option maxRecDepth 100000 in
theorem lifted (os : Os) (started : os.Started) (H : Type) (enc : TypeId × Value → H) (F : Stop.Interp) :
    ReturnsInHanded {} Try.checked os 3 .any ((OpenSpec.ofChange Rows.bucketDoesSpec).preRow enc Try.prog Try.f3 Rows.bucketDoesRow.domain false Rows.bucketDoesRow.laid) (((OpenSpec.ofChange Rows.bucketDoesSpec).at F).post enc Try.prog Try.f3 false true false false) := by
  obtain ⟨places, hx⟩ := reads os enc
  refine returnsInHanded_of_row (C := Try.checked) (s := OpenSpec.ofChange Rows.bucketDoesSpec) own started (by kernel_rfl) Try.func3
    (witness_row_at (enc := enc) (C := Try.checked) false (startWorld Try.prog os) #[.int .i64 0, .int .i64 0, .slice none 0 0] rfl (by kernel_rfl) (by kernel_rfl) (by kernel_rfl)
      (OpenSpec.preRow_of_cond 8 hx (by kernel_rfl) (fun k hk => by cases hk) (by kernel_rfl) (laid_met os))) ?_
  intro W base args ds gs before hval hW _ _ hsz _ _ _
  exact contract H enc W base args ds gs before hval hW hsz

theorem said : Rows.BucketDoesSaid :=
  OpenClaim.holds_of_cond 3 Try.f3 rfl rfl rfl rfl rfl rfl rfl ⟨rfl, rfl, rfl, rfl, rfl⟩ rfl rfl rfl rfl rfl (by kernel_rfl) Try.func3 (by kernel_rfl)
    (of_decide_eq_true (by kernel_rfl)) (by unfold Func.isWrapper; first | (rw [if_pos (by decide +kernel)]; kernel_rfl) | (rw [if_neg (by decide +kernel)]; exact ⟨rfl, rfl⟩))
    (fun os started H enc _ F => by rw [OpenClaim.pre_eq_preRow]; exact lifted os started H enc F)
end Go.Proofs.Yteednkonmnngkaa.bucketDoes
namespace Go.Proofs.Yteednkonmnngkaa
theorem bucketDoes_said : Rows.BucketDoesSaid := bucketDoes.said
end Go.Proofs.Yteednkonmnngkaa
