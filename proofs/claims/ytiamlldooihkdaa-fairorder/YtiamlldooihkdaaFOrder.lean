/-
  The law FairOrder returns true for every limit, quantum and row of acts: all that was pushed and not dropped comes, each queue in its order; nothing else does. No condition.
-/
import Derived.Test.YtiamlldooihkdaaFaOr
import Derived.Test.YtiamlldooihkdaaObZer
import Derived.Test.YtiamlldooihkdaaObDraw
import Derived.Test.YtiamlldooihkdaaObRun
import Derived.Deep.Cut
import Derived.BigQuiet
import Derived.Test.YtiamlldooihkdaaFaOpen
import Derived.LaidLaws
namespace Go.Proofs.Ytiamlldooihkdaa.fairOrder
set_option maxRecDepth 100000
open Go.ChangeShapes Go.WideShapes Go.ChangeAt Go.RowKit
open Go.ChangeMaps (open_string shut_string)

theorem wrap_in {x y : Int} (e : x = y) (h0 : -9223372036854775808 ≤ y) (h1 : y ≤ 9223372036854775807) : wrap64 x = y := by subst e; unfold wrap64; omega
theorem push_m {f : FaQ} (ok : f.Ok) {x : Int} {s : ByteArray} (h : pushE f x s = 0) : setL (lsE f.r) x (lsE f.r x ++ [s]) = lsE (pushQ f x s).r := by
  funext y
  rw [(push_yes ok h).1 y]
  rfl
theorem push_n {f : FaQ} {x : Int} {s : ByteArray} (h : pushE f x s ≠ 0) : (pushQ f x s).r = f.r ∧ (pushQ f x s).pz = f.pz + 1 := by rw [push_not h]; exact ⟨rfl, rfl⟩
theorem push_p (f : FaQ) (x : Int) (s : ByteArray) : (pushQ f x s).pz = f.pz + 1 := by unfold pushQ; split <;> rfl
theorem drop_m {f : FaQ} (ok : f.Ok) (x : Int) : setL (lsE f.r) x [] = lsE (dropE f x).r := by
  funext y
  rw [(drop_tells ok x).1 y]
  rfl
theorem push_03 (f : FaQ) (x : Int) (s : ByteArray) : pushE f x s = 0 ∨ (0 < pushE f x s ∧ pushE f x s < 100) := by
  unfold pushE
  split
  · right; decide
  · split
    · left; rfl
    · split
      · right; decide
      · left; rfl
theorem In64.mk {x : Int} (h : In64 x) : In64 x := h
/-- What Next tells, where there is one. -/
theorem next_m {f : FaQ} (ok : f.Ok) (h : 0 < cntE f.r) : ∃ a s t, nextV f = .tuple #[.int .i64 a, .string s, .bool true] ∧ In64 a ∧ lsE f.r a = s :: t ∧ setL (lsE f.r) a t = lsE (nextE f).r ∧ cntE (nextE f).r + 1 = cntE f.r ∧ (nextE f).pz = f.pz := by
  obtain ⟨a, s, l, e1, e2, e3, e4, e5, e6, e7, e8⟩ := next_tells ok ((cnt_pos ok).2 h)
  refine ⟨a, s, l, by unfold nextV; rw [e1], ?_, e2, ?_, e4, e8⟩
  · have : tblE f.r a ≠ none := fun q => by unfold lsE at e2; rw [q] at e2; cases e2
    cases ht : tblE f.r a with
    | none => exact absurd ht this
    | some v =>
      obtain ⟨e, he, hid, -⟩ := tbl_some f.r a v.1 v.2 ht
      have := ok.i64 e he
      rw [← hid]
      exact this
  · funext y
    rw [e3]
    rfl
theorem next_z {f : FaQ} (ok : f.Ok) (h : cntE f.r = 0) : nextV f = .tuple #[.int .i64 0, .string ⟨#[]⟩, .bool false] ∧ nextE f = f := by
  have hr : f.r = [] := by
    cases hr : f.r with
    | nil => rfl
    | cons e t =>
      have := (cnt_pos ok).1 (by rw [hr]; simp)
      omega
  obtain ⟨e1, e2⟩ := next_none hr
  exact ⟨by unfold nextV; rw [e1]; rfl, e2⟩
theorem ls_len {f : FaQ} (ok : f.Ok) (x : Int) : (lsE f.r x).length ≤ cntE f.r := by
  unfold lsE
  cases ht : tblE f.r x with
  | none => exact Nat.zero_le _
  | some v =>
    obtain ⟨e, he, -, h1, -⟩ := tbl_some f.r x v.1 v.2 ht
    have := (len_cnt ok).2 e he
    simp only
    rw [← h1]
    exact this

set_option linter.unusedSimpArgs false in
set_option maxHeartbeats 8000000 in
theorem walk (limit qu : Int) (v : Value) (l : List FOp) (W : World) (hv : RowAt 3 foC fo0 W v l) (hz : l.length * 32 ≤ 140737488351232) (HB : ∀ x ∈ l, FoB x) :
    Calls Try.prog 4 #[.int .i64 limit, .int .i64 qu, v] W fun e w' => e = .returned (.bool true) ∧ Below W.heap.size W w' := by
  have WK := Lib.hid fun w' => works20_ok w'
  have HV := Lib.hid hv
  obtain ⟨ad, cap, rfl, -, -⟩ := hv
  obtain ⟨r, hr1, hr2, hr3⟩ := place9 qu 500 (by decide) (by decide)
  obtain ⟨L, hL⟩ : ∃ L : Nat, L = 1 + r := ⟨_, rfl⟩
  have e2 : wrap64 (1 + (r : Int)) = (L : Int) := wrap_in (by omega) (by omega) (by omega)
  have e3 : 1 + (r : Int) = (L : Int) := by omega
  obtain ⟨N, hN⟩ : ∃ N, N = l.length := ⟨_, rfl⟩
  rw [← hN] at hz HV ⊢
  have H : Hid (∀ i, i < N → ∃ g o, ad = some ⟨g, o, none⟩ ∧ (∀ w', (Instr.indexAt 22 (.slice ad N cap) (.int .i64 (i : Int))).run Try.prog w' = .ok (.pointer (some ⟨g, o + 3 * i, none⟩)) w') ∧ (∀ w', Below W.heap.size W w' → w'.cell? ⟨g, o + 3 * i, none⟩ = some (.int .i64 (l.getD i fo0).kind) ∧ w'.cell? ⟨g, o + 3 * i + 1, none⟩ = some (.int .i64 (l.getD i fo0).id) ∧ w'.cell? ⟨g, o + 3 * i + 2, none⟩ = some (.string (l.getD i fo0).s)) ∧ FoB (l.getD i fo0)) := fun i hi => by
    obtain ⟨g, o, e, hg, hc⟩ := HV.out.get i hi
    refine ⟨g, o, e, fun w' => by rw [e]; exact at_R Try.underlying22 (by intro w; kernel_rfl) g o N cap i w' hi _ rfl _ rfl, fun w' b => ⟨(b.cell hg).trans (hc 0 (by decide)), (b.cell hg).trans (hc 1 (by decide)), (b.cell hg).trans (hc 2 (by decide))⟩, HB _ ?_⟩
    rw [List.getD_eq_getElem?_getD, List.getElem?_eq_getElem (by rw [← hN]; exact hi)]
    exact List.getElem_mem _
  have hN64 : N ≤ 9223372036854775807 := by omega
  have hL0 : 1 ≤ L ∧ L ≤ 500 := by omega
  clear HV HB hL hz hN
  go_enter Try.func4, Try.ntmps4
  go_wp2_with fail
  refine (WK.out W).mono ?_
  rintro e w0 ⟨rfl, b0⟩
  have C := Lib.hid (fw_new limit (L : Int) b0)
  clear b0 WK
  go_wp2_with fail
  refine C.out.mono ?_
  rintro e w1 ⟨B, rfl, h1⟩
  clear C hr1 hr2 hr3 e2 e3 hL0
  have h2 := Lib.hid (Or.made h1)
  replace h1 := Lib.hid h1
  obtain ⟨b, hb⟩ : ∃ b, b = w1.heap.size := ⟨_, rfl⟩
  obtain ⟨w2, hw2⟩ : ∃ w2, w2 = w1.alloc (.map #[] 0) := ⟨_, rfl⟩
  rw [← hb, ← hw2] at h2
  have hmm := @run_makeMap Try.prog
  go_upto_region 6 with fail
  rw [← hb, ← hw2]
  clear hw2 hb h1 hmm
  have IN : Hid (Or W w2 B (newE limit L) b 0 (lsE (newE limit L).r) fun _ => False) := h2
  clear h2
  obtain ⟨f0, hf0⟩ : ∃ f0, f0 = newE limit L := ⟨_, rfl⟩
  have hf1 : f0.pz = 0 ∧ cntE f0.r = 0 := by rw [hf0]; exact ⟨rfl, rfl⟩
  rw [← hf0] at IN
  clear hf0
  obtain ⟨M, hM⟩ : ∃ M : Nat, M = min N 150 := ⟨_, rfl⟩
  have hM1 : M ≤ N ∧ M ≤ 150 := by omega
  have hM2 : Hid (M = N ∨ M = 150) := by unfold Hid; omega
  clear hM
  go_wp2_with fail
  go_loopg [9, 10] M (fun g' s9 s10 wr => ∃ (i n : Nat) (f : FaQ), i + g' = M ∧ s9 = .int .i64 (cntE f.r) ∧ s10 = .int .i64 i ∧ Hid (Or W wr B f b n (lsE f.r) fun _ => False) ∧ f.pz ≤ i ∧ n ≤ i)
  case atStart => exact ⟨0, 0, f0, by omega, by rw [hf1.2]; rfl, rfl, IN, by omega, by omega⟩
  case round =>
    clear IN hf1
    obtain ⟨i, n, f, hi, rfl, rfl, OR, hpz, hn⟩ := hrel
    by_cases hlt : i < M
    · have q1 : decide (i < N) = true := decide_eq_true (by omega)
      have q2 : decide ((i : Int) < (N : Int)) = true := decide_eq_true (by omega)
      have q3 : decide ((i : Int) < 150) = true := decide_eq_true (by omega)
      have q4 : decide (i < 150) = true := decide_eq_true (by omega)
      have wi : Hid (wrap64 ((i : Int) + 1) = (i : Int) + 1) := wrap_in rfl (by omega) (by omega)
      have gi : Hid (i + 1 + (M - (i + 1)) = M) := by unfold Hid; omega
      have gm : Hid (M - (i + 1) < gk) := by unfold Hid; omega
      obtain ⟨g, po, rfl, ia, CC, hx⟩ := H.out i (by omega)
      obtain ⟨d1, d2, d3⟩ := CC wr OR.out.bel
      obtain ⟨x, hxe⟩ : ∃ x, x = l.getD i fo0 := ⟨_, rfl⟩
      rw [← hxe] at d1 d2 d3 hx
      clear CC hxe
      obtain ⟨kd, id, s⟩ := x
      obtain ⟨h64k, h64, hs64⟩ := hx
      simp only at d1 d2 d3 h64k h64 hs64
      have h3 : Hid (Or W (wr.alloc (.cells #[.int .i64 kd, .int .i64 id, .string s] 28)) B f b n (lsE f.r) fun k => k = wr.heap.size) := OR.out.with _
      have l3 : Lies (wr.alloc (.cells #[.int .i64 kd, .int .i64 id, .string s] 28)) wr.heap.size [.int .i64 kd, .int .i64 id, .string s] := Lies.new wr [.int .i64 kd, .int .i64 id, .string s] _
      have OK := OR.out.ok
      go_upto_region 11 with fail
      obtain ⟨w3, hw3⟩ : ∃ w3, w3 = wr.alloc (.cells #[.int .i64 kd, .int .i64 id, .string s] 28) := ⟨_, rfl⟩
      rw [← hw3] at h3 l3 ⊢
      clear hw3
      obtain ⟨O, hO⟩ : ∃ O, O = wr.heap.size := ⟨_, rfl⟩
      rw [← hO] at h3 l3 ⊢
      clear hO d1 d2 d3 ia OR q1 q2 q3 q4 hlt
      have c0 := l3.cell 0 rfl
      have c1 := l3.cell 1 rfl
      have c2 := l3.cell 2 rfl
      replace l3 := Lib.hid l3
      by_cases hsz : 300 < s.size
      · have g1 : decide (300 < s.size) = true := decide_eq_true hsz
        have g2 : decide ((300 : Int) < (s.size : Int)) = true := decide_eq_true (by omega)
        have bel := Lib.hid h3.out.bel
        go_wp2_with fail
        go_ret
        exact ⟨rfl, bel.out⟩
      · have g1 : decide (300 < s.size) = false := decide_eq_false hsz
        have g2 : decide ((300 : Int) < (s.size : Int)) = false := decide_eq_false (by omega)
        go_upto_region 13 with fail
        clear g1 g2 hsz
        by_cases k0 : kd = 0
        · subst k0
          have CP := Lib.hid (h3.out.push id s h64 (by omega) hs64)
          obtain ⟨nn1, pz1⟩ : Hid (n + 1 ≤ i + 1) ∧ Hid ((pushQ f id s).pz ≤ i + 1) := by
            unfold Hid
            rw [push_p]
            exact ⟨by omega, by omega⟩
          have nn0 : Hid (n ≤ i + 1) := by unfold Hid; omega
          have hcz := OK.n
          have hcn : cntE f.r < 1000 := by omega
          rcases push_03 f id s with pe | ⟨pe1, pe2⟩
          · rw [pe] at CP
            have wc : Hid (wrap64 ((cntE f.r : Int) + 1) = (cntE f.r : Int) + 1) := wrap_in rfl (by omega) (by omega)
            have cq : Hid (Value.int .i64 ((cntE f.r : Int) + 1) = .int .i64 (cntE (pushQ f id s).r)) := by
              have := (push_yes OK pe).2.1
              unfold Hid
              rw [this]
              rfl
            go_wp2_with fail
            refine CP.out.mono ?_
            rintro e w4 ⟨rfl, h4, k4⟩
            have l4 := l3.out.of_block (k4 O rfl)
            have y1 := l4.cell 1 rfl
            have y2 := l4.cell 2 rfl
            clear CP c0 c1 c2 h3
            go_upto_region 16 with fail
            have h5 : Or W w4.drew B (pushQ f id s) b n (lsE f.r) (fun k => k = O) := h4.keep (drewB _ _)
            have l5 : Lies w4.drew O _ := l4.of_block (w' := w4.drew) rfl
            have hml := ls_len OK id
            obtain ⟨a, c, LK, -, -, APP⟩ := h5.look h64
            obtain ⟨a', n', c', w5, w6, hap, hmu, h6, k6, k5⟩ := APP s (by omega) (by omega)
            rw [push_m OK pe] at h6
            have hS : w4.drew.cell? ⟨O, 1, none⟩ = some (.int .i64 id) ∧ w4.drew.cell? ⟨O, 2, none⟩ = some (.string s) := ⟨l5.cell 1 rfl, l5.cell 2 rfl⟩
            have SA : Hid (∀ o, (w4.drew.alloc o).cell? ⟨O, 1, none⟩ = some (.int .i64 id) ∧ (w4.drew.alloc o).cell? ⟨O, 2, none⟩ = some (.string s)) := fun o => by
              have := l5.keep (Nat.zero_lt_succ _) ((Below.refl _ _).alloc (Nat.le_refl _) o)
              exact ⟨this.cell 1 rfl, this.cell 2 rfl⟩
            have SB : Hid (w5.cell? ⟨O, 1, none⟩ = some (.int .i64 id) ∧ w5.cell? ⟨O, 2, none⟩ = some (.string s)) := by
              have := l5.of_block (k5 O (.inl rfl))
              exact ⟨this.cell 1 rfl, this.cell 2 rfl⟩
            have SC : Hid (w6.cell? ⟨O, 1, none⟩ = some (.int .i64 id) ∧ w6.cell? ⟨O, 2, none⟩ = some (.string s)) := by
              have := l5.of_block (k6 O rfl)
              exact ⟨this.cell 1 rfl, this.cell 2 rfl⟩
            have LA : Hid (∀ o, (Instr.lookup 38 (.map (some b)) (.int .i64 id) false).run Try.prog (w4.drew.alloc o) = .ok (.slice a (lsE f.r id).length c) (w4.drew.alloc o)) := fun o => LK _ (((Below.refl _ _).alloc (Nat.le_refl _) o).block b h5.blt)
            have LB : Hid ((Instr.lookup 38 (.map (some b)) (.int .i64 id) false).run Try.prog w4.drew = .ok (.slice a (lsE f.r id).length c) w4.drew) := LK _ rfl
            replace hap := Lib.hid hap
            replace hmu := Lib.hid hmu
            have h7 := Lib.hid h6.without
            clear APP LK h6 k6 k5 l5 h5 l4 h4 hml h64k
            refine wp_region_held (S := fun w' => w'.cell? ⟨O, 1, none⟩ = some (.int .i64 id) ∧ w'.cell? ⟨O, 2, none⟩ = some (.string s)) (by kernel_rfl) ?_
            change wpAnyH _ .any _ _ _ 12 (Array.replicate 12 false) _ w4.drew
            generalize w4.drew = wd at *
            refine obTakeH (i := 0) (d := 61) (v := .map (some b)) rfl rfl (by kernel_rfl) (by kernel_rfl) (by kernel_rfl) (fun _ _ _ h => h) rfl (fun w' hS => by obtain ⟨s1, s2⟩ := hS; go_simp) hS ?_
            refine obTakeH (i := 1) (d := 62) (v := .pointer (some ⟨O, 1, none⟩)) rfl rfl (by kernel_rfl) (by kernel_rfl) (by kernel_rfl) (fun _ _ _ h => h) rfl (fun w' hS => by obtain ⟨s1, s2⟩ := hS; go_simp) hS ?_
            refine obTakeH (i := 2) (d := 63) (v := .int .i64 id) rfl rfl (by kernel_rfl) (by kernel_rfl) (by kernel_rfl) (fun _ _ _ h => h) rfl (fun w' hS => by obtain ⟨s1, s2⟩ := hS; go_simp) hS ?_
            refine obTakeH (i := 3) (d := 64) (v := .map (some b)) rfl rfl (by kernel_rfl) (by kernel_rfl) (by kernel_rfl) (fun _ _ _ h => h) rfl (fun w' hS => by obtain ⟨s1, s2⟩ := hS; go_simp) hS ?_
            refine obTakeH (i := 4) (d := 65) (v := .pointer (some ⟨O, 1, none⟩)) rfl rfl (by kernel_rfl) (by kernel_rfl) (by kernel_rfl) (fun _ _ _ h => h) rfl (fun w' hS => by obtain ⟨s1, s2⟩ := hS; go_simp) hS ?_
            refine obTakeH (i := 5) (d := 66) (v := .int .i64 id) rfl rfl (by kernel_rfl) (by kernel_rfl) (by kernel_rfl) (fun _ _ _ h => h) rfl (fun w' hS => by obtain ⟨s1, s2⟩ := hS; go_simp) hS ?_
            refine obTakeH (i := 7) (d := 68) (v := .pointer (some ⟨O, 2, none⟩)) rfl rfl (by kernel_rfl) (by kernel_rfl) (by kernel_rfl) (fun _ _ _ h => h) rfl (fun w' hS => by obtain ⟨s1, s2⟩ := hS; go_simp) hS ?_
            refine obTakeH (i := 8) (d := 69) (v := .string s) rfl rfl (by kernel_rfl) (by kernel_rfl) (by kernel_rfl) (fun _ _ _ h => h) rfl (fun w' hS => by obtain ⟨s1, s2⟩ := hS; go_simp) hS ?_
            try simp only [Act.put, List.setIfInBounds_toArray, List.set_cons_succ, List.set_cons_zero]
            refine wpAnyH_all (rs := [6, 9]) (by kernel_rfl) (by simp) (fun y hy => ?_)
            have hy2 : y = 6 ∨ y = 9 := by simpa using hy
            clear hy
            rcases hy2 with rfl | rfl
            · refine wpOp_step rfl (fun K' hK => ?_)
              have LX := LB.out
              go_simp
              refine hK _ _ ⟨hS, ?_⟩
              clear hK K' LX
              try simp only [Act.put, List.setIfInBounds_toArray, List.set_cons_succ, List.set_cons_zero]
              refine wpAnyH_all (rs := [9]) (by kernel_rfl) (by simp) (fun y hy => ?_)
              obtain rfl : y = 9 := by simpa using hy
              clear hy
              refine wpOp_step rfl (fun K' hK => ?_)
              have hS2 := SA.out (.cells #[.string s] 9)
              have LA2 := LA.out (.cells #[.string s] 9)
              go_simp
              refine hK _ _ ⟨hS2, ?_⟩
              clear hK K'
              replace hS := hS2
              try simp only [Act.put, List.setIfInBounds_toArray, List.set_cons_succ, List.set_cons_zero]
              refine wpAnyH_all (rs := [10]) (by kernel_rfl) (by simp) (fun y hy => ?_)
              obtain rfl : y = 10 := by simpa using hy
              clear hy
              refine wpOp_step rfl (fun K' hK => ?_)
              refine obB2 _ .append _ _ _ _ rfl _ _ rfl rfl hap.out ?_
              refine hK _ _ ⟨SB.out, ?_⟩
              clear hK K'
              try simp only [Act.put, List.setIfInBounds_toArray, List.set_cons_succ, List.set_cons_zero]
              refine wpAnyH_all (rs := [11]) (by kernel_rfl) (by simp) (fun y hy => ?_)
              obtain rfl : y = 11 := by simpa using hy
              clear hy
              refine wpOp_step rfl (fun K' hK => ?_)
              have hm2 := hmu.out
              go_simp
              refine hK _ _ ⟨SC.out, ?_⟩
              clear hK K' hm2
              try simp only [Act.put, List.setIfInBounds_toArray, List.set_cons_succ, List.set_cons_zero]
              refine wpAnyH_done (by kernel_rfl) ?_ 0
              clear hS LA LB SA SB SC hap hmu y1 y2 pe OK hcz hcn hs64 h64 hi hpz hn nn0
              replace wi := wi.out
              replace wc := wc.out
              go_wp2_with fail
              go_roundg (M - (i + 1))
              case measure => exact gm.out
              case rel => exact ⟨i + 1, n + 1, pushQ f id s, gi.out, by rw [wc]; exact cq.out, by go_num, h7, pz1.out, nn1.out⟩
            · refine wpOp_step rfl (fun K' hK => ?_)
              have hS2 := SA.out (.cells #[.string s] 9)
              have LA2 := LA.out (.cells #[.string s] 9)
              go_simp
              refine hK _ _ ⟨hS2, ?_⟩
              clear hK K'
              replace hS := hS2
              try simp only [Act.put, List.setIfInBounds_toArray, List.set_cons_succ, List.set_cons_zero]
              refine wpAnyH_all (rs := [6]) (by kernel_rfl) (by simp) (fun y hy => ?_)
              obtain rfl : y = 6 := by simpa using hy
              clear hy
              refine wpOp_step rfl (fun K' hK => ?_)
              have LX := LA.out (.cells #[.string s] 9)
              go_simp
              refine hK _ _ ⟨hS, ?_⟩
              clear hK K' LX
              try simp only [Act.put, List.setIfInBounds_toArray, List.set_cons_succ, List.set_cons_zero]
              refine wpAnyH_all (rs := [10]) (by kernel_rfl) (by simp) (fun y hy => ?_)
              obtain rfl : y = 10 := by simpa using hy
              clear hy
              refine wpOp_step rfl (fun K' hK => ?_)
              refine obB2 _ .append _ _ _ _ rfl _ _ rfl rfl hap.out ?_
              refine hK _ _ ⟨SB.out, ?_⟩
              clear hK K'
              try simp only [Act.put, List.setIfInBounds_toArray, List.set_cons_succ, List.set_cons_zero]
              refine wpAnyH_all (rs := [11]) (by kernel_rfl) (by simp) (fun y hy => ?_)
              obtain rfl : y = 11 := by simpa using hy
              clear hy
              refine wpOp_step rfl (fun K' hK => ?_)
              have hm2 := hmu.out
              go_simp
              refine hK _ _ ⟨SC.out, ?_⟩
              clear hK K' hm2
              try simp only [Act.put, List.setIfInBounds_toArray, List.set_cons_succ, List.set_cons_zero]
              refine wpAnyH_done (by kernel_rfl) ?_ 0
              clear hS LA LB SA SB SC hap hmu y1 y2 pe OK hcz hcn hs64 h64 hi hpz hn nn0
              replace wi := wi.out
              replace wc := wc.out
              go_wp2_with fail
              go_roundg (M - (i + 1))
              case measure => exact gm.out
              case rel => exact ⟨i + 1, n + 1, pushQ f id s, gi.out, by rw [wc]; exact cq.out, by go_num, h7, pz1.out, nn1.out⟩
          · have pne : pushE f id s ≠ 0 := by omega
            have z1 : (pushE f id s == 0) = false := by simp; omega
            have z2 : decide (pushE f id s = 0) = false := decide_eq_false pne
            obtain ⟨er, -⟩ := push_n pne
            obtain ⟨pv, hpv⟩ : ∃ p, p = pushE f id s := ⟨_, rfl⟩
            rw [← hpv] at z1 z2 CP
            have z3 : ¬ pv = 0 := by omega
            have cq : Hid (Value.int .i64 (cntE f.r : Int) = .int .i64 (cntE (pushQ f id s).r)) := by unfold Hid; rw [er]
            have em : lsE f.r = lsE (pushQ f id s).r := by rw [er]
            rw [em] at CP
            replace pne := Lib.hid pne
            clear hpv pe1 pe2 em er
            go_wp2_with fail
            refine CP.out.mono ?_
            rintro e w4 ⟨rfl, h4, k4⟩
            have h7 := Lib.hid h4.without
            clear CP c0 c1 c2 h3 h4 k4 OK hcz hcn hs64 h64 hi hpz hn nn1
            replace wi := wi.out
            go_wp2_with fail
            go_roundg (M - (i + 1))
            case measure => exact gm.out
            case rel => exact ⟨i + 1, n, pushQ f id s, gi.out, cq.out, by go_num, h7, pz1.out, nn0.out⟩
        · have n0 : (kd == 0) = false := by simpa using k0
          have n0' : decide (kd = 0) = false := decide_eq_false k0
          by_cases k1 : kd = 1
          · subst k1
            obtain ⟨cn, hcc⟩ : ∃ n, n = cntE f.r := ⟨_, rfl⟩
            have hcz := OK.n
            have hcn : cn < 1000 := by omega
            have nn0 : Hid (n ≤ i + 1) := by unfold Hid; omega
            have nn1 : Hid (n + 1 ≤ i + 1) := by unfold Hid; omega
            rw [← hcc]
            by_cases hc0 : cn = 0
            · obtain ⟨e1, e2⟩ := next_z OK (by omega)
              have CN := Lib.hid (h3.out.next (by omega))
              rw [e1, e2] at CN
              have pz0 : Hid (f.pz ≤ i + 1) := by unfold Hid; omega
              subst hc0
              have cq : Hid (Value.int .i64 ((0 : Nat) : Int) = .int .i64 (cntE f.r)) := by unfold Hid; rw [← hcc]
              clear e1 e2 hcz hcn hs64 hi hpz hn hcc
              go_wp2_with fail
              refine CN.out.mono ?_
              rintro e w4 ⟨rfl, h4, k4⟩
              have h7 := Lib.hid h4.without
              clear CN c0 c1 c2 h3 h4 k4 nn1 OK
              replace wi := wi.out
              go_wp2_with fail
              go_roundg (M - (i + 1))
              case measure => exact gm.out
              case rel => exact ⟨i + 1, n, f, gi.out, cq.out, by go_num, h7, pz0.out, nn0.out⟩
            · obtain ⟨aa, ss, tt, e1, ha, hls, hsl, e4, e5⟩ := next_m OK (by omega)
              have CN := Lib.hid (h3.out.next (by omega))
              rw [e1] at CN
              have pz0 : Hid ((nextE f).pz ≤ i + 1) := by unfold Hid; omega
              have wc : Hid (wrap64 ((cn : Int) - 1) = ((cntE (nextE f).r : Nat) : Int)) := wrap_in (by omega) (by omega) (by omega)
              have q1 : decide ((0 : Int) < (cn : Int)) = true := decide_eq_true (by omega)
              have q2 : decide (0 < cn) = true := decide_eq_true (by omega)
              clear hs64
              replace hc0 := Lib.hid hc0
              replace e5 := Lib.hid e5
              replace e4 := Lib.hid e4
              replace hcc := Lib.hid hcc
              have hcz2 : cntE f.r < 1000 := by rw [← hcc.out]; exact hcn
              replace hcz := Lib.hid hcz
              clear e1 hcn
              go_wp2_with fail
              refine CN.out.mono ?_
              rintro e w4 ⟨rfl, h4, k4⟩
              clear CN c0 c1 c2 h3
              obtain ⟨a0, ca, LK, HFC, CU, -⟩ := h4.look ha
              obtain ⟨g0, o0, rfl, fc⟩ := HFC _ _ hls
              obtain ⟨a1, n1, c1', w5, hcut, hmu, h5, k5⟩ := CU _ _ hls (by omega)
              rw [hsl] at h5
              have hlen : (lsE f.r aa).length = tt.length + 1 := by rw [hls]; rfl
              rw [hlen] at LK hcut
              have LK2 := LK w4 rfl
              have t64 : tt.length + 1 ≤ 9223372036854775807 := by
                have := ls_len OK aa
                omega
              obtain ⟨tl, htl⟩ : ∃ n, n = tt.length + 1 := ⟨_, rfl⟩
              have tl0 : 0 < tl := by omega
              rw [← htl] at LK2 hcut t64
              have y3 : ((tl : Int) == 0) = false := by simp; omega
              have y4 : decide ((tl : Int) = 0) = false := decide_eq_false (by omega)
              have y5 : ¬ tl = 0 := by omega
              have y6 : ∀ w', (Instr.indexAt 39 (.slice (some ⟨g0, o0, none⟩) tl ca) (.int .i64 0)).run Try.prog w' = .ok (.pointer (some ⟨g0, o0, none⟩)) w' := fun w' => at_Z ks_ok g0 o0 tl ca 0 w' tl0 0 rfl o0 (by show o0 = o0 + 1 * 0; omega)
              have h6 := Lib.hid h5
              clear LK HFC CU hlen htl h5 hls hsl h4 k4
              have nx : Hid (lsE (nextE f).r = lsE (nextE f).r) := rfl
              clear OK hcz hcz2 hi hpz hn hcc e4 e5 h64 t64 tl0 nn0 ha
              go_upto_region 24 with fail
              clear q1 q2 y3 y4 y5 y6 LK2 hcut hmu fc hc0
              replace wi := wi.out
              have h7 := Lib.hid h6.out.without
              clear h6
              go_wp2_with fail
              go_roundg (M - (i + 1))
              case measure => exact gm.out
              case rel => exact ⟨i + 1, n + 1, nextE f, gi.out, by rw [wc.out], by go_num, h7, pz0.out, nn1.out⟩
          · have n1 : (kd == 1) = false := by simpa using k1
            have n1' : decide (kd = 1) = false := decide_eq_false k1
            by_cases k2 : kd = 2
            · subst k2
              have hcz := OK.n
              have hcn : cntE f.r < 1000 := by omega
              have nn1 : Hid (n + 1 ≤ i + 1) := by unfold Hid; omega
              have pz0 : Hid ((dropE f id).pz ≤ i + 1) := by
                have : (dropE f id).pz = f.pz := rfl
                unfold Hid
                omega
              have hdc := (drop_tells OK id).2.1
              have hml := ls_len OK id
              have CD := h3.out.drop id h64 (by omega)
              obtain ⟨Ld, hLd⟩ : ∃ n, n = (lsE f.r id).length := ⟨_, rfl⟩
              rw [← hLd] at CD hdc hml
              replace CD := Lib.hid CD
              have wdf : Hid (wrap64 ((cntE f.r : Int) - (Ld : Int)) = ((cntE (dropE f id).r : Nat) : Int)) := wrap_in (by omega) (by omega) (by omega)
              obtain ⟨a, c, LK, -, -, -⟩ := h3.out.look h64
              rw [← hLd] at LK
              have em := drop_m OK id
              have L64 : Hid (Ld ≤ 9223372036854775807) := by unfold Hid; omega
              have CLR : Hid (∀ w5, Or W w5 B (dropE f id) b n (lsE f.r) (fun k => k = O) → ∃ w', (Instr.mapUpdate 38 (.map (some b)) (.int .i64 id) (.slice none 0 0)).run Try.prog w5 = .ok () w' ∧ Or W w' B (dropE f id) b (n + 1) (lsE (dropE f id).r) (fun k => k = O)) := fun w5 h => by
                obtain ⟨w', h1, h2, -⟩ := h.clr (by omega) h64
                rw [em] at h2
                exact ⟨w', h1, h2⟩
              have lk3 := LK w3 rfl
              have lkB : Hid (∀ w', w'.heap[b]? = w3.heap[b]? → (Instr.lookup 38 (.map (some b)) (.int .i64 id) false).run Try.prog w' = .ok (.slice a Ld c) w') := LK
              have h64x : Hid (In64 id) := h64
              have pzx : Hid (f.pz < 1000000) := by unfold Hid; omega
              have hLx : Hid (Ld = (lsE f.r id).length) := hLd
              clear LK hcz hcn hdc hml hLd em hi hpz hn hs64 h64 OK
              go_upto_region 26 with fail
              have h4 : Or W w3.drew B f b n (lsE f.r) (fun k => k = O) := h3.out.keep (drewB _ _)
              have CD2 : Calls Try.prog 14 #[ptr B, .int .i64 id] w3.drew fun e w' => e = .returned (.int .i64 (Ld : Int)) ∧ Or W w' B (dropE f id) b n (lsE f.r) (fun k => k = O) ∧ KX (fun k => k = O ∨ k = b) w3.drew w' := h4.drop id h64x.out pzx.out |>.mono fun e w q => by rw [hLx.out]; exact q
              have hS : w3.drew.cell? ⟨O, 1, none⟩ = some (.int .i64 id) ∧ w3.drew.heap[b]? = w3.heap[b]? := ⟨(l3.out.of_block (w' := w3.drew) rfl).cell 1 rfl, rfl⟩
              have SB : Hid (∀ w', KX (fun k => k = O ∨ k = b) w3.drew w' → w'.cell? ⟨O, 1, none⟩ = some (.int .i64 id) ∧ w'.heap[b]? = w3.heap[b]?) := fun w' k => ⟨(l3.out.of_block (k O (.inl rfl))).cell 1 rfl, k b (.inr rfl)⟩
              replace CD2 := Lib.hid CD2
              clear lk3 c0 c1 c2 CD h4 h3
              refine wp_region_held (S := fun w' => w'.cell? ⟨O, 1, none⟩ = some (.int .i64 id) ∧ w'.heap[b]? = w3.heap[b]?) (by kernel_rfl) ?_
              change wpAnyH _ .any _ _ _ 10 (Array.replicate 10 false) _ w3.drew
              generalize w3.drew = wd at *
              refine obTakeH (i := 0) (d := 116) (v := .pointer (some ⟨B, 0, none⟩)) rfl rfl (by kernel_rfl) (by kernel_rfl) (by kernel_rfl) (fun _ _ _ h => h) rfl (fun w' hS => by obtain ⟨s1, s2⟩ := hS; have lk := lkB.out _ s2; go_simp) hS ?_
              refine obTakeH (i := 1) (d := 117) (v := .pointer (some ⟨O, 1, none⟩)) rfl rfl (by kernel_rfl) (by kernel_rfl) (by kernel_rfl) (fun _ _ _ h => h) rfl (fun w' hS => by obtain ⟨s1, s2⟩ := hS; have lk := lkB.out _ s2; go_simp) hS ?_
              refine obTakeH (i := 2) (d := 118) (v := .int .i64 id) rfl rfl (by kernel_rfl) (by kernel_rfl) (by kernel_rfl) (fun _ _ _ h => h) rfl (fun w' hS => by obtain ⟨s1, s2⟩ := hS; have lk := lkB.out _ s2; go_simp) hS ?_
              refine obTakeH (i := 4) (d := 120) (v := .map (some b)) rfl rfl (by kernel_rfl) (by kernel_rfl) (by kernel_rfl) (fun _ _ _ h => h) rfl (fun w' hS => by obtain ⟨s1, s2⟩ := hS; have lk := lkB.out _ s2; go_simp) hS ?_
              refine obTakeH (i := 5) (d := 121) (v := .pointer (some ⟨O, 1, none⟩)) rfl rfl (by kernel_rfl) (by kernel_rfl) (by kernel_rfl) (fun _ _ _ h => h) rfl (fun w' hS => by obtain ⟨s1, s2⟩ := hS; have lk := lkB.out _ s2; go_simp) hS ?_
              refine obTakeH (i := 6) (d := 122) (v := .int .i64 id) rfl rfl (by kernel_rfl) (by kernel_rfl) (by kernel_rfl) (fun _ _ _ h => h) rfl (fun w' hS => by obtain ⟨s1, s2⟩ := hS; have lk := lkB.out _ s2; go_simp) hS ?_
              refine obTakeH (i := 7) (d := 123) (v := .slice a Ld c) rfl rfl (by kernel_rfl) (by kernel_rfl) (by kernel_rfl) (fun _ _ _ h => h) rfl (fun w' hS => by obtain ⟨s1, s2⟩ := hS; have lk := lkB.out _ s2; go_simp) hS ?_
              refine obTakeH (i := 8) (d := 124) (v := .int .i64 (Ld : Int)) rfl rfl (by kernel_rfl) (by kernel_rfl) (by kernel_rfl) (fun _ _ _ h => h) rfl (fun w' hS => by obtain ⟨s1, s2⟩ := hS; have lk := lkB.out _ s2; go_simp) hS ?_
              try simp only [Act.put, List.setIfInBounds_toArray, List.set_cons_succ, List.set_cons_zero]
              refine wpAnyH_all (rs := [3]) (by kernel_rfl) (by simp) (fun y hy => ?_)
              obtain rfl : y = 3 := by simpa using hy
              clear hy
              refine wpOp_step rfl (fun K' hK => ?_)
              refine obCall2 (k1 := 116) (k2 := 118) (d := 119) (x1 := .pointer (some ⟨B, 0, none⟩)) (x2 := .int .i64 id) 14 _ rfl rfl _ _ _ _ (fun _ => rfl) rfl rfl CD2.out (fun e w4 hR => ?_)
              obtain ⟨rfl, h4, k4⟩ := hR
              have hS2 := SB.out w4 k4
              refine ⟨_, rfl, hK _ _ ⟨hS2, ?_⟩⟩
              replace hS := hS2
              clear hK K' hS2 CD2 SB
              try simp only [Act.put, List.setIfInBounds_toArray, List.set_cons_succ, List.set_cons_zero]
              refine obTakeH (i := 9) (d := 125) (v := .bool false) rfl rfl (by kernel_rfl) (by kernel_rfl) (by kernel_rfl) (fun _ _ _ h => h) rfl (fun w' hS => by go_simp) hS ?_
              try simp only [Act.put, List.setIfInBounds_toArray, List.set_cons_succ, List.set_cons_zero]
              refine wpAnyH_done (by kernel_rfl) ?_ 0
              have y1 := hS.1
              have lk4 := lkB.out w4 hS.2
              obtain ⟨w5, hmu, h5⟩ := CLR.out w4 h4
              have h7 := Lib.hid h5.without
              replace L64 := L64.out
              clear hS h4 k4 h5 lkB CLR
              go_upto_region 9 with fail
              clear y1 lk4 hmu L64
              replace wi := wi.out
              go_wp2_with fail
              go_roundg (M - (i + 1))
              case measure => exact gm.out
              case rel => exact ⟨i + 1, n + 1, dropE f id, gi.out, by rw [wdf.out], by go_num, h7, pz0.out, nn1.out⟩
            · have k2' : (kd == 2) = false := by simpa using k2
              have k2'' : decide (kd = 2) = false := decide_eq_false k2
              have nn0 : Hid (n ≤ i + 1) := by unfold Hid; omega
              have pz0 : Hid (f.pz ≤ i + 1) := by unfold Hid; omega
              have h7 := Lib.hid h3.out.without
              clear h3 OK hi hpz hn hs64 h64
              go_upto_region 9 with fail
              clear c0 c1 c2 n0 n0' n1 n1' k0 k1 k2 k2' k2''
              replace wi := wi.out
              go_wp2_with fail
              go_roundg (M - (i + 1))
              case measure => exact gm.out
              case rel => exact ⟨i + 1, n, f, gi.out, by go_num, by go_num, h7, pz0.out, nn0.out⟩
    · obtain rfl : i = M := by omega
      clear hi hlt H
      have OK := OR.out.ok
      by_cases hN : i < N
      · obtain rfl : i = 150 := by have := hM2.out; omega
        have q1 : decide (150 < N) = true := decide_eq_true hN
        have q2 : decide (((150 : Nat) : Int) < (N : Int)) = true := decide_eq_true (by omega)
        have q3 : decide (((150 : Nat) : Int) < 150) = false := by decide
        have q4 : decide ((150 : Int) < 150) = false := by decide
        have q5 : decide ((150 : Int) < (N : Int)) = true := decide_eq_true (by omega)
        have hni : n ≤ 150 := hn
        have hpi : f.pz ≤ 150 := hpz
        clear hM1 hM2 hN
        have hcz := OK.n
        have IN : Hid (∃ f2 n2, cntE f2.r = cntE f.r ∧ Or W wr B f2 b n2 (lsE f2.r) (fun _ => False) ∧ f2.pz ≤ 150 ∧ n2 + cntE f2.r ≤ 300) := ⟨f, n, rfl, OR.out, hpi, by omega⟩
        have hcn : cntE f.r ≤ 150 := by omega
        obtain ⟨c0, hc0⟩ : ∃ c, c = cntE f.r := ⟨_, rfl⟩
        rw [← hc0] at IN hcn
        have hs9 : Hid (Value.int .i64 (cntE f.r : Int) = .int .i64 (c0 : Int)) := by unfold Hid; rw [hc0]
        clear OR OK hcz hpz hn hni hpi
        rw [← hc0]
        clear hc0 hs9
        go_wp2_with fail
        clear q1 q2 q3 q4 q5
        go_loopg [9] c0 (fun g' s9 wx => ∃ (c : Nat), c = g' ∧ s9 = .int .i64 (c : Int) ∧ c ≤ 150 ∧ Hid (∃ f2 n2, cntE f2.r = c ∧ Or W wx B f2 b n2 (lsE f2.r) (fun _ => False) ∧ f2.pz ≤ 150 ∧ n2 + cntE f2.r ≤ 300))
        case atStart => exact ⟨c0, rfl, rfl, hcn, IN⟩
        case round =>
          clear IN hcn
          obtain ⟨c, hcg, rfl, hg, f2, n2, hc2, OR, hpz, hn⟩ := hrel
          have OK := OR.ok
          by_cases hgk : c = 0
          · subst hgk
            obtain ⟨e1, e2⟩ := next_z OK hc2
            have CN := Lib.hid (OR.next (by omega))
            rw [e1, e2] at CN
            have CC : Hid (∀ w, Or W w B f2 b n2 (lsE f2.r) (fun _ => False) → Calls Try.prog 16 #[ptr B] w fun e w' => e = .returned (.int .i64 0) ∧ w = w') := fun w h => by
              have := h.count
              rw [hc2] at this
              exact this
            clear e1 e2 hc2 OR OK hpz hn hcg
            go_wp2_with fail
            refine CN.out.mono ?_
            rintro e w4 ⟨rfl, h4, k4⟩
            have C4 := Lib.hid (CC.out w4 h4)
            have bel := Lib.hid h4.bel
            clear CN CC h4 k4
            go_wp2_with fail
            refine C4.out.mono ?_
            rintro e w5 ⟨rfl, rfl⟩
            clear C4
            go_wp2_with fail
            go_ret
            exact ⟨rfl, bel.out⟩
          · obtain ⟨aa, ss, tt, e1, ha, hls, hsl, e4, e5⟩ := next_m OK (by omega)
            have CN := Lib.hid (OR.next (by omega))
            rw [e1] at CN
            obtain ⟨gp, hgp⟩ : ∃ g, g = c - 1 := ⟨_, rfl⟩
            have wc : Hid (wrap64 ((c : Int) - 1) = (gp : Int)) := wrap_in (by omega) (by omega) (by omega)
            have gm : Hid (gp < gk) := by unfold Hid; omega
            have q1 : decide ((0 : Int) < (c : Int)) = true := decide_eq_true (by omega)
            have q2 : decide (0 < c) = true := decide_eq_true (by omega)
            have e6 : Hid (cntE (nextE f2).r = gp) := by unfold Hid; omega
            have e7 : Hid ((nextE f2).pz ≤ 150) := by unfold Hid; omega
            have e8 : Hid (n2 + 1 + cntE (nextE f2).r ≤ 300) := by unfold Hid; omega
            have e9 : Hid (gp ≤ 150) := by unfold Hid; omega
            have hcz2 : cntE f2.r < 1000 := by omega
            replace hgk := Lib.hid hgk
            clear e1 e4 e5 hgp hcg
            go_wp2_with fail
            refine CN.out.mono ?_
            rintro e w4 ⟨rfl, h4, k4⟩
            clear CN
            obtain ⟨a0, ca, LK, HFC, CU, -⟩ := h4.look ha
            obtain ⟨g0, o0, rfl, fc⟩ := HFC _ _ hls
            obtain ⟨a1, n1, c1', w5, hcut, hmu, h5, k5⟩ := CU _ _ hls (by omega)
            rw [hsl] at h5
            have hlen : (lsE f2.r aa).length = tt.length + 1 := by rw [hls]; rfl
            rw [hlen] at LK hcut
            have LK2 := LK w4 rfl
            have t64 : tt.length + 1 ≤ 9223372036854775807 := by
              have := ls_len OK aa
              omega
            obtain ⟨tl, htl⟩ : ∃ n, n = tt.length + 1 := ⟨_, rfl⟩
            have tl0 : 0 < tl := by omega
            rw [← htl] at LK2 hcut t64
            have y3 : ((tl : Int) == 0) = false := by simp; omega
            have y4 : decide ((tl : Int) = 0) = false := decide_eq_false (by omega)
            have y5 : ¬ tl = 0 := by omega
            have y6 : ∀ w', (Instr.indexAt 39 (.slice (some ⟨g0, o0, none⟩) tl ca) (.int .i64 0)).run Try.prog w' = .ok (.pointer (some ⟨g0, o0, none⟩)) w' := fun w' => at_Z ks_ok g0 o0 tl ca 0 w' tl0 0 rfl o0 (by show o0 = o0 + 1 * 0; omega)
            have h6 := Lib.hid h5
            clear LK HFC CU hlen htl h5 hls hsl h4 k4
            clear OK hcz2 hpz hn t64 tl0 ha OR hc2 hg
            go_upto_region 35 with fail
            clear q1 q2 y3 y4 y5 y6 LK2 hcut hmu fc hgk
            replace wc := wc.out
            have h7 := Lib.hid h6.out.without
            clear h6
            go_wp2_with fail
            go_roundg gp
            case measure => exact gm.out
            case rel => exact ⟨gp, rfl, by rw [wc], e9.out, nextE f2, n2 + 1, e6.out, h7.out, e7.out, e8.out⟩
      · obtain rfl : i = N := by omega
        have q1 : decide (i < i) = false := decide_eq_false hN
        have q2 : decide ((i : Int) < (i : Int)) = false := decide_eq_false (by omega)
        have q3 : True := trivial
        have q4 : True := trivial
        have q5 : True := trivial
        have hni : n ≤ 150 := by omega
        have hpi : f.pz ≤ 150 := by omega
        clear hM1 hM2 hN
        have hcz := OK.n
        have IN : Hid (∃ f2 n2, cntE f2.r = cntE f.r ∧ Or W wr B f2 b n2 (lsE f2.r) (fun _ => False) ∧ f2.pz ≤ 150 ∧ n2 + cntE f2.r ≤ 300) := ⟨f, n, rfl, OR.out, hpi, by omega⟩
        have hcn : cntE f.r ≤ 150 := by omega
        obtain ⟨c0, hc0⟩ : ∃ c, c = cntE f.r := ⟨_, rfl⟩
        rw [← hc0] at IN hcn
        have hs9 : Hid (Value.int .i64 (cntE f.r : Int) = .int .i64 (c0 : Int)) := by unfold Hid; rw [hc0]
        clear OR OK hcz hpz hn hni hpi
        rw [← hc0]
        clear hc0 hs9
        go_wp2_with fail
        clear q1 q2 q3 q4 q5
        go_loopg [9] c0 (fun g' s9 wx => ∃ (c : Nat), c = g' ∧ s9 = .int .i64 (c : Int) ∧ c ≤ 150 ∧ Hid (∃ f2 n2, cntE f2.r = c ∧ Or W wx B f2 b n2 (lsE f2.r) (fun _ => False) ∧ f2.pz ≤ 150 ∧ n2 + cntE f2.r ≤ 300))
        case atStart => exact ⟨c0, rfl, rfl, hcn, IN⟩
        case round =>
          clear IN hcn
          obtain ⟨c, hcg, rfl, hg, f2, n2, hc2, OR, hpz, hn⟩ := hrel
          have OK := OR.ok
          by_cases hgk : c = 0
          · subst hgk
            obtain ⟨e1, e2⟩ := next_z OK hc2
            have CN := Lib.hid (OR.next (by omega))
            rw [e1, e2] at CN
            have CC : Hid (∀ w, Or W w B f2 b n2 (lsE f2.r) (fun _ => False) → Calls Try.prog 16 #[ptr B] w fun e w' => e = .returned (.int .i64 0) ∧ w = w') := fun w h => by
              have := h.count
              rw [hc2] at this
              exact this
            clear e1 e2 hc2 OR OK hpz hn hcg
            go_wp2_with fail
            refine CN.out.mono ?_
            rintro e w4 ⟨rfl, h4, k4⟩
            have C4 := Lib.hid (CC.out w4 h4)
            have bel := Lib.hid h4.bel
            clear CN CC h4 k4
            go_wp2_with fail
            refine C4.out.mono ?_
            rintro e w5 ⟨rfl, rfl⟩
            clear C4
            go_wp2_with fail
            go_ret
            exact ⟨rfl, bel.out⟩
          · obtain ⟨aa, ss, tt, e1, ha, hls, hsl, e4, e5⟩ := next_m OK (by omega)
            have CN := Lib.hid (OR.next (by omega))
            rw [e1] at CN
            obtain ⟨gp, hgp⟩ : ∃ g, g = c - 1 := ⟨_, rfl⟩
            have wc : Hid (wrap64 ((c : Int) - 1) = (gp : Int)) := wrap_in (by omega) (by omega) (by omega)
            have gm : Hid (gp < gk) := by unfold Hid; omega
            have q1 : decide ((0 : Int) < (c : Int)) = true := decide_eq_true (by omega)
            have q2 : decide (0 < c) = true := decide_eq_true (by omega)
            have e6 : Hid (cntE (nextE f2).r = gp) := by unfold Hid; omega
            have e7 : Hid ((nextE f2).pz ≤ 150) := by unfold Hid; omega
            have e8 : Hid (n2 + 1 + cntE (nextE f2).r ≤ 300) := by unfold Hid; omega
            have e9 : Hid (gp ≤ 150) := by unfold Hid; omega
            have hcz2 : cntE f2.r < 1000 := by omega
            replace hgk := Lib.hid hgk
            clear e1 e4 e5 hgp hcg
            go_wp2_with fail
            refine CN.out.mono ?_
            rintro e w4 ⟨rfl, h4, k4⟩
            clear CN
            obtain ⟨a0, ca, LK, HFC, CU, -⟩ := h4.look ha
            obtain ⟨g0, o0, rfl, fc⟩ := HFC _ _ hls
            obtain ⟨a1, n1, c1', w5, hcut, hmu, h5, k5⟩ := CU _ _ hls (by omega)
            rw [hsl] at h5
            have hlen : (lsE f2.r aa).length = tt.length + 1 := by rw [hls]; rfl
            rw [hlen] at LK hcut
            have LK2 := LK w4 rfl
            have t64 : tt.length + 1 ≤ 9223372036854775807 := by
              have := ls_len OK aa
              omega
            obtain ⟨tl, htl⟩ : ∃ n, n = tt.length + 1 := ⟨_, rfl⟩
            have tl0 : 0 < tl := by omega
            rw [← htl] at LK2 hcut t64
            have y3 : ((tl : Int) == 0) = false := by simp; omega
            have y4 : decide ((tl : Int) = 0) = false := decide_eq_false (by omega)
            have y5 : ¬ tl = 0 := by omega
            have y6 : ∀ w', (Instr.indexAt 39 (.slice (some ⟨g0, o0, none⟩) tl ca) (.int .i64 0)).run Try.prog w' = .ok (.pointer (some ⟨g0, o0, none⟩)) w' := fun w' => at_Z ks_ok g0 o0 tl ca 0 w' tl0 0 rfl o0 (by show o0 = o0 + 1 * 0; omega)
            have h6 := Lib.hid h5
            clear LK HFC CU hlen htl h5 hls hsl h4 k4
            clear OK hcz2 hpz hn t64 tl0 ha OR hc2 hg
            go_upto_region 35 with fail
            clear q1 q2 y3 y4 y5 y6 LK2 hcut hmu fc hgk
            replace wc := wc.out
            have h7 := Lib.hid h6.out.without
            clear h6
            go_wp2_with fail
            go_roundg gp
            case measure => exact gm.out
            case rel => exact ⟨gp, rfl, by rw [wc], e9.out, nextE f2, n2 + 1, e6.out, h7.out, e7.out, e8.out⟩

theorem contract (H : Type) (enc : TypeId × Value → H) (W : World) (base : Nat) (args : Array Value) (ds gs : List (DataW H)) (before : List MemPlace)
    (hval : ∀ (j : Nat) t v, Try.f4.params[j]? = some t → args[j]? = some v → Value.okWide Try.prog W .any base t v)
    (hW : DataW.Whole enc Try.prog Try.f4.params.toList Rows.fairOrderSpec.vars false W args.toList ds gs before)
    (hsz : (DataW.weightsEach Try.prog (Try.f4.params.toList ++ (OpenSpec.ofChange Rows.fairOrderSpec).bare.plain.varTypes Try.prog) (ds ++ gs)).all (· ≤ reachBytes) = true) :
    Calls Try.prog 4 args W fun e W' => ∃ v, e = .returned v ∧ Rows.fairOrderSpec.post enc Try.prog Try.f4 false true false false W args v W' := by
  have hW' := hW
  obtain ⟨p, q, hA0, hV, rfl, hfz, hnd⟩ := hW
  have hA : DataW.TrodAll enc Try.prog W 0 (fun _ => true) true Try.f4.params.toList args.toList ds p := hA0
  rw [Try.params4] at hA hval hsz
  obtain ⟨v0, vs0, d0, ds0, p0, q0, hargs, rfl, rfl, h0, r0⟩ := trodAll_cons hA
  obtain ⟨v1, vs1, d1, ds1, p1, q1, rfl, rfl, rfl, h1, r1⟩ := trodAll_cons r0
  obtain ⟨v2, vs2, d2, ds2, p2, q2, rfl, rfl, rfl, h2, r2⟩ := trodAll_cons r1
  obtain ⟨rfl, rfl, rfl⟩ := trodAll_nil r2
  obtain rfl : args = #[v0, v1, v2] := by cases args; simp_all
  obtain ⟨rfl, rfl⟩ := trodVars_none hV
  obtain ⟨a0, rfl, rfl, rfl, w0⟩ := open_int Try.underlying3 (hval 0 3 v0 rfl rfl) h0
  have b0 := bounds_i64 w0
  obtain ⟨a1, rfl, rfl, rfl, w1⟩ := open_int Try.underlying3 (hval 1 3 v1 rfl rfl) h1
  have b1 := bounds_i64 w1
  have k2 := h2
  have lt2 : ∀ x ∈ p2, x.block < W.heap.size := by obtain ⟨m, hm⟩ := k2; exact DataW.trod_lt m _ _ _ hm
  obtain ⟨l2, hs2, hz2, hb2⟩ := open_fops (hval 2 22 v2 rfl rfl) h2 (fun n hn => by simpa using List.all_eq_true.1 hsz _ (DataW.weights_mem_each (j := 2) (t := 22) rfl rfl n hn))
  clear hA0
  simp only [List.append_nil] at hW'
  refine (walk a0 a1 v2 l2 W hs2 hz2 hb2).mono fun e W' ⟨he, bel⟩ => ?_
  subst he
  exact ⟨_, rfl, _, _, _, [], _, [], hW', trodAll_mk1 (shut_bool Try.underlying4 _), (trodAll_cons_mk (shut_int Try.underlying3 w0) (trodAll_cons_mk (shut_int Try.underlying3 w1) (trodAll_cons_mk (Below.trod laidOut (by kernel_rfl) (of_decide_eq_true (by kernel_rfl)) k2 bel lt2) trodAll_mk0))), rfl, bel.frame _, fun h => by cases h⟩

theorem laid_met (os : Os) : laidMet Try.prog Rows.fairOrderRow.laid ((startWorld Try.prog os).forCall (fun _ _ => 0) ⟨#[], #[.int .i64 0, .int .i64 0, .slice none 0 0], []⟩).memory :=
  laidMet_of_run' 8 (by kernel_rfl) (by kernel_rfl)
theorem reads (os : Os) {H : Type} (enc : TypeId × Value → H) : ∃ places, DataW.whole enc Try.prog ((startWorld Try.prog os).forCall (fun _ _ => 0) ⟨#[], #[.int .i64 0, .int .i64 0, .slice none 0 0], []⟩).memory Try.f4.params.toList Rows.fairOrderSpec.vars false #[Value.int .i64 0, Value.int .i64 0, Value.slice none 0 0].toList 8 = some ([.lit (.int .i64 0), .lit (.int .i64 0), .nil], [], places) :=
  ⟨[], by kernel_rfl⟩

set_option maxRecDepth 100000 in
theorem lifted (os : Os) (started : os.Started) (H : Type) (enc : TypeId × Value → H) (F : Stop.Interp) :
    ReturnsInHanded {} Try.checked os 4 .any ((OpenSpec.ofChange Rows.fairOrderSpec).preRow enc Try.prog Try.f4 Rows.fairOrderRow.domain false Rows.fairOrderRow.laid) (((OpenSpec.ofChange Rows.fairOrderSpec).at F).post enc Try.prog Try.f4 false true false false) := by
  obtain ⟨places, hx⟩ := reads os enc
  refine returnsInHanded_of_row (C := Try.checked) (s := OpenSpec.ofChange Rows.fairOrderSpec) own started (by kernel_rfl) Try.func4
    (witness_row_at (enc := enc) (C := Try.checked) false (startWorld Try.prog os) #[.int .i64 0, .int .i64 0, .slice none 0 0] rfl (by kernel_rfl) (by kernel_rfl) (by kernel_rfl)
      (OpenSpec.preRow_of_cond 8 hx (by kernel_rfl) (fun k hk => by cases hk) (by kernel_rfl) (laid_met os))) ?_
  intro W base args ds gs before hval hW _ _ hsz _ _ _
  exact contract H enc W base args ds gs before hval hW hsz

theorem said : Rows.FairOrderSaid :=
  OpenClaim.holds_of_cond 4 Try.f4 rfl rfl rfl rfl rfl rfl rfl ⟨rfl, rfl, rfl, rfl, rfl⟩ rfl rfl rfl rfl rfl (by kernel_rfl) Try.func4 (by kernel_rfl)
    (of_decide_eq_true (by kernel_rfl)) (by unfold Func.isWrapper; first | (rw [if_pos (by decide +kernel)]; kernel_rfl) | (rw [if_neg (by decide +kernel)]; exact ⟨rfl, rfl⟩))
    (fun os started H enc _ F => by rw [OpenClaim.pre_eq_preRow]; exact lifted os started H enc F)
end Go.Proofs.Ytiamlldooihkdaa.fairOrder
namespace Go.Proofs.Ytiamlldooihkdaa
theorem fairOrder_said : Rows.FairOrderSaid := fairOrder.said
end Go.Proofs.Ytiamlldooihkdaa
