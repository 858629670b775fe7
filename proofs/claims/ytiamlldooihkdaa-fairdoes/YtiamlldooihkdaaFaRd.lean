/-
  The document's own queues: Push, walked. No condition but what always holds of queues, and how many were pushed.
-/
import Derived.Test.YtiamlldooihkdaaFaRc
namespace Go.Proofs.Ytiamlldooihkdaa
set_option maxRecDepth 100000
open Go.RowKit

set_option linter.unusedSimpArgs false in
set_option maxHeartbeats 16000000 in
theorem rpush_ok {w : World} {R : Nat} {F : Nat → Prop} {f : FaQ} (h : RF w R F f) (x : Int) (s : ByteArray) (hx : In64 x) (hz : f.pz < 1000000) (hsz : s.size ≤ 9223372036854775807) :
    Calls Try.prog 11 #[ptr R, .int .i64 x, .string s] w fun e w' => e = .returned (.int .i64 (pushE f x s)) ∧ RF w' R (more F w w') (pushQ f x s) ∧ Kept F w w' := by
  have hok : (pushQ f x s).Ok := push_ok h.ok x s hx
  -- an answer that leaves all as it was
  have NO : pushE f x s ≠ 0 → RF w R (more F w w) (pushQ f x s) ∧ Kept F w w := fun hp => by
    obtain ⟨hl, hR, ok, ws, lv, h, o1, o2⟩ := h
    have e : pushQ f x s = { f with pz := f.pz + 1 } := by unfold pushQ; rw [if_neg hp]
    rw [e] at hok ⊢
    exact ⟨RF.done hl hR hok (Nat.le_refl _) (h.pz _) (fun k hk => .inl (o1 k hk)) (fun y hy k hk => .inl (o2 y hy k hk)), .refl _ _⟩
  by_cases hl : 65535 < s.size
  · have hpe : pushE f x s = 8 := by unfold pushE; rw [if_pos hl]
    have g1 : decide ((65535 : Int) < (s.size : Int)) = true := decide_eq_true (by omega)
    have g2 : decide (65535 < s.size) = true := decide_eq_true hl
    have NN := Lib.hid (NO (by rw [hpe]; decide))
    rw [hpe]
    clear NO h hok hpe hz hx
    go_enter Try.func11, Try.ntmps11
    go_wp2_with fail
    go_ret
    exact ⟨rfl, NN.out.1, NN.out.2⟩
  have g1 : decide ((65535 : Int) < (s.size : Int)) = false := decide_eq_false (by omega)
  have g2 : decide (65535 < s.size) = false := decide_eq_false hl
  obtain ⟨hlt, hR, ok, ws, lv, h, o1, o2⟩ := h
  have hn := ok.n
  have hlc := (len_cnt ok).1
  have hwl := h.len
  obtain ⟨a, c, rfl, -⟩ := h.slice
  obtain ⟨n, hnl⟩ : ∃ n, n = f.r.length := ⟨_, rfl⟩
  have hn1 : n < 1000000 := by omega
  have c2 := h.h.cell 2 rfl
  have c0 := h.h.cell 0 rfl
  rw [← hnl] at c2
  have AT : Hid (∀ i, i < n → ∃ g o, a = some ⟨g, o, none⟩ ∧ (∀ w', (Instr.indexAt 51 (.slice a n c) (.int .i64 (i : Int))).run Try.prog w' = .ok (.pointer (some ⟨g, o + 3 * i, none⟩)) w') ∧ w.cell? ⟨g, o + 3 * i, none⟩ = some (.int .i64 (f.r.getD i fe0).id) ∧ ∃ la lc, w.cell? ⟨g, o + 3 * i + 1, none⟩ = some (.slice la (f.r.getD i fe0).l.length lc) ∧ RowZ KS w (.slice la (f.r.getD i fe0).l.length lc) (f.r.getD i fe0).l) := fun i hi => by
    have hi' : i < f.r.length := by omega
    obtain ⟨g, o, h1, -, -, h2, h3, ⟨la, lc, ex, h4⟩, -, -⟩ := h.at hi'
    rw [← hnl] at h2
    have em := h.mem hi'
    have hs := h.s _ em.1
    rw [ex] at hs
    exact ⟨g, o, h1, h2, h3, la, lc, h4, hs⟩
  -- the end where it is pushed behind others
  have HIT : Hid (∀ i, i < n → (f.r.getD i fe0).id = x → tblE f.r x = some ((f.r.getD i fe0).l, (f.r.getD i fe0).d)) := fun i hi hx => by
    rw [← hx]
    exact tbl_mem f.r _ ok.ids (by
      rw [List.getD_eq_getElem?_getD, List.getElem?_eq_getElem (by omega)]
      exact List.getElem_mem _)
  have L6 : Hid (∀ i, i < n → (f.r.getD i fe0).l.length < 1000000) := fun i hi => by
    have := (len_cnt ok).2 (f.r.getD i fe0) (by
      rw [List.getD_eq_getElem?_getD, List.getElem?_eq_getElem (by omega)]
      exact List.getElem_mem _)
    omega
  have MISS : Hid ((∀ j, j < n → (f.r.getD j fe0).id ≠ x) → tblE f.r x = none) := fun hh => by
    refine (tbl_none f.r x).2 fun e he q => ?_
    obtain ⟨j, hj, rfl⟩ := List.getElem_of_mem he
    refine hh j (by omega) ?_
    rw [List.getD_eq_getElem?_getD, List.getElem?_eq_getElem hj]
    exact q
  have HH := Lib.hid h
  have hids := Lib.hid ok.ids
  have hnl' := Lib.hid hnl
  have hlt' := Lib.hid hlt
  have hR' := Lib.hid hR
  have o1' := Lib.hid o1
  have o2' := Lib.hid o2
  have hok' := Lib.hid hok
  replace NO := Lib.hid NO
  have hl0 := Lib.hid (show ¬ 65535 < s.size from hl)
  rw [← hnl] at HH o1'
  clear h hlt hR ok o1 o2 hok hn hlc hwl hz hnl hl
  go_enter Try.func11, Try.ntmps11
  go_wp2_with fail
  clear g1 g2
  go_loopg [7] n (fun g' s7 wr => ∃ i : Nat, i + g' = n ∧ s7 = .int .i64 i ∧ w = wr ∧ Hid (∀ j, j < i → (f.r.getD j fe0).id ≠ x))
  case atStart => exact ⟨0, by omega, rfl, rfl, fun j hj => absurd hj (Nat.not_lt_zero _)⟩
  case round =>
    obtain ⟨i, hi, rfl, rfl, BEF⟩ := hrel
    by_cases hin : i < n
    · have q1 : decide (i < n) = true := decide_eq_true hin
      have q2 : decide ((i : Int) < (n : Int)) = true := decide_eq_true (by omega)
      obtain ⟨g, o, rfl, ia, d0, la, lc, d1, rl⟩ := AT.out i hin
      have l6 := Lib.hid (L6.out i hin)
      have hit := HIT.out i hin
      have wi : Hid (wrap64 ((i : Int) + 1) = (i : Int) + 1) := by unfold Hid wrap64; omega
      have gi : Hid (i + 1 + (n - (i + 1)) = n) := by unfold Hid; omega
      have gm : Hid (n - (i + 1) < gk) := by unfold Hid; omega
      obtain ⟨id, hid⟩ : ∃ y, y = (f.r.getD i fe0).id := ⟨_, rfl⟩
      obtain ⟨ll, hll⟩ : ∃ y, y = (f.r.getD i fe0).l.length := ⟨_, rfl⟩
      rw [← hid] at d0 hit
      rw [← hll] at d1 l6 rl
      by_cases hx2 : id = x
      · have e1 : (id == x) = true := by simp [hx2]
        have e2 : decide (id = x) = true := decide_eq_true hx2
        have ht := hit hx2
        have l64 : ll ≤ 9223372036854775807 := by have := l6.out; omega
        by_cases hf : f.lim ≤ (ll : Int)
        · have hpe : pushE f x s = 4 := by unfold pushE; rw [if_neg hl0.out, ht]; simp only; rw [← hll, if_pos hf]
          have v1 : decide (f.lim ≤ (ll : Int)) = true := decide_eq_true hf
          have NN := Lib.hid (NO.out (by rw [hpe]; decide))
          subst hx2
          replace hpe := Lib.hid hpe
          replace hf := Lib.hid hf
          clear NO ht hit hid hll hi rl BEF AT HIT MISS L6 l6 HH
          go_upto_region 7 with fail
          go_quiet (fail)
          go_wp2_with fail
          go_ret
          exact ⟨by rw [hpe.out]; rfl, RF.drewn NN.out.1, Kept.of F ⟨rfl, rfl, rfl, Nat.le_refl _, fun _ _ => rfl⟩⟩
        · have hpe : pushE f x s = 0 := by unfold pushE; rw [if_neg hl0.out, ht]; simp only; rw [← hll, if_neg hf]
          have v1 : decide (f.lim ≤ (ll : Int)) = false := decide_eq_false hf
          replace hpe := Lib.hid hpe
          replace hf := Lib.hid hf
          replace ht := Lib.hid ht
          have hi2 := Lib.hid hin
          replace hid := Lib.hid hid
          replace hll := Lib.hid hll
          clear hit hi
          go_upto_region 7 with fail
          go_quiet (fail)
          go_upto_region 9 with fail
          have b0 : Below w.heap.size w (w.drewN nq).drew := ⟨rfl, rfl, rfl, Nat.le_refl _, fun _ _ => rfl⟩
          have hs0 : (w.drewN nq).drew.heap.size = w.heap.size := rfl
          clear q1 q2 d0 e1 e2 l64 v1 c0
          refine wp_region_held (S := fun w' => w'.cell? ⟨R, 2, none⟩ = some (.slice (some ⟨g, o, none⟩) n c)) (by kernel_rfl) ?_
          change wpAnyH _ .any _ _ _ 21 (Array.replicate 21 false) _ (w.drewN nq).drew
          generalize (w.drewN nq).drew = wd at *
          have hRw : R < w.heap.size := hlt'.out R hR'.out
          have hgw : g < w.heap.size := hlt'.out g (o1'.out g rfl)
          have SB : Hid (∀ w', Below wd.heap.size wd w' → w'.cell? ⟨R, 2, none⟩ = some (.slice (some ⟨g, o, none⟩) n c)) := fun w' b => (b.cell (by show R < wd.heap.size; omega)).trans ((b0.cell hRw).trans c2)
          have LD : Hid (∀ w', Below wd.heap.size wd w' → w'.cell? ⟨g, o + 3 * i + 1, none⟩ = some (.slice la ll lc)) := fun w' b => (b.cell (by show g < wd.heap.size; omega)).trans ((b0.cell hgw).trans d1)
          have rl' : RowZ KS wd (.slice la ll lc) (f.r.getD i fe0).l := rl.keep b0
          have zl : ((f.r.getD i fe0).l.length + 1) * KS.bytes ≤ 140737488355328 := by show (_ + 1) * 16 ≤ _; have := l6.out; have := hll.out; omega
          have zl2 : (f.r.getD i fe0).l.length + 1 ≤ maxLen := by have := l6.out; have := hll.out; unfold maxLen; omega
          have PA : Hid (∀ (w2 : World) (v2 : Value), Below wd.heap.size wd w2 → RowZ KS w2 v2 ((f.r.getD i fe0).l ++ [s]) → (∀ k, v2.ownBlock = some k → wd.heap.size ≤ k) → ∃ a2 n2 c2, v2 = .slice a2 n2 c2 ∧ RF (w2.setCell ⟨g, o + 3 * i + 1, none⟩ (.slice a2 n2 c2)) R (more F w (w2.setCell ⟨g, o + 3 * i + 1, none⟩ (.slice a2 n2 c2))) (pushQ f x s) ∧ Kept F w (w2.setCell ⟨g, o + 3 * i + 1, none⟩ (.slice a2 n2 c2)) ∧ (∃ v, w2.cell? ⟨g, o + 3 * i + 1, none⟩ = some v) ∧ w2.frozen? ⟨g, o + 3 * i + 1, none⟩ = false ∧ (w2.setCell ⟨g, o + 3 * i + 1, none⟩ (.slice a2 n2 c2)).cell? ⟨R, 2, none⟩ = some (.slice (some ⟨g, o, none⟩) n c)) := fun w2 v2 b z oz => by
            obtain ⟨a2, c2', rfl, -⟩ := z.slice
            rw [hs0] at b oz
            have hxe : x = (f.r.getD i fe0).id := hx2.symm.trans hid.out
            have hp := hpe.out
            have hk := hok'.out
            rw [hxe] at hp hk ⊢
            exact ⟨a2, _, c2', rfl, HH.out.pushAt hlt'.out hR'.out hk (o1'.out g rfl) o2'.out hids.out (by rw [← hnl'.out]; exact hi2.out) hp (b0.trans b) z oz⟩
          obtain ⟨vA1, wA1, hA1, bA1, vA2, wA2, hA2, bA2, zA, oA⟩ := ordA ks_ok rl' s 39 zl zl2
          replace hA1 : Hid (∀ z, (builtin .append #[39, 39] 39 z #[.slice (some ⟨wd.heap.size, 0, none⟩) 0 0, .slice la ll lc]).run Try.prog (wd.alloc (.cells #[] 9)) = .ok (.value vA1) wA1) := hA1
          obtain ⟨aA, nA, cA, rfl, E1, E2, ⟨y, y1⟩, y2, y3⟩ := PA.out wA2 vA2 bA2 zA oA
          have FA := Lib.hid (And.intro E1 (And.intro E2 (And.intro y1 (And.intro y2 y3))))
          replace hA2 : Hid (∀ z, (builtin .append #[39, 39] 39 z #[vA1, .slice (some ⟨wA1.heap.size, 0, none⟩) 1 1]).run Try.prog (wA1.alloc (.cells #[.string s] 9)) = .ok (.value (.slice aA nA cA)) wA2) := hA2
          clear zA oA E1 E2 y1 y2 y3
          replace bA1 := Lib.hid bA1
          replace bA2 := Lib.hid bA2
          obtain ⟨vB1, wB1, hB1, bB1, vB2, wB2, hB2, bB2, zB, oB⟩ := ordB ks_ok rl' s 39 zl zl2
          replace hB1 : Hid (∀ z, (builtin .append #[39, 39] 39 z #[.slice (some ⟨wd.heap.size, 0, none⟩) 0 0, .slice la ll lc]).run Try.prog ((wd.alloc (.cells #[] 9)).alloc (.cells #[.string s] 9)) = .ok (.value vB1) wB1) := hB1
          obtain ⟨aB, nB, cB, rfl, E1, E2, ⟨y, y1⟩, y2, y3⟩ := PA.out wB2 vB2 bB2 zB oB
          have FB := Lib.hid (And.intro E1 (And.intro E2 (And.intro y1 (And.intro y2 y3))))
          replace hB2 : Hid (∀ z, (builtin .append #[39, 39] 39 z #[vB1, .slice (some ⟨wd.heap.size + 1, 0, none⟩) 1 1]).run Try.prog wB1 = .ok (.value (.slice aB nB cB)) wB2) := hB2
          clear zB oB E1 E2 y1 y2 y3
          replace bB1 := Lib.hid bB1
          replace bB2 := Lib.hid bB2
          obtain ⟨vC1, wC1, hC1, bC1, vC2, wC2, hC2, bC2, zC, oC⟩ := ordC ks_ok rl' s 39 zl zl2
          replace hC1 : Hid (∀ z, (builtin .append #[39, 39] 39 z #[.slice (some ⟨wd.heap.size + 1, 0, none⟩) 0 0, .slice la ll lc]).run Try.prog ((wd.alloc (.cells #[.string s] 9)).alloc (.cells #[] 9)) = .ok (.value vC1) wC1) := hC1
          obtain ⟨aC, nC, cC, rfl, E1, E2, ⟨y, y1⟩, y2, y3⟩ := PA.out wC2 vC2 bC2 zC oC
          have FC := Lib.hid (And.intro E1 (And.intro E2 (And.intro y1 (And.intro y2 y3))))
          replace hC2 : Hid (∀ z, (builtin .append #[39, 39] 39 z #[vC1, .slice (some ⟨wd.heap.size, 0, none⟩) 1 1]).run Try.prog wC1 = .ok (.value (.slice aC nC cC)) wC2) := hC2
          clear zC oC E1 E2 y1 y2 y3
          replace bC1 := Lib.hid bC1
          replace bC2 := Lib.hid bC2
          clear PA rl rl' zl zl2 AT HIT MISS L6 HH NO BEF d1 c2 hs0 b0 hRw hgw
          have bw := Below.refl wd.heap.size wd
          have hS := SB.out wd bw
          refine obTakeH (i := 0) (d := 44) (v := .pointer (some ⟨R, 0, none⟩)) rfl rfl (by kernel_rfl) (by kernel_rfl) (by kernel_rfl) (fun _ _ _ h => h) rfl (fun w' hS => by go_simp) hS ?_
          refine obTakeH (i := 1) (d := 45) (v := .pointer (some ⟨R, 0, none⟩)) rfl rfl (by kernel_rfl) (by kernel_rfl) (by kernel_rfl) (fun _ _ _ h => h) rfl (fun w' hS => by go_simp) hS ?_
          refine obTakeH (i := 2) (d := 46) (v := .pointer (some ⟨R, 2, none⟩)) rfl rfl (by kernel_rfl) (by kernel_rfl) (by kernel_rfl) (fun _ _ _ h => h) rfl (fun w' hS => by go_simp) hS ?_
          refine obTakeH (i := 3) (d := 47) (v := .slice (some ⟨g, o, none⟩) n c) rfl rfl (by kernel_rfl) (by kernel_rfl) (by kernel_rfl) (fun _ _ _ h => h) rfl (fun w' hS => by go_simp) hS ?_
          refine obTakeH (i := 4) (d := 48) (v := .int .i64 (i : Int)) rfl rfl (by kernel_rfl) (by kernel_rfl) (by kernel_rfl) (fun _ _ _ h => h) rfl (fun w' hS => by go_simp) hS ?_
          refine obTakeH (i := 6) (d := 50) (v := .pointer (some ⟨R, 0, none⟩)) rfl rfl (by kernel_rfl) (by kernel_rfl) (by kernel_rfl) (fun _ _ _ h => h) rfl (fun w' hS => by go_simp) hS ?_
          refine obTakeH (i := 7) (d := 51) (v := .pointer (some ⟨R, 0, none⟩)) rfl rfl (by kernel_rfl) (by kernel_rfl) (by kernel_rfl) (fun _ _ _ h => h) rfl (fun w' hS => by go_simp) hS ?_
          refine obTakeH (i := 8) (d := 52) (v := .pointer (some ⟨R, 2, none⟩)) rfl rfl (by kernel_rfl) (by kernel_rfl) (by kernel_rfl) (fun _ _ _ h => h) rfl (fun w' hS => by go_simp) hS ?_
          refine obTakeH (i := 9) (d := 53) (v := .slice (some ⟨g, o, none⟩) n c) rfl rfl (by kernel_rfl) (by kernel_rfl) (by kernel_rfl) (fun _ _ _ h => h) rfl (fun w' hS => by go_simp) hS ?_
          refine obTakeH (i := 10) (d := 54) (v := .int .i64 (i : Int)) rfl rfl (by kernel_rfl) (by kernel_rfl) (by kernel_rfl) (fun _ _ _ h => h) rfl (fun w' hS => by go_simp) hS ?_
          refine obTakeH (i := 11) (d := 55) (v := .pointer (some ⟨g, o + 3 * i, none⟩)) rfl rfl (by kernel_rfl) (by kernel_rfl) (by kernel_rfl) (fun _ _ _ h => h) rfl (fun w' hS => by go_simp) hS ?_
          refine obTakeH (i := 12) (d := 56) (v := .pointer (some ⟨g, o + 3 * i + 1, none⟩)) rfl rfl (by kernel_rfl) (by kernel_rfl) (by kernel_rfl) (fun _ _ _ h => h) rfl (fun w' hS => by go_simp) hS ?_
          refine obTakeH (i := 15) (d := 59) (v := .string s) rfl rfl (by kernel_rfl) (by kernel_rfl) (by kernel_rfl) (fun _ _ _ h => h) rfl (fun w' hS => by go_simp) hS ?_
          clear hS
          try simp only [Act.put, List.setIfInBounds_toArray, List.set_cons_succ, List.set_cons_zero]
          refine wpAnyH_all (rs := [5, 13, 16]) (by kernel_rfl) (by simp) (fun y hy => ?_)
          have hy2 : y = 5 ∨ y = 13 ∨ y = 16 := by simpa using hy
          clear hy
          rcases hy2 with rfl | rfl | rfl
          · refine wpOp_step rfl (fun K' hK => ?_)
            have bn := bw.alloc bw.size (.cells #[] 9)
            go_simp
            refine hK _ _ ⟨SB.out _ bn, ?_⟩
            clear hK K'
            replace bw := bn
            clear bn
            try simp only [Act.put, List.setIfInBounds_toArray, List.set_cons_succ, List.set_cons_zero]
            refine wpAnyH_all (rs := [13, 16]) (by kernel_rfl) (by simp) (fun y hy => ?_)
            have hy2 : y = 13 ∨ y = 16 := by simpa using hy
            clear hy
            rcases hy2 with rfl | rfl
            · refine wpOp_step rfl (fun K' hK => ?_)
              have ld := LD.out _ bw
              go_simp
              refine hK _ _ ⟨SB.out _ bw, ?_⟩
              clear hK K' ld
              try simp only [Act.put, List.setIfInBounds_toArray, List.set_cons_succ, List.set_cons_zero]
              refine wpAnyH_all (rs := [14, 16]) (by kernel_rfl) (by simp) (fun y hy => ?_)
              have hy2 : y = 14 ∨ y = 16 := by simpa using hy
              clear hy
              rcases hy2 with rfl | rfl
              · refine wpOp_step rfl (fun K' hK => ?_)
                refine obB2 _ .append _ _ _ _ rfl _ _ rfl rfl hA1.out ?_
                refine hK _ _ ⟨SB.out _ bA1.out, ?_⟩
                clear hK K'
                have bw := bA1.out
                try simp only [Act.put, List.setIfInBounds_toArray, List.set_cons_succ, List.set_cons_zero]
                refine wpAnyH_all (rs := [16]) (by kernel_rfl) (by simp) (fun y hy => ?_)
                obtain rfl : y = 16 := by simpa using hy
                clear hy
                refine wpOp_step rfl (fun K' hK => ?_)
                have bn := bw.alloc bw.size (.cells #[.string s] 9)
                go_simp
                refine hK _ _ ⟨SB.out _ bn, ?_⟩
                clear hK K'
                replace bw := bn
                clear bn
                try simp only [Act.put, List.setIfInBounds_toArray, List.set_cons_succ, List.set_cons_zero]
                refine wpAnyH_all (rs := [17]) (by kernel_rfl) (by simp) (fun y hy => ?_)
                obtain rfl : y = 17 := by simpa using hy
                clear hy
                refine wpOp_step rfl (fun K' hK => ?_)
                refine obB2 _ .append _ _ _ _ rfl _ _ rfl rfl hA2.out ?_
                refine hK _ _ ⟨SB.out _ bA2.out, ?_⟩
                clear hK K'
                try simp only [Act.put, List.setIfInBounds_toArray, List.set_cons_succ, List.set_cons_zero]
                have hS := SB.out _ bA2.out
                refine obTakeH (i := 18) (d := 62) (v := .pointer (some ⟨g, o + 3 * i, none⟩)) rfl rfl (by kernel_rfl) (by kernel_rfl) (by kernel_rfl) (fun _ _ _ h => h) rfl (fun w' hS => by go_simp) hS ?_
                refine obTakeH (i := 19) (d := 63) (v := .pointer (some ⟨g, o + 3 * i + 1, none⟩)) rfl rfl (by kernel_rfl) (by kernel_rfl) (by kernel_rfl) (fun _ _ _ h => h) rfl (fun w' hS => by go_simp) hS ?_
                clear hS
                try simp only [Act.put, List.setIfInBounds_toArray, List.set_cons_succ, List.set_cons_zero]
                refine wpAnyH_all (rs := [20]) (by kernel_rfl) (by simp) (fun y hy => ?_)
                obtain rfl : y = 20 := by simpa using hy
                clear hy
                refine wpOp_step rfl (fun K' hK => ?_)
                have y1 := FA.out.2.2.1
                have y2 := FA.out.2.2.2.1
                have y3 := FA.out.2.2.2.2
                go_simp
                refine hK _ _ ⟨y3, ?_⟩
                clear hK K' y1 y2 y3
                try simp only [Act.put, List.setIfInBounds_toArray, List.set_cons_succ, List.set_cons_zero]
                refine wpAnyH_done (by kernel_rfl) ?_ 0
                have E1 := Lib.hid FA.out.1
                have E2 := Lib.hid FA.out.2.1
                clear bw hA1 hA2 hB1 hB2 hC1 hC2 bA1 bA2 bB1 bB2 bC1 bC2 FA FB FC SB LD ia
                go_wp2_with fail
                go_ret
                exact ⟨by rw [hpe.out]; rfl, E1.out, E2.out⟩
              · refine wpOp_step rfl (fun K' hK => ?_)
                have bn := bw.alloc bw.size (.cells #[.string s] 9)
                go_simp
                refine hK _ _ ⟨SB.out _ bn, ?_⟩
                clear hK K'
                replace bw := bn
                clear bn
                try simp only [Act.put, List.setIfInBounds_toArray, List.set_cons_succ, List.set_cons_zero]
                refine wpAnyH_all (rs := [14]) (by kernel_rfl) (by simp) (fun y hy => ?_)
                obtain rfl : y = 14 := by simpa using hy
                clear hy
                refine wpOp_step rfl (fun K' hK => ?_)
                refine obB2 _ .append _ _ _ _ rfl _ _ rfl rfl hB1.out ?_
                refine hK _ _ ⟨SB.out _ bB1.out, ?_⟩
                clear hK K'
                have bw := bB1.out
                try simp only [Act.put, List.setIfInBounds_toArray, List.set_cons_succ, List.set_cons_zero]
                refine wpAnyH_all (rs := [17]) (by kernel_rfl) (by simp) (fun y hy => ?_)
                obtain rfl : y = 17 := by simpa using hy
                clear hy
                refine wpOp_step rfl (fun K' hK => ?_)
                refine obB2 _ .append _ _ _ _ rfl _ _ rfl rfl hB2.out ?_
                refine hK _ _ ⟨SB.out _ bB2.out, ?_⟩
                clear hK K'
                try simp only [Act.put, List.setIfInBounds_toArray, List.set_cons_succ, List.set_cons_zero]
                have hS := SB.out _ bB2.out
                refine obTakeH (i := 18) (d := 62) (v := .pointer (some ⟨g, o + 3 * i, none⟩)) rfl rfl (by kernel_rfl) (by kernel_rfl) (by kernel_rfl) (fun _ _ _ h => h) rfl (fun w' hS => by go_simp) hS ?_
                refine obTakeH (i := 19) (d := 63) (v := .pointer (some ⟨g, o + 3 * i + 1, none⟩)) rfl rfl (by kernel_rfl) (by kernel_rfl) (by kernel_rfl) (fun _ _ _ h => h) rfl (fun w' hS => by go_simp) hS ?_
                clear hS
                try simp only [Act.put, List.setIfInBounds_toArray, List.set_cons_succ, List.set_cons_zero]
                refine wpAnyH_all (rs := [20]) (by kernel_rfl) (by simp) (fun y hy => ?_)
                obtain rfl : y = 20 := by simpa using hy
                clear hy
                refine wpOp_step rfl (fun K' hK => ?_)
                have y1 := FB.out.2.2.1
                have y2 := FB.out.2.2.2.1
                have y3 := FB.out.2.2.2.2
                go_simp
                refine hK _ _ ⟨y3, ?_⟩
                clear hK K' y1 y2 y3
                try simp only [Act.put, List.setIfInBounds_toArray, List.set_cons_succ, List.set_cons_zero]
                refine wpAnyH_done (by kernel_rfl) ?_ 0
                have E1 := Lib.hid FB.out.1
                have E2 := Lib.hid FB.out.2.1
                clear bw hA1 hA2 hB1 hB2 hC1 hC2 bA1 bA2 bB1 bB2 bC1 bC2 FA FB FC SB LD ia
                go_wp2_with fail
                go_ret
                exact ⟨by rw [hpe.out]; rfl, E1.out, E2.out⟩
            · refine wpOp_step rfl (fun K' hK => ?_)
              have bn := bw.alloc bw.size (.cells #[.string s] 9)
              go_simp
              refine hK _ _ ⟨SB.out _ bn, ?_⟩
              clear hK K'
              replace bw := bn
              clear bn
              try simp only [Act.put, List.setIfInBounds_toArray, List.set_cons_succ, List.set_cons_zero]
              refine wpAnyH_all (rs := [13]) (by kernel_rfl) (by simp) (fun y hy => ?_)
              obtain rfl : y = 13 := by simpa using hy
              clear hy
              refine wpOp_step rfl (fun K' hK => ?_)
              have ld := LD.out _ bw
              go_simp
              refine hK _ _ ⟨SB.out _ bw, ?_⟩
              clear hK K' ld
              try simp only [Act.put, List.setIfInBounds_toArray, List.set_cons_succ, List.set_cons_zero]
              refine wpAnyH_all (rs := [14]) (by kernel_rfl) (by simp) (fun y hy => ?_)
              obtain rfl : y = 14 := by simpa using hy
              clear hy
              refine wpOp_step rfl (fun K' hK => ?_)
              refine obB2 _ .append _ _ _ _ rfl _ _ rfl rfl hB1.out ?_
              refine hK _ _ ⟨SB.out _ bB1.out, ?_⟩
              clear hK K'
              have bw := bB1.out
              try simp only [Act.put, List.setIfInBounds_toArray, List.set_cons_succ, List.set_cons_zero]
              refine wpAnyH_all (rs := [17]) (by kernel_rfl) (by simp) (fun y hy => ?_)
              obtain rfl : y = 17 := by simpa using hy
              clear hy
              refine wpOp_step rfl (fun K' hK => ?_)
              refine obB2 _ .append _ _ _ _ rfl _ _ rfl rfl hB2.out ?_
              refine hK _ _ ⟨SB.out _ bB2.out, ?_⟩
              clear hK K'
              try simp only [Act.put, List.setIfInBounds_toArray, List.set_cons_succ, List.set_cons_zero]
              have hS := SB.out _ bB2.out
              refine obTakeH (i := 18) (d := 62) (v := .pointer (some ⟨g, o + 3 * i, none⟩)) rfl rfl (by kernel_rfl) (by kernel_rfl) (by kernel_rfl) (fun _ _ _ h => h) rfl (fun w' hS => by go_simp) hS ?_
              refine obTakeH (i := 19) (d := 63) (v := .pointer (some ⟨g, o + 3 * i + 1, none⟩)) rfl rfl (by kernel_rfl) (by kernel_rfl) (by kernel_rfl) (fun _ _ _ h => h) rfl (fun w' hS => by go_simp) hS ?_
              clear hS
              try simp only [Act.put, List.setIfInBounds_toArray, List.set_cons_succ, List.set_cons_zero]
              refine wpAnyH_all (rs := [20]) (by kernel_rfl) (by simp) (fun y hy => ?_)
              obtain rfl : y = 20 := by simpa using hy
              clear hy
              refine wpOp_step rfl (fun K' hK => ?_)
              have y1 := FB.out.2.2.1
              have y2 := FB.out.2.2.2.1
              have y3 := FB.out.2.2.2.2
              go_simp
              refine hK _ _ ⟨y3, ?_⟩
              clear hK K' y1 y2 y3
              try simp only [Act.put, List.setIfInBounds_toArray, List.set_cons_succ, List.set_cons_zero]
              refine wpAnyH_done (by kernel_rfl) ?_ 0
              have E1 := Lib.hid FB.out.1
              have E2 := Lib.hid FB.out.2.1
              clear bw hA1 hA2 hB1 hB2 hC1 hC2 bA1 bA2 bB1 bB2 bC1 bC2 FA FB FC SB LD ia
              go_wp2_with fail
              go_ret
              exact ⟨by rw [hpe.out]; rfl, E1.out, E2.out⟩
          · refine wpOp_step rfl (fun K' hK => ?_)
            have ld := LD.out _ bw
            go_simp
            refine hK _ _ ⟨SB.out _ bw, ?_⟩
            clear hK K' ld
            try simp only [Act.put, List.setIfInBounds_toArray, List.set_cons_succ, List.set_cons_zero]
            refine wpAnyH_all (rs := [5, 16]) (by kernel_rfl) (by simp) (fun y hy => ?_)
            have hy2 : y = 5 ∨ y = 16 := by simpa using hy
            clear hy
            rcases hy2 with rfl | rfl
            · refine wpOp_step rfl (fun K' hK => ?_)
              have bn := bw.alloc bw.size (.cells #[] 9)
              go_simp
              refine hK _ _ ⟨SB.out _ bn, ?_⟩
              clear hK K'
              replace bw := bn
              clear bn
              try simp only [Act.put, List.setIfInBounds_toArray, List.set_cons_succ, List.set_cons_zero]
              refine wpAnyH_all (rs := [14, 16]) (by kernel_rfl) (by simp) (fun y hy => ?_)
              have hy2 : y = 14 ∨ y = 16 := by simpa using hy
              clear hy
              rcases hy2 with rfl | rfl
              · refine wpOp_step rfl (fun K' hK => ?_)
                refine obB2 _ .append _ _ _ _ rfl _ _ rfl rfl hA1.out ?_
                refine hK _ _ ⟨SB.out _ bA1.out, ?_⟩
                clear hK K'
                have bw := bA1.out
                try simp only [Act.put, List.setIfInBounds_toArray, List.set_cons_succ, List.set_cons_zero]
                refine wpAnyH_all (rs := [16]) (by kernel_rfl) (by simp) (fun y hy => ?_)
                obtain rfl : y = 16 := by simpa using hy
                clear hy
                refine wpOp_step rfl (fun K' hK => ?_)
                have bn := bw.alloc bw.size (.cells #[.string s] 9)
                go_simp
                refine hK _ _ ⟨SB.out _ bn, ?_⟩
                clear hK K'
                replace bw := bn
                clear bn
                try simp only [Act.put, List.setIfInBounds_toArray, List.set_cons_succ, List.set_cons_zero]
                refine wpAnyH_all (rs := [17]) (by kernel_rfl) (by simp) (fun y hy => ?_)
                obtain rfl : y = 17 := by simpa using hy
                clear hy
                refine wpOp_step rfl (fun K' hK => ?_)
                refine obB2 _ .append _ _ _ _ rfl _ _ rfl rfl hA2.out ?_
                refine hK _ _ ⟨SB.out _ bA2.out, ?_⟩
                clear hK K'
                try simp only [Act.put, List.setIfInBounds_toArray, List.set_cons_succ, List.set_cons_zero]
                have hS := SB.out _ bA2.out
                refine obTakeH (i := 18) (d := 62) (v := .pointer (some ⟨g, o + 3 * i, none⟩)) rfl rfl (by kernel_rfl) (by kernel_rfl) (by kernel_rfl) (fun _ _ _ h => h) rfl (fun w' hS => by go_simp) hS ?_
                refine obTakeH (i := 19) (d := 63) (v := .pointer (some ⟨g, o + 3 * i + 1, none⟩)) rfl rfl (by kernel_rfl) (by kernel_rfl) (by kernel_rfl) (fun _ _ _ h => h) rfl (fun w' hS => by go_simp) hS ?_
                clear hS
                try simp only [Act.put, List.setIfInBounds_toArray, List.set_cons_succ, List.set_cons_zero]
                refine wpAnyH_all (rs := [20]) (by kernel_rfl) (by simp) (fun y hy => ?_)
                obtain rfl : y = 20 := by simpa using hy
                clear hy
                refine wpOp_step rfl (fun K' hK => ?_)
                have y1 := FA.out.2.2.1
                have y2 := FA.out.2.2.2.1
                have y3 := FA.out.2.2.2.2
                go_simp
                refine hK _ _ ⟨y3, ?_⟩
                clear hK K' y1 y2 y3
                try simp only [Act.put, List.setIfInBounds_toArray, List.set_cons_succ, List.set_cons_zero]
                refine wpAnyH_done (by kernel_rfl) ?_ 0
                have E1 := Lib.hid FA.out.1
                have E2 := Lib.hid FA.out.2.1
                clear bw hA1 hA2 hB1 hB2 hC1 hC2 bA1 bA2 bB1 bB2 bC1 bC2 FA FB FC SB LD ia
                go_wp2_with fail
                go_ret
                exact ⟨by rw [hpe.out]; rfl, E1.out, E2.out⟩
              · refine wpOp_step rfl (fun K' hK => ?_)
                have bn := bw.alloc bw.size (.cells #[.string s] 9)
                go_simp
                refine hK _ _ ⟨SB.out _ bn, ?_⟩
                clear hK K'
                replace bw := bn
                clear bn
                try simp only [Act.put, List.setIfInBounds_toArray, List.set_cons_succ, List.set_cons_zero]
                refine wpAnyH_all (rs := [14]) (by kernel_rfl) (by simp) (fun y hy => ?_)
                obtain rfl : y = 14 := by simpa using hy
                clear hy
                refine wpOp_step rfl (fun K' hK => ?_)
                refine obB2 _ .append _ _ _ _ rfl _ _ rfl rfl hB1.out ?_
                refine hK _ _ ⟨SB.out _ bB1.out, ?_⟩
                clear hK K'
                have bw := bB1.out
                try simp only [Act.put, List.setIfInBounds_toArray, List.set_cons_succ, List.set_cons_zero]
                refine wpAnyH_all (rs := [17]) (by kernel_rfl) (by simp) (fun y hy => ?_)
                obtain rfl : y = 17 := by simpa using hy
                clear hy
                refine wpOp_step rfl (fun K' hK => ?_)
                refine obB2 _ .append _ _ _ _ rfl _ _ rfl rfl hB2.out ?_
                refine hK _ _ ⟨SB.out _ bB2.out, ?_⟩
                clear hK K'
                try simp only [Act.put, List.setIfInBounds_toArray, List.set_cons_succ, List.set_cons_zero]
                have hS := SB.out _ bB2.out
                refine obTakeH (i := 18) (d := 62) (v := .pointer (some ⟨g, o + 3 * i, none⟩)) rfl rfl (by kernel_rfl) (by kernel_rfl) (by kernel_rfl) (fun _ _ _ h => h) rfl (fun w' hS => by go_simp) hS ?_
                refine obTakeH (i := 19) (d := 63) (v := .pointer (some ⟨g, o + 3 * i + 1, none⟩)) rfl rfl (by kernel_rfl) (by kernel_rfl) (by kernel_rfl) (fun _ _ _ h => h) rfl (fun w' hS => by go_simp) hS ?_
                clear hS
                try simp only [Act.put, List.setIfInBounds_toArray, List.set_cons_succ, List.set_cons_zero]
                refine wpAnyH_all (rs := [20]) (by kernel_rfl) (by simp) (fun y hy => ?_)
                obtain rfl : y = 20 := by simpa using hy
                clear hy
                refine wpOp_step rfl (fun K' hK => ?_)
                have y1 := FB.out.2.2.1
                have y2 := FB.out.2.2.2.1
                have y3 := FB.out.2.2.2.2
                go_simp
                refine hK _ _ ⟨y3, ?_⟩
                clear hK K' y1 y2 y3
                try simp only [Act.put, List.setIfInBounds_toArray, List.set_cons_succ, List.set_cons_zero]
                refine wpAnyH_done (by kernel_rfl) ?_ 0
                have E1 := Lib.hid FB.out.1
                have E2 := Lib.hid FB.out.2.1
                clear bw hA1 hA2 hB1 hB2 hC1 hC2 bA1 bA2 bB1 bB2 bC1 bC2 FA FB FC SB LD ia
                go_wp2_with fail
                go_ret
                exact ⟨by rw [hpe.out]; rfl, E1.out, E2.out⟩
            · refine wpOp_step rfl (fun K' hK => ?_)
              have bn := bw.alloc bw.size (.cells #[.string s] 9)
              go_simp
              refine hK _ _ ⟨SB.out _ bn, ?_⟩
              clear hK K'
              replace bw := bn
              clear bn
              try simp only [Act.put, List.setIfInBounds_toArray, List.set_cons_succ, List.set_cons_zero]
              refine wpAnyH_all (rs := [5]) (by kernel_rfl) (by simp) (fun y hy => ?_)
              obtain rfl : y = 5 := by simpa using hy
              clear hy
              refine wpOp_step rfl (fun K' hK => ?_)
              have bn := bw.alloc bw.size (.cells #[] 9)
              go_simp
              refine hK _ _ ⟨SB.out _ bn, ?_⟩
              clear hK K'
              replace bw := bn
              clear bn
              try simp only [Act.put, List.setIfInBounds_toArray, List.set_cons_succ, List.set_cons_zero]
              refine wpAnyH_all (rs := [14]) (by kernel_rfl) (by simp) (fun y hy => ?_)
              obtain rfl : y = 14 := by simpa using hy
              clear hy
              refine wpOp_step rfl (fun K' hK => ?_)
              refine obB2 _ .append _ _ _ _ rfl _ _ rfl rfl hC1.out ?_
              refine hK _ _ ⟨SB.out _ bC1.out, ?_⟩
              clear hK K'
              have bw := bC1.out
              try simp only [Act.put, List.setIfInBounds_toArray, List.set_cons_succ, List.set_cons_zero]
              refine wpAnyH_all (rs := [17]) (by kernel_rfl) (by simp) (fun y hy => ?_)
              obtain rfl : y = 17 := by simpa using hy
              clear hy
              refine wpOp_step rfl (fun K' hK => ?_)
              refine obB2 _ .append _ _ _ _ rfl _ _ rfl rfl hC2.out ?_
              refine hK _ _ ⟨SB.out _ bC2.out, ?_⟩
              clear hK K'
              try simp only [Act.put, List.setIfInBounds_toArray, List.set_cons_succ, List.set_cons_zero]
              have hS := SB.out _ bC2.out
              refine obTakeH (i := 18) (d := 62) (v := .pointer (some ⟨g, o + 3 * i, none⟩)) rfl rfl (by kernel_rfl) (by kernel_rfl) (by kernel_rfl) (fun _ _ _ h => h) rfl (fun w' hS => by go_simp) hS ?_
              refine obTakeH (i := 19) (d := 63) (v := .pointer (some ⟨g, o + 3 * i + 1, none⟩)) rfl rfl (by kernel_rfl) (by kernel_rfl) (by kernel_rfl) (fun _ _ _ h => h) rfl (fun w' hS => by go_simp) hS ?_
              clear hS
              try simp only [Act.put, List.setIfInBounds_toArray, List.set_cons_succ, List.set_cons_zero]
              refine wpAnyH_all (rs := [20]) (by kernel_rfl) (by simp) (fun y hy => ?_)
              obtain rfl : y = 20 := by simpa using hy
              clear hy
              refine wpOp_step rfl (fun K' hK => ?_)
              have y1 := FC.out.2.2.1
              have y2 := FC.out.2.2.2.1
              have y3 := FC.out.2.2.2.2
              go_simp
              refine hK _ _ ⟨y3, ?_⟩
              clear hK K' y1 y2 y3
              try simp only [Act.put, List.setIfInBounds_toArray, List.set_cons_succ, List.set_cons_zero]
              refine wpAnyH_done (by kernel_rfl) ?_ 0
              have E1 := Lib.hid FC.out.1
              have E2 := Lib.hid FC.out.2.1
              clear bw hA1 hA2 hB1 hB2 hC1 hC2 bA1 bA2 bB1 bB2 bC1 bC2 FA FB FC SB LD ia
              go_wp2_with fail
              go_ret
              exact ⟨by rw [hpe.out]; rfl, E1.out, E2.out⟩
          · refine wpOp_step rfl (fun K' hK => ?_)
            have bn := bw.alloc bw.size (.cells #[.string s] 9)
            go_simp
            refine hK _ _ ⟨SB.out _ bn, ?_⟩
            clear hK K'
            replace bw := bn
            clear bn
            try simp only [Act.put, List.setIfInBounds_toArray, List.set_cons_succ, List.set_cons_zero]
            refine wpAnyH_all (rs := [5, 13]) (by kernel_rfl) (by simp) (fun y hy => ?_)
            have hy2 : y = 5 ∨ y = 13 := by simpa using hy
            clear hy
            rcases hy2 with rfl | rfl
            · refine wpOp_step rfl (fun K' hK => ?_)
              have bn := bw.alloc bw.size (.cells #[] 9)
              go_simp
              refine hK _ _ ⟨SB.out _ bn, ?_⟩
              clear hK K'
              replace bw := bn
              clear bn
              try simp only [Act.put, List.setIfInBounds_toArray, List.set_cons_succ, List.set_cons_zero]
              refine wpAnyH_all (rs := [13]) (by kernel_rfl) (by simp) (fun y hy => ?_)
              obtain rfl : y = 13 := by simpa using hy
              clear hy
              refine wpOp_step rfl (fun K' hK => ?_)
              have ld := LD.out _ bw
              go_simp
              refine hK _ _ ⟨SB.out _ bw, ?_⟩
              clear hK K' ld
              try simp only [Act.put, List.setIfInBounds_toArray, List.set_cons_succ, List.set_cons_zero]
              refine wpAnyH_all (rs := [14]) (by kernel_rfl) (by simp) (fun y hy => ?_)
              obtain rfl : y = 14 := by simpa using hy
              clear hy
              refine wpOp_step rfl (fun K' hK => ?_)
              refine obB2 _ .append _ _ _ _ rfl _ _ rfl rfl hC1.out ?_
              refine hK _ _ ⟨SB.out _ bC1.out, ?_⟩
              clear hK K'
              have bw := bC1.out
              try simp only [Act.put, List.setIfInBounds_toArray, List.set_cons_succ, List.set_cons_zero]
              refine wpAnyH_all (rs := [17]) (by kernel_rfl) (by simp) (fun y hy => ?_)
              obtain rfl : y = 17 := by simpa using hy
              clear hy
              refine wpOp_step rfl (fun K' hK => ?_)
              refine obB2 _ .append _ _ _ _ rfl _ _ rfl rfl hC2.out ?_
              refine hK _ _ ⟨SB.out _ bC2.out, ?_⟩
              clear hK K'
              try simp only [Act.put, List.setIfInBounds_toArray, List.set_cons_succ, List.set_cons_zero]
              have hS := SB.out _ bC2.out
              refine obTakeH (i := 18) (d := 62) (v := .pointer (some ⟨g, o + 3 * i, none⟩)) rfl rfl (by kernel_rfl) (by kernel_rfl) (by kernel_rfl) (fun _ _ _ h => h) rfl (fun w' hS => by go_simp) hS ?_
              refine obTakeH (i := 19) (d := 63) (v := .pointer (some ⟨g, o + 3 * i + 1, none⟩)) rfl rfl (by kernel_rfl) (by kernel_rfl) (by kernel_rfl) (fun _ _ _ h => h) rfl (fun w' hS => by go_simp) hS ?_
              clear hS
              try simp only [Act.put, List.setIfInBounds_toArray, List.set_cons_succ, List.set_cons_zero]
              refine wpAnyH_all (rs := [20]) (by kernel_rfl) (by simp) (fun y hy => ?_)
              obtain rfl : y = 20 := by simpa using hy
              clear hy
              refine wpOp_step rfl (fun K' hK => ?_)
              have y1 := FC.out.2.2.1
              have y2 := FC.out.2.2.2.1
              have y3 := FC.out.2.2.2.2
              go_simp
              refine hK _ _ ⟨y3, ?_⟩
              clear hK K' y1 y2 y3
              try simp only [Act.put, List.setIfInBounds_toArray, List.set_cons_succ, List.set_cons_zero]
              refine wpAnyH_done (by kernel_rfl) ?_ 0
              have E1 := Lib.hid FC.out.1
              have E2 := Lib.hid FC.out.2.1
              clear bw hA1 hA2 hB1 hB2 hC1 hC2 bA1 bA2 bB1 bB2 bC1 bC2 FA FB FC SB LD ia
              go_wp2_with fail
              go_ret
              exact ⟨by rw [hpe.out]; rfl, E1.out, E2.out⟩
            · refine wpOp_step rfl (fun K' hK => ?_)
              have ld := LD.out _ bw
              go_simp
              refine hK _ _ ⟨SB.out _ bw, ?_⟩
              clear hK K' ld
              try simp only [Act.put, List.setIfInBounds_toArray, List.set_cons_succ, List.set_cons_zero]
              refine wpAnyH_all (rs := [5]) (by kernel_rfl) (by simp) (fun y hy => ?_)
              obtain rfl : y = 5 := by simpa using hy
              clear hy
              refine wpOp_step rfl (fun K' hK => ?_)
              have bn := bw.alloc bw.size (.cells #[] 9)
              go_simp
              refine hK _ _ ⟨SB.out _ bn, ?_⟩
              clear hK K'
              replace bw := bn
              clear bn
              try simp only [Act.put, List.setIfInBounds_toArray, List.set_cons_succ, List.set_cons_zero]
              refine wpAnyH_all (rs := [14]) (by kernel_rfl) (by simp) (fun y hy => ?_)
              obtain rfl : y = 14 := by simpa using hy
              clear hy
              refine wpOp_step rfl (fun K' hK => ?_)
              refine obB2 _ .append _ _ _ _ rfl _ _ rfl rfl hC1.out ?_
              refine hK _ _ ⟨SB.out _ bC1.out, ?_⟩
              clear hK K'
              have bw := bC1.out
              try simp only [Act.put, List.setIfInBounds_toArray, List.set_cons_succ, List.set_cons_zero]
              refine wpAnyH_all (rs := [17]) (by kernel_rfl) (by simp) (fun y hy => ?_)
              obtain rfl : y = 17 := by simpa using hy
              clear hy
              refine wpOp_step rfl (fun K' hK => ?_)
              refine obB2 _ .append _ _ _ _ rfl _ _ rfl rfl hC2.out ?_
              refine hK _ _ ⟨SB.out _ bC2.out, ?_⟩
              clear hK K'
              try simp only [Act.put, List.setIfInBounds_toArray, List.set_cons_succ, List.set_cons_zero]
              have hS := SB.out _ bC2.out
              refine obTakeH (i := 18) (d := 62) (v := .pointer (some ⟨g, o + 3 * i, none⟩)) rfl rfl (by kernel_rfl) (by kernel_rfl) (by kernel_rfl) (fun _ _ _ h => h) rfl (fun w' hS => by go_simp) hS ?_
              refine obTakeH (i := 19) (d := 63) (v := .pointer (some ⟨g, o + 3 * i + 1, none⟩)) rfl rfl (by kernel_rfl) (by kernel_rfl) (by kernel_rfl) (fun _ _ _ h => h) rfl (fun w' hS => by go_simp) hS ?_
              clear hS
              try simp only [Act.put, List.setIfInBounds_toArray, List.set_cons_succ, List.set_cons_zero]
              refine wpAnyH_all (rs := [20]) (by kernel_rfl) (by simp) (fun y hy => ?_)
              obtain rfl : y = 20 := by simpa using hy
              clear hy
              refine wpOp_step rfl (fun K' hK => ?_)
              have y1 := FC.out.2.2.1
              have y2 := FC.out.2.2.2.1
              have y3 := FC.out.2.2.2.2
              go_simp
              refine hK _ _ ⟨y3, ?_⟩
              clear hK K' y1 y2 y3
              try simp only [Act.put, List.setIfInBounds_toArray, List.set_cons_succ, List.set_cons_zero]
              refine wpAnyH_done (by kernel_rfl) ?_ 0
              have E1 := Lib.hid FC.out.1
              have E2 := Lib.hid FC.out.2.1
              clear bw hA1 hA2 hB1 hB2 hC1 hC2 bA1 bA2 bB1 bB2 bC1 bC2 FA FB FC SB LD ia
              go_wp2_with fail
              go_ret
              exact ⟨by rw [hpe.out]; rfl, E1.out, E2.out⟩
      · have e1 : (id == x) = false := by simp [hx2]
        have e2 : decide (id = x) = false := decide_eq_false hx2
        have BE2 : Hid (∀ j, j < i + 1 → (f.r.getD j fe0).id ≠ x) := fun j hj => by
          by_cases q : j = i
          · rw [q, ← hid]; exact hx2
          · exact BEF.out j (by omega)
        clear BEF hit hid hll hi rl AT HIT MISS L6 l6 HH NO
        go_upto_region 5 with fail
        clear q1 q2 ia d0 d1 e1 e2 hin hx2
        replace wi := wi.out
        go_wp2_with fail
        go_roundg (n - (i + 1))
        case measure => exact gm.out
        case rel => exact ⟨i + 1, gi.out, by go_num, rfl, BE2⟩
    · obtain rfl : i = n := by omega
      have q1 : decide (i < i) = false := decide_eq_false hin
      have q2 : decide ((i : Int) < (i : Int)) = false := decide_eq_false (by omega)
      have ht := MISS.out BEF.out
      have hpe : pushE f x s = 0 := by unfold pushE; rw [if_neg hl0.out, ht]
      obtain ⟨a', n', c', w', hap, ⟨y, y1⟩, y2, E1, E2⟩ := HH.out.pushNew hlt'.out hR'.out hok'.out o1'.out o2'.out hpe ht (by rw [← hnl'.out]; exact hn1)
      replace hap := Lib.hid hap
      replace E1 := Lib.hid E1
      replace E2 := Lib.hid E2
      replace hpe := Lib.hid hpe
      clear AT HIT MISS L6 HH NO BEF ht hi hin
      go_upto_region 12 with (refine obB2L _ rfl .append (.tmp 68) (.tmp 73) 51 51 rfl (.slice a i c) (.slice (some ⟨w.heap.size + 1, 0, none⟩) 1 1) rfl rfl hap.out ?_)
      clear q1 q2 c2 c0 hap y1 y2
      go_wp2_with fail
      go_ret
      exact ⟨by rw [hpe.out]; rfl, E1.out, E2.out⟩
end Go.Proofs.Ytiamlldooihkdaa
