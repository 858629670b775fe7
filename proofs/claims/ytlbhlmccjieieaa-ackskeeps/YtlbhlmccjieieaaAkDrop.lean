/-
  The document's own set: its ranges in a row of its own; what its Drop leaves. Fewer than 2^40 ranges; no other condition.
-/
import Derived.Test.YtlbhlmccjieieaaAkRow
import Derived.Test.YtlbhlmccjieieaaObDraw
import Derived.Laws.OwnMore
import Derived.OwnWalk
import Derived.Deep.Onto
namespace Go.Proofs.Ytlbhlmccjieieaa
set_option maxRecDepth 100000
open Go.RowKit Go.Sort

theorem drp_snoc (l : List Rg) (x : Rg) (b : Int) : drp (l ++ [x]) b = drp l b ++ if b ≤ x.2 then [(max x.1 b, x.2)] else [] := by
  induction l with
  | nil => unfold drp; split <;> simp_all [drp]
  | cons y l ih =>
    rw [List.cons_append]
    unfold drp
    rw [ih]
    split <;> simp
theorem drp_take (l : List Rg) (b : Int) (k : Nat) (h : k < l.length) : drp (l.take (k + 1)) b = drp (l.take k) b ++ if b ≤ (l.getD k (0, 0)).2 then [(max (l.getD k (0, 0)).1 b, (l.getD k (0, 0)).2)] else [] := by
  rw [List.take_succ_eq_append_getElem h, drp_snoc]
  simp [List.getD, List.getElem?_eq_getElem h]
/-- A set in a block that has one slice of ranges alone, and in which block its row lies. -/
def SB (w : World) (R : Nat) (o : Option Nat) (l : List Rg) : Prop := ∃ sv, Lies w R [sv] ∧ w.ownsRow 0 38 2 sv l.length (rgs l) ∧ sv.ownBlock = o
/-- .. somewhere that is new. -/
def SN (w w' : World) (R : Nat) (l : List Rg) : Prop := ∃ o, SB w' R o l ∧ ∀ k, o = some k → w.heap.size ≤ k
set_option maxHeartbeats 4000000 in
theorem rdrop_b (R : Nat) (o0 : Option Nat) (l : List Rg) (b : Int) (w : World) (h : SB w R o0 l) (hl : l.length < 1099511627776) :
    Calls Try.prog 10 #[.pointer (some ⟨R, 0, none⟩), .int .i64 b] w fun e w' => e = .returned (.tuple #[]) ∧ SN w w' R (drp l b) ∧ Kept (fun k => k = R) w w' := by
  obtain ⟨sv, h, ho, -⟩ := h
  have hRlt := h.lt (by show 0 < 1; decide)
  obtain ⟨i0, hi0, hz0, hz1, hz2⟩ := info_rg
  have hrg := own_rgAt ho
  obtain ⟨a, cap, rfl, hc⟩ := hrg
  have H0 : Hid (Lies w R [.slice a l.length cap]) := h
  clear h ho
  obtain ⟨M, hM⟩ : ∃ M, M = l.length := ⟨_, rfl⟩
  rw [← hM] at H0 hl
  have fin : Hid (∀ w1 lv, Below w.heap.size w w1 → w1.ownsRow w.heap.size 38 2 lv (drp l b).length (rgs (drp l b)) → SN w (w1.setCell ⟨R, 0, none⟩ lv) R (drp l b) ∧ Kept (fun k => k = R) w (w1.setCell ⟨R, 0, none⟩ lv)) := fun w1 lv b1 o1 =>
    ⟨⟨_, ⟨lv, (H0.out.keep (by show 0 < 1; decide) b1).put 0 (by show 0 < 1; decide) lv, (rows_block o1 fun k hk => Below.heap_setCell _ _ _ _ (by have := (o1.lt k hk).1; simp; omega)).mono (Nat.zero_le _), rfl⟩, fun k hk => (o1.lt k hk).1⟩, Kept.set (F := fun k => k = R) (Kept.of _ b1) ⟨R, 0, none⟩ rfl _⟩
  rcases hc with rfl | ⟨g, o, rfl, hc⟩
  · have c0 := H0.out.cell 0 (v := .slice a M cap) rfl
    have f0 := H0.out.free 0 (by show 0 < 1; decide)
    have F0 : Hid _ := fin.out w (.slice none 0 0) (Below.refl _ _) (World.ownsRow_nil _ _ _ _)
    obtain rfl : M = 0 := hM
    clear fin H0 hi0 hz0 hz1 hz2 hl
    go_enter Try.func10, Try.ntmps10
    go_wp2
    go_rounds 1
    go_end0
    exact ⟨rfl, F0.out⟩
  · replace hc : Hid _ := hc
    rw [← hM] at hc
    replace hM : Hid _ := hM
    have fin2 : Hid (∀ w1 lv, Below w.heap.size w w1 → w1.ownsRow w.heap.size 38 2 lv (drp (l.take M) b).length (rgs (drp (l.take M) b)) → SN w (w1.setCell ⟨R, 0, none⟩ lv) R (drp l b) ∧ Kept (fun k => k = R) w (w1.setCell ⟨R, 0, none⟩ lv)) := by
      unfold Hid
      rw [hM.out, List.take_length]
      exact fin.out
    clear fin
    generalize SN = SBB at *
    go_enter Try.func10, Try.ntmps10
    go_wp2
    go_loopg [4, 5] M (fun g lv iv wr => ∃ (k : Nat) (m : List Rg), k + g = M ∧ iv = .int .i64 k ∧ Hid (m = drp (l.take k) b) ∧ m.length ≤ k ∧ Hid (wr.ownsRow w.heap.size 38 2 lv m.length (rgs m)) ∧ Hid (Below w.heap.size w wr))
    case atStart => exact ⟨0, [], by omega, rfl, rfl, by simp, World.ownsRow_nil _ _ _ _, Below.refl _ _⟩
    case round =>
      obtain ⟨k, m, hk, rfl, hm, hml, hown, bel⟩ := hrel
      have H1 : Lies wr R [.slice (some ⟨g, o, none⟩) M cap] := H0.out.keep (by show 0 < 1; decide) bel.out
      have c0 := H1.cell 0 (v := .slice (some ⟨g, o, none⟩) M cap) rfl
      have f0 := H1.free 0 (by show 0 < 1; decide)
      clear H1
      by_cases hlt : k < M
      · have g1 : decide ((k : Int) < (M : Int)) = true := decide_eq_true (by omega)
        obtain ⟨d1, d2⟩ := hc.out k hlt
        have c1 := (bel.out.cell (World.block_lt_of_cell? w _ d1)).trans d1
        have c2 := (bel.out.cell (World.block_lt_of_cell? w _ d2)).trans d2
        have ia := fun w' => at_rgs g o M cap k w' hlt (k : Int) rfl (o + 2 * k) rfl
        have e := drp_take l b k (by have := hM.out; omega)
        rw [← hm.out] at e
        have e0 := H0.out.cell 0 (v := .slice (some ⟨g, o, none⟩) M cap) rfl
        clear hm f0
        generalize (l.getD k (0, 0)).1 = x at *
        generalize (l.getD k (0, 0)).2 = y at *
        by_cases q : b ≤ y
        · have g2 : decide (b ≤ y) = true := decide_eq_true q
          rw [if_pos q] at e
          have hsz := bel.out.size
          by_cases qx : x < b
          · have em : max x b = b := by omega
            have nx : ¬ b ≤ x := by omega
            rw [em] at e
            replace e : Hid _ := e
            have go : Hid (∀ v' w1, w1.ownsRow w.heap.size 38 2 v' (m.length + 1) (rgs m ++ [.int .i64 b, .int .i64 y]) → (wr.drew.alloc (.cells #[.int .i64 b, .int .i64 y] 38)).grownBy w1 u4.ownBlock → Hid (w1.ownsRow w.heap.size 38 2 v' (m ++ [(b, y)]).length (rgs (m ++ [(b, y)]))) ∧ Hid (Below w.heap.size w w1)) := fun v' w1 h1 h2 =>
              ⟨by unfold Hid; rw [rgs_snoc, List.length_append]; exact h1, (bel.out.drew.alloc bel.out.size _).grown h2 (Nat.le_trans bel.out.size (by simp)) (fun k hk => (hown.out.lt k hk).1)⟩
            clear em
            go_wp2
            refine wp_region_held (S := fun w' => w'.cell? ⟨R, 0, none⟩ = some (.slice (some ⟨g, o, none⟩) M cap) ∧ w'.cell? ⟨g, o + 2 * k, none⟩ = some (.int .i64 x) ∧ w'.cell? ⟨g, o + 2 * k + 1, none⟩ = some (.int .i64 y)) (by kernel_rfl) ?_
            change wpAnyH _ .any _ _ _ 23 (Array.replicate 23 false) _ wr.drew
            have hS : wr.drew.cell? ⟨R, 0, none⟩ = some (.slice (some ⟨g, o, none⟩) M cap) ∧ wr.drew.cell? ⟨g, o + 2 * k, none⟩ = some (.int .i64 x) ∧ wr.drew.cell? ⟨g, o + 2 * k + 1, none⟩ = some (.int .i64 y) := ⟨c0, c1, c2⟩
            refine obTakeH (i := 0) (d := 25) (v := u4) rfl rfl (by kernel_rfl) (by kernel_rfl) (by kernel_rfl) (fun _ _ _ h => h) rfl (fun w hS => by obtain ⟨s1, s2, s3⟩ := hS; go_simp) hS ?_
            refine obTakeH (i := 1) (d := 26) (v := .pointer (some ⟨R, 0, none⟩)) rfl rfl (by kernel_rfl) (by kernel_rfl) (by kernel_rfl) (fun _ _ _ h => h) rfl (fun w hS => by obtain ⟨s1, s2, s3⟩ := hS; go_simp) hS ?_
            refine obTakeH (i := 2) (d := 27) (v := .pointer (some ⟨R, 0, none⟩)) rfl rfl (by kernel_rfl) (by kernel_rfl) (by kernel_rfl) (fun _ _ _ h => h) rfl (fun w hS => by obtain ⟨s1, s2, s3⟩ := hS; go_simp) hS ?_
            refine obTakeH (i := 3) (d := 28) (v := .pointer (some ⟨R, 0, none⟩)) rfl rfl (by kernel_rfl) (by kernel_rfl) (by kernel_rfl) (fun _ _ _ h => h) rfl (fun w hS => by obtain ⟨s1, s2, s3⟩ := hS; go_simp) hS ?_
            refine obTakeH (i := 4) (d := 29) (v := .slice (some ⟨g, o, none⟩) M cap) rfl rfl (by kernel_rfl) (by kernel_rfl) (by kernel_rfl) (fun _ _ _ h => h) rfl (fun w hS => by obtain ⟨s1, s2, s3⟩ := hS; go_simp) hS ?_
            refine obTakeH (i := 5) (d := 30) (v := .int .i64 (k : Int)) rfl rfl (by kernel_rfl) (by kernel_rfl) (by kernel_rfl) (fun _ _ _ h => h) rfl (fun w hS => by obtain ⟨s1, s2, s3⟩ := hS; go_simp) hS ?_
            refine obTakeH (i := 6) (d := 31) (v := .pointer (some ⟨g, o + 2 * k, none⟩)) rfl rfl (by kernel_rfl) (by kernel_rfl) (by kernel_rfl) (fun _ _ _ h => h) rfl (fun w hS => by obtain ⟨s1, s2, s3⟩ := hS; go_simp) hS ?_
            refine obTakeH (i := 7) (d := 32) (v := .pointer (some ⟨g, o + 2 * k, none⟩)) rfl rfl (by kernel_rfl) (by kernel_rfl) (by kernel_rfl) (fun _ _ _ h => h) rfl (fun w hS => by obtain ⟨s1, s2, s3⟩ := hS; go_simp) hS ?_
            refine obTakeH (i := 8) (d := 33) (v := .int .i64 x) rfl rfl (by kernel_rfl) (by kernel_rfl) (by kernel_rfl) (fun _ _ _ h => h) rfl (fun w hS => by obtain ⟨s1, s2, s3⟩ := hS; go_simp) hS ?_
            refine obTakeH (i := 9) (d := 34) (v := .int .i64 b) rfl rfl (by kernel_rfl) (by kernel_rfl) (by kernel_rfl) (fun _ _ _ h => h) rfl (fun w hS => by obtain ⟨s1, s2, s3⟩ := hS; go_simp) hS ?_
            refine obTakeH (i := 10) (d := 35) (v := .int .i64 b) rfl rfl (by kernel_rfl) (by kernel_rfl) (by kernel_rfl) (fun _ _ _ h => h) rfl (fun w hS => by obtain ⟨s1, s2, s3⟩ := hS; go_simp <;> omega) hS ?_
            refine obTakeH (i := 11) (d := 36) (v := .pointer (some ⟨R, 0, none⟩)) rfl rfl (by kernel_rfl) (by kernel_rfl) (by kernel_rfl) (fun _ _ _ h => h) rfl (fun w hS => by obtain ⟨s1, s2, s3⟩ := hS; go_simp) hS ?_
            refine obTakeH (i := 12) (d := 37) (v := .pointer (some ⟨R, 0, none⟩)) rfl rfl (by kernel_rfl) (by kernel_rfl) (by kernel_rfl) (fun _ _ _ h => h) rfl (fun w hS => by obtain ⟨s1, s2, s3⟩ := hS; go_simp) hS ?_
            refine obTakeH (i := 13) (d := 38) (v := .pointer (some ⟨R, 0, none⟩)) rfl rfl (by kernel_rfl) (by kernel_rfl) (by kernel_rfl) (fun _ _ _ h => h) rfl (fun w hS => by obtain ⟨s1, s2, s3⟩ := hS; go_simp) hS ?_
            refine obTakeH (i := 14) (d := 39) (v := .slice (some ⟨g, o, none⟩) M cap) rfl rfl (by kernel_rfl) (by kernel_rfl) (by kernel_rfl) (fun _ _ _ h => h) rfl (fun w hS => by obtain ⟨s1, s2, s3⟩ := hS; go_simp) hS ?_
            refine obTakeH (i := 15) (d := 40) (v := .int .i64 (k : Int)) rfl rfl (by kernel_rfl) (by kernel_rfl) (by kernel_rfl) (fun _ _ _ h => h) rfl (fun w hS => by obtain ⟨s1, s2, s3⟩ := hS; go_simp) hS ?_
            refine obTakeH (i := 16) (d := 41) (v := .pointer (some ⟨g, o + 2 * k, none⟩)) rfl rfl (by kernel_rfl) (by kernel_rfl) (by kernel_rfl) (fun _ _ _ h => h) rfl (fun w hS => by obtain ⟨s1, s2, s3⟩ := hS; go_simp) hS ?_
            refine obTakeH (i := 17) (d := 42) (v := .pointer (some ⟨g, o + 2 * k + 1, none⟩)) rfl rfl (by kernel_rfl) (by kernel_rfl) (by kernel_rfl) (fun _ _ _ h => h) rfl (fun w hS => by obtain ⟨s1, s2, s3⟩ := hS; go_simp) hS ?_
            refine obTakeH (i := 18) (d := 43) (v := .int .i64 y) rfl rfl (by kernel_rfl) (by kernel_rfl) (by kernel_rfl) (fun _ _ _ h => h) rfl (fun w hS => by obtain ⟨s1, s2, s3⟩ := hS; go_simp) hS ?_
            refine obTakeH (i := 19) (d := 44) (v := .agg #[.int .i64 b, .int .i64 y]) rfl rfl (by kernel_rfl) (by kernel_rfl) (by kernel_rfl) (fun _ _ _ h => h) rfl (fun w hS => by obtain ⟨s1, s2, s3⟩ := hS; go_simp) hS ?_
            simp only [Act.put, List.setIfInBounds_toArray, List.set_cons_succ, List.set_cons_zero]
            clear ia g1 g2
            have bA := (Below.refl wr.heap.size wr.drew).alloc (Nat.le_refl _) (.cells #[.int .i64 b, .int .i64 y] 38)
            refine wpAnyH_all (rs := [20]) (by kernel_rfl) (by simp) (fun i hi => ?_)
            obtain rfl : i = 20 := by simpa using hi
            refine wpOp_step rfl (fun K' hK => ?_)
            clear hi
            go_simp
            refine hK _ _ ⟨?_, ?_⟩
            · exact ⟨(bA.cell (World.block_lt_of_cell? _ _ c0)).trans c0, (bA.cell (World.block_lt_of_cell? _ _ c1)).trans c1, (bA.cell (World.block_lt_of_cell? _ _ c2)).trans c2⟩
            clear hK K'
            refine wpAnyH_all (rs := [21]) (by kernel_rfl) (by simp) (fun i hi => ?_)
            obtain rfl : i = 21 := by simpa using hi
            refine wpOp_step rfl (fun K' hK => ?_)
            clear hi
            refine wp_append_own _ _ _ 27 rfl w.heap.size 38 i0 (.agg #[.int .i64 0, .int .i64 0]) 2 16 Try.underlying27 hi0 hz0 hz1 hz2 rfl (by decide) u4 m.length (rgs m) rfl (hown.out.drew.alloc _) ⟨wr.heap.size, 0, none⟩ 1 1 [.int .i64 b, .int .i64 y] rfl rfl ?_ ?_ ?_ ?_ ?_ ?_
            · intro j u hj
              match j, hj with
              | 0, hj => simp at hj; subst hj; simp [Addr.add]
              | 1, hj => simp at hj; subst hj; simp [Addr.add]
              | j + 2, hj => simp at hj
            · intro u hu; simp at hu; rcases hu with rfl | rfl <;> rfl
            · unfold maxLen; omega
            · omega
            · simp; omega
            · intro v' w1 hown' hgrow _
              obtain ⟨O1, B1⟩ := go.out v' w1 hown' hgrow
              have hS1 : w1.cell? ⟨R, 0, none⟩ = some (.slice (some ⟨g, o, none⟩) M cap) ∧ w1.cell? ⟨g, o + 2 * k, none⟩ = some (.int .i64 x) ∧ w1.cell? ⟨g, o + 2 * k + 1, none⟩ = some (.int .i64 y) := ⟨(B1.out.cell (World.block_lt_of_cell? w _ e0)).trans e0, (B1.out.cell (World.block_lt_of_cell? w _ d1)).trans d1, (B1.out.cell (World.block_lt_of_cell? w _ d2)).trans d2⟩
              refine hK _ _ ⟨hS1, ?_⟩
              clear hK K'
              refine wpAnyH_all (rs := [22]) (by kernel_rfl) (by simp) (fun i hi => ?_)
              obtain rfl : i = 22 := by simpa using hi
              refine wpOp_step rfl (fun K' hK => ?_)
              clear hi
              go_simp
              refine hK _ _ ⟨hS1, ?_⟩
              clear hK K' hS1
              refine wpAnyH_done (by kernel_rfl) ?_ 0
              clear hown' hgrow hown bel go e0 d1 d2 c0 c1 c2 hS bA
              go_wp2
              go_roundg (M - (k + 1))
              case measure => omega
              case rel => exact ⟨k + 1, m ++ [(b, y)], by omega, by go_num, e.out.symm, by simp; omega, O1, B1⟩
          · have em : max x b = x := by omega
            rw [em] at e
            replace e : Hid _ := e
            have go : Hid (∀ v' w1, w1.ownsRow w.heap.size 38 2 v' (m.length + 1) (rgs m ++ [.int .i64 x, .int .i64 y]) → (wr.drew.alloc (.cells #[.int .i64 x, .int .i64 y] 38)).grownBy w1 u4.ownBlock → Hid (w1.ownsRow w.heap.size 38 2 v' (m ++ [(x, y)]).length (rgs (m ++ [(x, y)]))) ∧ Hid (Below w.heap.size w w1)) := fun v' w1 h1 h2 =>
              ⟨by unfold Hid; rw [rgs_snoc, List.length_append]; exact h1, (bel.out.drew.alloc bel.out.size _).grown h2 (Nat.le_trans bel.out.size (by simp)) (fun k hk => (hown.out.lt k hk).1)⟩
            clear em
            go_wp2
            refine wp_region_held (S := fun w' => w'.cell? ⟨R, 0, none⟩ = some (.slice (some ⟨g, o, none⟩) M cap) ∧ w'.cell? ⟨g, o + 2 * k, none⟩ = some (.int .i64 x) ∧ w'.cell? ⟨g, o + 2 * k + 1, none⟩ = some (.int .i64 y)) (by kernel_rfl) ?_
            change wpAnyH _ .any _ _ _ 23 (Array.replicate 23 false) _ wr.drew
            have hS : wr.drew.cell? ⟨R, 0, none⟩ = some (.slice (some ⟨g, o, none⟩) M cap) ∧ wr.drew.cell? ⟨g, o + 2 * k, none⟩ = some (.int .i64 x) ∧ wr.drew.cell? ⟨g, o + 2 * k + 1, none⟩ = some (.int .i64 y) := ⟨c0, c1, c2⟩
            refine obTakeH (i := 0) (d := 25) (v := u4) rfl rfl (by kernel_rfl) (by kernel_rfl) (by kernel_rfl) (fun _ _ _ h => h) rfl (fun w hS => by obtain ⟨s1, s2, s3⟩ := hS; go_simp) hS ?_
            refine obTakeH (i := 1) (d := 26) (v := .pointer (some ⟨R, 0, none⟩)) rfl rfl (by kernel_rfl) (by kernel_rfl) (by kernel_rfl) (fun _ _ _ h => h) rfl (fun w hS => by obtain ⟨s1, s2, s3⟩ := hS; go_simp) hS ?_
            refine obTakeH (i := 2) (d := 27) (v := .pointer (some ⟨R, 0, none⟩)) rfl rfl (by kernel_rfl) (by kernel_rfl) (by kernel_rfl) (fun _ _ _ h => h) rfl (fun w hS => by obtain ⟨s1, s2, s3⟩ := hS; go_simp) hS ?_
            refine obTakeH (i := 3) (d := 28) (v := .pointer (some ⟨R, 0, none⟩)) rfl rfl (by kernel_rfl) (by kernel_rfl) (by kernel_rfl) (fun _ _ _ h => h) rfl (fun w hS => by obtain ⟨s1, s2, s3⟩ := hS; go_simp) hS ?_
            refine obTakeH (i := 4) (d := 29) (v := .slice (some ⟨g, o, none⟩) M cap) rfl rfl (by kernel_rfl) (by kernel_rfl) (by kernel_rfl) (fun _ _ _ h => h) rfl (fun w hS => by obtain ⟨s1, s2, s3⟩ := hS; go_simp) hS ?_
            refine obTakeH (i := 5) (d := 30) (v := .int .i64 (k : Int)) rfl rfl (by kernel_rfl) (by kernel_rfl) (by kernel_rfl) (fun _ _ _ h => h) rfl (fun w hS => by obtain ⟨s1, s2, s3⟩ := hS; go_simp) hS ?_
            refine obTakeH (i := 6) (d := 31) (v := .pointer (some ⟨g, o + 2 * k, none⟩)) rfl rfl (by kernel_rfl) (by kernel_rfl) (by kernel_rfl) (fun _ _ _ h => h) rfl (fun w hS => by obtain ⟨s1, s2, s3⟩ := hS; go_simp) hS ?_
            refine obTakeH (i := 7) (d := 32) (v := .pointer (some ⟨g, o + 2 * k, none⟩)) rfl rfl (by kernel_rfl) (by kernel_rfl) (by kernel_rfl) (fun _ _ _ h => h) rfl (fun w hS => by obtain ⟨s1, s2, s3⟩ := hS; go_simp) hS ?_
            refine obTakeH (i := 8) (d := 33) (v := .int .i64 x) rfl rfl (by kernel_rfl) (by kernel_rfl) (by kernel_rfl) (fun _ _ _ h => h) rfl (fun w hS => by obtain ⟨s1, s2, s3⟩ := hS; go_simp) hS ?_
            refine obTakeH (i := 9) (d := 34) (v := .int .i64 b) rfl rfl (by kernel_rfl) (by kernel_rfl) (by kernel_rfl) (fun _ _ _ h => h) rfl (fun w hS => by obtain ⟨s1, s2, s3⟩ := hS; go_simp) hS ?_
            refine obTakeH (i := 10) (d := 35) (v := .int .i64 x) rfl rfl (by kernel_rfl) (by kernel_rfl) (by kernel_rfl) (fun _ _ _ h => h) rfl (fun w hS => by obtain ⟨s1, s2, s3⟩ := hS; go_simp <;> omega) hS ?_
            refine obTakeH (i := 11) (d := 36) (v := .pointer (some ⟨R, 0, none⟩)) rfl rfl (by kernel_rfl) (by kernel_rfl) (by kernel_rfl) (fun _ _ _ h => h) rfl (fun w hS => by obtain ⟨s1, s2, s3⟩ := hS; go_simp) hS ?_
            refine obTakeH (i := 12) (d := 37) (v := .pointer (some ⟨R, 0, none⟩)) rfl rfl (by kernel_rfl) (by kernel_rfl) (by kernel_rfl) (fun _ _ _ h => h) rfl (fun w hS => by obtain ⟨s1, s2, s3⟩ := hS; go_simp) hS ?_
            refine obTakeH (i := 13) (d := 38) (v := .pointer (some ⟨R, 0, none⟩)) rfl rfl (by kernel_rfl) (by kernel_rfl) (by kernel_rfl) (fun _ _ _ h => h) rfl (fun w hS => by obtain ⟨s1, s2, s3⟩ := hS; go_simp) hS ?_
            refine obTakeH (i := 14) (d := 39) (v := .slice (some ⟨g, o, none⟩) M cap) rfl rfl (by kernel_rfl) (by kernel_rfl) (by kernel_rfl) (fun _ _ _ h => h) rfl (fun w hS => by obtain ⟨s1, s2, s3⟩ := hS; go_simp) hS ?_
            refine obTakeH (i := 15) (d := 40) (v := .int .i64 (k : Int)) rfl rfl (by kernel_rfl) (by kernel_rfl) (by kernel_rfl) (fun _ _ _ h => h) rfl (fun w hS => by obtain ⟨s1, s2, s3⟩ := hS; go_simp) hS ?_
            refine obTakeH (i := 16) (d := 41) (v := .pointer (some ⟨g, o + 2 * k, none⟩)) rfl rfl (by kernel_rfl) (by kernel_rfl) (by kernel_rfl) (fun _ _ _ h => h) rfl (fun w hS => by obtain ⟨s1, s2, s3⟩ := hS; go_simp) hS ?_
            refine obTakeH (i := 17) (d := 42) (v := .pointer (some ⟨g, o + 2 * k + 1, none⟩)) rfl rfl (by kernel_rfl) (by kernel_rfl) (by kernel_rfl) (fun _ _ _ h => h) rfl (fun w hS => by obtain ⟨s1, s2, s3⟩ := hS; go_simp) hS ?_
            refine obTakeH (i := 18) (d := 43) (v := .int .i64 y) rfl rfl (by kernel_rfl) (by kernel_rfl) (by kernel_rfl) (fun _ _ _ h => h) rfl (fun w hS => by obtain ⟨s1, s2, s3⟩ := hS; go_simp) hS ?_
            refine obTakeH (i := 19) (d := 44) (v := .agg #[.int .i64 x, .int .i64 y]) rfl rfl (by kernel_rfl) (by kernel_rfl) (by kernel_rfl) (fun _ _ _ h => h) rfl (fun w hS => by obtain ⟨s1, s2, s3⟩ := hS; go_simp) hS ?_
            simp only [Act.put, List.setIfInBounds_toArray, List.set_cons_succ, List.set_cons_zero]
            clear ia g1 g2
            have bA := (Below.refl wr.heap.size wr.drew).alloc (Nat.le_refl _) (.cells #[.int .i64 x, .int .i64 y] 38)
            refine wpAnyH_all (rs := [20]) (by kernel_rfl) (by simp) (fun i hi => ?_)
            obtain rfl : i = 20 := by simpa using hi
            refine wpOp_step rfl (fun K' hK => ?_)
            clear hi
            go_simp
            refine hK _ _ ⟨?_, ?_⟩
            · exact ⟨(bA.cell (World.block_lt_of_cell? _ _ c0)).trans c0, (bA.cell (World.block_lt_of_cell? _ _ c1)).trans c1, (bA.cell (World.block_lt_of_cell? _ _ c2)).trans c2⟩
            clear hK K'
            refine wpAnyH_all (rs := [21]) (by kernel_rfl) (by simp) (fun i hi => ?_)
            obtain rfl : i = 21 := by simpa using hi
            refine wpOp_step rfl (fun K' hK => ?_)
            clear hi
            refine wp_append_own _ _ _ 27 rfl w.heap.size 38 i0 (.agg #[.int .i64 0, .int .i64 0]) 2 16 Try.underlying27 hi0 hz0 hz1 hz2 rfl (by decide) u4 m.length (rgs m) rfl (hown.out.drew.alloc _) ⟨wr.heap.size, 0, none⟩ 1 1 [.int .i64 x, .int .i64 y] rfl rfl ?_ ?_ ?_ ?_ ?_ ?_
            · intro j u hj
              match j, hj with
              | 0, hj => simp at hj; subst hj; simp [Addr.add]
              | 1, hj => simp at hj; subst hj; simp [Addr.add]
              | j + 2, hj => simp at hj
            · intro u hu; simp at hu; rcases hu with rfl | rfl <;> rfl
            · unfold maxLen; omega
            · omega
            · simp; omega
            · intro v' w1 hown' hgrow _
              obtain ⟨O1, B1⟩ := go.out v' w1 hown' hgrow
              have hS1 : w1.cell? ⟨R, 0, none⟩ = some (.slice (some ⟨g, o, none⟩) M cap) ∧ w1.cell? ⟨g, o + 2 * k, none⟩ = some (.int .i64 x) ∧ w1.cell? ⟨g, o + 2 * k + 1, none⟩ = some (.int .i64 y) := ⟨(B1.out.cell (World.block_lt_of_cell? w _ e0)).trans e0, (B1.out.cell (World.block_lt_of_cell? w _ d1)).trans d1, (B1.out.cell (World.block_lt_of_cell? w _ d2)).trans d2⟩
              refine hK _ _ ⟨hS1, ?_⟩
              clear hK K'
              refine wpAnyH_all (rs := [22]) (by kernel_rfl) (by simp) (fun i hi => ?_)
              obtain rfl : i = 22 := by simpa using hi
              refine wpOp_step rfl (fun K' hK => ?_)
              clear hi
              go_simp
              refine hK _ _ ⟨hS1, ?_⟩
              clear hK K' hS1
              refine wpAnyH_done (by kernel_rfl) ?_ 0
              clear hown' hgrow hown bel go e0 d1 d2 c0 c1 c2 hS bA
              go_wp2
              go_roundg (M - (k + 1))
              case measure => omega
              case rel => exact ⟨k + 1, m ++ [(x, y)], by omega, by go_num, e.out.symm, by simp; omega, O1, B1⟩
        · have g2 : decide (b ≤ y) = false := decide_eq_false q
          rw [if_neg q, List.append_nil] at e
          have e' : Hid (m = drp (l.take (k + 1)) b) := e.symm
          clear e
          go_wp2
          go_roundg (M - (k + 1))
          case measure => omega
          case rel => exact ⟨k + 1, m, by omega, by go_num, e', by omega, hown, bel⟩
      · have g1 : decide ((k : Int) < (M : Int)) = false := decide_eq_false (by omega)
        obtain rfl : k = M := by omega
        have F0 : Hid _ := fin2.out wr u4 bel.out (by rw [← hm.out]; exact hown.out)
        rcases hown.out.2 with ⟨rfl, _⟩ | ⟨g', cap', cur', rfl, -, -, -⟩
        · clear hown hm fin2 hc
          go_wp2
          go_end0
          exact ⟨rfl, F0.out⟩
        · clear hown hm fin2 hc
          go_wp2
          go_end0
          exact ⟨rfl, F0.out⟩
end Go.Proofs.Ytlbhlmccjieieaa
