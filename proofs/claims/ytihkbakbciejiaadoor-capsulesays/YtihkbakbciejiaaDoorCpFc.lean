/-
  Rows of capsules in memory; what the laws' own same and works answer. The table of sizes lies as the row's list gives it; no condition but the form's own reach.
-/
import Derived.Test.YtihkbakbciejiaaDoorCpWr
import Derived.BigQuiet
import Derived.Lib.QuietBelow
import Derived.Deep.LoopGhost
namespace Go.Proofs.YtihkbakbciejiaaDoor
set_option maxRecDepth 100000
open Go.RowKit Go.Sort

/-- Capsules in memory. -/
def EvAt (w : World) (v : Value) (l : List Ev) : Prop :=
  ∃ a cap, v = .slice a l.length cap ∧ (l = [] ∨ ∃ g o, a = some ⟨g, o, none⟩ ∧ ∀ k, k < l.length → w.cell? ⟨g, o + 2 * k, none⟩ = some (.int .i64 ((l.getD k (0, [])).1 : Int)) ∧ w.cell? ⟨g, o + 2 * k + 1, none⟩ = some (.string (strL (l.getD k (0, [])).2)))
theorem EvAt.of {w w' : World} {v : Value} {l : List Ev} (h : EvAt w v l) (b : ∀ k, v.ownBlock = some k → w'.heap[k]? = w.heap[k]?) : EvAt w' v l := by
  obtain ⟨a, cap, rfl, h⟩ := h
  refine ⟨a, cap, rfl, ?_⟩
  rcases h with h | ⟨g, o, rfl, h⟩
  · exact .inl h
  · refine .inr ⟨g, o, rfl, fun k hk => ?_⟩
    have e := b g rfl
    exact ⟨(World.cell?_of_block (w := w) (a := ⟨g, o + 2 * k, none⟩) e).trans (h k hk).1, (World.cell?_of_block (w := w) (a := ⟨g, o + 2 * k + 1, none⟩) e).trans (h k hk).2⟩
theorem EvAt.nil {w : World} {v : Value} {l : List Ev} (h : EvAt w v l) (e : l = []) : ∃ a c, v = .slice a 0 c := by
  obtain ⟨a, cap, rfl, -⟩ := h
  exact ⟨a, cap, by rw [e]; rfl⟩
theorem EvAt.slice {w : World} {v : Value} {l : List Ev} (h : EvAt w v l) : ∃ a c, v = .slice a l.length c := by
  obtain ⟨a, cap, rfl, -⟩ := h
  exact ⟨a, cap, rfl⟩
theorem EvAt.cells {w : World} {v : Value} {l : List Ev} (h : EvAt w v l) : ∃ a cap, v = .slice a l.length cap ∧ ∀ j, j < l.length → ∃ g o, a = some ⟨g, o, none⟩ ∧ g < w.heap.size ∧ w.cell? ⟨g, o + 2 * j, none⟩ = some (.int .i64 ((l.getD j (0, [])).1 : Int)) ∧ w.cell? ⟨g, o + 2 * j + 1, none⟩ = some (.string (strL (l.getD j (0, [])).2)) := by
  obtain ⟨a, cap, rfl, h⟩ := h
  refine ⟨a, cap, rfl, fun j hj => ?_⟩
  rcases h with h | ⟨g, o, e, h⟩
  · rw [h] at hj
    exact absurd hj (Nat.not_lt_zero _)
  · exact ⟨g, o, e, World.block_lt_of_cell? w _ (h j hj).1, h j hj⟩
theorem evv_get : ∀ (l : List Ev) (k : Nat), k < l.length → (evv l)[2 * k]? = some (.int .i64 ((l.getD k (0, [])).1 : Int)) ∧ (evv l)[2 * k + 1]? = some (.string (strL (l.getD k (0, [])).2))
  | [], k, h => absurd h (Nat.not_lt_zero _)
  | x :: l, 0, _ => ⟨rfl, rfl⟩
  | x :: l, k + 1, h => by
    have := evv_get l k (Nat.lt_of_succ_lt_succ h)
    exact this
theorem CpR.at {base : Nat} {w : World} {v : Value} {l : List Ev} (h : CpR base w v l) : EvAt w v l := by
  obtain ⟨h1, h2⟩ := h.row
  rcases h2 with ⟨rfl, e⟩ | ⟨g, cap, cur, rfl, e2, e3, e4, e5, e6, e7⟩
  · have : l = [] := List.eq_nil_of_length_eq_zero e
    subst this
    exact ⟨_, _, rfl, .inl rfl⟩
  · have get : ∀ i x, (evv l)[i]? = some x → w.cell? ⟨g, i, none⟩ = some x := fun i x hx => by
      rw [← e7, List.getElem?_take] at hx
      split at hx
      · rw [Array.getElem?_toList] at hx
        simp [World.cell?, e3, hx]
      · cases hx
    refine ⟨_, _, rfl, .inr ⟨g, 0, rfl, fun k hk => ?_⟩⟩
    have := evv_get l k hk
    rw [Nat.zero_add]
    exact ⟨get _ _ this.1, get _ _ this.2⟩
theorem CpP.at {base : Nat} {w : World} {v : Value} {l : List Ev} (h : CpP base w v l) : EvAt w v l := by
  obtain ⟨h1, h2⟩ := h.row
  rcases h2 with ⟨rfl, e⟩ | ⟨g, cap, cur, rfl, e2, e3, e4, e5, e6, e7⟩
  · have : l = [] := List.eq_nil_of_length_eq_zero e
    subst this
    exact ⟨_, _, rfl, .inl rfl⟩
  · have get : ∀ i x, (evv l)[i]? = some x → w.cell? ⟨g, i, none⟩ = some x := fun i x hx => by
      rw [← e7, List.getElem?_take] at hx
      split at hx
      · rw [Array.getElem?_toList] at hx
        simp [World.cell?, e3, hx]
      · cases hx
    refine ⟨_, _, rfl, .inr ⟨g, 0, rfl, fun k hk => ?_⟩⟩
    have := evv_get l k hk
    rw [Nat.zero_add]
    exact ⟨get _ _ this.1, get _ _ this.2⟩
theorem at_cp (B o N cap i : Nat) (w : World) (h : i < N) (z : Int) (hz : z = i) (p : Nat) (hp : p = o + 2 * i) :
    (Instr.indexAt 33 (.slice (some ⟨B, o, none⟩) N cap) (.int .i64 z)).run Tryd.prog w = .ok (.pointer (some ⟨B, p, none⟩)) w := by
  subst hz hp
  have e : Tryd.prog.elem 33 = 31 := by kernel_rfl
  rw [run_indexAt_slice (P := Tryd.prog) w 33 ⟨B, o, none⟩ N cap .i64 i (by rw [e]; exact Tryd.underlying33), if_pos (by omega), e]
  have s : (sizeOf 31).run Tryd.prog w = .ok 2 w := Tryd.sizeOf31 w
  rw [s]
  simp [Addr.add_mid, Nat.mul_comm]
theorem at_rcp (B o N cap i : Nat) (w : World) (h : i < N) (z : Int) (hz : z = i) (p : Nat) (hp : p = o + 2 * i) :
    (Instr.indexAt 37 (.slice (some ⟨B, o, none⟩) N cap) (.int .i64 z)).run Tryd.prog w = .ok (.pointer (some ⟨B, p, none⟩)) w := by
  subst hz hp
  have e : Tryd.prog.elem 37 = 24 := by kernel_rfl
  rw [run_indexAt_slice (P := Tryd.prog) w 37 ⟨B, o, none⟩ N cap .i64 i (by rw [e]; exact Tryd.underlying37), if_pos (by omega), e]
  have s : (sizeOf 24).run Tryd.prog w = .ok 2 w := Tryd.sizeOf24 w
  rw [s]
  simp [Addr.add_mid, Nat.mul_comm]
set_option maxHeartbeats 4000000 in
theorem same16_ok (u v : Value) (l : List Ev) (w : World) (hu : EvAt w u l) (hv : EvAt w v l) (hl : l.length < 1000000000) :
    Calls Tryd.prog 14 #[u, v] w fun e w' => e = .returned (.bool true) ∧ Below w.heap.size w w' := by
  obtain ⟨a, ca, rfl, ha⟩ := hu
  obtain ⟨b, cb, rfl, hb⟩ := hv
  obtain ⟨M, hM⟩ : ∃ M, M = l.length := ⟨_, rfl⟩
  have CA : Hid (∀ j, j < l.length → ∃ g o, a = some ⟨g, o, none⟩ ∧ w.cell? ⟨g, o + 2 * j, none⟩ = some (.int .i64 ((l.getD j (0, [])).1 : Int)) ∧ w.cell? ⟨g, o + 2 * j + 1, none⟩ = some (.string (strL (l.getD j (0, [])).2))) := fun j hj => by
    rcases ha with ha | ⟨g, o, e, ha⟩
    · rw [ha] at hj
      exact absurd hj (Nat.not_lt_zero _)
    · exact ⟨g, o, e, ha j hj⟩
  have CB : Hid (∀ j, j < l.length → ∃ g o, b = some ⟨g, o, none⟩ ∧ w.cell? ⟨g, o + 2 * j, none⟩ = some (.int .i64 ((l.getD j (0, [])).1 : Int)) ∧ w.cell? ⟨g, o + 2 * j + 1, none⟩ = some (.string (strL (l.getD j (0, [])).2))) := fun j hj => by
    rcases hb with hb | ⟨g, o, e, hb⟩
    · rw [hb] at hj
      exact absurd hj (Nat.not_lt_zero _)
    · exact ⟨g, o, e, hb j hj⟩
  rw [← hM] at CA CB hl ⊢
  replace hM : Hid _ := hM
  clear ha hb
  go_enter Tryd.func14, Tryd.ntmps14
  go_wp2_with fail
  go_loopg [5] M (fun g iv wr => ∃ j : Nat, j + g = M ∧ iv = .int .i64 (j : Int) ∧ Hid (Below w.heap.size w wr))
  case atStart => exact ⟨0, by omega, rfl, Below.refl _ _⟩
  case round =>
    obtain ⟨j, hj, rfl, bel⟩ := hrel
    by_cases hlt : j < M
    · have g1 : decide ((j : Int) < (M : Int)) = true := decide_eq_true (by omega)
      obtain ⟨ga, oa, rfl, a0, a1⟩ := CA.out j hlt
      obtain ⟨gb, ob, rfl, b0, b1⟩ := CB.out j hlt
      have ia := fun w' => at_cp ga oa M ca j w' hlt (j : Int) rfl (oa + 2 * j) rfl
      have ib := fun w' => at_rcp gb ob M cb j w' hlt (j : Int) rfl (ob + 2 * j) rfl
      have a0' := (bel.out.cell (World.block_lt_of_cell? w _ a0)).trans a0
      have a1' := (bel.out.cell (World.block_lt_of_cell? w _ a1)).trans a1
      have b0' := (bel.out.cell (World.block_lt_of_cell? w _ b0)).trans b0
      have b1' := (bel.out.cell (World.block_lt_of_cell? w _ b1)).trans b1
      have Z : Hid (Below w.heap.size w wr.drew) := bel.out.drew
      generalize (l.getD j (0, [])).1 = y at *
      generalize strL (l.getD j (0, [])).2 = x at *
      clear a0 a1 b0 b1 CA CB
      go_upto_region 6 with fail
      go_region
      all_goals
        go_wp2_with fail
        go_roundg (M - 1 - j)
        case measure => omega
        case rel => exact ⟨j + 1, by omega, by simp, Z⟩
    · have hE : j = M := by omega
      subst hE
      clear CA CB
      go_wp2_with fail
      go_ret
      exact ⟨rfl, bel.out⟩
/-- Few capsules in few bytes. -/
theorem run_few : ∀ (k : Nat) (r : Cr), (Cr.run k r).2.length ≤ k
  | 0, _ => Nat.le_refl _
  | k + 1, r => by
    rw [Cr.run_succ]
    split
    · exact Nat.zero_le _
    · split
      · exact Nat.zero_le _
      · rename_i q e hs
        have ih := run_few k q
        have : e.length ≤ 1 := by
          unfold Cr.step at hs
          split at hs
          · cases hs
          · split at hs
            · injection hs with hs
              injection hs with _ hs
              rw [← hs]
              simp
            · split at hs
              · cases hs
              · injection hs with hs
                injection hs with _ hs
                rw [← hs]
                simp
        simp only [List.length_append]
        omega
theorem feed_few (r : Cr) (t : L) : (r.feed t).2.length ≤ r.s.length + t.length + 1 := by
  unfold Cr.feed
  split
  · exact Nat.zero_le _
  · have := run_few ((r.more t).s.length + 1) (r.more t)
    have e : (r.more t).s.length = r.s.length + t.length := List.length_append
    unfold Cr.go
    omega
theorem run_left : ∀ (k : Nat) (r : Cr), (Cr.run k r).1.s.length ≤ r.s.length
  | 0, _ => Nat.le_refl _
  | k + 1, r => by
    rw [Cr.run_succ]
    split
    · exact Nat.le_refl _
    · split
      · exact Nat.le_refl _
      · rename_i q e hs
        have ih := run_left k q
        have : q.s.length ≤ r.s.length := by
          unfold Cr.step at hs
          split at hs
          · cases hs
          · split at hs
            · injection hs with hs
              injection hs with hs _
              rw [← hs]
              exact Nat.le_refl _
            · split at hs
              · cases hs
              · injection hs with hs
                injection hs with hs _
                rw [← hs]
                simp only [List.length_drop]
                omega
        exact Nat.le_trans ih this
theorem feed_left (r : Cr) (t : L) : (r.feed t).1.s.length ≤ r.s.length + t.length := by
  unfold Cr.feed
  split
  · exact Nat.le_add_right _ _
  · have := run_left ((r.more t).s.length + 1) (r.more t)
    have e : (r.more t).s.length = r.s.length + t.length := List.length_append
    unfold Cr.go
    omega
def cNew : Cr := ⟨[], false⟩
def wA : L := [0, 2, 97, 98, 1]
theorem wA_is : cErr (cNew.feed wA).1 = 0 ∧ (cNew.feed wA).2 = [(0, [97, 98])] ∧ (cNew.feed wA).1.s.length + 1 < 1000000 := by decide +kernel
theorem wB_is : cErr ((cNew.feed wA).1.feed [0]).1 = 0 ∧ ((cNew.feed wA).1.feed [0]).2 = [(1, [])] := by decide +kernel
theorem wG_is : grmV 4 0 [120] = .tuple #[.string ⟨#[1, 0, 120]⟩, .int .i64 0] := by
  have e : putI 1 ++ (putI 0 ++ [120]) = [1, 0, 120] := by decide +kernel
  unfold grmV grmL
  rw [if_pos (by decide)]
  show Value.tuple #[.string (strL (putI 1 ++ (putI 0 ++ [120]))), .int .i64 0] = _
  rw [e]
  rfl
set_option maxHeartbeats 4000000 in
theorem works16_ok (w : World) (t : VTab w) :
    Calls Tryd.prog 31 #[] w fun e w' => e = .returned (.bool true) ∧ Below w.heap.size w w' := by
  have N1 := Lib.hid (pnew_ok w t)
  have F1 : Hid (∀ (w' : World) (R : Nat), VTab w' → PC w' R cNew → _) := fun w' R t' h => pfeed_ok w' R cNew ⟨#[0, 2, 97, 98, 1]⟩ t' h (fun _ => by decide)
  have F2 : Hid (∀ (w' : World) (R : Nat), VTab w' → PC w' R (cNew.feed wA).1 → _) := fun w' R t' h => pfeed_ok w' R (cNew.feed wA).1 ⟨#[0]⟩ t' h (fun _ => wA_is.2.2)
  have GR : Hid (∀ w', VTab w' → _) := fun w' t' => pgrm_ok 4 0 ⟨#[120]⟩ w' t' (by decide)
  have e1 : toL ⟨#[0, 2, 97, 98, 1]⟩ = wA := rfl
  have e2 : toL ⟨#[0]⟩ = [0] := rfl
  have e3 : toL ⟨#[120]⟩ = [120] := rfl
  rw [e1] at F1
  rw [e2] at F2
  rw [e3, wG_is] at GR
  have x1 := wA_is.1
  have x2 := wA_is.2.1
  have y1 := wB_is.1
  have y2 := wB_is.2
  generalize ((cNew.feed wA).1.feed [0]) = B at *
  generalize (cNew.feed wA) = A at *
  obtain ⟨A1, A2⟩ := A
  obtain ⟨B1, B2⟩ := B
  simp only at x1 x2 y1 y2 F1 F2
  rw [x1, x2] at F1
  rw [y1, y2] at F2
  clear e1 e2 e3 x1 x2 y1 y2
  have T0 : Hid (VTab w) := t
  clear t
  go_enter Tryd.func31, Tryd.ntmps31
  go_wp2_with fail
  refine N1.out.mono ?_
  rintro e w1 ⟨rfl, p1, b1⟩
  have hR : w.heap.size ≤ w.heap.size := Nat.le_refl _
  obtain ⟨R, hRR⟩ : ∃ R, R = w.heap.size := ⟨_, rfl⟩
  rw [← hRR] at p1 ⊢
  have gR : Hid (w.heap.size ≤ R) := Nat.le_of_eq hRR.symm
  have Z1 : Hid (Below w.heap.size w w1) := b1
  have P1 : Hid (PC w1 R cNew) := p1
  have T1 := Lib.hid (T0.out.below b1)
  clear N1 p1 b1 hR
  replace hRR := Lib.hid hRR
  go_wp2_with fail
  refine (F1.out w1 R T1.out P1.out).mono ?_
  rintro e w2 ⟨v2, rfl, p2, r2, k2⟩
  have Z2 : Hid (Below w.heap.size w w2) := Z1.out.trans (k2.below Z1.out.size (fun k hk => by rw [hk]; exact gR.out))
  have T2 := Lib.hid (T1.out.kept P1.out k2)
  have P2 := Lib.hid p2
  have hRw := P1.out.lt
  have O2 : Hid (∀ k, v2.ownBlock = some k → k < w2.heap.size ∧ k ≠ R) := fun k hk => ⟨(r2.row.lt k hk).2, fun c => by have := (r2.row.lt k hk).1; omega⟩
  have V2 := Lib.hid r2.at
  clear F1 p2 r2 k2 P1 T1 Z1 hRw
  go_wp2_with fail
  refine (F2.out w2 R T2.out P2.out).mono ?_
  rintro e w3 ⟨v3, rfl, p3, r3, k3⟩
  have Z3 : Hid (Below w.heap.size w w3) := Z2.out.trans (k3.below Z2.out.size (fun k hk => by rw [hk]; exact gR.out))
  have T3 := Lib.hid (T2.out.kept P2.out k3)
  have V23 := Lib.hid (V2.out.of fun k hk => k3.block k (O2.out k hk).1 (O2.out k hk).2)
  have V3 := Lib.hid r3.at
  clear F2 p3 r3 k3 P2 T2 Z2 O2 V2
  go_wp2_with fail
  refine (GR.out w3 T3.out).mono ?_
  rintro e w4 ⟨rfl, b4⟩
  have Z4 : Hid (Below w.heap.size w w4) := Z3.out.trans (b4.mono Z3.out.size)
  obtain ⟨aa, ca, rfl, ha⟩ := V23.out.cells
  obtain ⟨ab, cb, rfl, hb⟩ := V3.out.cells
  obtain ⟨ga, oa, rfl, la, a0, a1⟩ := ha 0 (by decide)
  obtain ⟨gb, ob, rfl, lb, b0, -⟩ := hb 0 (by decide)
  have a0' : w4.cell? ⟨ga, oa, none⟩ = some (.int .i64 0) := (b4.cell la).trans a0
  have a1' : w4.cell? ⟨ga, oa + 1, none⟩ = some (.string ⟨#[97, 98]⟩) := (b4.cell la).trans a1
  have b0' : w4.cell? ⟨gb, ob, none⟩ = some (.int .i64 1) := (b4.cell lb).trans b0
  have ia := fun w' => at_cp ga oa 1 ca 0 w' (by decide) 0 rfl oa rfl
  have ib := fun w' => at_cp gb ob 1 cb 0 w' (by decide) 0 rfl ob rfl
  clear GR b4 T3 Z3 V23 V3 ha hb a0 a1 b0 la lb
  go_wp2_with fail
  go_ret
  exact ⟨rfl, Z4.out⟩
end Go.Proofs.YtihkbakbciejiaaDoor
