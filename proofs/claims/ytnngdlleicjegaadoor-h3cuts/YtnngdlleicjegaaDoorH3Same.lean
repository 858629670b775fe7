/-
  Events of the program held against the document's: what the law's own same answers. No condition but the form's own reach.
-/
import Derived.Test.YtnngdlleicjegaaDoorH3Works
import Derived.BigQuiet
import Derived.Lib.QuietBelow
import Derived.Deep.LoopGhost
namespace Go.Proofs.YtnngdlleicjegaaDoor
set_option maxRecDepth 100000
open Go.RowKit Go.Sort

theorem at_rev (B o N cap i : Nat) (w : World) (h : i < N) (z : Int) (hz : z = i) (p : Nat) (hp : p = o + 2 * i) :
    (Instr.indexAt 31 (.slice (some ⟨B, o, none⟩) N cap) (.int .i64 z)).run Tryd.prog w = .ok (.pointer (some ⟨B, p, none⟩)) w := by
  subst hz hp
  have e : Tryd.prog.elem 31 = 49 := by kernel_rfl
  rw [run_indexAt_slice (P := Tryd.prog) w 31 ⟨B, o, none⟩ N cap .i64 i (by rw [e]; exact Tryd.underlying31), if_pos (by omega), e]
  have s : (sizeOf 49).run Tryd.prog w = .ok 2 w := Tryd.sizeOf49 w
  rw [s]
  simp [Addr.add_mid, Nat.mul_comm]
set_option maxHeartbeats 4000000 in
theorem same15_ok (u v : Value) (l : List Ev) (w : World) (hu : EvAt w u l) (hv : EvAt w v l) (hl : l.length < 1000000000) :
    Calls Tryd.prog 12 #[u, v] w fun e w' => e = .returned (.bool true) ∧ Below w.heap.size w w' := by
  obtain ⟨a, ca, rfl, ha⟩ := hu
  obtain ⟨b, cb, rfl, hb⟩ := hv
  obtain ⟨M, hM⟩ : ∃ M, M = l.length := ⟨_, rfl⟩
  have CA : Hid (∀ j, j < l.length → ∃ g o, a = some ⟨g, o, none⟩ ∧ w.cell? ⟨g, o + 2 * j, none⟩ = some (.int .i64 ((l.getD j (0, [])).1 : Int)) ∧ w.cell? ⟨g, o + 2 * j + 1, none⟩ = some (.string (strL (l.getD j (0, [])).2))) := fun j hj => by
    rcases ha with ha | ⟨g, o, e, ha⟩
    · rw [ha] at hj
      exact absurd hj (Nat.not_lt_zero _)
    · exact ⟨g, o, e, ha j hj⟩
  have CB : Hid (∀ j, j < l.length → ∃ g o, b = some ⟨g, o, none⟩ ∧ w.cell? ⟨g, o + 2 * j, none⟩ = some (.int .i64 ((l.getD j (0, [])).1 : Int)) ∧ w.cell? ⟨g, o + 2 * j + 1, none⟩ = some (.string (strL (l.getD j (0, [])).2))) := fun j hj => by
    rcases hb with hb | ⟨g, o, e, hb⟩
    · rw [hb] at hj
      exact absurd hj (Nat.not_lt_zero _)
    · exact ⟨g, o, e, hb j hj⟩
  rw [← hM] at CA CB hl ⊢
  replace hM : Hid _ := hM
  clear ha hb
  go_enter Tryd.func12, Tryd.ntmps12
  go_wp2_with fail
  go_loopg [5] M (fun g iv wr => ∃ j : Nat, j + g = M ∧ iv = .int .i64 (j : Int) ∧ Hid (Below w.heap.size w wr))
  case atStart => exact ⟨0, by omega, rfl, Below.refl _ _⟩
  case round =>
    obtain ⟨j, hj, rfl, bel⟩ := hrel
    by_cases hlt : j < M
    · have g1 : decide ((j : Int) < (M : Int)) = true := decide_eq_true (by omega)
      obtain ⟨ga, oa, rfl, a0, a1⟩ := CA.out j hlt
      obtain ⟨gb, ob, rfl, b0, b1⟩ := CB.out j hlt
      have ia := fun w' => at_ev ga oa M ca j w' hlt (j : Int) rfl (oa + 2 * j) rfl
      have ib := fun w' => at_rev gb ob M cb j w' hlt (j : Int) rfl (ob + 2 * j) rfl
      have a0' := (bel.out.cell (World.block_lt_of_cell? w _ a0)).trans a0
      have a1' := (bel.out.cell (World.block_lt_of_cell? w _ a1)).trans a1
      have b0' := (bel.out.cell (World.block_lt_of_cell? w _ b0)).trans b0
      have b1' := (bel.out.cell (World.block_lt_of_cell? w _ b1)).trans b1
      have Z : Hid (Below w.heap.size w wr.drew) := bel.out.drew
      generalize (l.getD j (0, [])).1 = y at *
      generalize strL (l.getD j (0, [])).2 = x at *
      clear a0 a1 b0 b1 CA CB
      go_upto_region 6 with fail
      go_region
      all_goals
        go_wp2_with fail
        go_roundg (M - 1 - j)
        case measure => omega
        case rel => exact ⟨j + 1, by omega, by simp, Z⟩
    · have hE : j = M := by omega
      subst hE
      clear CA CB
      go_wp2_with fail
      go_ret
      exact ⟨rfl, bel.out⟩
end Go.Proofs.YtnngdlleicjegaaDoor
