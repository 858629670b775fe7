/-
  Ranges that lie in memory, and what the document's own test of one range answers. Fewer than 2^40 ranges where that is said; no other condition.
-/
import Derived.Test.YtfjampommgkfeaaAkMath
import Derived.Test.YtfjampommgkfeaaObCells
import Derived.Deep.LoopGhost
import Derived.Lib.QuietBelow
import Derived.BigQuiet
import Derived.RegionTactic
namespace Go.Proofs.Ytfjampommgkfeaa
set_option maxRecDepth 100000
open Go.RowKit Go.Sort

/-- The ranges l as a slice tells them. -/
def RgAt (w : World) (v : Value) (l : List Rg) : Prop :=
  ∃ a cap, v = .slice a l.length cap ∧ (l = [] ∨ ∃ g o, a = some ⟨g, o, none⟩ ∧ ∀ k, k < l.length → w.cell? ⟨g, o + 2 * k, none⟩ = some (.int .i64 (l.getD k (0, 0)).1) ∧ w.cell? ⟨g, o + 2 * k + 1, none⟩ = some (.int .i64 (l.getD k (0, 0)).2))
theorem at_rgs (B o N cap i : Nat) (w : World) (h : i < N) (z : Int) (hz : z = i) (p : Nat) (hp : p = o + 2 * i) :
    (Instr.indexAt 27 (.slice (some ⟨B, o, none⟩) N cap) (.int .i64 z)).run Try.prog w = .ok (.pointer (some ⟨B, p, none⟩)) w := by
  subst hz hp
  have e : Try.prog.elem 27 = 50 := by kernel_rfl
  rw [run_indexAt_slice (P := Try.prog) w 27 ⟨B, o, none⟩ N cap .i64 i (by rw [e]; exact Try.underlying27), if_pos (by omega), e]
  have s : (sizeOf 50).run Try.prog w = .ok 2 w := Try.sizeOf50 w
  rw [s]
  simp [Addr.add_mid, Nat.mul_comm]
theorem RgAt.keep {w w' : World} {v : Value} {l : List Rg} (h : RgAt w v l) (b : Below w.heap.size w w') : RgAt w' v l := by
  obtain ⟨a, cap, rfl, hc⟩ := h
  refine ⟨a, cap, rfl, ?_⟩
  rcases hc with h | ⟨g, o, rfl, hc⟩
  · exact .inl h
  · refine .inr ⟨g, o, rfl, fun k hk => ?_⟩
    obtain ⟨c1, c2⟩ := hc k hk
    exact ⟨(b.cell (World.block_lt_of_cell? w _ c1)).trans c1, (b.cell (World.block_lt_of_cell? w _ c2)).trans c2⟩
set_option maxHeartbeats 1000000 in
theorem rfine_ok (lo hi : Int) (w : World) :
    Calls Try.prog 41 #[.int .i64 lo, .int .i64 hi] w fun e w' => e = .returned (.bool (fineB lo hi)) ∧ w = w' := by
  unfold fineB
  by_cases h1 : 0 ≤ lo
  · by_cases h2 : hi ≤ 4611686018427387903
    · rw [decide_eq_true h1, decide_eq_true h2]
      go_enter Try.func41, Try.ntmps41
      go_wp2
      go_ret
      exact ⟨rfl, rfl⟩
    · rw [decide_eq_true h1, decide_eq_false h2]
      go_enter Try.func41, Try.ntmps41
      go_wp2
      go_ret
      exact ⟨rfl, rfl⟩
  · rw [decide_eq_false h1]
    go_enter Try.func41, Try.ntmps41
    go_wp2
    go_ret
    exact ⟨rfl, rfl⟩
theorem rfine_b (lo hi : Int) (w : World) :
    Calls Try.prog 41 #[.int .i64 lo, .int .i64 hi] w fun e w' => e = .returned (.bool (fineB lo hi)) ∧ Below w.heap.size w w' :=
  (rfine_ok lo hi w).mono fun _ _ h => ⟨h.1, h.2 ▸ Below.refl _ _⟩
end Go.Proofs.Ytfjampommgkfeaa
