/-
  What the laws' own sameAddresses and sameRoutes answer. No condition but the form's own reach.
-/
import Derived.Test.YtihkbakbciejiaaDoorCpPgW
import Derived.BigQuiet
namespace Go.Proofs.YtihkbakbciejiaaDoor
set_option maxRecDepth 100000
open Go.RowKit Go.Sort

theorem RowAt.of {X : Type} {n : Nat} {cells : X → List Value} {x0 : X} {w w' : World} {v : Value} {l : List X} (h : RowAt n cells x0 w v l) (s : w.heap.size ≤ w'.heap.size) (b : ∀ k, v.ownBlock = some k → k < w.heap.size → w'.heap[k]? = w.heap[k]?) : RowAt n cells x0 w' v l := by
  obtain ⟨a, cap, rfl, hc, h⟩ := h
  refine ⟨a, cap, rfl, hc, fun k hk => ?_⟩
  obtain ⟨g, o, rfl, hg, c⟩ := h k hk
  exact ⟨g, o, rfl, Nat.lt_of_lt_of_le hg s, fun j hj => (World.cell?_of_block (w := w) (a := ⟨g, o + n * k + j, none⟩) (b g rfl hg)).trans (c j hj)⟩
theorem RowAt.low {X : Type} {n : Nat} {cells : X → List Value} {x0 : X} {w w' : World} {v : Value} {l : List X} (h : RowAt n cells x0 w v l) (b : Below w.heap.size w w') : RowAt n cells x0 w' v l := h.of b.size fun k _ hk => b.block k hk
theorem adv_get (l : List Ad) : ∀ (k : Nat), k < l.length → ∀ j, j < 3 → (adv l)[3 * k + j]? = (adc (l.getD k nA))[j]? := by
  induction l with
  | nil => intro k hk; exact absurd hk (Nat.not_lt_zero _)
  | cons x l ih =>
    intro k hk j hj
    show (adc x ++ adv l)[3 * k + j]? = _
    cases k with
    | zero =>
      rw [List.getElem?_append_left (by show 3 * 0 + j < 3; omega), Nat.mul_zero, Nat.zero_add]
      rfl
    | succ k =>
      rw [List.getElem?_append_right (by show 3 ≤ _; omega), show 3 * (k + 1) + j - (adc x).length = 3 * k + j by show 3 * (k + 1) + j - 3 = _; omega, ih k (by simpa using hk) j hj]
      rfl
theorem adp_at {base : Nat} {w : World} {v : Value} {l : List Ad} {e : TypeId} (h : w.ownsRow base e 3 v l.length (adv l)) : RowAt 3 adc nA w v l := by
  obtain ⟨h1, h2⟩ := h
  rcases h2 with ⟨rfl, e⟩ | ⟨g, cap, cur, rfl, e2, e3, e4, e5, e6, e7⟩
  · exact ⟨none, 0, by rw [e], by omega, fun k hk => by omega⟩
  · have get : ∀ i x, (adv l)[i]? = some x → w.cell? ⟨g, i, none⟩ = some x := fun i x hx => by
      rw [← e7, List.getElem?_take] at hx
      split at hx
      · rw [Array.getElem?_toList] at hx
        simp [World.cell?, e3, hx]
      · cases hx
    have hg : g < w.heap.size := by
      rcases Nat.lt_or_ge g w.heap.size with q | q
      · exact q
      · rw [Array.getElem?_eq_none q] at e3; cases e3
    refine ⟨_, _, rfl, e4, fun k hk => ⟨g, 0, rfl, hg, fun j hj => ?_⟩⟩
    rw [Nat.zero_add]
    have h3 := adv_get l k hk j hj
    have h4 : j < (adc (l.getD k nA)).length := hj
    rw [List.getElem?_eq_getElem h4] at h3 ⊢
    exact get _ _ h3
theorem at_rad (B o N cap i : Nat) (w : World) (h : i < N) (z : Int) (hz : z = i) (p : Nat) (hp : p = o + 3 * i) :
    (Instr.indexAt 43 (.slice (some ⟨B, o, none⟩) N cap) (.int .i64 z)).run Tryd.prog w = .ok (.pointer (some ⟨B, p, none⟩)) w := by
  subst hz hp
  have e : Tryd.prog.elem 43 = 50 := by kernel_rfl
  rw [run_indexAt_slice (P := Tryd.prog) w 43 ⟨B, o, none⟩ N cap .i64 i (by rw [e]; exact Tryd.underlying43), if_pos (by omega), e]
  have s : (sizeOf 50).run Tryd.prog w = .ok 3 w := Tryd.sizeOf50 w
  rw [s]
  simp [Addr.add_mid, Nat.mul_comm]
set_option maxHeartbeats 4000000 in
theorem sameA_ok (u v : Value) (l : List Ad) (w : World) (hu : RowAt 3 adc nA w u l) (hv : RowAt 3 adc nA w v l) (hl : l.length < 100000000000000) :
    Calls Tryd.prog 23 #[u, v] w fun e w' => e = .returned (.bool true) ∧ Below w.heap.size w w' := by
  obtain ⟨a, ca, rfl, -, ha⟩ := hu
  obtain ⟨b, cb, rfl, -, hb⟩ := hv
  obtain ⟨M, hM⟩ : ∃ M, M = l.length := ⟨_, rfl⟩
  have CA := Lib.hid ha
  have CB := Lib.hid hb
  rw [← hM] at CA CB hl ⊢
  replace hM : Hid _ := hM
  clear ha hb
  go_enter Tryd.func23, Tryd.ntmps23
  go_wp2_with fail
  go_loopg [5] M (fun g iv wr => ∃ j : Nat, j + g = M ∧ iv = .int .i64 (j : Int) ∧ Hid (Below w.heap.size w wr))
  case atStart => exact ⟨0, by omega, rfl, Below.refl _ _⟩
  case round =>
    obtain ⟨j, hj, rfl, bel⟩ := hrel
    by_cases hlt : j < M
    · have g1 : decide ((j : Int) < (M : Int)) = true := decide_eq_true (by omega)
      obtain ⟨ga, oa, rfl, la, ka⟩ := CA.out j hlt
      obtain ⟨gb, ob, rfl, lb, kb⟩ := CB.out j hlt
      have ia := fun w' => at_adp ga oa M ca j w' hlt (j : Int) rfl (oa + 3 * j) rfl
      have ib := fun w' => at_rad gb ob M cb j w' hlt (j : Int) rfl (ob + 3 * j) rfl
      obtain ⟨x, hx⟩ : ∃ x, x = l.getD j nA := ⟨_, rfl⟩
      rw [← hx] at ka kb
      obtain ⟨x0, x1, x2⟩ := x
      have a0 : ∀ d os, (grow (redrawn wr d) os).cell? ⟨ga, oa + 3 * j, none⟩ = some (.int .i64 x0) := fun d os => cell_regrown ((bel.out.cell la).trans (ka 0 (by decide))) d os
      have a1 : ∀ d os, (grow (redrawn wr d) os).cell? ⟨ga, oa + 3 * j + 1, none⟩ = some (.int .u32 (x1 : Int)) := fun d os => cell_regrown ((bel.out.cell la).trans (ka 1 (by decide))) d os
      have a2 : ∀ d os, (grow (redrawn wr d) os).cell? ⟨ga, oa + 3 * j + 2, none⟩ = some (.int .i64 x2) := fun d os => cell_regrown ((bel.out.cell la).trans (ka 2 (by decide))) d os
      have b0 : ∀ d os, (grow (redrawn wr d) os).cell? ⟨gb, ob + 3 * j, none⟩ = some (.int .i64 x0) := fun d os => cell_regrown ((bel.out.cell lb).trans (kb 0 (by decide))) d os
      have b1 : ∀ d os, (grow (redrawn wr d) os).cell? ⟨gb, ob + 3 * j + 1, none⟩ = some (.int .u32 (x1 : Int)) := fun d os => cell_regrown ((bel.out.cell lb).trans (kb 1 (by decide))) d os
      have b2 : ∀ d os, (grow (redrawn wr d) os).cell? ⟨gb, ob + 3 * j + 2, none⟩ = some (.int .i64 x2) := fun d os => cell_regrown ((bel.out.cell lb).trans (kb 2 (by decide))) d os
      clear ka kb CA CB hx
      go_upto_region 6 with fail
      refine wp_region_quiet_below (by kernel_rfl) (by kernel_rfl) ?_
      repeat (go_big_quiet_step (fail))
      refine wpQuiet_nil ?_
      intro _ hw'
      obtain ⟨⟨dq, osq⟩, hw''⟩ := hw'
      subst hw''
      have Z : Hid (Below w.heap.size w (grow (redrawn wr dq) osq)) := bel.out.trans ((below_regrown wr dq osq).mono bel.out.size)
      clear a0 a1 a2 b0 b1 b2 bel
      simp only
      generalize grow (redrawn wr dq) osq = w3 at *
      go_wp2_with fail
      go_roundg (M - 1 - j)
      case measure => omega
      case rel => exact ⟨j + 1, by omega, by simp, Z⟩
    · have hE : j = M := by omega
      subst hE
      clear CA CB
      go_wp2_with fail
      go_ret
      exact ⟨rfl, bel.out⟩
set_option maxHeartbeats 4000000 in
theorem sameR_ok (u v : Value) (l : List Ro) (w : World) (hu : RowAt 3 roC nR w u l) (hv : RowAt 3 roC nR w v l) (hl : l.length < 100000000000000) :
    Calls Tryd.prog 24 #[u, v] w fun e w' => e = .returned (.bool true) ∧ Below w.heap.size w w' := by
  obtain ⟨a, ca, rfl, -, ha⟩ := hu
  obtain ⟨b, cb, rfl, -, hb⟩ := hv
  obtain ⟨M, hM⟩ : ∃ M, M = l.length := ⟨_, rfl⟩
  have CA := Lib.hid ha
  have CB := Lib.hid hb
  rw [← hM] at CA CB hl ⊢
  replace hM : Hid _ := hM
  clear ha hb
  go_enter Tryd.func24, Tryd.ntmps24
  go_wp2_with fail
  go_loopg [5] M (fun g iv wr => ∃ j : Nat, j + g = M ∧ iv = .int .i64 (j : Int) ∧ Hid (Below w.heap.size w wr))
  case atStart => exact ⟨0, by omega, rfl, Below.refl _ _⟩
  case round =>
    obtain ⟨j, hj, rfl, bel⟩ := hrel
    by_cases hlt : j < M
    · have g1 : decide ((j : Int) < (M : Int)) = true := decide_eq_true (by omega)
      obtain ⟨ga, oa, rfl, la, ka⟩ := CA.out j hlt
      obtain ⟨gb, ob, rfl, lb, kb⟩ := CB.out j hlt
      have ia := fun w' => at_rop ga oa M ca j w' hlt (j : Int) rfl (oa + 3 * j) rfl
      have ib := fun w' => at_ro gb ob M cb j w' hlt (j : Int) rfl (ob + 3 * j) rfl
      obtain ⟨x, hx⟩ : ∃ x, x = l.getD j nR := ⟨_, rfl⟩
      rw [← hx] at ka kb
      obtain ⟨x0, x1, x2⟩ := x
      have a0 : ∀ d os, (grow (redrawn wr d) os).cell? ⟨ga, oa + 3 * j, none⟩ = some (.int .u32 (x0 : Int)) := fun d os => cell_regrown ((bel.out.cell la).trans (ka 0 (by decide))) d os
      have a1 : ∀ d os, (grow (redrawn wr d) os).cell? ⟨ga, oa + 3 * j + 1, none⟩ = some (.int .u32 (x1 : Int)) := fun d os => cell_regrown ((bel.out.cell la).trans (ka 1 (by decide))) d os
      have a2 : ∀ d os, (grow (redrawn wr d) os).cell? ⟨ga, oa + 3 * j + 2, none⟩ = some (.int .i64 x2) := fun d os => cell_regrown ((bel.out.cell la).trans (ka 2 (by decide))) d os
      have b0 : ∀ d os, (grow (redrawn wr d) os).cell? ⟨gb, ob + 3 * j, none⟩ = some (.int .u32 (x0 : Int)) := fun d os => cell_regrown ((bel.out.cell lb).trans (kb 0 (by decide))) d os
      have b1 : ∀ d os, (grow (redrawn wr d) os).cell? ⟨gb, ob + 3 * j + 1, none⟩ = some (.int .u32 (x1 : Int)) := fun d os => cell_regrown ((bel.out.cell lb).trans (kb 1 (by decide))) d os
      have b2 : ∀ d os, (grow (redrawn wr d) os).cell? ⟨gb, ob + 3 * j + 2, none⟩ = some (.int .i64 x2) := fun d os => cell_regrown ((bel.out.cell lb).trans (kb 2 (by decide))) d os
      clear ka kb CA CB hx
      go_upto_region 6 with fail
      refine wp_region_quiet_below (by kernel_rfl) (by kernel_rfl) ?_
      repeat (go_big_quiet_step (fail))
      refine wpQuiet_nil ?_
      intro _ hw'
      obtain ⟨⟨dq, osq⟩, hw''⟩ := hw'
      subst hw''
      have Z : Hid (Below w.heap.size w (grow (redrawn wr dq) osq)) := bel.out.trans ((below_regrown wr dq osq).mono bel.out.size)
      clear a0 a1 a2 b0 b1 b2 bel
      simp only
      generalize grow (redrawn wr dq) osq = w3 at *
      go_wp2_with fail
      go_roundg (M - 1 - j)
      case measure => omega
      case rel => exact ⟨j + 1, by omega, by simp, Z⟩
    · have hE : j = M := by omega
      subst hE
      clear CA CB
      go_wp2_with fail
      go_ret
      exact ⟨rfl, bel.out⟩
end Go.Proofs.YtihkbakbciejiaaDoor
