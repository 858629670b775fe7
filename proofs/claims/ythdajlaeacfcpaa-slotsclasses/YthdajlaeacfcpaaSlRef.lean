/-
  What the document's own Owner, Turn, Round, Classes and Class answer. No condition but the form's own reach.
-/
import Derived.Test.YthdajlaeacfcpaaSlOpen
import Derived.Test.YthdajlaeacfcpaaObDraw
import Derived.Tactics
import Derived.Tactics2
import Derived.RegionTactic
import Derived.BigQuiet
import Derived.Deep.Cut
namespace Go.Proofs.Ythdajlaeacfcpaa
set_option maxRecDepth 100000
open Go.RowKit

theorem max_at (x y : Int) (w : World) (ty : TypeId) (t : TypeId) : ∀ q, (builtin .max #[t, t] ty q #[.int .i64 x, .int .i64 y]).run Try.prog w = .ok (.value (.int .i64 (max x y))) w := fun q => by
  have e : (builtin .max #[t, t] ty q #[.int .i64 x, .int .i64 y]) = (do pure (.value (← Builtin.max_ #[t, t] ty #[.int .i64 x, .int .i64 y]))) := rfl
  rw [e]
  by_cases h : x < y
  · have e2 : max x y = y := by omega
    rw [e2]
    simp [Builtin.max_, Builtin.max2, h]
  · have e2 : max x y = x := by omega
    rw [e2]
    simp [Builtin.max_, Builtin.max2, h]
theorem tmod_at (t : Int) (n : Nat) (h : 0 ≤ t) : t.tmod (n : Int) = ((t.toNat % n : Nat) : Int) := by
  rw [Int.tmod_eq_emod_of_nonneg h]
  obtain ⟨k, rfl⟩ := Int.eq_ofNat_of_zero_le h
  rw [Int.toNat_natCast]
  exact (Int.natCast_emod k n).symm
set_option maxHeartbeats 1000000 in
theorem rowner_ok {w : World} {v : Value} {l : List Int} (h : Tb w v l) (t : Int) :
    Calls Try.prog 10 #[v, .int .i64 t] w fun e w' => e = .returned (.int .i64 (ownV l t)) ∧ w = w' := by
  obtain ⟨a, c, rfl⟩ := h.slice
  have hz := h.z
  by_cases h0 : t < 0
  · have e : ownV l t = -1 := by unfold ownV; rw [if_pos (.inl h0)]
    rw [e]
    have q1 : decide (t < 0) = true := decide_eq_true h0
    clear h e
    go_enter Try.func10, Try.ntmps10
    go_wp2_with fail
    go_ret
    exact ⟨rfl, rfl⟩
  · have q1 : decide (t < 0) = false := decide_eq_false h0
    obtain ⟨n, hn⟩ : ∃ n, n = l.length := ⟨_, rfl⟩
    have n64 : n ≤ 9223372036854775807 := by omega
    by_cases h1 : n = 0
    · have e : ownV l t = -1 := by unfold ownV; rw [if_pos (.inr (by omega))]
      rw [e]
      rw [← hn]
      subst h1
      clear h e hn hz
      go_enter Try.func10, Try.ntmps10
      go_wp2_with fail
      go_ret
      exact ⟨rfl, rfl⟩
    · have q2 : ((n : Int) == 0) = false := by simp; omega
      have q3 : decide ((n : Int) = 0) = false := decide_eq_false (by omega)
      have hj : t.toNat % n < n := Nat.mod_lt _ (by omega)
      obtain ⟨g, o, rfl, ia, ce⟩ := h.at _ (by rw [← hn]; exact hj)
      have ix : ∀ w', (Instr.indexAt 22 (.slice (some ⟨g, o, none⟩) n c) (.int .i64 (t.tmod (n : Int)))).run Try.prog w' = .ok (.pointer (some ⟨g, o + t.toNat % n, none⟩)) w' := fun w' => by
        have := ia w' _ (tmod_at t _ (by omega))
        rw [← hn] at this
        exact this
      obtain ⟨x, hx⟩ : ∃ x, x = l.getD (t.toNat % n) 0 := ⟨_, rfl⟩
      rw [← hx] at ce
      have e : ownV l t = max (-1) x := by unfold ownV; rw [if_neg (by omega), hx, hn]
      have mx := Lib.hid (max_at (-1) x w 3 3)
      rw [e]
      rw [← hn]
      replace hz := Lib.hid hz
      clear ia h hx e hj hn hz
      go_enter Try.func10, Try.ntmps10
      go_upto_region 3 with fail
      clear q1 q2 q3 h0
      go_wp2_with (refine obB2L _ rfl .max _ (.tmp 18) 3 3 rfl (.int .i64 (-1)) (.int .i64 x) rfl rfl mx.out ?_)
      go_ret
      exact ⟨rfl, rfl⟩
theorem rfine_ok {w : World} {v : Value} {l : List Int} (h : Tb w v l) (who : Int) :
    Calls Try.prog 18 #[v, .int .i64 who] w fun e w' => e = .returned (.bool (decide (¬ (who < 0 ∨ 65536 < l.length)))) ∧ w = w' := by
  obtain ⟨a, c, rfl⟩ := h.slice
  have hz := h.z
  obtain ⟨n, hn⟩ : ∃ n, n = l.length := ⟨_, rfl⟩
  rw [← hn]
  have n64 : n ≤ 9223372036854775807 := by omega
  clear h hz hn
  by_cases h0 : who < 0
  · have e : decide (¬ (who < 0 ∨ 65536 < n)) = false := decide_eq_false (by omega)
    have q1 : decide (0 ≤ who) = false := decide_eq_false (by omega)
    have q2 : ¬ 0 ≤ who := by omega
    rw [e]
    go_enter Try.func18, Try.ntmps18
    go_wp2_with fail
    go_ret
    exact ⟨rfl, rfl⟩
  · have q1 : decide (0 ≤ who) = true := decide_eq_true (by omega)
    have q2 : 0 ≤ who := by omega
    by_cases h1 : n ≤ 65536
    · have e : decide (¬ (who < 0 ∨ 65536 < n)) = true := decide_eq_true (by omega)
      have q3 : decide (n ≤ 65536) = true := decide_eq_true h1
      have q4 : decide ((n : Int) ≤ 65536) = true := decide_eq_true (by omega)
      rw [e]
      go_enter Try.func18, Try.ntmps18
      go_wp2_with fail
      go_ret
      exact ⟨rfl, rfl⟩
    · have e : decide (¬ (who < 0 ∨ 65536 < n)) = false := decide_eq_false (by omega)
      have q3 : decide (n ≤ 65536) = false := decide_eq_false h1
      have q4 : decide ((n : Int) ≤ 65536) = false := decide_eq_false (by omega)
      rw [e]
      go_enter Try.func18, Try.ntmps18
      go_wp2_with fail
      go_ret
      exact ⟨rfl, rfl⟩
end Go.Proofs.Ythdajlaeacfcpaa
