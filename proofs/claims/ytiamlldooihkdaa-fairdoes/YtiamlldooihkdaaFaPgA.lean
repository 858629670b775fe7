/-
  What the program's own queues do, call by call: New, Count, the first one's turn, its way to the end of the round. No condition but what always holds of queues.
-/
import Derived.Test.YtiamlldooihkdaaFaRep
import Derived.Test.YtiamlldooihkdaaObDraw
import Derived.Tactics
import Derived.Tactics2
import Derived.RegionTactic
import Derived.BigQuiet
import Derived.Deep.Cut
namespace Go.Proofs.Ytiamlldooihkdaa
set_option maxRecDepth 100000
open Go.RowKit

theorem fwithin_ok (n : Int) (w : World) : Calls Try.prog 19 #[.int .i64 n] w fun e w' => e = .returned (.int .i64 (cutQ n)) ∧ w = w' := by
  by_cases h0 : n < 1
  · have e : cutQ n = 1 := by unfold cutQ; rw [if_pos h0]
    rw [e]
    have g1 : max n 1 = 1 := by omega
    have g : (if n < 1 then (1 : Int) else n) = 1 := if_pos h0
    go_enter Try.func19, Try.ntmps19
    go_wp2
    go_ret
    exact ⟨rfl, rfl⟩
  · by_cases h1 : 1048576 < n
    · have e : cutQ n = 1048576 := by unfold cutQ; rw [if_neg h0, if_pos h1]
      rw [e]
      go_enter Try.func19, Try.ntmps19
      go_wp2
      go_ret
      exact ⟨rfl, rfl⟩
    · have e : cutQ n = n := by unfold cutQ; rw [if_neg h0, if_neg h1]
      rw [e]
      go_enter Try.func19, Try.ntmps19
      go_wp2
      go_ret
      exact ⟨rfl, rfl⟩
theorem fcount_ok (B : Nat) (T : Tag) (p : FaP) (w : World) (h : PG w B T p) : Calls Try.prog 16 #[ptr B] w fun e w' => e = .returned (.int .i64 p.cnt) ∧ w = w' := by
  obtain ⟨rv, bm, S, h⟩ := h
  have c5 := h.h.cell 5 (v := .int .i64 p.cnt) rfl
  clear h
  go_enter Try.func16, Try.ntmps16
  go_wp2
  go_ret
  exact ⟨rfl, rfl⟩
theorem fcut_ok (B : Nat) (T : Tag) (p : FaP) (x : Int) (t : List Int) (w : World) (h : PG w B T p) (hp : p.ids = x :: t) :
    Calls Try.prog 26 #[ptr B] w fun e w' => e = .returned (.int .i64 x) ∧ PG w' B T { p with ids := t, sv := false } ∧ Kept (Low T) w w' := by
  obtain ⟨rv, bm, S, h⟩ := h
  have hr := h.r
  rw [hp] at hr
  obtain ⟨g, o, c, rfl, cx, _, hc, hg⟩ := hr.first ki_ok rfl
  have c2 := h.h.cell 2 (v := .slice (some ⟨g, o, none⟩) (t.length + 1) c) rfl
  have z2 := h.h.free 2 (by show 2 < 6; decide)
  have c4 := h.h.cell 4 (v := .bool p.sv) rfl
  have z4 := h.h.free 4 (by show 4 < 6; decide)
  obtain ⟨a2, n2, cc, hcut, r2, hob, -⟩ := hr.tl ki_ok
  have hix := fun w' => at_Z ki_ok g o (t.length + 1) c 0 w' (by omega) 0 rfl o (by show o = o + 1 * 0; omega)
  obtain ⟨w2, hw2⟩ : ∃ w2, w2 = (w.setCell ⟨B, 2, none⟩ (.slice a2 n2 cc)).setCell ⟨B, 4, none⟩ (.bool false) := ⟨_, rfl⟩
  have k2 : Kept (fun k => k = B) w w2 := by
    rw [hw2]
    exact ((Kept.refl (fun k => k = B) w).set ⟨B, 2, none⟩ rfl _).set ⟨B, 4, none⟩ rfl _
  have l2 : Lies w2 B (paC { p with ids := t, sv := false } (.slice a2 n2 cc) bm) := by
    rw [hw2]
    exact (h.h.put 2 (by show 2 < 6; decide) _).put 4 (by show 4 < 6; decide) _
  have hgB : ∀ k, (Value.slice a2 n2 cc).ownBlock = some k → T k = some (2, 0) := fun k hk => h.tr k (by rw [← hob]; exact hk)
  have P2 := Lib.hid (h.top (ids' := t) (sv' := false) (cnt' := p.cnt) k2 l2 r2 hgB)
  have K2 := Lib.hid (k2.mono (G := Low T) fun k _ q => .inl (by rw [q, h.tB]))
  replace hw2 := Lib.hid hw2
  replace cx : w.cell? ⟨g, o, none⟩ = some (.int .i64 x) := cx
  replace hcut : ∀ w', (Instr.sliceAt 48 (.slice (some ⟨g, o, none⟩) (t.length + 1) c) (some (.int .i64 1)) none none).run Try.prog w' = .ok (.slice a2 n2 cc) w' := hcut
  replace hix : ∀ w', (Instr.indexAt 48 (.slice (some ⟨g, o, none⟩) (t.length + 1) c) (.int .i64 0)).run Try.prog w' = .ok (.pointer (some ⟨g, o, none⟩)) w' := hix
  obtain ⟨N, hN⟩ : ∃ N, N = t.length + 1 := ⟨_, rfl⟩
  rw [← hN] at hcut hix c2
  clear h hr r2 k2 l2 hgB hob hg hp hc hN
  go_enter Try.func26, Try.ntmps26
  go_wp2
  go_ret
  rw [← hw2.out]
  exact ⟨rfl, ⟨_, _, _, P2.out⟩, K2.out⟩
end Go.Proofs.Ytiamlldooihkdaa
