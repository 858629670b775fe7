/-
  What the function that Parse defers does: where the reader threw, the header is empty and the error is what was thrown; else nothing. No condition but that the two variables are there.
-/
import Derived.Test.YtndaohiecpdmlaaIpPack
import Derived.Defers
import Derived.Recover
import Derived.Laws.Pointers
namespace Go.Proofs.Ytndaohiecpdmlaa
open Go.RowKit

theorem HB.congr {w : World} {A : Nat} {f g : Nat → Value} (h : HB w A f) (e : ∀ i, i < 8 → f i = g i) : HB w A g :=
  ⟨h.lt, fun i hi => ⟨by rw [← e i hi]; exact (h.at' i hi).1, (h.at' i hi).2⟩⟩
set_option maxHeartbeats 1000000 in
theorem catch_idle (p q : Addr) (w : World) :
    CallsD Try.prog 41 #[.pointer (some p), .pointer (some q)] .returning w fun e u' w' => e = .returned (.tuple #[]) ∧ u' = .returning ∧ w' = w := by
  refine callsD_of_wpS Try.func41 rfl fun c₀ cs hu => ?_
  apply wpS_seq
  apply wpS_region
  simp [wpOpsS, go_sem, recoverD, hu, Try.ntmps41, Exit.thenS]
  refine wpS_of_wp ?_
  change Code.wp _ _ _ { tmps := #[.pointer (some p), .pointer (some q), .nilIface, undef, undef, .nilIface, undef, undef, undef, undef, undef, undef, undef, undef, undef, undef, undef, undef], defers := [] } w
  go_wp2
  cases c₀
  simp_all [bodyPostS, results, Try.results41]
set_option maxHeartbeats 1000000 in
theorem catch_thrown (H E : Nat) (x : Int) (f : Nat → Value) (y : Int) (older : List PanicEntry) (w : World) (hH : HB w H f) (hE : w.cell? ⟨E, 0, none⟩ = some (.int .i64 y)) (zE : w.frozen? ⟨E, 0, none⟩ = false) (hne : E ≠ H) :
    CallsD Try.prog 41 #[.pointer (some ⟨H, 0, none⟩), .pointer (some ⟨E, 0, none⟩)] (.panicking ({ v := .iface 26 (.int .i64 x), recovered := false } :: older)) w fun e u' w' =>
      e = .returned (.tuple #[]) ∧ u' = .panicking ({ v := .iface 26 (.int .i64 x), recovered := true } :: older) ∧ HB w' H zs ∧ w'.cell? ⟨E, 0, none⟩ = some (.int .i64 x) ∧ ∀ n, n ≤ H → n ≤ E → Below n w w' := by
  refine callsD_of_wpS Try.func41 rfl fun c₀ cs hu => ?_
  apply wpS_seq
  apply wpS_region
  simp [wpOpsS, go_sem, recoverD, hu, Try.ntmps41, Exit.thenS]
  refine wpS_of_wp ?_
  change Code.wp _ _ _ { tmps := #[.pointer (some ⟨H, 0, none⟩), .pointer (some ⟨E, 0, none⟩), .iface 26 (.int .i64 x), undef, undef, .iface 26 (.int .i64 x), undef, undef, undef, undef, undef, undef, undef, undef, undef, undef, undef, undef], defers := [] } w
  have hH' : Hid (HB w H f) := hH
  obtain ⟨hlt, hat⟩ := hH
  obtain ⟨a0, y0⟩ := hat 0 (by decide)
  obtain ⟨a1, y1⟩ := hat 1 (by decide)
  obtain ⟨a2, y2⟩ := hat 2 (by decide)
  obtain ⟨a3, y3⟩ := hat 3 (by decide)
  obtain ⟨a4, y4⟩ := hat 4 (by decide)
  obtain ⟨a5, y5⟩ := hat 5 (by decide)
  obtain ⟨a6, y6⟩ := hat 6 (by decide)
  obtain ⟨a7, y7⟩ := hat 7 (by decide)
  clear hat
  have hta : ∀ w, (Instr.typeAssert (.iface 26 (.int .i64 x)) 20 26 true).run Try.prog w = .ok (.tuple #[.int .i64 x, .bool true]) w := fun _ => by kernel_rfl
  have hne' : ¬ H = E := fun e => hne e.symm
  go_wp2
  have h1 := (((((((hH'.out.set 0 (by decide) (.int .i64 0)).set 1 (by decide) (.int .i64 0)).set 2 (by decide) (.int .i64 0)).set 3 (by decide) (.int .i64 0)).set 4 (by decide) (.int .i64 0)).set 5 (by decide) (.int .u32 0)).set 6 (by decide) (.int .u32 0)).set 7 (by decide) (.string ⟨#[]⟩)
  refine ⟨rfl, _, rfl, .tuple #[], ?_, rfl, rfl, (h1.other hne _).congr ?_, ?_, fun n hn he => ?_⟩
  · simp [results, Try.results41]
  · intro i hi
    rcases i with _|_|_|_|_|_|_|_|i
    all_goals first | rfl | omega
  · simp [go_sem, *]
  · exact (((((((((Below.refl n w).setCell (p := ⟨H, 0, none⟩) hn _).setCell (p := ⟨H, 1, none⟩) hn _).setCell (p := ⟨H, 2, none⟩) hn _).setCell (p := ⟨H, 3, none⟩) hn _).setCell (p := ⟨H, 4, none⟩) hn _).setCell (p := ⟨H, 5, none⟩) hn _).setCell (p := ⟨H, 6, none⟩) hn _).setCell (p := ⟨H, 7, none⟩) hn _).setCell (p := ⟨E, 0, none⟩) he _
end Go.Proofs.Ytndaohiecpdmlaa
