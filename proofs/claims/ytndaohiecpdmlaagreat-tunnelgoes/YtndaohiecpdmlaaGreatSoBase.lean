/-
  Numbers of 32 bits in a row of one's own, while they are sorted: what the row holds, what a swap makes of it; cmp.Less at such numbers. No condition.
-/
import Derived.Test.YtndaohiecpdmlaaGreatMgA
import Derived.Sort.AssemblyPlain
import Derived.Sort.LotD4
import Derived.Sort.LotD7
import Derived.WalkKit
import Derived.BigGuard
import Derived.BigCall
import Derived.CellFam
import Derived.BigQuiet
import Derived.Deep.LoopGhost
import Derived.Lib.QuietBelow
namespace Go.Proofs.YtndaohiecpdmlaaGreat
set_option maxRecDepth 100000
open Go.RowKit Go.Sort

/-- Rows of numbers of 32 bits. -/
def KU : RowK Int := ⟨79, 22, 1, 4, fun x => [.int .u32 x], 0⟩
theorem ku_ok : KU.Ok := ⟨Tryz.underlying79, info_of (z := .int .u32 0) (by kernel_rfl) rfl, by decide, fun _ => rfl, fun x u hu => by
  simp [KU] at hu
  subst hu
  rfl⟩
/-- The row's n numbers are d; of all that stood in w0 only that row has turned. -/
structure Srt (w0 w : World) (g off n c : Nat) (d : Array Int) : Prop where
  own : OwnK KU w 0 (.slice (some ⟨g, off, none⟩) n c) d.toList
  kept : Kept (· = g) w0 w
theorem Srt.size {w0 w : World} {g off n c : Nat} {d : Array Int} (h : Srt w0 w g off n c d) : d.size = n ∧ off = 0 ∧ g < w.heap.size ∧ n ≤ c := by
  rcases h.own.form with ⟨e, _⟩ | ⟨g', c', e, hc, _, hg⟩
  · cases e
  · injection e with e1 e2 e3
    injection e1 with e1
    injection e1 with e1 e4
    subst e1
    rw [Array.length_toList] at e2 hc
    exact ⟨e2.symm, e4, hg, by omega⟩
theorem Srt.cell {w0 w : World} {g off n c : Nat} {d : Array Int} (h : Srt w0 w g off n c d) (t : Nat) (ht : t < n) : w.cell? ⟨g, off + t, none⟩ = some (.int .u32 d[t]!) ∧ w.frozen? ⟨g, off + t, none⟩ = false := by
  obtain ⟨hs, rfl, hg, hc⟩ := h.size
  obtain ⟨a, cap, e, _, hr⟩ := h.own.row ku_ok
  rw [Array.length_toList] at hr
  obtain ⟨g1, o1, e1, _, hcell⟩ := hr t (by omega)
  injection e with e2 e3 e4
  rw [← e2] at e1
  injection e1 with e1
  injection e1 with e5 e6
  subst e5 e6
  have := hcell 0 (by decide)
  have hn : KU.n = 1 := rfl
  rw [hn, Nat.one_mul, Nat.add_zero] at this
  refine ⟨?_, ?_⟩
  · rw [this]
    show some (Value.int IntKind.u32 (d.toList.getD t 0)) = _
    rw [List.getD_eq_getElem?_getD, Array.getElem?_toList, getElem!_pos d t (by omega), Array.getElem?_eq_getElem (by omega)]
    rfl
  · have hp := (h.own.put ku_ok (k := t) (j := 0) (x := 0) (u := .int .u32 0) (by rw [Array.length_toList]; omega) (by decide) rfl).2
    rw [hn, Nat.one_mul, Nat.add_zero] at hp
    rw [Nat.zero_add]
    exact hp
theorem Srt.one {w0 w : World} {g off n c : Nat} {d : Array Int} (h : Srt w0 w g off n c d) (t : Nat) (ht : t < n) (x : Int) : Srt w0 (w.setCell ⟨g, off + t, none⟩ (.int .u32 x)) g off n c (d.setIfInBounds t x) := by
  obtain ⟨hs, rfl, hg, hc⟩ := h.size
  have hn : KU.n = 1 := rfl
  refine ⟨?_, h.kept.set _ rfl _⟩
  have := (h.own.put ku_ok (k := t) (j := 0) (x := x) (u := .int .u32 x) (by rw [Array.length_toList]; omega) (by decide) rfl).1
  rw [hn, Nat.one_mul, Nat.add_zero] at this
  rw [Nat.zero_add, Array.toList_setIfInBounds]
  exact this
theorem Srt.add {w0 w w' : World} {g off n c : Nat} {d : Array Int} (h : Srt w0 w g off n c d) (b : Below w.heap.size w w') : Srt w0 w' g off n c d := ⟨h.own.keep b, h.kept.add b⟩
theorem Srt.drew {w0 w : World} {g off n c : Nat} {d : Array Int} (h : Srt w0 w g off n c d) : Srt w0 w.drew g off n c d := h.add (drewB _ _)
theorem Srt.drewN {w0 w : World} {g off n c : Nat} {d : Array Int} (h : Srt w0 w g off n c d) (q : Nat) : Srt w0 (w.drewN q) g off n c d := h.add ⟨rfl, rfl, rfl, Nat.le_refl _, fun _ _ => rfl⟩
theorem Srt.again {w0 w w' : World} {g off n c : Nat} {d d' : Array Int} (h : Srt w0 w g off n c d) (h2 : Srt w w' g off n c d') : Srt w0 w' g off n c d' := ⟨h2.own, h.kept.trans h2.kept⟩
theorem Srt.start {w0 w : World} {g off n c : Nat} {d : Array Int} (h : Srt w0 w g off n c d) : Srt w w g off n c d := ⟨h.own, .refl _ _⟩
/-- The swap of two numbers. -/
theorem Srt.swp {w0 w : World} {g off n c : Nat} {d : Array Int} (h : Srt w0 w g off n c d) {i j : Nat} (hi : i < n) (hj : j < n) {x y : Int} (hx : x = d[j]!) (hy : y = d[i]!) :
    Srt w0 ((w.setCell ⟨g, off + i, none⟩ (.int .u32 x)).setCell ⟨g, off + j, none⟩ (.int .u32 y)) g off n c (Sort.swp d i j) := by
  subst hx hy
  exact (h.one i hi _).one j hj _
/-! ### cmp.Less -/
theorem nan_ok (x : Int) (w : World) : Calls Tryz.prog 107 #[.int .u32 x] w fun e w' => e = .returned (.bool false) ∧ w' = w := by
  go_enter Tryz.func107, Tryz.ntmps107
  go_wp2
  go_ret
  exact ⟨by simp, rfl⟩
theorem less_ok (x y : Int) (w : World) : Calls Tryz.prog 95 #[.int .u32 x, .int .u32 y] w fun e w' => e = .returned (.bool (ltInt x y)) ∧ w' = w := by
  go_enter Tryz.func95, Tryz.ntmps95
  go_wp2_with (go_at_call 107; refine (nan_ok _ _).mono ?_; rintro e w' ⟨rfl, rfl⟩)
  go_ret
  exact ⟨rfl, rfl⟩
/-! ### what stays as it was -/
theorem PermIn.step {a b i j : Nat} {d dk : Array Int} (h : PermIn a b d dk) (hb : b ≤ d.size) (hi : a ≤ i ∧ i < b) (hj : a ≤ j ∧ j < b) : PermIn a b d (Sort.swp dk i j) :=
  permIn_trans d dk _ a b h (swp_permIn dk a b i j hi.1 hi.2 hj.1 hj.2 (by rw [h.1]; exact hb))
end Go.Proofs.YtndaohiecpdmlaaGreat
