/-
  A bucket, plain: what it gets, holds, has; what was counted; what New, Tick and Take leave. No condition.
-/
import Derived.Test.YteednkonmnngkaaObCells
namespace Go.Proofs.Yteednkonmnngkaa
set_option maxRecDepth 100000
open Go.RowKit

/-- A number from 0 to 2^30. -/
def cutB (n : Int) : Int := if n < 0 then 0 else if 1073741824 < n then 1073741824 else n
theorem cutB_pos (n : Int) : 0 ≤ cutB n := by unfold cutB; split; omega; split <;> omega
theorem cutB_le (n : Int) : cutB n ≤ 1073741824 := by unfold cutB; split; omega; split <;> omega
theorem cutB_in {n : Int} (h0 : 0 ≤ n) (h1 : n ≤ 1073741824) : cutB n = n := by unfold cutB; rw [if_neg (by omega), if_neg (by omega)]
structure Bkt where
  r : Int
  b : Int
  lv : Int
  tk : Int
  nt : Int
/-- Its cells: the program's and the document's lie alike. -/
def Bkt.cells (s : Bkt) : List Value := [.int .i64 s.r, .int .i64 s.b, .int .i64 s.lv, .int .i64 s.tk, .int .i64 s.nt]
structure Bkt.Ok (s : Bkt) : Prop where
  r0 : 0 ≤ s.r
  r1 : s.r ≤ 1073741824
  b1 : s.b ≤ 1073741824
  l0 : 0 ≤ s.lv
  l1 : s.lv ≤ s.b
def bkNew (r b : Int) : Bkt := ⟨cutB r, cutB b, cutB b, 0, 0⟩
def bkFill (s : Bkt) (n : Int) : Int := if s.b < s.lv + s.r * cutB n then s.b else s.lv + s.r * cutB n
def bkTick (s : Bkt) (n : Int) : Bkt := { s with lv := bkFill s n }
def bkYes (s : Bkt) (n : Int) : Bool := decide (0 ≤ n) && decide (n ≤ s.lv)
def bkTake (s : Bkt) (n : Int) : Bkt :=
  if n < 0 then s else if s.lv < n then { s with nt := wrap64 (s.nt + n) } else { s with lv := s.lv - n, tk := wrap64 (s.tk + n) }
theorem bkNew_ok (r b : Int) : (bkNew r b).Ok := ⟨cutB_pos _, cutB_le _, cutB_le _, cutB_pos _, Int.le_refl _⟩
theorem mul_cut {r n : Int} (h0 : 0 ≤ r) (h1 : r ≤ 1073741824) : 0 ≤ r * cutB n ∧ r * cutB n ≤ 1152921504606846976 := by
  have c0 := cutB_pos n
  have c1 := cutB_le n
  refine ⟨Int.mul_nonneg h0 c0, ?_⟩
  exact Int.le_trans (Int.mul_le_mul h1 c1 c0 (by decide)) (by decide)
theorem bkTick_ok {s : Bkt} (h : s.Ok) (n : Int) : (bkTick s n).Ok := by
  obtain ⟨h1, h2, h3, h4, h5⟩ := h
  have := (mul_cut (n := n) h1 h2).1
  refine ⟨h1, h2, h3, ?_, ?_⟩
  · show 0 ≤ bkFill s n
    unfold bkFill
    split <;> omega
  · show bkFill s n ≤ s.b
    unfold bkFill
    split <;> omega
theorem bkTake_ok {s : Bkt} (h : s.Ok) (n : Int) : (bkTake s n).Ok := by
  obtain ⟨h1, h2, h3, h4, h5⟩ := h
  unfold bkTake
  split
  · exact ⟨h1, h2, h3, h4, h5⟩
  split
  · exact ⟨h1, h2, h3, h4, h5⟩
  · exact ⟨h1, h2, h3, by show 0 ≤ s.lv - n; omega, by show s.lv - n ≤ s.b; omega⟩
end Go.Proofs.Yteednkonmnngkaa
