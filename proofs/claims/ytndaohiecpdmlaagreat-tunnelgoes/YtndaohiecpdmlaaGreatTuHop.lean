/-
  What both Hops answer of any bytes. No condition but what the form allows.
-/
import Derived.Test.YtndaohiecpdmlaaGreatTuMath
import Derived.Test.YtndaohiecpdmlaaGreatMgC
import Derived.Test.YtndaohiecpdmlaaGreatMgD
import Derived.Lib.Hide
namespace Go.Proofs.YtndaohiecpdmlaaGreat
set_option maxRecDepth 100000
open Go.RowKit

theorem hopE_err {s : ByteArray} (h : errOf s ≠ 0) : hopE s = errOf s := by unfold hopE; rw [if_pos h]
theorem hopE_low {s : ByteArray} (h : errOf s = 0) (ht : ttlP s < 2) : hopE s = 2 := by unfold hopE; rw [if_neg (by simpa using h), if_pos ht]
theorem hopE_go {s : ByteArray} (h : errOf s = 0) (ht : ¬ ttlP s < 2) : hopE s = 0 := by unfold hopE; rw [if_neg (by simpa using h), if_neg ht]
theorem parse_hd (s : ByteArray) (w : World) (hs : s.size ≤ 9223372036854775807) (h : errOf s = 0) : Calls Tryz.prog 21 #[.string s] w fun e w' => e = .returned (.tuple #[hdOf s, .int .i64 0]) ∧ Below w.heap.size w w' := by
  have := parse_ok s w hs
  unfold valOf at this
  rw [h, if_pos rfl] at this
  exact this
theorem parse_none (s : ByteArray) (w : World) (hs : s.size ≤ 9223372036854775807) (h : errOf s ≠ 0) : Calls Tryz.prog 21 #[.string s] w fun e w' => e = .returned (.tuple #[none', .int .i64 (errOf s)]) ∧ Below w.heap.size w w' := by
  have := parse_ok s w hs
  unfold valOf at this
  rw [if_neg h] at this
  exact this
theorem rparse_hd (s : ByteArray) (w : World) (hs : s.size ≤ 9223372036854775807) (h : errOf s = 0) : Calls Tryz.prog 13 #[.string s] w fun e w' => e = .returned (.tuple #[hdOf s, .int .i64 0]) ∧ Below w.heap.size w w' := by
  have := rparse_ok s w hs
  unfold valOf at this
  rw [h, if_pos rfl] at this
  exact this
theorem rparse_none (s : ByteArray) (w : World) (hs : s.size ≤ 9223372036854775807) (h : errOf s ≠ 0) : Calls Tryz.prog 13 #[.string s] w fun e w' => e = .returned (.tuple #[none', .int .i64 (errOf s)]) ∧ Below w.heap.size w w' := by
  have := rparse_ok s w hs
  unfold valOf at this
  rw [if_neg h] at this
  exact this
theorem hop_ok (s : ByteArray) (w : World) (hs : s.size ≤ 9223372036854775807) : Calls Tryz.prog 36 #[.string s] w fun e w' => e = .returned (.tuple #[.string (hopS s), .int .i64 (hopE s)]) ∧ Below w.heap.size w w' := by
  by_cases h : errOf s = 0
  · by_cases ht : ttlP s < 2
    · have e := hopE_low h ht
      rw [hopE_some (by rw [e]; decide), e]
      exact hop_stop s w _ _ _ _ _ _ _ _ ht fun w => parse_hd s w hs h
    · have e := hopE_go h ht
      rw [(hopE_zero e).2.2.2, e]
      have g := good_err s h
      exact hop_go s (hopP s) w _ _ _ _ _ _ _ _ (by unfold ttlP at ht; omega) (by have := ttl_bd s; unfold ttlP at this; omega) (fun w => parse_hd s w hs h) fun w => build_ok _ _ _ _ _ _ _ _ w (hop_hok (by omega)) (dat_small g) (num4_bd s 12).1 (num4_bd s 12).2 (num4_bd s 16).1 (num4_bd s 16).2
  · have e := hopE_err h
    rw [hopE_some (by rw [e]; exact h), e]
    exact hop_err s w _ (by simpa using h) fun w => parse_none s w hs h
end Go.Proofs.YtndaohiecpdmlaaGreat
