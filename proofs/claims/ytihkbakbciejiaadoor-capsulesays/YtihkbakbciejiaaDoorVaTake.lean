/-
  What the program's Take and Text answer, for every string, in every world that holds the table of sizes. No condition but that.
-/
import Derived.Test.YtihkbakbciejiaaDoorVaGet
namespace Go.Proofs.YtihkbakbciejiaaDoor
set_option maxRecDepth 100000
open Go.RowKit

/-- The bytes end within the number at their front. -/
def VCut (s : ByteArray) : Prop := s.size = 0 ∨ (0 < s.size ∧ ∃ m k, Mk m k ∧ s.size < k ∧ byt s 0 / 64 = m)
/-- A number of k bytes stands at the front. -/
def VHas (s : ByteArray) (k : Nat) : Prop := 0 < s.size ∧ k ≤ s.size ∧ ∃ m, Mk m k ∧ byt s 0 / 64 = m
theorem cut_or_has (s : ByteArray) : VCut s ∨ ∃ k, VHas s k := by
  rcases Nat.eq_zero_or_pos s.size with h | h
  · exact .inl (.inl h)
  obtain ⟨m, k, hk, hm⟩ := mk_of (byt s 0) (byt_bd s 0).1 (byt_bd s 0).2
  by_cases hl : s.size < k
  · exact .inl (.inr ⟨h, m, k, hk, hl, hm⟩)
  · exact .inr ⟨k, h, by omega, m, hk, hm⟩
theorem get_cut (s : ByteArray) (w : World) (t : VTab w) (hs : s.size ≤ 9223372036854775807) (h : VCut s) :
    Calls Tryd.prog 65 #[.string s] w fun e w' => e = .returned (.tuple #[.int .i64 0, .int .i64 0, .int .i64 1]) ∧ w = w' := by
  rcases h with h | ⟨hp, m, k, hk, hl, hm⟩
  · exact get_empty s w h
  · exact get_short s w t m k hk hs hp hl hm
theorem get_has (s : ByteArray) (w : World) (t : VTab w) (k : Nat) (hs : s.size ≤ 9223372036854775807) (h : VHas s k) :
    Calls Tryd.prog 65 #[.string s] w fun e w' => e = .returned (.tuple #[.int .i64 (gva (byt s) k), .int .i64 k, .int .i64 0]) ∧ w = w' := by
  obtain ⟨hp, hl, m, hk, hm⟩ := h
  exact get_ok s w t m k hk hs hp hl hm

set_option maxHeartbeats 1000000 in
theorem take_cut (s : ByteArray) (w : World) (t : VTab w) (hs : s.size ≤ 9223372036854775807) (h : VCut s) :
    Calls Tryd.prog 66 #[.string s] w fun e w' => e = .returned (.tuple #[.string ⟨#[]⟩, .int .i64 0, .int .i64 1]) ∧ w = w' := by
  go_enter Tryd.func66, Tryd.ntmps66
  go_wp2_with (go_at_call 65; refine (get_cut s _ t hs h).mono ?_; rintro e w' ⟨rfl, rfl⟩)
  go_ret3
  exact ⟨rfl, rfl⟩
set_option maxHeartbeats 1000000 in
theorem take_short (s : ByteArray) (w : World) (t : VTab w) (hs : s.size ≤ 9223372036854775807) (k : Nat) (h : VHas s k) (hl : s.size - k < gva (byt s) k) :
    Calls Tryd.prog 66 #[.string s] w fun e w' => e = .returned (.tuple #[.string ⟨#[]⟩, .int .i64 0, .int .i64 1]) ∧ w = w' := by
  have G := get_has s w t k hs h
  have hk : k ≤ s.size := h.2.1
  generalize gva (byt s) k = c at *
  clear h
  go_enter Tryd.func66, Tryd.ntmps66
  go_wp2_with (go_at_call 65; refine G.mono ?_; rintro e w' ⟨rfl, rfl⟩)
  go_ret3
  exact ⟨rfl, rfl⟩
set_option maxHeartbeats 1000000 in
theorem take_ok (s : ByteArray) (w : World) (t : VTab w) (hs : s.size ≤ 9223372036854775807) (k c : Nat) (h : VHas s k) (hc : gva (byt s) k = c) (hl : k + c ≤ s.size) :
    Calls Tryd.prog 66 #[.string s] w fun e w' => e = .returned (.tuple #[.string (s.extract k (k + c)), .int .i64 (k + c), .int .i64 0]) ∧ w = w' := by
  have G := get_has s w t k hs h
  have hk : k ≤ s.size := h.2.1
  rw [hc] at G
  clear h hc
  go_enter Tryd.func66, Tryd.ntmps66
  go_wp2_with (go_at_call 65; refine G.mono ?_; rintro e w' ⟨rfl, rfl⟩)
  go_ret3
  exact ⟨rfl, rfl⟩
end Go.Proofs.YtihkbakbciejiaaDoor
