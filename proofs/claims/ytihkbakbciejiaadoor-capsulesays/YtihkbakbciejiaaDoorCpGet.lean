/-
  The document's own Get over lists of bytes: a number at the front, or none. No condition but the form's own reach.
-/
import Derived.Test.YtihkbakbciejiaaDoorObStr
import Derived.Test.YtihkbakbciejiaaDoorVaRefGet
namespace Go.Proofs.YtihkbakbciejiaaDoor
set_option maxRecDepth 100000
open Go.RowKit

theorem rget_none (s : ByteArray) (w : World) (hs : s.size ≤ 9223372036854775807) (h : getL (toL s) = none) :
    Calls Tryd.prog 39 #[.string s] w fun e w' => e = .returned (.tuple #[.int .i64 0, .int .i64 0, .int .i64 1]) ∧ Below w.heap.size w w' := by
  rcases cut_or_has s with q | ⟨k, q⟩
  · exact (rget_cut s w hs q).mono fun e w' ⟨h1, h2⟩ => ⟨h1, h2 ▸ Below.refl _ _⟩
  · rw [link_has q] at h
    cases h
theorem rget_some (s : ByteArray) (w : World) (hs : s.size ≤ 9223372036854775807) {n k : Nat} (h : getL (toL s) = some (n, k)) :
    Calls Tryd.prog 39 #[.string s] w fun e w' => e = .returned (.tuple #[.int .i64 (n : Int), .int .i64 (k : Int), .int .i64 0]) ∧ Below w.heap.size w w' := by
  rcases cut_or_has s with q | ⟨j, q⟩
  · rw [link_cut q] at h
    cases h
  · have e := link_has q
    rw [h] at e
    injection e with e
    injection e with e1 e2
    subst e2
    have hq := q
    obtain ⟨_, _, m, hk, _⟩ := hq
    have hb := (gva_bd (byt s) (byt_bd s) hk).1
    have e3 : gva (byt s) k = (n : Int) := by omega
    refine (rget_has s w k hs q).mono ?_
    rw [e3]
    exact fun e w' h => h
theorem get_len {s : ByteArray} {n k : Nat} (h : getL (toL s) = some (n, k)) : 1 ≤ k ∧ k ≤ s.size := by
  have := getL_len h
  rw [toL_len] at this
  exact this
theorem toL_tail (s : ByteArray) (k : Nat) (m : Nat) (hm : m = s.size) : toL (s.extract k m) = (toL s).drop k := by subst hm; exact toL_extract s k
end Go.Proofs.YtihkbakbciejiaaDoor
