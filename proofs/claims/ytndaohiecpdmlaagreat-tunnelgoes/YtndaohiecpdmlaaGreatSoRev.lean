/-
  What slices.reverseRangeOrdered and breakPatternsOrdered leave of numbers of 32 bits: the same ones between two places. No condition but how many there can be.
-/
import Derived.Test.YtndaohiecpdmlaaGreatSoIns

namespace Go.Proofs.YtndaohiecpdmlaaGreat
set_option maxRecDepth 100000
open Go.RowKit Go.Sort

set_option maxHeartbeats 4000000 in
theorem rev_ok (g off n c a b : Nat) (d : Array Int) (w : World) (h : Srt w w g off n c d) (hab : a ≤ b) (hb : b ≤ n) (hn : n < 4611686018427387904) :
    Calls Tryz.prog 93 #[.slice (some ⟨g, off, none⟩) n c, .int .i64 a, .int .i64 b] w fun e w' => e = .returned (.tuple #[]) ∧ ∃ d', Srt w w' g off n c d' ∧ PermIn a b d d' := by
  have hsz := h.size.1
  have H := Lib.hid h
  clear h
  go_enter Tryz.func93, Tryz.ntmps93
  go_wp2
  go_loopg [6, 7] (b - a) (fun k s6 s7 wr => ∃ (i : Nat) (jz : Int) (dk : Array Int), s6 = .int .i64 i ∧ s7 = .int .i64 jz ∧ a ≤ i ∧ jz < (b : Int) ∧ (0 < k → jz = ((i + k - 1 : Nat) : Int) ∨ jz < (i : Int)) ∧ (k = 0 → jz < (i : Int)) ∧ i ≤ b ∧ -1 ≤ jz ∧ Hid (Srt w wr g off n c dk ∧ PermIn a b d dk))
  case atStart => exact ⟨a, (b : Int) - 1, d, rfl, rfl, Nat.le_refl _, by omega, fun _ => by omega, fun _ => by omega, hab, by omega, H.out, permIn_refl d a b⟩
  case round =>
    obtain ⟨i, jz, dk, rfl, rfl, hai, hjb, hk, hk0, hib, hj1, R⟩ := hrel
    by_cases hlt : (i : Int) < jz
    · obtain ⟨j, rfl⟩ : ∃ j : Nat, jz = (j : Int) := ⟨jz.toNat, by omega⟩
      obtain ⟨G, hG⟩ : ∃ G : Nat → Int, ∀ t, G t = dk[t]! := ⟨fun t => dk[t]!, fun _ => rfl⟩
      have hcw : ∀ t, t < n → wr.cell? ⟨g, off + t, none⟩ = some (.int .u32 (G t)) := fun t ht => by rw [hG]; exact (R.out.1.cell t ht).1
      have hfw : ∀ t, t < n → wr.frozen? ⟨g, off + t, none⟩ = false := fun t ht => (R.out.1.cell t ht).2
      replace hG := Lib.hid hG
      have hgk : 0 < gk := by
        rcases Nat.eq_zero_or_pos gk with h0 | h0
        · have := hk0 h0; omega
        · exact h0
      have hk2 := hk hgk
      have S1 := Lib.hid ((R.out.1.swp (i := i) (j := j) (x := G j) (y := G i) (by omega) (by omega) (hG.out _) (hG.out _)).drew)
      have P1 := Lib.hid (PermIn.step R.out.2 (show b ≤ d.size by omega) (i := i) (j := j) ⟨by omega, by omega⟩ ⟨by omega, by omega⟩)
      clear hk hk0
      go_wp2_with fail
      go_region
      go_wp2
      go_roundg (gk - 2)
      case measure => omega
      case rel => exact ⟨i + 1, (j : Int) - 1, Sort.swp dk i j, by simp, rfl, by omega, by omega, fun _ => by omega, fun _ => by omega, by omega, by omega, S1.out, P1.out⟩
    · clear hk hk0
      go_wp2
      go_end0
      exact ⟨rfl, dk, R.out⟩
end Go.Proofs.YtndaohiecpdmlaaGreat
