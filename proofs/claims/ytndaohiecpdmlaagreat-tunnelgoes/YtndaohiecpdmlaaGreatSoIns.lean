/-
  What slices.insertionSortOrdered leaves of numbers of 32 bits: they are sorted between two places. No condition but how many there can be.
-/
import Derived.Test.YtndaohiecpdmlaaGreatSoBase
namespace Go.Proofs.YtndaohiecpdmlaaGreat
set_option maxRecDepth 100000
open Go.RowKit Go.Sort

theorem ins_begin {a i : Nat} {d : Array Int} (h : SortedIn ltInt a i d) : Ins ltInt a i i d :=
  ⟨fun p q hap hpq hqi _ hq => h p q hap hpq (by omega), fun q h1 h2 => by omega⟩
theorem ins_step {a j i : Nat} {d : Array Int} (h : Ins ltInt a j i d) (hj : a < j) (hl : ltInt d[j]! d[j - 1]! = true) (hs : j < d.size) : Ins ltInt a (j - 1) i (Sort.swp d j (j - 1)) := by
  obtain ⟨k, rfl⟩ : ∃ k, j = k + 1 := ⟨j - 1, by omega⟩
  simp only [Nat.add_sub_cancel] at hl ⊢
  exact h.step hl (by omega) hs
def numOf : Value → Int | .int _ q => q | _ => 0
set_option maxHeartbeats 4000000 in
theorem ins_ok (g off n c a b : Nat) (d : Array Int) (w : World) (h : Srt w w g off n c d) (hab : a ≤ b) (hb : b ≤ n) (hn : n < 4611686018427387904) :
    Calls Tryz.prog 89 #[.slice (some ⟨g, off, none⟩) n c, .int .i64 a, .int .i64 b] w fun e w' => e = .returned (.tuple #[]) ∧ ∃ d', Srt w w' g off n c d' ∧ PermIn a b d d' ∧ SortedIn ltInt a b d' := by
  have hsz := h.size.1
  have H := Lib.hid h
  clear h
  go_enter Tryz.func89, Tryz.ntmps89
  go_wp2
  go_loopw [6] (fun vi wr => ∃ (i : Nat) (dk : Array Int), vi = .int .i64 i ∧ a < i ∧ i ≤ b + 1 ∧ Hid (Srt w wr g off n c dk ∧ PermIn a b d dk ∧ SortedIn ltInt a i dk)) (fun vi _ => b + 1 - (numOf vi).toNat)
  case atStart => exact ⟨a + 1, d, by go_num, by omega, by omega, H.out, permIn_refl d a b, fun p q h1 h2 h3 => by omega⟩
  case round =>
    obtain ⟨i, dk, rfl, hai, hib, R⟩ := hrel
    go_wp2
    · go_loopw [7] (fun vj wr2 => ∃ (j : Nat) (dj : Array Int), vj = .int .i64 j ∧ a ≤ j ∧ j ≤ i ∧ Hid (Srt w wr2 g off n c dj ∧ PermIn a b d dj ∧ Ins ltInt a j i dj)) (fun vj _ => (numOf vj).toNat)
      case atStart => exact ⟨i, dk, rfl, by omega, Nat.le_refl _, R.out.1, R.out.2.1, ins_begin R.out.2.2⟩
      case round =>
        obtain ⟨j, dj, rfl, haj, hji, R2⟩ := hrel
        have hlt : i < b := by assumption
        obtain ⟨G, hG⟩ : ∃ G : Nat → Int, ∀ t, G t = dj[t]! := ⟨fun t => dj[t]!, fun _ => rfl⟩
        have hcw : ∀ t, t < n → wr.cell? ⟨g, off + t, none⟩ = some (.int .u32 (G t)) := fun t ht => by rw [hG]; exact (R2.out.1.cell t ht).1
        have hfw : ∀ t, t < n → wr.frozen? ⟨g, off + t, none⟩ = false := fun t ht => (R2.out.1.cell t ht).2
        have HG : Hid (∀ t, G t = dj[t]!) := hG
        clear hG
        have OUT : Hid ((j ≤ a ∨ ltInt dj[j]! dj[j - 1]! = false) → ∀ q, ∃ (i' : Nat) (dk' : Array Int), Value.int .i64 ((i : Int) + 1) = .int .i64 (i' : Nat) ∧ a < i' ∧ i' ≤ b + 1 ∧ Hid (Srt w (wr.drewN q) g off n c dk' ∧ PermIn a b d dk' ∧ SortedIn ltInt a i' dk')) := fun hs q =>
          ⟨i + 1, dj, by go_num, by omega, by omega, R2.out.1.drewN q, R2.out.2.1, R2.out.2.2.stop swo_ltInt hs⟩
        go_wp2
        by_cases hja : a < j
        · go_quiet (first | (go_at_call 95; refine Calls.quiet_of_same (less_ok _ _ _)))
          go_wp2
          · have hl : ltInt (G j) (G (j - 1)) = true := by assumption
            go_region
            all_goals go_wp2
            go_roundw
            case rel =>
              refine ⟨j - 1, Sort.swp dj j (j - 1), by congr 1; omega, by omega, by omega, ?_, ?_, ?_⟩
              · exact (((R2.out.1.drewN nq).swp (i := j) (j := j - 1) (by omega) (by omega) (HG.out _) (HG.out _)).drew)
              · exact PermIn.step R2.out.2.1 (by omega) ⟨by omega, by omega⟩ ⟨by omega, by omega⟩
              · have hs1 := R2.out.1.size.1
                exact ins_step R2.out.2.2 hja (by rw [← HG.out, ← HG.out]; exact hl) (by omega)
            case measure => simp [numOf]; omega
          · have hl : ltInt (G j) (G (j - 1)) = false := by assumption
            go_roundw
            case rel => exact OUT.out (Or.inr (by rw [← HG.out, ← HG.out]; exact hl)) nq
            case measure => simp [numOf]; omega
        · go_quiet (first | (go_at_call 95; refine Calls.quiet_of_same (less_ok _ _ _)))
          go_wp2
          go_roundw
          case rel => exact OUT.out (Or.inl (by omega)) nq
          case measure => simp [numOf]; omega
    · have hge : ¬ i < b := by assumption
      go_end0
      exact ⟨rfl, dk, R.out.1, R.out.2.1, fun p q h1 h2 h3 => R.out.2.2 p q h1 h2 (by omega)⟩
end Go.Proofs.YtndaohiecpdmlaaGreat
