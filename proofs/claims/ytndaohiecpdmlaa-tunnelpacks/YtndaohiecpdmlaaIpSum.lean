/-
  What the program's Sum answers, for every string of at most 2^48 - 8190 bytes. No other condition.
-/
import Derived.Test.YtndaohiecpdmlaaIpMath
import Derived.WalkSpells
import Derived.WalkLawsBesides
import Derived.Handy
namespace Go.Proofs.Ytndaohiecpdmlaa
open Go.RowKit

set_option maxHeartbeats 1000000 in
theorem sum_ok (s : ByteArray) (w : World) (hs : s.size ≤ 281474976702466) :
    Calls Try.prog 57 #[.string s] w fun e w' => e = .returned (.int .i64 (ck s)) ∧ w = w' := by
  have hT := tt_le _ (byt_bd s)
  go_enter Try.func57, Try.ntmps57
  go_wp2
  go_loop [3, 7] (fun t i => ∃ k : Nat, k ≤ s.size ∧ i = .int .i64 k ∧ t = .int .u64 (tt (byt s) k)) (fun _ i => s.size - (intOf i).toNat)
  case atStart => exact ⟨0, Nat.zero_le _, rfl, rfl⟩
  case round =>
    obtain ⟨k, hk, rfl, rfl⟩ := hrel
    have hTk := hT k
    have hb := byt_bd s k
    have hx : ∀ h : k < s.size, ((s[k].toNat : Nat) : Int) = byt s k := fun h => byt_eq s k h
    go_wp2
    · have hm : ((k : Int) % 2 == 0) = true := by assumption
      have hm' : k % 2 = 0 := by simp at hm; omega
      have hlt : k < s.size := by assumption
      go_round
      case rel => exact ⟨k + 1, by omega, by go_num, by rw [tt_even _ _ hm', Int.mul_comm 256]⟩
      case measure => simp [intOf]; omega
    · have hm : ((k : Int) % 2 == 0) = false := by assumption
      have hm' : k % 2 = 1 := by simp at hm; omega
      have hlt : k < s.size := by assumption
      go_round
      case rel => exact ⟨k + 1, by omega, by go_num, by rw [tt_odd _ _ hm']⟩
      case measure => simp [intOf]; omega
    · have hge : ¬ k < s.size := by assumption
      obtain rfl : k = s.size := by omega
      have hck : ck s = 65535 - fold (tt (byt s) s.size) := rfl
      generalize hn : tt (byt s) s.size = n at *
      clear hx hb hT hn
      go_loop [3] (fun t => ∃ m : Int, 0 ≤ m ∧ m ≤ 9223372036854775807 ∧ fold m = fold n ∧ t = .int .u64 m) (fun t => (intOf t).toNat)
      case atStart => exact ⟨n, by omega, by omega, rfl, rfl⟩
      case round =>
        obtain ⟨m, h0, h1, hf, rfl⟩ := hrel
        have ha := u64_and16 m h0 (by omega)
        have hfs := fold_step m
        have hfb := fold_small m h0
        go_wp2
        · have hlt : 65535 < m := by assumption
          go_round
          case rel => exact ⟨m / 65536 + m % 65536, by omega, by omega, by rw [hfs hlt, hf], rfl⟩
          case measure => simp [intOf]; omega
        · have hle : m ≤ 65535 := by assumption
          go_ret
          exact ⟨by rw [← hf, hfb hle]; rfl, rfl⟩
end Go.Proofs.Ytndaohiecpdmlaa
