/-
  What the document's own Number and Sum answer, for every string of at most 2^48 - 8190 bytes. No other condition.
-/
import Derived.Test.YtndaohiecpdmlaaIpMath
import Derived.WalkSpells
import Derived.WalkLawsBesides
import Derived.Handy
namespace Go.Proofs.Ytndaohiecpdmlaa
open Go.RowKit

set_option maxHeartbeats 1000000 in
theorem number2 (t : ByteArray) (w : World) (hs : t.size = 2) :
    Calls Try.prog 19 #[.string t] w fun e w' => e = .returned (.int .i64 (byt t 0 * 256 + byt t 1)) ∧ w = w' := by
  have hb := byt_bd t
  have e0 := byt_eq t 0 (by omega); have b0 := hb 0; have e1 := byt_eq t 1 (by omega); have b1 := hb 1
  clear hb
  go_enter Try.func19, Try.ntmps19
  go_wp2
  go_rounds 3
  go_ret
  exact ⟨by first | rfl | (congr 2; omega), rfl⟩
set_option maxHeartbeats 1000000 in
theorem number4 (t : ByteArray) (w : World) (hs : t.size = 4) :
    Calls Try.prog 19 #[.string t] w fun e w' => e = .returned (.int .i64 (((byt t 0 * 256 + byt t 1) * 256 + byt t 2) * 256 + byt t 3)) ∧ w = w' := by
  have hb := byt_bd t
  have e0 := byt_eq t 0 (by omega); have b0 := hb 0; have e1 := byt_eq t 1 (by omega); have b1 := hb 1; have e2 := byt_eq t 2 (by omega); have b2 := hb 2; have e3 := byt_eq t 3 (by omega); have b3 := hb 3
  clear hb
  go_enter Try.func19, Try.ntmps19
  go_wp2
  go_rounds 5
  go_ret
  exact ⟨by first | rfl | (congr 2; omega), rfl⟩
theorem number_at2 (s : ByteArray) (w : World) (k m : Nat) (hm : m = k + 2) (hs : k + 2 ≤ s.size) :
    Calls Try.prog 19 #[.string (s.extract k m)] w fun e w' => e = .returned (.int .i64 (byt s k * 256 + byt s (k + 1))) ∧ w = w' := by
  subst hm
  have := number2 (s.extract k (k + 2)) w (by rw [ByteArray.size_extract]; omega)
  rwa [byt_extract _ _ _ _ (by omega), byt_extract _ _ _ _ (by omega)] at this
theorem number_at4 (s : ByteArray) (w : World) (k m : Nat) (hm : m = k + 4) (hs : k + 4 ≤ s.size) :
    Calls Try.prog 19 #[.string (s.extract k m)] w fun e w' => e = .returned (.int .i64 (((byt s k * 256 + byt s (k + 1)) * 256 + byt s (k + 2)) * 256 + byt s (k + 3))) ∧ w = w' := by
  subst hm
  have := number4 (s.extract k (k + 4)) w (by rw [ByteArray.size_extract]; omega)
  rwa [byt_extract _ _ _ _ (by omega), byt_extract _ _ _ _ (by omega), byt_extract _ _ _ _ (by omega), byt_extract _ _ _ _ (by omega)] at this

set_option maxHeartbeats 1000000 in
theorem rsum_even (s : ByteArray) (w : World) (hs : s.size ≤ 281474976702467) (he : s.size % 2 = 0) :
    Calls Try.prog 40 #[.string s] w fun e w' => e = .returned (.int .i64 (ck s)) ∧ w = w' := by
  have hT := tt_le _ (byt_bd s)
  have htest : ((s.size : Int) % 2 == 1) = false := by simp; omega
  go_enter Try.func40, Try.ntmps40
  go_wp2
  go_loopw [3, 4] (fun n i w' => ∃ k : Nat, k % 2 = 0 ∧ k ≤ s.size ∧ i = .int .i64 k ∧ n = .int .i64 (tt (byt s) k) ∧ w = w') (fun _ i _ => s.size - (intOf i).toNat)
  case atStart => exact ⟨0, rfl, Nat.zero_le _, rfl, rfl, rfl⟩
  case round =>
    obtain ⟨k, hev, hk, rfl, rfl, rfl⟩ := hrel
    have hTk := hT k
    have hb := byt_bd s k
    have hb' := byt_bd s (k + 1)
    have e2 := tt_odd (byt s) (k + 1) (by omega)
    rw [tt_even _ _ hev] at e2
    have N : k + 2 ≤ s.size → Hid (∀ w, Calls Try.prog 19 #[.string (s.extract k (k + 2))] w fun e w' => e = .returned (.int .i64 (byt s k * 256 + byt s (k + 1))) ∧ w = w') := fun h w => number_at2 s w k _ rfl h
    generalize byt s k = x at *
    generalize byt s (k + 1) = y at *
    go_wp2_with (go_at_call 19; refine ((N (by omega)).out _).mono ?_; rintro e w' ⟨rfl, rfl⟩)
    · go_roundw
      case rel => exact ⟨k + 2, by omega, by omega, by go_num, by rw [e2]; congr 1; omega, trivial⟩
      case measure => simp [intOf]; omega
    · have hge : ¬ (k : Int) + 1 < s.size := by omega
      obtain rfl : k = s.size := by omega
      have hck : ck s = 65535 - fold (tt (byt s) s.size) := rfl
      generalize hn : tt (byt s) s.size = n at *
      clear hT hn N e2
      go_loop [3] (fun t => ∃ m : Int, 0 ≤ m ∧ m ≤ 9223372036854775807 ∧ fold m = fold n ∧ t = .int .i64 m) (fun t => (intOf t).toNat)
      case atStart => exact ⟨n, by omega, by omega, rfl, rfl⟩
      case round =>
        obtain ⟨m, h0, h1, hf, rfl⟩ := hrel
        have hfs := fold_step m
        have hfb := fold_small m h0
        go_wp2
        · have hlt : 65535 < m := by assumption
          go_round
          case rel => exact ⟨m / 65536 + m % 65536, by omega, by omega, by rw [hfs hlt, hf], by congr 1; omega⟩
          case measure => simp [intOf]; omega
        · have hle : m ≤ 65535 := by assumption
          go_ret
          exact ⟨by rw [← hf, hfb hle]; rfl, rfl⟩
set_option maxHeartbeats 1000000 in
theorem rsum_odd (s : ByteArray) (w : World) (hs : s.size ≤ 281474976702466) (he : s.size % 2 = 1) :
    Calls Try.prog 40 #[.string s] w fun e w' => e = .returned (.int .i64 (ck s)) ∧ w = w' := by
  have hcs : ck s = ck (s ++ ByteArray.mk #[0]) := by unfold ck; rw [tt_pad s _ he rfl rfl]
  obtain ⟨c, hc⟩ : ∃ c, c = ck (s ++ ByteArray.mk #[0]) := ⟨_, rfl⟩
  rw [hcs, ← hc]
  have htest : ((s.size : Int) % 2 == 1) = true := by simp; omega
  have hsz : (s ++ ByteArray.mk #[0]).size = s.size + 1 := by rw [ByteArray.size_append]; rfl
  have hT := tt_le _ (byt_bd (s ++ ByteArray.mk #[0]))
  go_enter Try.func40, Try.ntmps40
  go_wp2
  clear hcs
  generalize s ++ ByteArray.mk #[0] = X at *
  go_loopw [3, 4] (fun n i w' => ∃ k : Nat, k % 2 = 0 ∧ k ≤ X.size ∧ i = .int .i64 k ∧ n = .int .i64 (tt (byt X) k) ∧ w = w') (fun _ i _ => X.size - (intOf i).toNat)
  case atStart => exact ⟨0, rfl, Nat.zero_le _, rfl, rfl, rfl⟩
  case round =>
    obtain ⟨k, hev, hk, rfl, rfl, rfl⟩ := hrel
    have hTk := hT k
    have hb := byt_bd X k
    have hb' := byt_bd X (k + 1)
    have e2 := tt_odd (byt X) (k + 1) (by omega)
    rw [tt_even _ _ hev] at e2
    have N : k + 2 ≤ X.size → Hid (∀ w, Calls Try.prog 19 #[.string (X.extract k (k + 2))] w fun e w' => e = .returned (.int .i64 (byt X k * 256 + byt X (k + 1))) ∧ w = w') := fun h w => number_at2 X w k _ rfl h
    generalize byt X k = x at *
    generalize byt X (k + 1) = y at *
    go_wp2_with (go_at_call 19; refine ((N (by omega)).out _).mono ?_; rintro e w' ⟨rfl, rfl⟩)
    · go_roundw
      case rel => exact ⟨k + 2, by omega, by omega, by go_num, by rw [e2]; congr 1; omega, trivial⟩
      case measure => simp [intOf]; omega
    · have hge : ¬ (k : Int) + 1 < X.size := by omega
      obtain rfl : k = X.size := by omega
      have hck : ck X = 65535 - fold (tt (byt X) X.size) := rfl
      generalize hn : tt (byt X) X.size = n at *
      clear hT hn N e2
      go_loop [3] (fun t => ∃ m : Int, 0 ≤ m ∧ m ≤ 9223372036854775807 ∧ fold m = fold n ∧ t = .int .i64 m) (fun t => (intOf t).toNat)
      case atStart => exact ⟨n, by omega, by omega, rfl, rfl⟩
      case round =>
        obtain ⟨m, h0, h1, hf, rfl⟩ := hrel
        have hfs := fold_step m
        have hfb := fold_small m h0
        go_wp2
        · have hlt : 65535 < m := by assumption
          go_round
          case rel => exact ⟨m / 65536 + m % 65536, by omega, by omega, by rw [hfs hlt, hf], by congr 1; omega⟩
          case measure => simp [intOf]; omega
        · have hle : m ≤ 65535 := by assumption
          go_ret
          exact ⟨by rw [← hf, hfb hle]; rfl, rfl⟩
theorem rsum_ok (s : ByteArray) (w : World) (hs : s.size ≤ 281474976702466) :
    Calls Try.prog 40 #[.string s] w fun e w' => e = .returned (.int .i64 (ck s)) ∧ w = w' := by
  rcases Nat.mod_two_eq_zero_or_one s.size with h | h
  · exact rsum_even s w (by omega) h
  · exact rsum_odd s w hs h
end Go.Proofs.Ytndaohiecpdmlaa
