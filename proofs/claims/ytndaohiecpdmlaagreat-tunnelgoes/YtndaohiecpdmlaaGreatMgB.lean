/-
  Plain facts on numbers and bytes that the walks of this seat use: check sums, what a number is written as, and what bytes are read as. No condition. What the program's Sum answers, for every string of at most 2^48 - 8190 bytes. No other condition. What the document's own Number and Sum answer, for every string of at most 2^48 - 8190 bytes. No other condition. What the program's fits, appendTwo, appendFour and header answer. The numbers are int's and uint32's; no other condition. What the program's Build answers, for every header. The numbers are int's and uint32's; no other condition.  What the document's own Bytes, b, header and Build answer, for every header. The numbers are int's and uint32's; no other condition. What the document's own Build answers, for every header. The numbers are int's and uint32's; no other condition.
-/
import Derived.Test.YtndaohiecpdmlaaGreatRows
import Derived.WalkKit
import Derived.Laws.BytesArg
import Derived.Laws.BitsAllLaws
import Derived.WalkSpells
import Derived.WalkLawsBesides
import Derived.Handy
import Derived.Deep.RegionWith
import Derived.Lib.QuietBelow
import Derived.Lib.ConvBytes
namespace Go.Proofs.YtndaohiecpdmlaaGreat

/-! ### bytes of a string -/
def byt (s : ByteArray) (i : Nat) : Int := ((s.data.toList.getD i 0).toNat : Int)
theorem byt_eq (s : ByteArray) (i : Nat) (h : i < s.size) : ((s[i].toNat : Nat) : Int) = byt s i := by
  unfold byt
  have h' : i < s.data.toList.length := by simpa using h
  rw [List.getD, List.getElem?_eq_getElem h', Option.getD_some]
  rfl
theorem byt_bd (s : ByteArray) (i : Nat) : 0 ≤ byt s i ∧ byt s i < 256 := by
  unfold byt
  have := (s.data.toList.getD i 0).toNat_lt
  omega
theorem byt_past (s : ByteArray) (i : Nat) (h : s.size ≤ i) : byt s i = 0 := by
  unfold byt
  have h' : s.data.toList.length ≤ i := by simpa using h
  rw [List.getD, List.getElem?_eq_none h']
  rfl
theorem byt_left (s t : ByteArray) (i : Nat) (h : i < s.size) : byt (s ++ t) i = byt s i := by
  unfold byt
  have h' : i < s.data.toList.length := by simpa using h
  rw [ByteArray.data_append, Array.toList_append, List.getD, List.getElem?_append_left h', List.getD]
theorem byt_right (s t : ByteArray) (i : Nat) : byt (s ++ t) (s.size + i) = byt t i := by
  unfold byt
  have h' : s.data.toList.length = s.size := by simp
  rw [ByteArray.data_append, Array.toList_append, List.getD, List.getElem?_append_right (by omega), List.getD, h']
  simp
theorem byt_extract (s : ByteArray) (a b i : Nat) (h : a + i < b) : byt (s.extract a b) i = byt s (a + i) := by
  unfold byt
  have e : (s.extract a b).data.toList = (s.data.toList.drop a).take (b - a) := by
    simp [ByteArray.data_extract, List.extract_eq_take_drop]
  have hi : i < b - a := by omega
  rw [e, List.getD, List.getElem?_take_of_lt hi, List.getElem?_drop, List.getD]
theorem byt_nums (l : List Int) (hl : ∀ y ∈ l, 0 ≤ y ∧ y < 256) (i : Nat) : byt (strOfNums l) i = l.getD i 0 := by
  unfold byt strOfNums
  simp only [List.getD, List.getElem?_map]
  cases h : l[i]? with
  | none => rfl
  | some y =>
    have hy : y ∈ l := List.mem_of_getElem? h
    have := hl y hy
    simp
    omega

/-! ### check sums -/
/-- The first k bytes, in pairs, added up. -/
def tt (f : Nat → Int) : Nat → Int
  | 0 => 0
  | k + 1 => tt f k + (if k % 2 = 0 then 256 * f k else f k)
theorem tt_even (f : Nat → Int) (k : Nat) (h : k % 2 = 0) : tt f (k + 1) = tt f k + 256 * f k := by
  show tt f k + (if k % 2 = 0 then 256 * f k else f k) = _
  rw [if_pos h]
theorem tt_odd (f : Nat → Int) (k : Nat) (h : k % 2 = 1) : tt f (k + 1) = tt f k + f k := by
  show tt f k + (if k % 2 = 0 then 256 * f k else f k) = _
  rw [if_neg (by omega)]
theorem tt_bd (f : Nat → Int) (hf : ∀ i, 0 ≤ f i ∧ f i < 256) : ∀ k, 0 ≤ tt f k ∧ tt f k ≤ 32768 * k + (if k % 2 = 0 then 0 else 32512)
  | 0 => by simp [tt]
  | k + 1 => by
    have ih := tt_bd f hf k
    have := hf k
    rcases Nat.mod_two_eq_zero_or_one k with h | h
    · rw [tt_even f k h, if_neg (by omega)]
      rw [if_pos h] at ih
      omega
    · rw [tt_odd f k h, if_pos (by omega)]
      rw [if_neg (by omega)] at ih
      omega
theorem tt_le (f : Nat → Int) (hf : ∀ i, 0 ≤ f i ∧ f i < 256) (k : Nat) : 0 ≤ tt f k ∧ tt f k ≤ 32768 * k + 32512 := by
  have := tt_bd f hf k
  split at this <;> omega
theorem tt_congr (f g : Nat → Int) : ∀ k, (∀ i, i < k → f i = g i) → tt f k = tt g k
  | 0, _ => rfl
  | k + 1, h => by
    show tt f k + (if k % 2 = 0 then 256 * f k else f k) = tt g k + (if k % 2 = 0 then 256 * g k else g k)
    rw [tt_congr f g k (fun i hi => h i (by omega)), h k (by omega)]
theorem tt_add (f : Nat → Int) (m : Nat) (hm : m % 2 = 0) : ∀ k, tt f (m + k) = tt f m + tt (fun i => f (m + i)) k
  | 0 => by simp [tt]
  | k + 1 => by
    show tt f (m + k) + (if (m + k) % 2 = 0 then 256 * f (m + k) else f (m + k)) = tt f m + (tt (fun i => f (m + i)) k + (if k % 2 = 0 then 256 * f (m + k) else f (m + k)))
    rw [tt_add f m hm k]
    have : (m + k) % 2 = k % 2 := by omega
    rw [this]
    omega
/-- What is above sixteen bits, added below again until there is nothing. -/
def fold (n : Int) : Int := if n = 0 then 0 else (n - 1) % 65535 + 1
theorem fold_small (n : Int) (h0 : 0 ≤ n) (h : n ≤ 65535) : fold n = n := by
  unfold fold
  split <;> omega
theorem fold_step (n : Int) (h : 65535 < n) : fold (n / 65536 + n % 65536) = fold n := by
  unfold fold
  rw [if_neg (by omega), if_neg (by omega)]
  omega
theorem fold_pos (n : Int) (h : 0 < n) : fold n = (n - 1) % 65535 + 1 := by
  unfold fold
  rw [if_neg (by omega)]
theorem fold_bd (n : Int) : 0 ≤ fold n ∧ fold n ≤ 65535 := by
  unfold fold
  split <;> omega
/-- The check sum. -/
def ck (s : ByteArray) : Int := 65535 - fold (tt (byt s) s.size)
theorem ck_bd (s : ByteArray) : 0 ≤ ck s ∧ ck s ≤ 65535 := by
  have := fold_bd (tt (byt s) s.size)
  unfold ck
  omega
theorem tt_pad (s t : ByteArray) (h : s.size % 2 = 1) (ht : t.size = 1) (h0 : byt t 0 = 0) : tt (byt (s ++ t)) (s ++ t).size = tt (byt s) s.size := by
  have e : (s ++ t).size = s.size + 1 := by rw [ByteArray.size_append, ht]
  rw [e, tt_odd _ _ h, tt_congr (byt (s ++ t)) (byt s) s.size (fun i hi => byt_left s t i hi)]
  have := byt_right s t 0
  rw [Nat.add_zero] at this
  rw [this, h0]
  omega
theorem tt_append (s t : ByteArray) (h : s.size % 2 = 0) : tt (byt (s ++ t)) (s ++ t).size = tt (byt s) s.size + tt (byt t) t.size := by
  rw [ByteArray.size_append, tt_add _ _ h, tt_congr (byt (s ++ t)) (byt s) s.size (fun i hi => byt_left s t i hi)]
  rw [tt_congr (fun i => byt (s ++ t) (s.size + i)) (byt t) t.size (fun i _ => byt_right s t i)]
theorem u64_and16 (x : Int) (h0 : 0 ≤ x) (h : x < 18446744073709551616) : bits .and .u64 x 65535 = x % 65536 := by
  obtain ⟨a, rfl⟩ := Int.eq_ofNat_of_zero_le h0
  rw [show (65535 : Int) = ((65535 : Nat) : Int) from rfl, u64_and_nat a 65535 (by omega) (by omega), show a &&& 65535 = a % 65536 from Nat.and_two_pow_sub_one_eq_mod a 16]
  omega
end Go.Proofs.YtndaohiecpdmlaaGreat
namespace Go.Proofs.YtndaohiecpdmlaaGreat
open Go.RowKit

set_option maxHeartbeats 1000000 in
theorem sum_ok (s : ByteArray) (w : World) (hs : s.size ≤ 281474976702466) :
    Calls Tryz.prog 66 #[.string s] w fun e w' => e = .returned (.int .i64 (ck s)) ∧ w = w' := by
  have hT := tt_le _ (byt_bd s)
  go_enter Tryz.func66, Tryz.ntmps66
  go_wp2
  go_loop [3, 7] (fun t i => ∃ k : Nat, k ≤ s.size ∧ i = .int .i64 k ∧ t = .int .u64 (tt (byt s) k)) (fun _ i => s.size - (intOf i).toNat)
  case atStart => exact ⟨0, Nat.zero_le _, rfl, rfl⟩
  case round =>
    obtain ⟨k, hk, rfl, rfl⟩ := hrel
    have hTk := hT k
    have hb := byt_bd s k
    have hx : ∀ h : k < s.size, ((s[k].toNat : Nat) : Int) = byt s k := fun h => byt_eq s k h
    go_wp2
    · have hm : ((k : Int) % 2 == 0) = true := by assumption
      have hm' : k % 2 = 0 := by simp at hm; omega
      have hlt : k < s.size := by assumption
      go_round
      case rel => exact ⟨k + 1, by omega, by go_num, by rw [tt_even _ _ hm', Int.mul_comm 256]⟩
      case measure => simp [intOf]; omega
    · have hm : ((k : Int) % 2 == 0) = false := by assumption
      have hm' : k % 2 = 1 := by simp at hm; omega
      have hlt : k < s.size := by assumption
      go_round
      case rel => exact ⟨k + 1, by omega, by go_num, by rw [tt_odd _ _ hm']⟩
      case measure => simp [intOf]; omega
    · have hge : ¬ k < s.size := by assumption
      obtain rfl : k = s.size := by omega
      have hck : ck s = 65535 - fold (tt (byt s) s.size) := rfl
      generalize hn : tt (byt s) s.size = n at *
      clear hx hb hT hn
      go_loop [3] (fun t => ∃ m : Int, 0 ≤ m ∧ m ≤ 9223372036854775807 ∧ fold m = fold n ∧ t = .int .u64 m) (fun t => (intOf t).toNat)
      case atStart => exact ⟨n, by omega, by omega, rfl, rfl⟩
      case round =>
        obtain ⟨m, h0, h1, hf, rfl⟩ := hrel
        have ha := u64_and16 m h0 (by omega)
        have hfs := fold_step m
        have hfb := fold_small m h0
        go_wp2
        · have hlt : 65535 < m := by assumption
          go_round
          case rel => exact ⟨m / 65536 + m % 65536, by omega, by omega, by rw [hfs hlt, hf], rfl⟩
          case measure => simp [intOf]; omega
        · have hle : m ≤ 65535 := by assumption
          go_ret
          exact ⟨by rw [← hf, hfb hle]; rfl, rfl⟩
end Go.Proofs.YtndaohiecpdmlaaGreat
namespace Go.Proofs.YtndaohiecpdmlaaGreat
open Go.RowKit

set_option maxHeartbeats 1000000 in
theorem number2 (t : ByteArray) (w : World) (hs : t.size = 2) :
    Calls Tryz.prog 24 #[.string t] w fun e w' => e = .returned (.int .i64 (byt t 0 * 256 + byt t 1)) ∧ w = w' := by
  have hb := byt_bd t
  have e0 := byt_eq t 0 (by omega); have b0 := hb 0; have e1 := byt_eq t 1 (by omega); have b1 := hb 1
  clear hb
  go_enter Tryz.func24, Tryz.ntmps24
  go_wp2
  go_rounds 3
  go_ret
  exact ⟨by first | rfl | (congr 2; omega), rfl⟩
set_option maxHeartbeats 1000000 in
theorem number4 (t : ByteArray) (w : World) (hs : t.size = 4) :
    Calls Tryz.prog 24 #[.string t] w fun e w' => e = .returned (.int .i64 (((byt t 0 * 256 + byt t 1) * 256 + byt t 2) * 256 + byt t 3)) ∧ w = w' := by
  have hb := byt_bd t
  have e0 := byt_eq t 0 (by omega); have b0 := hb 0; have e1 := byt_eq t 1 (by omega); have b1 := hb 1; have e2 := byt_eq t 2 (by omega); have b2 := hb 2; have e3 := byt_eq t 3 (by omega); have b3 := hb 3
  clear hb
  go_enter Tryz.func24, Tryz.ntmps24
  go_wp2
  go_rounds 5
  go_ret
  exact ⟨by first | rfl | (congr 2; omega), rfl⟩
theorem number_at2 (s : ByteArray) (w : World) (k m : Nat) (hm : m = k + 2) (hs : k + 2 ≤ s.size) :
    Calls Tryz.prog 24 #[.string (s.extract k m)] w fun e w' => e = .returned (.int .i64 (byt s k * 256 + byt s (k + 1))) ∧ w = w' := by
  subst hm
  have := number2 (s.extract k (k + 2)) w (by rw [ByteArray.size_extract]; omega)
  rwa [byt_extract _ _ _ _ (by omega), byt_extract _ _ _ _ (by omega)] at this
theorem number_at4 (s : ByteArray) (w : World) (k m : Nat) (hm : m = k + 4) (hs : k + 4 ≤ s.size) :
    Calls Tryz.prog 24 #[.string (s.extract k m)] w fun e w' => e = .returned (.int .i64 (((byt s k * 256 + byt s (k + 1)) * 256 + byt s (k + 2)) * 256 + byt s (k + 3))) ∧ w = w' := by
  subst hm
  have := number4 (s.extract k (k + 4)) w (by rw [ByteArray.size_extract]; omega)
  rwa [byt_extract _ _ _ _ (by omega), byt_extract _ _ _ _ (by omega), byt_extract _ _ _ _ (by omega), byt_extract _ _ _ _ (by omega)] at this

set_option maxHeartbeats 1000000 in
theorem rsum_even (s : ByteArray) (w : World) (hs : s.size ≤ 281474976702467) (he : s.size % 2 = 0) :
    Calls Tryz.prog 40 #[.string s] w fun e w' => e = .returned (.int .i64 (ck s)) ∧ w = w' := by
  have hT := tt_le _ (byt_bd s)
  have htest : ((s.size : Int) % 2 == 1) = false := by simp; omega
  go_enter Tryz.func40, Tryz.ntmps40
  go_wp2
  go_loopw [3, 4] (fun n i w' => ∃ k : Nat, k % 2 = 0 ∧ k ≤ s.size ∧ i = .int .i64 k ∧ n = .int .i64 (tt (byt s) k) ∧ w = w') (fun _ i _ => s.size - (intOf i).toNat)
  case atStart => exact ⟨0, rfl, Nat.zero_le _, rfl, rfl, rfl⟩
  case round =>
    obtain ⟨k, hev, hk, rfl, rfl, rfl⟩ := hrel
    have hTk := hT k
    have hb := byt_bd s k
    have hb' := byt_bd s (k + 1)
    have e2 := tt_odd (byt s) (k + 1) (by omega)
    rw [tt_even _ _ hev] at e2
    have N : k + 2 ≤ s.size → Hid (∀ w, Calls Tryz.prog 24 #[.string (s.extract k (k + 2))] w fun e w' => e = .returned (.int .i64 (byt s k * 256 + byt s (k + 1))) ∧ w = w') := fun h w => number_at2 s w k _ rfl h
    generalize byt s k = x at *
    generalize byt s (k + 1) = y at *
    go_wp2_with (go_at_call 24; refine ((N (by omega)).out _).mono ?_; rintro e w' ⟨rfl, rfl⟩)
    · go_roundw
      case rel => exact ⟨k + 2, by omega, by omega, by go_num, by rw [e2]; congr 1; omega, trivial⟩
      case measure => simp [intOf]; omega
    · have hge : ¬ (k : Int) + 1 < s.size := by omega
      obtain rfl : k = s.size := by omega
      have hck : ck s = 65535 - fold (tt (byt s) s.size) := rfl
      generalize hn : tt (byt s) s.size = n at *
      clear hT hn N e2
      go_loop [3] (fun t => ∃ m : Int, 0 ≤ m ∧ m ≤ 9223372036854775807 ∧ fold m = fold n ∧ t = .int .i64 m) (fun t => (intOf t).toNat)
      case atStart => exact ⟨n, by omega, by omega, rfl, rfl⟩
      case round =>
        obtain ⟨m, h0, h1, hf, rfl⟩ := hrel
        have hfs := fold_step m
        have hfb := fold_small m h0
        go_wp2
        · have hlt : 65535 < m := by assumption
          go_round
          case rel => exact ⟨m / 65536 + m % 65536, by omega, by omega, by rw [hfs hlt, hf], by congr 1; omega⟩
          case measure => simp [intOf]; omega
        · have hle : m ≤ 65535 := by assumption
          go_ret
          exact ⟨by rw [← hf, hfb hle]; rfl, rfl⟩
set_option maxHeartbeats 1000000 in
theorem rsum_odd (s : ByteArray) (w : World) (hs : s.size ≤ 281474976702466) (he : s.size % 2 = 1) :
    Calls Tryz.prog 40 #[.string s] w fun e w' => e = .returned (.int .i64 (ck s)) ∧ w = w' := by
  have hcs : ck s = ck (s ++ ByteArray.mk #[0]) := by unfold ck; rw [tt_pad s _ he rfl rfl]
  obtain ⟨c, hc⟩ : ∃ c, c = ck (s ++ ByteArray.mk #[0]) := ⟨_, rfl⟩
  rw [hcs, ← hc]
  have htest : ((s.size : Int) % 2 == 1) = true := by simp; omega
  have hsz : (s ++ ByteArray.mk #[0]).size = s.size + 1 := by rw [ByteArray.size_append]; rfl
  have hT := tt_le _ (byt_bd (s ++ ByteArray.mk #[0]))
  go_enter Tryz.func40, Tryz.ntmps40
  go_wp2
  clear hcs
  generalize s ++ ByteArray.mk #[0] = X at *
  go_loopw [3, 4] (fun n i w' => ∃ k : Nat, k % 2 = 0 ∧ k ≤ X.size ∧ i = .int .i64 k ∧ n = .int .i64 (tt (byt X) k) ∧ w = w') (fun _ i _ => X.size - (intOf i).toNat)
  case atStart => exact ⟨0, rfl, Nat.zero_le _, rfl, rfl, rfl⟩
  case round =>
    obtain ⟨k, hev, hk, rfl, rfl, rfl⟩ := hrel
    have hTk := hT k
    have hb := byt_bd X k
    have hb' := byt_bd X (k + 1)
    have e2 := tt_odd (byt X) (k + 1) (by omega)
    rw [tt_even _ _ hev] at e2
    have N : k + 2 ≤ X.size → Hid (∀ w, Calls Tryz.prog 24 #[.string (X.extract k (k + 2))] w fun e w' => e = .returned (.int .i64 (byt X k * 256 + byt X (k + 1))) ∧ w = w') := fun h w => number_at2 X w k _ rfl h
    generalize byt X k = x at *
    generalize byt X (k + 1) = y at *
    go_wp2_with (go_at_call 24; refine ((N (by omega)).out _).mono ?_; rintro e w' ⟨rfl, rfl⟩)
    · go_roundw
      case rel => exact ⟨k + 2, by omega, by omega, by go_num, by rw [e2]; congr 1; omega, trivial⟩
      case measure => simp [intOf]; omega
    · have hge : ¬ (k : Int) + 1 < X.size := by omega
      obtain rfl : k = X.size := by omega
      have hck : ck X = 65535 - fold (tt (byt X) X.size) := rfl
      generalize hn : tt (byt X) X.size = n at *
      clear hT hn N e2
      go_loop [3] (fun t => ∃ m : Int, 0 ≤ m ∧ m ≤ 9223372036854775807 ∧ fold m = fold n ∧ t = .int .i64 m) (fun t => (intOf t).toNat)
      case atStart => exact ⟨n, by omega, by omega, rfl, rfl⟩
      case round =>
        obtain ⟨m, h0, h1, hf, rfl⟩ := hrel
        have hfs := fold_step m
        have hfb := fold_small m h0
        go_wp2
        · have hlt : 65535 < m := by assumption
          go_round
          case rel => exact ⟨m / 65536 + m % 65536, by omega, by omega, by rw [hfs hlt, hf], by congr 1; omega⟩
          case measure => simp [intOf]; omega
        · have hle : m ≤ 65535 := by assumption
          go_ret
          exact ⟨by rw [← hf, hfb hle]; rfl, rfl⟩
theorem rsum_ok (s : ByteArray) (w : World) (hs : s.size ≤ 281474976702466) :
    Calls Tryz.prog 40 #[.string s] w fun e w' => e = .returned (.int .i64 (ck s)) ∧ w = w' := by
  rcases Nat.mod_two_eq_zero_or_one s.size with h | h
  · exact rsum_even s w (by omega) h
  · exact rsum_odd s w hs h
end Go.Proofs.YtndaohiecpdmlaaGreat
namespace Go.Proofs.YtndaohiecpdmlaaGreat
open Go.RowKit

set_option maxHeartbeats 1000000 in
theorem fits8 (n : Int) (w : World) :
    Calls Tryz.prog 67 #[.int .i64 n, .int .i64 8] w fun e w' => e = .returned (.bool (decide (0 ≤ n ∧ n ≤ 255))) ∧ w = w' := by
  have he : decide (0 ≤ n ∧ n ≤ 255) = (n / 256 == 0) := by
    by_cases h : 0 ≤ n ∧ n ≤ 255
    · rw [decide_eq_true h]; symm; simp; omega
    · rw [decide_eq_false h]; symm; simp; omega
  rw [he]
  go_enter Tryz.func67, Tryz.ntmps67
  go_wp2
  go_ret
  exact ⟨rfl, rfl⟩
set_option maxHeartbeats 1000000 in
theorem fits16 (n : Int) (w : World) :
    Calls Tryz.prog 67 #[.int .i64 n, .int .i64 16] w fun e w' => e = .returned (.bool (decide (0 ≤ n ∧ n ≤ 65535))) ∧ w = w' := by
  have he : decide (0 ≤ n ∧ n ≤ 65535) = (n / 65536 == 0) := by
    by_cases h : 0 ≤ n ∧ n ≤ 65535
    · rw [decide_eq_true h]; symm; simp; omega
    · rw [decide_eq_false h]; symm; simp; omega
  rw [he]
  go_enter Tryz.func67, Tryz.ntmps67
  go_wp2
  go_ret
  exact ⟨rfl, rfl⟩

/-- Twenty bytes in a block. -/
structure Buf (w : World) (B : Nat) (f : Nat → Int) : Prop where
  lt : B < w.heap.size
  at' : ∀ i, i < 20 → w.cell? ⟨B, i, none⟩ = some (.int .u8 (f i)) ∧ w.frozen? ⟨B, i, none⟩ = false
def upd (f : Nat → Int) (k : Nat) (v : Int) : Nat → Int := fun i => if i = k then v else f i
theorem Buf.alloc {w : World} {B : Nat} {f : Nat → Int} (h : Buf w B f) (o : Obj) : Buf (w.alloc o) B f := by
  refine ⟨by have := h.lt; simp; omega, fun i hi => ?_⟩
  rw [World.cell?_alloc_past _ _ _ h.lt, World.frozen?_alloc_past _ _ _ h.lt]
  exact h.at' i hi
theorem Buf.set {w : World} {B : Nat} {f : Nat → Int} (h : Buf w B f) (k : Nat) (hk : k < 20) (v : Int) : Buf (w.setCell ⟨B, k, none⟩ (.int .u8 v)) B (upd f k v) := by
  refine ⟨by simpa [World.setCell] using h.lt, fun i hi => ?_⟩
  rw [World.frozen?_setCell]
  refine ⟨?_, (h.at' i hi).2⟩
  unfold upd
  by_cases e : i = k
  · subst e
    rw [if_pos rfl, World.cell?_setCell_same (h := (h.at' i hi).1)]
  · rw [if_neg e, World.cell?_setCell_other (h := by simp)]
    exact (h.at' i hi).1

set_option maxHeartbeats 1000000 in
theorem appendTwo_ok (n : Int) (w : World) (B k : Nat) (f : Nat → Int) (hB : Buf w B f) (hk : k + 2 ≤ 20) :
    Calls Tryz.prog 76 #[.slice (some ⟨B, 0, none⟩) k 20, .int .i64 n] w fun e w' => e = .returned (.slice (some ⟨B, 0, none⟩) (k + 2) 20) ∧ Buf w' B (upd (upd f k (n / 256 % 256)) (k + 1) (n % 256)) ∧ Below B w w' := by
  have hb := hB.lt
  obtain ⟨c1, z1⟩ := hB.at' k (by omega)
  obtain ⟨c2, z2⟩ := hB.at' (k + 1) (by omega)
  go_enter Tryz.func76, Tryz.ntmps76
  go_wp2
  go_ret
  exact ⟨rfl, ((hB.set k (by omega) _).set (k + 1) (by omega) _).alloc _, (((Below.refl B w).setCell (Nat.le_refl _) _).setCell (Nat.le_refl _) _).alloc (by simpa [World.setCell] using Nat.le_of_lt hb) _⟩
set_option maxHeartbeats 1000000 in
theorem appendFour_ok (n : Int) (w : World) (B k : Nat) (f : Nat → Int) (hB : Buf w B f) (hk : k + 4 ≤ 20) (h0 : 0 ≤ n) (h1 : n < 4294967296) :
    Calls Tryz.prog 77 #[.slice (some ⟨B, 0, none⟩) k 20, .int .u32 n] w fun e w' => e = .returned (.slice (some ⟨B, 0, none⟩) (k + 4) 20) ∧ Buf w' B (upd (upd (upd (upd f k (n / 16777216)) (k + 1) (n / 65536 % 256)) (k + 2) (n / 256 % 256)) (k + 3) (n % 256)) ∧ Below B w w' := by
  have hb := hB.lt
  obtain ⟨c1, z1⟩ := hB.at' k (by omega)
  obtain ⟨c2, z2⟩ := hB.at' (k + 1) (by omega)
  obtain ⟨c3, z3⟩ := hB.at' (k + 2) (by omega)
  obtain ⟨c4, z4⟩ := hB.at' (k + 3) (by omega)
  go_enter Tryz.func77, Tryz.ntmps77
  go_wp2
  go_ret
  exact ⟨rfl, ((((hB.set k (by omega) _).set (k + 1) (by omega) _).set (k + 2) (by omega) _).set (k + 3) (by omega) _).alloc _, (((((Below.refl B w).setCell (Nat.le_refl _) _).setCell (Nat.le_refl _) _).setCell (Nat.le_refl _) _).setCell (Nat.le_refl _) _).alloc (by simpa [World.setCell] using Nat.le_of_lt hb) _⟩

/-- A header's 20 bytes. -/
def hb (tos len id frag ttl proto sum src dst : Int) : List Int :=
  [69, tos % 256, len / 256 % 256, len % 256, id / 256 % 256, id % 256, frag / 256 % 256, frag % 256, ttl % 256, proto % 256, sum / 256 % 256, sum % 256,
   src / 16777216, src / 65536 % 256, src / 256 % 256, src % 256, dst / 16777216, dst / 65536 % 256, dst / 256 % 256, dst % 256]
/-- A header as the program holds it. -/
def hv (tos id frag ttl proto src dst : Int) (data : ByteArray) : Value :=
  .agg #[.int .i64 tos, .int .i64 id, .int .i64 frag, .int .i64 ttl, .int .i64 proto, .int .u32 src, .int .u32 dst, .string data]
theorem buf_new (w : World) (f : Nat → Int) (c : Array Value) (hc : ∀ i, i < 20 → c[i]? = some (.int .u8 (f i))) : Buf (w.alloc (.cells c 5)) w.heap.size f :=
  ⟨by simp, fun i hi => ⟨by rw [World.cell?_alloc_new]; exact hc i hi, by simp⟩⟩
theorem buf_conv {w : World} {B : Nat} {f : Nat → Int} (h : Buf w B f) (l : List Int) (hl : l.length = 20) (hf : ∀ i, i < 20 → f i = l.getD i 0) :
    (convert 107 9 (.slice (some ⟨B, 0, none⟩) 20 20)).run Tryz.prog w = .ok (.string (strOfNums l)) w :=
  run_convert_bytes_arg (P := Tryz.prog) _ 107 5 Tryz.underlying107 Tryz.underlying5 B 0 20 20 l hl (fun i hi => by
    rw [Nat.zero_add, (h.at' i hi).1, hf i hi]) 9 Tryz.underlying9
/-- A header in a block. -/
structure Box (w : World) (A : Nat) (tos id frag ttl proto src dst : Int) (data : ByteArray) : Prop where
  lt : A < w.heap.size
  c0 : w.cell? ⟨A, 0, none⟩ = some (.int .i64 tos)
  c1 : w.cell? ⟨A, 1, none⟩ = some (.int .i64 id)
  c2 : w.cell? ⟨A, 2, none⟩ = some (.int .i64 frag)
  c3 : w.cell? ⟨A, 3, none⟩ = some (.int .i64 ttl)
  c4 : w.cell? ⟨A, 4, none⟩ = some (.int .i64 proto)
  c5 : w.cell? ⟨A, 5, none⟩ = some (.int .u32 src)
  c6 : w.cell? ⟨A, 6, none⟩ = some (.int .u32 dst)
  c7 : w.cell? ⟨A, 7, none⟩ = some (.string data)
theorem Box.keep {w w' : World} {A B : Nat} {tos id frag ttl proto src dst : Int} {data : ByteArray} (h : Box w A tos id frag ttl proto src dst data) (hA : A < B) (k : Below B w w') : Box w' A tos id frag ttl proto src dst data :=
  ⟨Nat.lt_of_lt_of_le h.lt k.size, (k.cell hA).trans h.c0, (k.cell hA).trans h.c1, (k.cell hA).trans h.c2, (k.cell hA).trans h.c3, (k.cell hA).trans h.c4, (k.cell hA).trans h.c5, (k.cell hA).trans h.c6, (k.cell hA).trans h.c7⟩
theorem box_new (w : World) (tos id frag ttl proto src dst : Int) (data : ByteArray) :
    Box (w.alloc (.cells #[.int .i64 tos, .int .i64 id, .int .i64 frag, .int .i64 ttl, .int .i64 proto, .int .u32 src, .int .u32 dst, .string data] 40)) w.heap.size tos id frag ttl proto src dst data := by
  refine ⟨by simp, ?_, ?_, ?_, ?_, ?_, ?_, ?_, ?_⟩ <;> rw [World.cell?_alloc_new] <;> rfl
theorem below_set2 (w : World) (B i j : Nat) (v v' : Value) (o : Obj) (h : B < w.heap.size) : Below B w (((w.setCell ⟨B, i, none⟩ v).setCell ⟨B, j, none⟩ v').alloc o) :=
  Below.alloc (((Below.refl B w).setCell (p := ⟨B, i, none⟩) (Nat.le_refl B) v).setCell (p := ⟨B, j, none⟩) (Nat.le_refl B) v') (by simpa [World.setCell] using Nat.le_of_lt h) o
theorem hbAt (tos len id frag ttl proto sum src dst : Int) : ∀ i, i < 20 → upd (upd (upd (upd (upd (upd (upd (upd (upd (upd (upd (upd (upd (upd (upd (upd (upd (upd (fun i => [69, tos % 256].getD i 0) 2 (len / 256 % 256)) (2 + 1) (len % 256)) 4 (id / 256 % 256)) (4 + 1) (id % 256)) 6 (frag / 256 % 256)) (6 + 1) (frag % 256)) 8 (ttl % 256)) 9 (proto % 256)) 10 (sum / 256 % 256)) (10 + 1) (sum % 256)) 12 (src / 16777216)) (12 + 1) (src / 65536 % 256)) (12 + 2) (src / 256 % 256)) (12 + 3) (src % 256)) 16 (dst / 16777216)) (16 + 1) (dst / 65536 % 256)) (16 + 2) (dst / 256 % 256)) (16 + 3) (dst % 256) i = (hb tos len id frag ttl proto sum src dst).getD i 0 := by
  intro i hi
  rcases i with _|_|_|_|_|_|_|_|_|_|_|_|_|_|_|_|_|_|_|_|i
  all_goals first | rfl | omega
set_option maxHeartbeats 2000000 in
theorem header_ok (tos id frag ttl proto src dst sum : Int) (data : ByteArray) (w : World) (hd : data.size ≤ 9223372036854775000) (s0 : 0 ≤ src) (s1 : src < 4294967296) (d0 : 0 ≤ dst) (d1 : dst < 4294967296) :
    Calls Tryz.prog 68 #[hv tos id frag ttl proto src dst data, .int .i64 sum] w fun e w' => e = .returned (.string (strOfNums (hb tos (20 + data.size) id frag ttl proto sum src dst))) ∧ Below w.heap.size w w' := by
  have hmk : ∀ w, (Instr.makeSlice 107 (.int .i64 0) (.int .i64 20)).run Tryz.prog w = .ok (.slice (some ⟨w.heap.size, 0, none⟩) 0 20) (w.alloc (.cells #[.int .u8 0, .int .u8 0, .int .u8 0, .int .u8 0, .int .u8 0, .int .u8 0, .int .u8 0, .int .u8 0, .int .u8 0, .int .u8 0, .int .u8 0, .int .u8 0, .int .u8 0, .int .u8 0, .int .u8 0, .int .u8 0, .int .u8 0, .int .u8 0, .int .u8 0, .int .u8 0] 5)) := fun _ => by kernel_rfl
  have B0 : Hid (Buf (((w.alloc (.cells #[.int .i64 tos, .int .i64 id, .int .i64 frag, .int .i64 ttl, .int .i64 proto, .int .u32 src, .int .u32 dst, .string data] 40)).alloc (.cells #[.int .u8 69, .int .u8 (tos % 256), .int .u8 0, .int .u8 0, .int .u8 0, .int .u8 0, .int .u8 0, .int .u8 0, .int .u8 0, .int .u8 0, .int .u8 0, .int .u8 0, .int .u8 0, .int .u8 0, .int .u8 0, .int .u8 0, .int .u8 0, .int .u8 0, .int .u8 0, .int .u8 0] 5)).alloc (.cells #[.int .u8 69, .int .u8 (tos % 256)] 5)) (w.heap.size + 1) (fun i => [69, tos % 256].getD i 0)) := by
    refine Buf.alloc ?_ _
    have := buf_new (w.alloc (.cells #[.int .i64 tos, .int .i64 id, .int .i64 frag, .int .i64 ttl, .int .i64 proto, .int .u32 src, .int .u32 dst, .string data] 40)) (fun i => [69, tos % 256].getD i 0) #[.int .u8 69, .int .u8 (tos % 256), .int .u8 0, .int .u8 0, .int .u8 0, .int .u8 0, .int .u8 0, .int .u8 0, .int .u8 0, .int .u8 0, .int .u8 0, .int .u8 0, .int .u8 0, .int .u8 0, .int .u8 0, .int .u8 0, .int .u8 0, .int .u8 0, .int .u8 0, .int .u8 0] (fun i hi => by
      rcases i with _|_|_|_|_|_|_|_|_|_|_|_|_|_|_|_|_|_|_|_|i
      all_goals first | rfl | omega)
    simpa using this
  have X0 : Hid (Box (((w.alloc (.cells #[.int .i64 tos, .int .i64 id, .int .i64 frag, .int .i64 ttl, .int .i64 proto, .int .u32 src, .int .u32 dst, .string data] 40)).alloc (.cells #[.int .u8 69, .int .u8 (tos % 256), .int .u8 0, .int .u8 0, .int .u8 0, .int .u8 0, .int .u8 0, .int .u8 0, .int .u8 0, .int .u8 0, .int .u8 0, .int .u8 0, .int .u8 0, .int .u8 0, .int .u8 0, .int .u8 0, .int .u8 0, .int .u8 0, .int .u8 0, .int .u8 0] 5)).alloc (.cells #[.int .u8 69, .int .u8 (tos % 256)] 5)) w.heap.size tos id frag ttl proto src dst data) :=
    (box_new w tos id frag ttl proto src dst data).keep (B := w.heap.size + 1) (Nat.lt_succ_self _) ((((Below.refl _ _).alloc (by simp) _)).alloc (by simp) _)
  have Z0 : Below w.heap.size w (((w.alloc (.cells #[.int .i64 tos, .int .i64 id, .int .i64 frag, .int .i64 ttl, .int .i64 proto, .int .u32 src, .int .u32 dst, .string data] 40)).alloc (.cells #[.int .u8 69, .int .u8 (tos % 256), .int .u8 0, .int .u8 0, .int .u8 0, .int .u8 0, .int .u8 0, .int .u8 0, .int .u8 0, .int .u8 0, .int .u8 0, .int .u8 0, .int .u8 0, .int .u8 0, .int .u8 0, .int .u8 0, .int .u8 0, .int .u8 0, .int .u8 0, .int .u8 0] 5)).alloc (.cells #[.int .u8 69, .int .u8 (tos % 256)] 5)) :=
    (((Below.refl _ _).alloc (Nat.le_refl _) _).alloc (by simp) _).alloc (by simp; omega) _
  have lt : w.heap.size < w.heap.size + 1 := Nat.lt_succ_self _
  have k2 : 2 + 2 ≤ 20 := by decide
  have k4 : 4 + 2 ≤ 20 := by decide
  have k6 : 6 + 2 ≤ 20 := by decide
  have k8 : 8 < 20 := by decide
  have k9 : 9 < 20 := by decide
  have k10 : 10 + 2 ≤ 20 := by decide
  have k12 : 12 + 4 ≤ 20 := by decide
  have k16 : 16 + 4 ≤ 20 := by decide
  unfold hv
  go_enter Tryz.func68, Tryz.ntmps68
  have sz : ∀ {a b : World}, Below w.heap.size w a → Below (w.heap.size + 1) a b → Below w.heap.size w b := fun h k => h.trans (k.mono (Nat.le_succ _))
  go_wp2_with (first
    | (go_at_call_of 76 (data.size : Int); refine (appendTwo_ok _ _ (w.heap.size + 1) 2 _ B0.out k2).mono ?_; rintro e w1 ⟨rfl, B1, y1⟩; have X1 := X0.out.keep lt y1; have x11 := X1.c1; have Z1 : Hid _ := sz Z0 y1; replace X1 : Hid _ := X1; replace B1 : Hid _ := B1; clear y1 B0 X0 Z0 hmk)
    | (go_at_call_of 76 id; refine (appendTwo_ok _ _ (w.heap.size + 1) 4 _ B1.out k4).mono ?_; rintro e w2 ⟨rfl, B2, y2⟩; have X2 := X1.out.keep lt y2; have x22 := X2.c2; have Z2 : Hid _ := sz Z1.out y2; replace X2 : Hid _ := X2; replace B2 : Hid _ := B2; clear y2 B1 X1 Z1 x11)
    | (go_at_call_of 76 frag; refine (appendTwo_ok _ _ (w.heap.size + 1) 6 _ B2.out k6).mono ?_; rintro e w3 ⟨rfl, B3, y3⟩; have X3 := X2.out.keep lt y3; have x33 := X3.c3; have x34 := X3.c4; have l3 := B3.lt; obtain ⟨q8, z8⟩ := B3.at' 8 k8; obtain ⟨q9, z9⟩ := B3.at' 9 k9; have Z3 : Hid _ := sz Z2.out y3; replace X3 : Hid _ := X3; replace B3 : Hid _ := B3; clear y3 B2 X2 Z2 x22)
    | (go_at_call_of 76 sum; refine (appendTwo_ok _ _ (w.heap.size + 1) 10 _ (((B3.out.set 8 k8 _).set 9 k9 _).alloc _) k10).mono ?_; rintro e w4 ⟨rfl, B4, y4⟩; have X4 := X3.out.keep lt ((below_set2 _ _ _ _ _ _ _ l3).trans y4); have x45 := X4.c5; have Z4 : Hid _ := sz Z3.out ((below_set2 _ _ _ _ _ _ _ l3).trans y4); replace X4 : Hid _ := X4; replace B4 : Hid _ := B4; clear y4 B3 X3 Z3 x33 x34 q8 q9 z8 z9 l3)
    | (go_at_call_of 77 src; refine (appendFour_ok _ _ (w.heap.size + 1) 12 _ B4.out k12 s0 s1).mono ?_; rintro e w5 ⟨rfl, B5, y5⟩; have X5 := X4.out.keep lt y5; have x56 := X5.c6; have Z5 : Hid _ := sz Z4.out y5; replace B5 : Hid _ := B5; clear y5 B4 X4 X5 Z4 x45)
    | (go_at_call_of 77 dst; refine (appendFour_ok _ _ (w.heap.size + 1) 16 _ B5.out k16 d0 d1).mono ?_; rintro e w6 ⟨rfl, B6, y6⟩; have Z6 : Hid _ := sz Z5.out y6; have hcv := buf_conv B6 (hb tos (20 + data.size) id frag ttl proto sum src dst) rfl (hbAt tos (20 + data.size) id frag ttl proto sum src dst); clear y6 B5 B6 Z5 x56))
  go_ret
  exact ⟨rfl, Z6.out⟩
end Go.Proofs.YtndaohiecpdmlaaGreat
namespace Go.Proofs.YtndaohiecpdmlaaGreat
open Go.RowKit Go.Sort

theorem fits8_yes (n : Int) (w : World) (h : 0 ≤ n ∧ n ≤ 255) : Calls Tryz.prog 67 #[.int .i64 n, .int .i64 8] w fun e w' => e = .returned (.bool true) ∧ w = w' := by
  have := fits8 n w
  rwa [decide_eq_true h] at this
theorem fits8_no (n : Int) (w : World) (h : ¬ (0 ≤ n ∧ n ≤ 255)) : Calls Tryz.prog 67 #[.int .i64 n, .int .i64 8] w fun e w' => e = .returned (.bool false) ∧ w = w' := by
  have := fits8 n w
  rwa [decide_eq_false h] at this
theorem fits16_yes (n : Int) (w : World) (h : 0 ≤ n ∧ n ≤ 65535) : Calls Tryz.prog 67 #[.int .i64 n, .int .i64 16] w fun e w' => e = .returned (.bool true) ∧ w = w' := by
  have := fits16 n w
  rwa [decide_eq_true h] at this
theorem fits16_no (n : Int) (w : World) (h : ¬ (0 ≤ n ∧ n ≤ 65535)) : Calls Tryz.prog 67 #[.int .i64 n, .int .i64 16] w fun e w' => e = .returned (.bool false) ∧ w = w' := by
  have := fits16 n w
  rwa [decide_eq_false h] at this

/-- The numbers are where they may be. -/
def HOK (tos id frag ttl proto : Int) : Prop := (0 ≤ tos ∧ tos ≤ 255) ∧ (0 ≤ ttl ∧ ttl ≤ 255) ∧ (0 ≤ proto ∧ proto ≤ 255) ∧ (0 ≤ id ∧ id ≤ 65535) ∧ (0 ≤ frag ∧ frag ≤ 65535)
/-- A header's bytes without its sum. -/
def h0 (tos id frag ttl proto src dst : Int) (data : ByteArray) : ByteArray := strOfNums (hb tos (20 + data.size) id frag ttl proto 0 src dst)
/-- A packet's bytes. -/
def pkt (tos id frag ttl proto src dst : Int) (data : ByteArray) : ByteArray := strOfNums (hb tos (20 + data.size) id frag ttl proto (ck (h0 tos id frag ttl proto src dst data)) src dst) ++ data
theorem hb_length (tos len id frag ttl proto sum src dst : Int) : (hb tos len id frag ttl proto sum src dst).length = 20 := rfl
theorem h0_size (tos id frag ttl proto src dst : Int) (data : ByteArray) : (h0 tos id frag ttl proto src dst data).size = 20 := strOfNums_size _

set_option maxHeartbeats 2000000 in
theorem build_long (tos id frag ttl proto src dst : Int) (data : ByteArray) (w : World) (hk : HOK tos id frag ttl proto) (hd : data.size ≤ 9223372036854775807) (hl : 65515 < data.size) :
    Calls Tryz.prog 56 #[hv tos id frag ttl proto src dst data] w fun e w' => e = .returned (.tuple #[.string ⟨#[]⟩, .int .i64 8]) ∧ Below w.heap.size w w' := by
  obtain ⟨h1, h2, h3, h4, h5⟩ := hk
  unfold hv
  have T1 : Hid (∀ w, _) := fun w => fits8_yes tos w h1
  have T2 : Hid (∀ w, _) := fun w => fits8_yes ttl w h2
  have T3 : Hid (∀ w, _) := fun w => fits8_yes proto w h3
  have T4 : Hid (∀ w, _) := fun w => fits16_yes id w h4
  have T5 : Hid (∀ w, _) := fun w => fits16_yes frag w h5
  go_enter Tryz.func56, Tryz.ntmps56
  go_wp2_with (first
    | (go_at_call_of 67 tos; refine (T1.out _).mono ?_; rintro e w' ⟨rfl, rfl⟩)
    | (go_at_call_of 67 ttl; refine (T2.out _).mono ?_; rintro e w' ⟨rfl, rfl⟩)
    | (go_at_call_of 67 proto; refine (T3.out _).mono ?_; rintro e w' ⟨rfl, rfl⟩)
    | (go_at_call_of 67 id; refine (T4.out _).mono ?_; rintro e w' ⟨rfl, rfl⟩)
    | (go_at_call_of 67 frag; refine (T5.out _).mono ?_; rintro e w' ⟨rfl, rfl⟩))
  go_ret2
  exact ⟨rfl, (Below.refl _ _).alloc (Nat.le_refl _) _⟩
set_option maxHeartbeats 2000000 in
theorem build_no1 (tos id frag ttl proto src dst : Int) (data : ByteArray) (w : World) (h1 : ¬ (0 ≤ tos ∧ tos ≤ 255)) :
    Calls Tryz.prog 56 #[hv tos id frag ttl proto src dst data] w fun e w' => e = .returned (.tuple #[.string ⟨#[]⟩, .int .i64 2]) ∧ Below w.heap.size w w' := by
  unfold hv
  have T1 : Hid (∀ w, _) := fun w => fits8_no tos w h1
  clear h1
  go_enter Tryz.func56, Tryz.ntmps56
  go_wp2_with (first
    | (go_at_call_of 67 tos; refine (T1.out _).mono ?_; rintro e w' ⟨rfl, rfl⟩))
  go_ret2
  exact ⟨rfl, (Below.refl _ _).alloc (Nat.le_refl _) _⟩
set_option maxHeartbeats 2000000 in
theorem build_no2 (tos id frag ttl proto src dst : Int) (data : ByteArray) (w : World) (h1 : 0 ≤ tos ∧ tos ≤ 255) (h2 : ¬ (0 ≤ ttl ∧ ttl ≤ 255)) :
    Calls Tryz.prog 56 #[hv tos id frag ttl proto src dst data] w fun e w' => e = .returned (.tuple #[.string ⟨#[]⟩, .int .i64 2]) ∧ Below w.heap.size w w' := by
  unfold hv
  have T1 : Hid (∀ w, _) := fun w => fits8_yes tos w h1
  have T2 : Hid (∀ w, _) := fun w => fits8_no ttl w h2
  clear h1 h2
  go_enter Tryz.func56, Tryz.ntmps56
  go_wp2_with (first
    | (go_at_call_of 67 tos; refine (T1.out _).mono ?_; rintro e w' ⟨rfl, rfl⟩)
    | (go_at_call_of 67 ttl; refine (T2.out _).mono ?_; rintro e w' ⟨rfl, rfl⟩))
  go_ret2
  exact ⟨rfl, (Below.refl _ _).alloc (Nat.le_refl _) _⟩
set_option maxHeartbeats 2000000 in
theorem build_no3 (tos id frag ttl proto src dst : Int) (data : ByteArray) (w : World) (h1 : 0 ≤ tos ∧ tos ≤ 255) (h2 : 0 ≤ ttl ∧ ttl ≤ 255) (h3 : ¬ (0 ≤ proto ∧ proto ≤ 255)) :
    Calls Tryz.prog 56 #[hv tos id frag ttl proto src dst data] w fun e w' => e = .returned (.tuple #[.string ⟨#[]⟩, .int .i64 2]) ∧ Below w.heap.size w w' := by
  unfold hv
  have T1 : Hid (∀ w, _) := fun w => fits8_yes tos w h1
  have T2 : Hid (∀ w, _) := fun w => fits8_yes ttl w h2
  have T3 : Hid (∀ w, _) := fun w => fits8_no proto w h3
  clear h1 h2 h3
  go_enter Tryz.func56, Tryz.ntmps56
  go_wp2_with (first
    | (go_at_call_of 67 tos; refine (T1.out _).mono ?_; rintro e w' ⟨rfl, rfl⟩)
    | (go_at_call_of 67 ttl; refine (T2.out _).mono ?_; rintro e w' ⟨rfl, rfl⟩)
    | (go_at_call_of 67 proto; refine (T3.out _).mono ?_; rintro e w' ⟨rfl, rfl⟩))
  go_ret2
  exact ⟨rfl, (Below.refl _ _).alloc (Nat.le_refl _) _⟩
set_option maxHeartbeats 2000000 in
theorem build_no4 (tos id frag ttl proto src dst : Int) (data : ByteArray) (w : World) (h1 : 0 ≤ tos ∧ tos ≤ 255) (h2 : 0 ≤ ttl ∧ ttl ≤ 255) (h3 : 0 ≤ proto ∧ proto ≤ 255) (h4 : ¬ (0 ≤ id ∧ id ≤ 65535)) :
    Calls Tryz.prog 56 #[hv tos id frag ttl proto src dst data] w fun e w' => e = .returned (.tuple #[.string ⟨#[]⟩, .int .i64 2]) ∧ Below w.heap.size w w' := by
  unfold hv
  have T1 : Hid (∀ w, _) := fun w => fits8_yes tos w h1
  have T2 : Hid (∀ w, _) := fun w => fits8_yes ttl w h2
  have T3 : Hid (∀ w, _) := fun w => fits8_yes proto w h3
  have T4 : Hid (∀ w, _) := fun w => fits16_no id w h4
  clear h1 h2 h3 h4
  go_enter Tryz.func56, Tryz.ntmps56
  go_wp2_with (first
    | (go_at_call_of 67 tos; refine (T1.out _).mono ?_; rintro e w' ⟨rfl, rfl⟩)
    | (go_at_call_of 67 ttl; refine (T2.out _).mono ?_; rintro e w' ⟨rfl, rfl⟩)
    | (go_at_call_of 67 proto; refine (T3.out _).mono ?_; rintro e w' ⟨rfl, rfl⟩)
    | (go_at_call_of 67 id; refine (T4.out _).mono ?_; rintro e w' ⟨rfl, rfl⟩))
  go_ret2
  exact ⟨rfl, (Below.refl _ _).alloc (Nat.le_refl _) _⟩
set_option maxHeartbeats 2000000 in
theorem build_no5 (tos id frag ttl proto src dst : Int) (data : ByteArray) (w : World) (h1 : 0 ≤ tos ∧ tos ≤ 255) (h2 : 0 ≤ ttl ∧ ttl ≤ 255) (h3 : 0 ≤ proto ∧ proto ≤ 255) (h4 : 0 ≤ id ∧ id ≤ 65535) (h5 : ¬ (0 ≤ frag ∧ frag ≤ 65535)) :
    Calls Tryz.prog 56 #[hv tos id frag ttl proto src dst data] w fun e w' => e = .returned (.tuple #[.string ⟨#[]⟩, .int .i64 2]) ∧ Below w.heap.size w w' := by
  unfold hv
  have T1 : Hid (∀ w, _) := fun w => fits8_yes tos w h1
  have T2 : Hid (∀ w, _) := fun w => fits8_yes ttl w h2
  have T3 : Hid (∀ w, _) := fun w => fits8_yes proto w h3
  have T4 : Hid (∀ w, _) := fun w => fits16_yes id w h4
  have T5 : Hid (∀ w, _) := fun w => fits16_no frag w h5
  clear h1 h2 h3 h4 h5
  go_enter Tryz.func56, Tryz.ntmps56
  go_wp2_with (first
    | (go_at_call_of 67 tos; refine (T1.out _).mono ?_; rintro e w' ⟨rfl, rfl⟩)
    | (go_at_call_of 67 ttl; refine (T2.out _).mono ?_; rintro e w' ⟨rfl, rfl⟩)
    | (go_at_call_of 67 proto; refine (T3.out _).mono ?_; rintro e w' ⟨rfl, rfl⟩)
    | (go_at_call_of 67 id; refine (T4.out _).mono ?_; rintro e w' ⟨rfl, rfl⟩)
    | (go_at_call_of 67 frag; refine (T5.out _).mono ?_; rintro e w' ⟨rfl, rfl⟩))
  go_ret2
  exact ⟨rfl, (Below.refl _ _).alloc (Nat.le_refl _) _⟩
theorem build_range (tos id frag ttl proto src dst : Int) (data : ByteArray) (w : World) (h : ¬ HOK tos id frag ttl proto) :
    Calls Tryz.prog 56 #[hv tos id frag ttl proto src dst data] w fun e w' => e = .returned (.tuple #[.string ⟨#[]⟩, .int .i64 2]) ∧ Below w.heap.size w w' := by
  by_cases h1 : 0 ≤ tos ∧ tos ≤ 255
  · by_cases h2 : 0 ≤ ttl ∧ ttl ≤ 255
    · by_cases h3 : 0 ≤ proto ∧ proto ≤ 255
      · by_cases h4 : 0 ≤ id ∧ id ≤ 65535
        · by_cases h5 : 0 ≤ frag ∧ frag ≤ 65535
          · exact absurd ⟨h1, h2, h3, h4, h5⟩ h
          · exact build_no5 tos id frag ttl proto src dst data w h1 h2 h3 h4 h5
        · exact build_no4 tos id frag ttl proto src dst data w h1 h2 h3 h4
      · exact build_no3 tos id frag ttl proto src dst data w h1 h2 h3
    · exact build_no2 tos id frag ttl proto src dst data w h1 h2
  · exact build_no1 tos id frag ttl proto src dst data w h1
end Go.Proofs.YtndaohiecpdmlaaGreat
namespace Go.Proofs.YtndaohiecpdmlaaGreat
open Go.RowKit Go.Sort
theorem sum_okB (s : ByteArray) (w : World) (hs : s.size ≤ 281474976702466) :
    Calls Tryz.prog 66 #[.string s] w fun e w' => e = .returned (.int .i64 (ck s)) ∧ RowKit.Below w.heap.size w w' :=
  (sum_ok s w hs).mono fun _ _ ⟨h, k⟩ => ⟨h, k ▸ Below.refl _ _⟩
set_option maxHeartbeats 2000000 in
theorem build_ok (tos id frag ttl proto src dst : Int) (data : ByteArray) (w : World) (hk : HOK tos id frag ttl proto) (hl : data.size ≤ 65515) (s0 : 0 ≤ src) (s1 : src < 4294967296) (d0 : 0 ≤ dst) (d1 : dst < 4294967296) :
    Calls Tryz.prog 56 #[hv tos id frag ttl proto src dst data] w fun e w' => e = .returned (.tuple #[.string (pkt tos id frag ttl proto src dst data), .int .i64 0]) ∧ Below w.heap.size w w' := by
  obtain ⟨h1, h2, h3, h4, h5⟩ := hk
  have T1 : Hid (∀ w, _) := fun w => fits8_yes tos w h1
  have T2 : Hid (∀ w, _) := fun w => fits8_yes ttl w h2
  have T3 : Hid (∀ w, _) := fun w => fits8_yes proto w h3
  have T4 : Hid (∀ w, _) := fun w => fits16_yes id w h4
  have T5 : Hid (∀ w, _) := fun w => fits16_yes frag w h5
  have H0 : Hid (∀ w, _) := fun w => header_ok tos id frag ttl proto src dst 0 data w (by omega) s0 s1 d0 d1
  have H1 : Hid (∀ w, _) := fun w => header_ok tos id frag ttl proto src dst (ck (h0 tos id frag ttl proto src dst data)) data w (by omega) s0 s1 d0 d1
  have S1 : Hid (∀ w, _) := fun w => sum_okB (h0 tos id frag ttl proto src dst data) w (by rw [h0_size]; decide)
  have z0 := strOfNums_size (hb tos (20 + data.size) id frag ttl proto (ck (h0 tos id frag ttl proto src dst data)) src dst)
  rw [hb_length] at z0
  unfold pkt
  unfold h0 at *
  generalize strOfNums (hb tos (20 + data.size) id frag ttl proto 0 src dst) = P0 at *
  generalize ck P0 = c at *
  generalize strOfNums (hb tos (20 + data.size) id frag ttl proto c src dst) = P1 at *
  unfold hv at *
  have X := box_new w tos id frag ttl proto src dst data
  have k0 := cell_regrown X.c0; have k1 := cell_regrown X.c1; have k2 := cell_regrown X.c2; have k3 := cell_regrown X.c3; have k4 := cell_regrown X.c4; have k5 := cell_regrown X.c5; have k6 := cell_regrown X.c6; have k7 := cell_regrown X.c7
  have n1 : ¬ 9223372036854775807 < 20 + data.size := by omega
  clear X h1 h2 h3 h4 h5
  go_enter Tryz.func56, Tryz.ntmps56
  go_wp2_with (first
    | (go_at_call_of 67 tos; refine (T1.out _).mono ?_; rintro e w' ⟨rfl, rfl⟩)
    | (go_at_call_of 67 ttl; refine (T2.out _).mono ?_; rintro e w' ⟨rfl, rfl⟩)
    | (go_at_call_of 67 proto; refine (T3.out _).mono ?_; rintro e w' ⟨rfl, rfl⟩)
    | (go_at_call_of 67 id; refine (T4.out _).mono ?_; rintro e w' ⟨rfl, rfl⟩)
    | (go_at_call_of 67 frag; refine (T5.out _).mono ?_; rintro e w' ⟨rfl, rfl⟩))
  clear T1 T2 T3 T4 T5
  refine wp_region_quiet_below (by kernel_rfl) (by kernel_rfl) ?_
  repeat (quiet_step (first | (go_at_call_of 68 (0 : Int); exact Calls.regrown_of (H0.out _)) | (go_at_call_of 68 c; exact Calls.regrown_of (H1.out _)) | (go_at_call 66; exact Calls.regrown_of (S1.out _))))
  refine wpQuiet_nil ?_
  intro _ hw'
  obtain ⟨⟨dq, osq⟩, hw''⟩ := hw'
  subst hw''
  go_wp2
  go_ret2
  exact ⟨rfl, ((Below.refl _ _).alloc (Nat.le_refl _) _).trans ((below_regrown _ dq osq).mono (by simp))⟩
end Go.Proofs.YtndaohiecpdmlaaGreat
namespace Go.Proofs.YtndaohiecpdmlaaGreat
set_option maxRecDepth 100000
open Go.RowKit Go.Sort

def digs : Int → Nat → List Int
  | _, 0 => []
  | n, k + 1 => digs (n / 256) k ++ [n % 256]
theorem digs_length (n : Int) (k : Nat) : (digs n k).length = k := by
  induction k generalizing n with
  | zero => rfl
  | succ k ih => simp [digs, ih]
set_option maxHeartbeats 400000 in
theorem rbytes0 (n : Int) (w : World) :
    Calls Tryz.prog 69 #[.int .i64 n, .int .i64 0] w fun e w' => e = .returned (.string (strOfNums [])) ∧ Below w.heap.size w w' := by
  go_enter Tryz.func69, Tryz.ntmps69
  go_wp2
  go_ret
  exact ⟨rfl, Below.refl _ _⟩
theorem strOfNums_append (a b : List Int) : strOfNums a ++ strOfNums b = strOfNums (a ++ b) := by
  unfold strOfNums
  rw [ByteArray.mk_append_mk, List.map_append]
theorem ret_digs (n : Int) (k : Nat) : Ending.returned (.string (strOfNums (digs (n / 256) k) ++ strOfNums [n % 256])) = .returned (.string (strOfNums (digs n (k + 1)))) := by
  rw [strOfNums_append]; rfl
/-- 'string(b)' of one byte that was made ahead, in whatever world came behind. -/
theorem conv1_later {w1 : World} {B : Nat} {x : Int} {c : Nat} (h : w1.cell? ⟨B, 0, none⟩ = some (.int .u8 x)) :
    (convert 107 9 (.slice (some ⟨B, 0, none⟩) 1 c)).run Tryz.prog w1 = .ok (.string (strOfNums [x])) w1 :=
  run_convert_bytes_arg (P := Tryz.prog) _ 107 5 Tryz.underlying107 Tryz.underlying5 B 0 1 c [x] rfl (fun i hi => by
    obtain rfl : i = 0 := by omega
    simpa using h) 9 Tryz.underlying9
theorem conv_after {w w1 : World} {x : Int} (h : Below (w.alloc (.cells #[.int .u8 x] 5)).drew.heap.size (w.alloc (.cells #[.int .u8 x] 5)).drew w1) :
    (convert 107 9 (.slice (some ⟨w.heap.size, 0, none⟩) 1 1)).run Tryz.prog w1 = .ok (.string (strOfNums [x])) w1 :=
  conv1_later (by rw [h.cell (by simp)]; exact World.cell?_alloc_mark w _ 5 (0, 0) 0)
set_option maxHeartbeats 400000 in
theorem rbytesS (k : Nat) (ih : Hid (∀ (n : Int) (w : World), 0 ≤ n → n < 9223372036854775808 → Calls Tryz.prog 69 #[.int .i64 n, .int .i64 k] w fun e w' => e = .returned (.string (strOfNums (digs n k))) ∧ Below w.heap.size w w')) (n : Int) (w : World) (h : 0 ≤ n) (hn : n < 9223372036854775808) (hk : k < 8) :
    Calls Tryz.prog 69 #[.int .i64 n, .int .i64 (k + 1)] w fun e w' => e = .returned (.string (strOfNums (digs n (k + 1)))) ∧ Below w.heap.size w w' := by
  have hb : ((k : Int) + 1 == 0) = false := by simp; omega
  have e1 : IntKind.i64.wrap (n.tdiv 256) = n / 256 := by rw [Int.tdiv_eq_ediv_of_nonneg h]; simp [IntKind.wrap, IntKind.bits, IntKind.signed]; omega
  have e2 : IntKind.i64.wrap (k : Int) = k := by simp [IntKind.wrap, IntKind.bits, IntKind.signed]; omega
  have e3 : IntKind.u8.wrap (n.tmod 256) = n % 256 := by rw [Int.tmod_eq_emod_of_nonneg h]; simp [IntKind.wrap, IntKind.bits, IntKind.signed]
  have hcv : ∀ (w : World) (a : Int), (convert 107 9 (.slice (some ⟨w.heap.size, 0, none⟩) 1 1)).run Tryz.prog (w.alloc (.cells #[.int .u8 a] 5)) = .ok (.string (strOfNums [a])) (w.alloc (.cells #[.int .u8 a] 5)) := fun w a => conv1_later (World.cell?_alloc_new _ _ _ 0)
  have hcvd : ∀ (w : World) (a : Int), (convert 107 9 (.slice (some ⟨w.heap.size, 0, none⟩) 1 1)).run Tryz.prog (w.alloc (.cells #[.int .u8 a] 5)).drew = .ok (.string (strOfNums [a])) (w.alloc (.cells #[.int .u8 a] 5)).drew := fun w a => conv1_later (World.cell?_alloc_mark w _ 5 (0, 0) 0)
  have z1 : (strOfNums (digs (n / 256) k)).size = k := by rw [strOfNums_size, digs_length]
  have z2 : (strOfNums [n % 256]).size = 1 := strOfNums_size _
  go_enter Tryz.func69, Tryz.ntmps69
  go_wp2
  go_region_with (go_at_call 69; refine (ih.out (n / 256) _ ?_ ?_).mono ?_; omega; omega; rintro e w1 ⟨rfl, hb1⟩; first | (have hcv1 := conv_after (w := w) (x := n % 256) hb1) | skip)
  all_goals
    go_wp2
    go_ret
  · exact ⟨ret_digs n k, Below.alloc (w := w1) ((Below.refl _ _).drew.trans hb1) hb1.size _⟩
  · exact ⟨ret_digs n k, (((Below.refl _ _).alloc (Nat.le_refl _) _).drew.trans (hb1.mono (by simp)))⟩
  · exact ⟨ret_digs n k, (((Below.refl _ _).alloc (Nat.le_refl _) _).drew.trans (hb1.mono (by simp)))⟩
theorem rbytes : ∀ (k : Nat) (_hk : k ≤ 8) (n : Int) (w : World), 0 ≤ n → n < 9223372036854775808 →
    Calls Tryz.prog 69 #[.int .i64 n, .int .i64 k] w fun e w' => e = .returned (.string (strOfNums (digs n k))) ∧ Below w.heap.size w w'
  | 0, _, n, w, _, _ => rbytes0 n w
  | k + 1, hk, n, w, h, hn => rbytesS k (fun n w h hn => rbytes k (by omega) n w h hn) n w h hn (by omega)

set_option maxHeartbeats 400000 in
theorem b_ok (n : Int) (k : Nat) (w : World) (hk : k ≤ 8) (h0 : 0 ≤ n) (h : n < 9223372036854775808) :
    Calls Tryz.prog 57 #[.int .i64 n, .int .i64 k] w fun e w' => e = .returned (.string (strOfNums (digs n k))) ∧ RowKit.Below w.heap.size w w' := by
  have R : Hid (∀ w, _) := fun w => rbytes k hk n w h0 h
  go_enter Tryz.func57, Tryz.ntmps57
  go_wp2_with (go_at_call 69; refine (R.out _).mono ?_; rintro e w' ⟨rfl, hb⟩)
  go_ret
  exact ⟨rfl, hb⟩
theorem join_hb (tos len id frag ttl proto sum src dst : Int) (s0 : 0 ≤ src) (s1 : src < 4294967296) (d0 : 0 ≤ dst) (d1 : dst < 4294967296) :
    ByteArray.mk #[69] ++ strOfNums (digs tos 1) ++ strOfNums (digs len 2) ++ strOfNums (digs id 2) ++ strOfNums (digs frag 2) ++ strOfNums (digs ttl 1) ++ strOfNums (digs proto 1) ++ strOfNums (digs sum 2) ++ strOfNums (digs src 4) ++ strOfNums (digs dst 4) = strOfNums (hb tos len id frag ttl proto sum src dst) := by
  have e0 : ByteArray.mk #[69] = strOfNums [69] := rfl
  have es : src / 16777216 = src / 256 / 256 / 256 % 256 := by omega
  have es2 : src / 65536 % 256 = src / 256 / 256 % 256 := by omega
  have ed : dst / 16777216 = dst / 256 / 256 / 256 % 256 := by omega
  have ed2 : dst / 65536 % 256 = dst / 256 / 256 % 256 := by omega
  rw [e0]
  simp only [strOfNums_append]
  unfold hb
  rw [es, es2, ed, ed2]
  rfl
set_option maxHeartbeats 2000000 in
theorem rheader_ok (tos id frag ttl proto src dst sum : Int) (data : ByteArray) (w : World) (hk : HOK tos id frag ttl proto) (hd : data.size ≤ 65515) (m0 : 0 ≤ sum) (m1 : sum ≤ 65535) (s0 : 0 ≤ src) (s1 : src < 4294967296) (d0 : 0 ≤ dst) (d1 : dst < 4294967296) :
    Calls Tryz.prog 39 #[hv tos id frag ttl proto src dst data, .int .i64 sum] w fun e w' => e = .returned (.string (strOfNums (hb tos (20 + data.size) id frag ttl proto sum src dst))) ∧ RowKit.Below w.heap.size w w' := by
  obtain ⟨h1, h2, h3, h4, h5⟩ := hk
  rw [← join_hb tos (20 + data.size) id frag ttl proto sum src dst s0 s1 d0 d1]
  have zc : (ByteArray.mk #[69]).size = 1 := rfl
  have sz : ∀ n k, (strOfNums (digs n k)).size = k := fun n k => by rw [strOfNums_size, digs_length]
  have A1 : Hid (∀ w, _) := fun w => b_ok tos 1 w (by decide) (by omega) (by omega)
  have A2 : Hid (∀ w, _) := fun w => b_ok (20 + data.size) 2 w (by decide) (by omega) (by omega)
  have A3 : Hid (∀ w, _) := fun w => b_ok id 2 w (by decide) (by omega) (by omega)
  have A4 : Hid (∀ w, _) := fun w => b_ok frag 2 w (by decide) (by omega) (by omega)
  have A5 : Hid (∀ w, _) := fun w => b_ok ttl 1 w (by decide) (by omega) (by omega)
  have A6 : Hid (∀ w, _) := fun w => b_ok proto 1 w (by decide) (by omega) (by omega)
  have A7 : Hid (∀ w, _) := fun w => b_ok sum 2 w (by decide) (by omega) (by omega)
  have A8 : Hid (∀ w, _) := fun w => b_ok src 4 w (by decide) (by omega) (by omega)
  have A9 : Hid (∀ w, _) := fun w => b_ok dst 4 w (by decide) (by omega) (by omega)
  have z1 := sz tos 1; have z2 := sz (20 + data.size) 2; have z3 := sz id 2; have z4 := sz frag 2; have z5 := sz ttl 1; have z6 := sz proto 1; have z7 := sz sum 2; have z8 := sz src 4; have z9 := sz dst 4
  clear sz
  generalize strOfNums (digs tos 1) = S1 at *
  generalize strOfNums (digs (20 + data.size) 2) = S2 at *
  generalize strOfNums (digs id 2) = S3 at *
  generalize strOfNums (digs frag 2) = S4 at *
  generalize strOfNums (digs ttl 1) = S5 at *
  generalize strOfNums (digs proto 1) = S6 at *
  generalize strOfNums (digs sum 2) = S7 at *
  generalize strOfNums (digs src 4) = S8 at *
  generalize strOfNums (digs dst 4) = S9 at *
  have w20 : IntKind.i64.wrap (20 + (data.size : Int)) = 20 + data.size := by simp [IntKind.wrap, IntKind.bits, IntKind.signed]; omega
  have wsrc : IntKind.i64.wrap src = src := by simp [IntKind.wrap, IntKind.bits, IntKind.signed]; omega
  have wdst : IntKind.i64.wrap dst = dst := by simp [IntKind.wrap, IntKind.bits, IntKind.signed]; omega
  unfold hv
  have X := box_new w tos id frag ttl proto src dst data
  have k0 := cell_regrown X.c0; have k1 := cell_regrown X.c1; have k2 := cell_regrown X.c2; have k3 := cell_regrown X.c3; have k4 := cell_regrown X.c4; have k5 := cell_regrown X.c5; have k6 := cell_regrown X.c6; have k7 := cell_regrown X.c7
  clear X h1 h2 h3 h4 h5
  go_enter Tryz.func39, Tryz.ntmps39
  go_wp2
  refine wp_region_quiet_below (by kernel_rfl) (by kernel_rfl) ?_
  repeat (quiet_step (first
    | (go_at_call_of 57 tos; exact Calls.regrown_of (A1.out _))
    | (go_at_call_of 57 (data.size : Int); exact Calls.regrown_of (A2.out _))
    | (go_at_call_of 57 id; exact Calls.regrown_of (A3.out _))
    | (go_at_call_of 57 frag; exact Calls.regrown_of (A4.out _))
    | (go_at_call_of 57 ttl; exact Calls.regrown_of (A5.out _))
    | (go_at_call_of 57 proto; exact Calls.regrown_of (A6.out _))
    | (go_at_call_of 57 sum; exact Calls.regrown_of (A7.out _))
    | (go_at_call_of 57 src; exact Calls.regrown_of (A8.out _))
    | (go_at_call_of 57 dst; exact Calls.regrown_of (A9.out _))))
  refine wpQuiet_nil ?_
  intro _ hw'
  obtain ⟨⟨dq, osq⟩, hw''⟩ := hw'
  subst hw''
  go_wp2
  go_ret
  exact ⟨rfl, ((Below.refl _ _).alloc (Nat.le_refl _) _).trans ((below_regrown _ dq osq).mono (by simp))⟩
end Go.Proofs.YtndaohiecpdmlaaGreat
namespace Go.Proofs.YtndaohiecpdmlaaGreat
set_option maxRecDepth 100000
open Go.RowKit Go.Sort

set_option maxHeartbeats 400000 in
theorem byte_yes (n : Int) (w : World) (h : 0 ≤ n ∧ n ≤ 255) : Calls Tryz.prog 37 #[.int .i64 n] w fun e w' => e = .returned (.bool true) ∧ w = w' := by
  obtain ⟨a, b⟩ := h
  go_enter Tryz.func37, Tryz.ntmps37
  go_wp2
  go_ret
  exact ⟨rfl, rfl⟩
set_option maxHeartbeats 400000 in
theorem byte_no (n : Int) (w : World) (h : ¬ (0 ≤ n ∧ n ≤ 255)) : Calls Tryz.prog 37 #[.int .i64 n] w fun e w' => e = .returned (.bool false) ∧ w = w' := by
  rcases (show n < 0 ∨ (0 ≤ n ∧ 255 < n) by omega) with a | ⟨a, b⟩
  · clear h
    go_enter Tryz.func37, Tryz.ntmps37
    go_wp2
    go_ret
    exact ⟨rfl, rfl⟩
  · have hd : decide (n ≤ 255) = false := decide_eq_false (by omega)
    clear h
    go_enter Tryz.func37, Tryz.ntmps37
    go_wp2
    go_ret
    exact ⟨rfl, rfl⟩
set_option maxHeartbeats 400000 in
theorem word_yes (n : Int) (w : World) (h : 0 ≤ n ∧ n ≤ 65535) : Calls Tryz.prog 38 #[.int .i64 n] w fun e w' => e = .returned (.bool true) ∧ w = w' := by
  obtain ⟨a, b⟩ := h
  go_enter Tryz.func38, Tryz.ntmps38
  go_wp2
  go_ret
  exact ⟨rfl, rfl⟩
set_option maxHeartbeats 400000 in
theorem word_no (n : Int) (w : World) (h : ¬ (0 ≤ n ∧ n ≤ 65535)) : Calls Tryz.prog 38 #[.int .i64 n] w fun e w' => e = .returned (.bool false) ∧ w = w' := by
  rcases (show n < 0 ∨ (0 ≤ n ∧ 65535 < n) by omega) with a | ⟨a, b⟩
  · clear h
    go_enter Tryz.func38, Tryz.ntmps38
    go_wp2
    go_ret
    exact ⟨rfl, rfl⟩
  · have hd : decide (n ≤ 65535) = false := decide_eq_false (by omega)
    clear h
    go_enter Tryz.func38, Tryz.ntmps38
    go_wp2
    go_ret
    exact ⟨rfl, rfl⟩
set_option maxHeartbeats 2000000 in
theorem rbuild_long (tos id frag ttl proto src dst : Int) (data : ByteArray) (w : World) (hk : HOK tos id frag ttl proto) (hd : data.size ≤ 9223372036854775807) (hl : 65515 < data.size) :
    Calls Tryz.prog 25 #[hv tos id frag ttl proto src dst data] w fun e w' => e = .returned (.tuple #[.string ⟨#[]⟩, .int .i64 8]) ∧ Below w.heap.size w w' := by
  obtain ⟨h1, h2, h3, h4, h5⟩ := hk
  unfold hv
  have T1 : Hid (∀ w, _) := fun w => byte_yes tos w h1
  have T2 : Hid (∀ w, _) := fun w => byte_yes ttl w h2
  have T3 : Hid (∀ w, _) := fun w => byte_yes proto w h3
  have T4 : Hid (∀ w, _) := fun w => word_yes id w h4
  have T5 : Hid (∀ w, _) := fun w => word_yes frag w h5
  go_enter Tryz.func25, Tryz.ntmps25
  go_wp2_with (first
    | (go_at_call_of 37 tos; refine (T1.out _).mono ?_; rintro e w' ⟨rfl, rfl⟩)
    | (go_at_call_of 37 ttl; refine (T2.out _).mono ?_; rintro e w' ⟨rfl, rfl⟩)
    | (go_at_call_of 37 proto; refine (T3.out _).mono ?_; rintro e w' ⟨rfl, rfl⟩)
    | (go_at_call_of 38 id; refine (T4.out _).mono ?_; rintro e w' ⟨rfl, rfl⟩)
    | (go_at_call_of 38 frag; refine (T5.out _).mono ?_; rintro e w' ⟨rfl, rfl⟩))
  go_ret2
  exact ⟨rfl, (Below.refl _ _).alloc (Nat.le_refl _) _⟩
set_option maxHeartbeats 2000000 in
theorem rbuild_no1 (tos id frag ttl proto src dst : Int) (data : ByteArray) (w : World) (h1 : ¬ (0 ≤ tos ∧ tos ≤ 255)) :
    Calls Tryz.prog 25 #[hv tos id frag ttl proto src dst data] w fun e w' => e = .returned (.tuple #[.string ⟨#[]⟩, .int .i64 2]) ∧ Below w.heap.size w w' := by
  unfold hv
  have T1 : Hid (∀ w, _) := fun w => byte_no tos w h1
  clear h1
  go_enter Tryz.func25, Tryz.ntmps25
  go_wp2_with (first
    | (go_at_call_of 37 tos; refine (T1.out _).mono ?_; rintro e w' ⟨rfl, rfl⟩))
  go_ret2
  exact ⟨rfl, (Below.refl _ _).alloc (Nat.le_refl _) _⟩
set_option maxHeartbeats 2000000 in
theorem rbuild_no2 (tos id frag ttl proto src dst : Int) (data : ByteArray) (w : World) (h1 : 0 ≤ tos ∧ tos ≤ 255) (h2 : ¬ (0 ≤ ttl ∧ ttl ≤ 255)) :
    Calls Tryz.prog 25 #[hv tos id frag ttl proto src dst data] w fun e w' => e = .returned (.tuple #[.string ⟨#[]⟩, .int .i64 2]) ∧ Below w.heap.size w w' := by
  unfold hv
  have T1 : Hid (∀ w, _) := fun w => byte_yes tos w h1
  have T2 : Hid (∀ w, _) := fun w => byte_no ttl w h2
  clear h1 h2
  go_enter Tryz.func25, Tryz.ntmps25
  go_wp2_with (first
    | (go_at_call_of 37 tos; refine (T1.out _).mono ?_; rintro e w' ⟨rfl, rfl⟩)
    | (go_at_call_of 37 ttl; refine (T2.out _).mono ?_; rintro e w' ⟨rfl, rfl⟩))
  go_ret2
  exact ⟨rfl, (Below.refl _ _).alloc (Nat.le_refl _) _⟩
set_option maxHeartbeats 2000000 in
theorem rbuild_no3 (tos id frag ttl proto src dst : Int) (data : ByteArray) (w : World) (h1 : 0 ≤ tos ∧ tos ≤ 255) (h2 : 0 ≤ ttl ∧ ttl ≤ 255) (h3 : ¬ (0 ≤ proto ∧ proto ≤ 255)) :
    Calls Tryz.prog 25 #[hv tos id frag ttl proto src dst data] w fun e w' => e = .returned (.tuple #[.string ⟨#[]⟩, .int .i64 2]) ∧ Below w.heap.size w w' := by
  unfold hv
  have T1 : Hid (∀ w, _) := fun w => byte_yes tos w h1
  have T2 : Hid (∀ w, _) := fun w => byte_yes ttl w h2
  have T3 : Hid (∀ w, _) := fun w => byte_no proto w h3
  clear h1 h2 h3
  go_enter Tryz.func25, Tryz.ntmps25
  go_wp2_with (first
    | (go_at_call_of 37 tos; refine (T1.out _).mono ?_; rintro e w' ⟨rfl, rfl⟩)
    | (go_at_call_of 37 ttl; refine (T2.out _).mono ?_; rintro e w' ⟨rfl, rfl⟩)
    | (go_at_call_of 37 proto; refine (T3.out _).mono ?_; rintro e w' ⟨rfl, rfl⟩))
  go_ret2
  exact ⟨rfl, (Below.refl _ _).alloc (Nat.le_refl _) _⟩
set_option maxHeartbeats 2000000 in
theorem rbuild_no4 (tos id frag ttl proto src dst : Int) (data : ByteArray) (w : World) (h1 : 0 ≤ tos ∧ tos ≤ 255) (h2 : 0 ≤ ttl ∧ ttl ≤ 255) (h3 : 0 ≤ proto ∧ proto ≤ 255) (h4 : ¬ (0 ≤ id ∧ id ≤ 65535)) :
    Calls Tryz.prog 25 #[hv tos id frag ttl proto src dst data] w fun e w' => e = .returned (.tuple #[.string ⟨#[]⟩, .int .i64 2]) ∧ Below w.heap.size w w' := by
  unfold hv
  have T1 : Hid (∀ w, _) := fun w => byte_yes tos w h1
  have T2 : Hid (∀ w, _) := fun w => byte_yes ttl w h2
  have T3 : Hid (∀ w, _) := fun w => byte_yes proto w h3
  have T4 : Hid (∀ w, _) := fun w => word_no id w h4
  clear h1 h2 h3 h4
  go_enter Tryz.func25, Tryz.ntmps25
  go_wp2_with (first
    | (go_at_call_of 37 tos; refine (T1.out _).mono ?_; rintro e w' ⟨rfl, rfl⟩)
    | (go_at_call_of 37 ttl; refine (T2.out _).mono ?_; rintro e w' ⟨rfl, rfl⟩)
    | (go_at_call_of 37 proto; refine (T3.out _).mono ?_; rintro e w' ⟨rfl, rfl⟩)
    | (go_at_call_of 38 id; refine (T4.out _).mono ?_; rintro e w' ⟨rfl, rfl⟩))
  go_ret2
  exact ⟨rfl, (Below.refl _ _).alloc (Nat.le_refl _) _⟩
set_option maxHeartbeats 2000000 in
theorem rbuild_no5 (tos id frag ttl proto src dst : Int) (data : ByteArray) (w : World) (h1 : 0 ≤ tos ∧ tos ≤ 255) (h2 : 0 ≤ ttl ∧ ttl ≤ 255) (h3 : 0 ≤ proto ∧ proto ≤ 255) (h4 : 0 ≤ id ∧ id ≤ 65535) (h5 : ¬ (0 ≤ frag ∧ frag ≤ 65535)) :
    Calls Tryz.prog 25 #[hv tos id frag ttl proto src dst data] w fun e w' => e = .returned (.tuple #[.string ⟨#[]⟩, .int .i64 2]) ∧ Below w.heap.size w w' := by
  unfold hv
  have T1 : Hid (∀ w, _) := fun w => byte_yes tos w h1
  have T2 : Hid (∀ w, _) := fun w => byte_yes ttl w h2
  have T3 : Hid (∀ w, _) := fun w => byte_yes proto w h3
  have T4 : Hid (∀ w, _) := fun w => word_yes id w h4
  have T5 : Hid (∀ w, _) := fun w => word_no frag w h5
  clear h1 h2 h3 h4 h5
  go_enter Tryz.func25, Tryz.ntmps25
  go_wp2_with (first
    | (go_at_call_of 37 tos; refine (T1.out _).mono ?_; rintro e w' ⟨rfl, rfl⟩)
    | (go_at_call_of 37 ttl; refine (T2.out _).mono ?_; rintro e w' ⟨rfl, rfl⟩)
    | (go_at_call_of 37 proto; refine (T3.out _).mono ?_; rintro e w' ⟨rfl, rfl⟩)
    | (go_at_call_of 38 id; refine (T4.out _).mono ?_; rintro e w' ⟨rfl, rfl⟩)
    | (go_at_call_of 38 frag; refine (T5.out _).mono ?_; rintro e w' ⟨rfl, rfl⟩))
  go_ret2
  exact ⟨rfl, (Below.refl _ _).alloc (Nat.le_refl _) _⟩
theorem rbuild_range (tos id frag ttl proto src dst : Int) (data : ByteArray) (w : World) (h : ¬ HOK tos id frag ttl proto) :
    Calls Tryz.prog 25 #[hv tos id frag ttl proto src dst data] w fun e w' => e = .returned (.tuple #[.string ⟨#[]⟩, .int .i64 2]) ∧ Below w.heap.size w w' := by
  by_cases h1 : 0 ≤ tos ∧ tos ≤ 255
  · by_cases h2 : 0 ≤ ttl ∧ ttl ≤ 255
    · by_cases h3 : 0 ≤ proto ∧ proto ≤ 255
      · by_cases h4 : 0 ≤ id ∧ id ≤ 65535
        · by_cases h5 : 0 ≤ frag ∧ frag ≤ 65535
          · exact absurd ⟨h1, h2, h3, h4, h5⟩ h
          · exact rbuild_no5 tos id frag ttl proto src dst data w h1 h2 h3 h4 h5
        · exact rbuild_no4 tos id frag ttl proto src dst data w h1 h2 h3 h4
      · exact rbuild_no3 tos id frag ttl proto src dst data w h1 h2 h3
    · exact rbuild_no2 tos id frag ttl proto src dst data w h1 h2
  · exact rbuild_no1 tos id frag ttl proto src dst data w h1
theorem rsum_okB (s : ByteArray) (w : World) (hs : s.size ≤ 281474976702466) :
    Calls Tryz.prog 40 #[.string s] w fun e w' => e = .returned (.int .i64 (ck s)) ∧ RowKit.Below w.heap.size w w' :=
  (rsum_ok s w hs).mono fun _ _ ⟨h, k⟩ => ⟨h, k ▸ Below.refl _ _⟩
set_option maxHeartbeats 2000000 in
theorem rbuild_ok (tos id frag ttl proto src dst : Int) (data : ByteArray) (w : World) (hk : HOK tos id frag ttl proto) (hl : data.size ≤ 65515) (s0 : 0 ≤ src) (s1 : src < 4294967296) (d0 : 0 ≤ dst) (d1 : dst < 4294967296) :
    Calls Tryz.prog 25 #[hv tos id frag ttl proto src dst data] w fun e w' => e = .returned (.tuple #[.string (pkt tos id frag ttl proto src dst data), .int .i64 0]) ∧ Below w.heap.size w w' := by
  obtain ⟨h1, h2, h3, h4, h5⟩ := hk
  have T1 : Hid (∀ w, _) := fun w => byte_yes tos w h1
  have T2 : Hid (∀ w, _) := fun w => byte_yes ttl w h2
  have T3 : Hid (∀ w, _) := fun w => byte_yes proto w h3
  have T4 : Hid (∀ w, _) := fun w => word_yes id w h4
  have T5 : Hid (∀ w, _) := fun w => word_yes frag w h5
  have H0 : Hid (∀ w, _) := fun w => rheader_ok tos id frag ttl proto src dst 0 data w ⟨h1, h2, h3, h4, h5⟩ hl (by omega) (by omega) s0 s1 d0 d1
  have H1 : Hid (∀ w, _) := fun w => rheader_ok tos id frag ttl proto src dst (ck (h0 tos id frag ttl proto src dst data)) data w ⟨h1, h2, h3, h4, h5⟩ hl (ck_bd _).1 (ck_bd _).2 s0 s1 d0 d1
  have S1 : Hid (∀ w, _) := fun w => rsum_okB (h0 tos id frag ttl proto src dst data) w (by rw [h0_size]; decide)
  have z0 := strOfNums_size (hb tos (20 + data.size) id frag ttl proto (ck (h0 tos id frag ttl proto src dst data)) src dst)
  rw [hb_length] at z0
  unfold pkt
  unfold h0 at *
  generalize strOfNums (hb tos (20 + data.size) id frag ttl proto 0 src dst) = P0 at *
  generalize ck P0 = c at *
  generalize strOfNums (hb tos (20 + data.size) id frag ttl proto c src dst) = P1 at *
  unfold hv at *
  have X := box_new w tos id frag ttl proto src dst data
  have k0 := cell_regrown X.c0; have k1 := cell_regrown X.c1; have k2 := cell_regrown X.c2; have k3 := cell_regrown X.c3; have k4 := cell_regrown X.c4; have k5 := cell_regrown X.c5; have k6 := cell_regrown X.c6; have k7 := cell_regrown X.c7
  have n1 : ¬ 9223372036854775807 < 20 + data.size := by omega
  clear X h1 h2 h3 h4 h5
  go_enter Tryz.func25, Tryz.ntmps25
  go_wp2_with (first
    | (go_at_call_of 37 tos; refine (T1.out _).mono ?_; rintro e w' ⟨rfl, rfl⟩)
    | (go_at_call_of 37 ttl; refine (T2.out _).mono ?_; rintro e w' ⟨rfl, rfl⟩)
    | (go_at_call_of 37 proto; refine (T3.out _).mono ?_; rintro e w' ⟨rfl, rfl⟩)
    | (go_at_call_of 38 id; refine (T4.out _).mono ?_; rintro e w' ⟨rfl, rfl⟩)
    | (go_at_call_of 38 frag; refine (T5.out _).mono ?_; rintro e w' ⟨rfl, rfl⟩))
  clear T1 T2 T3 T4 T5
  refine wp_region_quiet_below (by kernel_rfl) (by kernel_rfl) ?_
  repeat (quiet_step (first | (go_at_call_of 39 (0 : Int); exact Calls.regrown_of (H0.out _)) | (go_at_call_of 39 c; exact Calls.regrown_of (H1.out _)) | (go_at_call 40; exact Calls.regrown_of (S1.out _))))
  refine wpQuiet_nil ?_
  intro _ hw'
  obtain ⟨⟨dq, osq⟩, hw''⟩ := hw'
  subst hw''
  go_wp2
  go_ret2
  exact ⟨rfl, ((Below.refl _ _).alloc (Nat.le_refl _) _).trans ((below_regrown _ dq osq).mono (by simp))⟩
end Go.Proofs.YtndaohiecpdmlaaGreat
