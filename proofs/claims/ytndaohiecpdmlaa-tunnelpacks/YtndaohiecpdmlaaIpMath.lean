/-
  Plain facts on numbers and bytes that the walks of this seat use: check sums, what a number is written as, and what bytes are read as. No condition.
-/
import Derived.Test.YtndaohiecpdmlaaRows
import Derived.WalkKit
import Derived.Laws.BytesArg
import Derived.Laws.BitsAllLaws
namespace Go.Proofs.Ytndaohiecpdmlaa

/-! ### bytes of a string -/
def byt (s : ByteArray) (i : Nat) : Int := ((s.data.toList.getD i 0).toNat : Int)
theorem byt_eq (s : ByteArray) (i : Nat) (h : i < s.size) : ((s[i].toNat : Nat) : Int) = byt s i := by
  unfold byt
  have h' : i < s.data.toList.length := by simpa using h
  rw [List.getD, List.getElem?_eq_getElem h', Option.getD_some]
  rfl
theorem byt_bd (s : ByteArray) (i : Nat) : 0 ≤ byt s i ∧ byt s i < 256 := by
  unfold byt
  have := (s.data.toList.getD i 0).toNat_lt
  omega
theorem byt_past (s : ByteArray) (i : Nat) (h : s.size ≤ i) : byt s i = 0 := by
  unfold byt
  have h' : s.data.toList.length ≤ i := by simpa using h
  rw [List.getD, List.getElem?_eq_none h']
  rfl
theorem byt_left (s t : ByteArray) (i : Nat) (h : i < s.size) : byt (s ++ t) i = byt s i := by
  unfold byt
  have h' : i < s.data.toList.length := by simpa using h
  rw [ByteArray.data_append, Array.toList_append, List.getD, List.getElem?_append_left h', List.getD]
theorem byt_right (s t : ByteArray) (i : Nat) : byt (s ++ t) (s.size + i) = byt t i := by
  unfold byt
  have h' : s.data.toList.length = s.size := by simp
  rw [ByteArray.data_append, Array.toList_append, List.getD, List.getElem?_append_right (by omega), List.getD, h']
  simp
theorem byt_extract (s : ByteArray) (a b i : Nat) (h : a + i < b) : byt (s.extract a b) i = byt s (a + i) := by
  unfold byt
  have e : (s.extract a b).data.toList = (s.data.toList.drop a).take (b - a) := by
    simp [ByteArray.data_extract, List.extract_eq_take_drop]
  have hi : i < b - a := by omega
  rw [e, List.getD, List.getElem?_take_of_lt hi, List.getElem?_drop, List.getD]
theorem byt_nums (l : List Int) (hl : ∀ y ∈ l, 0 ≤ y ∧ y < 256) (i : Nat) : byt (strOfNums l) i = l.getD i 0 := by
  unfold byt strOfNums
  simp only [List.getD, List.getElem?_map]
  cases h : l[i]? with
  | none => rfl
  | some y =>
    have hy : y ∈ l := List.mem_of_getElem? h
    have := hl y hy
    simp
    omega

/-! ### check sums -/
/-- The first k bytes, in pairs, added up. -/
def tt (f : Nat → Int) : Nat → Int
  | 0 => 0
  | k + 1 => tt f k + (if k % 2 = 0 then 256 * f k else f k)
theorem tt_even (f : Nat → Int) (k : Nat) (h : k % 2 = 0) : tt f (k + 1) = tt f k + 256 * f k := by
  show tt f k + (if k % 2 = 0 then 256 * f k else f k) = _
  rw [if_pos h]
theorem tt_odd (f : Nat → Int) (k : Nat) (h : k % 2 = 1) : tt f (k + 1) = tt f k + f k := by
  show tt f k + (if k % 2 = 0 then 256 * f k else f k) = _
  rw [if_neg (by omega)]
theorem tt_bd (f : Nat → Int) (hf : ∀ i, 0 ≤ f i ∧ f i < 256) : ∀ k, 0 ≤ tt f k ∧ tt f k ≤ 32768 * k + (if k % 2 = 0 then 0 else 32512)
  | 0 => by simp [tt]
  | k + 1 => by
    have ih := tt_bd f hf k
    have := hf k
    rcases Nat.mod_two_eq_zero_or_one k with h | h
    · rw [tt_even f k h, if_neg (by omega)]
      rw [if_pos h] at ih
      omega
    · rw [tt_odd f k h, if_pos (by omega)]
      rw [if_neg (by omega)] at ih
      omega
theorem tt_le (f : Nat → Int) (hf : ∀ i, 0 ≤ f i ∧ f i < 256) (k : Nat) : 0 ≤ tt f k ∧ tt f k ≤ 32768 * k + 32512 := by
  have := tt_bd f hf k
  split at this <;> omega
theorem tt_congr (f g : Nat → Int) : ∀ k, (∀ i, i < k → f i = g i) → tt f k = tt g k
  | 0, _ => rfl
  | k + 1, h => by
    show tt f k + (if k % 2 = 0 then 256 * f k else f k) = tt g k + (if k % 2 = 0 then 256 * g k else g k)
    rw [tt_congr f g k (fun i hi => h i (by omega)), h k (by omega)]
theorem tt_add (f : Nat → Int) (m : Nat) (hm : m % 2 = 0) : ∀ k, tt f (m + k) = tt f m + tt (fun i => f (m + i)) k
  | 0 => by simp [tt]
  | k + 1 => by
    show tt f (m + k) + (if (m + k) % 2 = 0 then 256 * f (m + k) else f (m + k)) = tt f m + (tt (fun i => f (m + i)) k + (if k % 2 = 0 then 256 * f (m + k) else f (m + k)))
    rw [tt_add f m hm k]
    have : (m + k) % 2 = k % 2 := by omega
    rw [this]
    omega
/-- What is above sixteen bits, added below again until there is nothing. -/
def fold (n : Int) : Int := if n = 0 then 0 else (n - 1) % 65535 + 1
theorem fold_small (n : Int) (h0 : 0 ≤ n) (h : n ≤ 65535) : fold n = n := by
  unfold fold
  split <;> omega
theorem fold_step (n : Int) (h : 65535 < n) : fold (n / 65536 + n % 65536) = fold n := by
  unfold fold
  rw [if_neg (by omega), if_neg (by omega)]
  omega
theorem fold_pos (n : Int) (h : 0 < n) : fold n = (n - 1) % 65535 + 1 := by
  unfold fold
  rw [if_neg (by omega)]
theorem fold_bd (n : Int) : 0 ≤ fold n ∧ fold n ≤ 65535 := by
  unfold fold
  split <;> omega
/-- The check sum. -/
def ck (s : ByteArray) : Int := 65535 - fold (tt (byt s) s.size)
theorem ck_bd (s : ByteArray) : 0 ≤ ck s ∧ ck s ≤ 65535 := by
  have := fold_bd (tt (byt s) s.size)
  unfold ck
  omega
theorem tt_pad (s t : ByteArray) (h : s.size % 2 = 1) (ht : t.size = 1) (h0 : byt t 0 = 0) : tt (byt (s ++ t)) (s ++ t).size = tt (byt s) s.size := by
  have e : (s ++ t).size = s.size + 1 := by rw [ByteArray.size_append, ht]
  rw [e, tt_odd _ _ h, tt_congr (byt (s ++ t)) (byt s) s.size (fun i hi => byt_left s t i hi)]
  have := byt_right s t 0
  rw [Nat.add_zero] at this
  rw [this, h0]
  omega
theorem tt_append (s t : ByteArray) (h : s.size % 2 = 0) : tt (byt (s ++ t)) (s ++ t).size = tt (byt s) s.size + tt (byt t) t.size := by
  rw [ByteArray.size_append, tt_add _ _ h, tt_congr (byt (s ++ t)) (byt s) s.size (fun i hi => byt_left s t i hi)]
  rw [tt_congr (fun i => byt (s ++ t) (s.size + i)) (byt t) t.size (fun i _ => byt_right s t i)]
theorem u64_and16 (x : Int) (h0 : 0 ≤ x) (h : x < 18446744073709551616) : bits .and .u64 x 65535 = x % 65536 := by
  obtain ⟨a, rfl⟩ := Int.eq_ofNat_of_zero_le h0
  rw [show (65535 : Int) = ((65535 : Nat) : Int) from rfl, u64_and_nat a 65535 (by omega) (by omega), show a &&& 65535 = a % 65536 from Nat.and_two_pow_sub_one_eq_mod a 16]
  omega
end Go.Proofs.Ytndaohiecpdmlaa
