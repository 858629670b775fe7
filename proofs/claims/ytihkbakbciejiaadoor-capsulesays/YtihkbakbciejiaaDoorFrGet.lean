/-
  Numbers in bytes, as lists: written, got, cut. Plain facts; no condition.
-/
import Derived.Test.YtihkbakbciejiaaDoorRows
namespace Go.Proofs.YtihkbakbciejiaaDoor
set_option maxRecDepth 100000

abbrev L := List UInt8
def b8 (n : Nat) : UInt8 := UInt8.ofNat n
theorem b8_nat (n : Nat) : (b8 n).toNat = n % 256 := by simp [b8]
def fold (n : Nat) (l : L) : Nat := l.foldl (fun n c => n * 256 + c.toNat) n
theorem fold_lt (l : L) : ∀ n c : Nat, n < c → fold n l < c * 256 ^ l.length := by
  induction l with
  | nil => intro n c h; simpa [fold] using h
  | cons b l ih =>
    intro n c h
    have hb := UInt8.toNat_lt b
    have := ih (n * 256 + b.toNat) (c * 256) (by omega)
    rw [List.length_cons, Nat.pow_succ, Nat.mul_comm (256 ^ l.length) 256, ← Nat.mul_assoc]
    exact this
/-- How many bytes the first one says that there are. -/
def many (b : UInt8) : Nat := if b.toNat / 64 = 0 then 1 else if b.toNat / 64 = 1 then 2 else if b.toNat / 64 = 2 then 4 else 8
theorem many_pos (b : UInt8) : 1 ≤ many b ∧ many b ≤ 8 := by unfold many; split <;> (try split) <;> (try split) <;> omega
/-- The number at the front, and in how many bytes. -/
def getL : L → Option (Nat × Nat)
  | [] => none
  | b :: t => if t.length + 1 < many b then none else some (fold (b.toNat % 64) (t.take (many b - 1)), many b)
theorem getL_cons (b : UInt8) (t : L) : getL (b :: t) = if t.length + 1 < many b then none else some (fold (b.toNat % 64) (t.take (many b - 1)), many b) := rfl
/-- A number in the fewest bytes. -/
def putL (n : Nat) : L :=
  if n < 64 then [b8 n]
  else if n < 16384 then [b8 (64 + n / 256), b8 n]
  else if n < 1073741824 then [b8 (128 + n / 16777216), b8 (n / 65536), b8 (n / 256), b8 n]
  else [b8 (192 + n / 72057594037927936), b8 (n / 281474976710656), b8 (n / 1099511627776), b8 (n / 4294967296), b8 (n / 16777216), b8 (n / 65536), b8 (n / 256), b8 n]
theorem getL_put (n : Nat) (h : n < 4611686018427387904) (r : L) : getL (putL n ++ r) = some (n, (putL n).length) := by
  unfold putL
  split
  · have e : (b8 n).toNat = n := by rw [b8_nat]; omega
    have m : many (b8 n) = 1 := by unfold many; rw [e, if_pos (by omega)]
    simp [getL, m, fold, e]
    omega
  · split
    · have e : (b8 (64 + n / 256)).toNat = 64 + n / 256 := by rw [b8_nat]; omega
      have m : many (b8 (64 + n / 256)) = 2 := by unfold many; rw [e, if_neg (by omega), if_pos (by omega)]
      simp [getL, m, fold, e, b8_nat]
      omega
    · split
      · have e : (b8 (128 + n / 16777216)).toNat = 128 + n / 16777216 := by rw [b8_nat]; omega
        have m : many (b8 (128 + n / 16777216)) = 4 := by unfold many; rw [e, if_neg (by omega), if_neg (by omega), if_pos (by omega)]
        simp [getL, m, fold, e, b8_nat]
        omega
      · have e : (b8 (192 + n / 72057594037927936)).toNat = 192 + n / 72057594037927936 := by rw [b8_nat]; omega
        have m : many (b8 (192 + n / 72057594037927936)) = 8 := by unfold many; rw [e, if_neg (by omega), if_neg (by omega), if_neg (by omega)]
        simp [getL, m, fold, e, b8_nat]
        omega
theorem put_pos (n : Nat) : 1 ≤ (putL n).length := by unfold putL; split <;> (try split) <;> (try split) <;> simp
theorem getL_len {s : L} {n k : Nat} (h : getL s = some (n, k)) : 1 ≤ k ∧ k ≤ s.length := by
  cases s with
  | nil => cases h
  | cons b t =>
    rw [getL_cons] at h
    split at h
    · cases h
    · injection h with h
      injection h with _ h
      have := many_pos b
      simp
      omega
/-- A number takes no fewer bytes than it is written in; and it is one. -/
theorem getL_bound {s : L} {n k : Nat} (h : getL s = some (n, k)) : n < 4611686018427387904 ∧ (putL n).length ≤ k := by
  cases s with
  | nil => cases h
  | cons b t =>
    rw [getL_cons] at h
    split at h
    · cases h
    · rename_i hl
      injection h with h
      injection h with h1 h2
      have hf := fold_lt (t.take (many b - 1)) (b.toNat % 64) 64 (by omega)
      rw [List.length_take, Nat.min_eq_left (by omega), h1] at hf
      rw [← h2]
      have hm : many b = 1 ∨ many b = 2 ∨ many b = 4 ∨ many b = 8 := by unfold many; split <;> (try split) <;> (try split) <;> omega
      unfold putL
      rcases hm with e | e | e | e <;> rw [e] at hf ⊢ <;> simp at hf <;> refine ⟨by omega, ?_⟩
      all_goals (repeat' split) <;> first | (exfalso; omega) | simp
theorem getL_more {s : L} {n k : Nat} (h : getL s = some (n, k)) (r : L) : getL (s ++ r) = some (n, k) := by
  cases s with
  | nil => cases h
  | cons b t =>
    rw [getL_cons] at h
    split at h
    · cases h
    · rename_i hl
      rw [List.cons_append, getL_cons, if_neg (by rw [List.length_append]; omega), List.take_append_of_le_length (by omega)]
      exact h
/-- Fewer bytes of it are none. -/
theorem getL_cut {s : L} {n k : Nat} (h : getL s = some (n, k)) (j : Nat) (hj : j < k) : getL (s.take j) = none := by
  cases s with
  | nil => cases h
  | cons b t =>
    cases j with
    | zero => rfl
    | succ j =>
      rw [getL_cons] at h
      split at h
      · cases h
      · injection h with h
        injection h with _ h
        rw [List.take_succ_cons, getL_cons, if_pos (by rw [List.length_take]; omega)]
theorem getL_drop {s : L} {n k : Nat} (h : getL s = some (n, k)) (r : L) : (s ++ r).drop k = s.drop k ++ r := by
  rw [List.drop_append_of_le_length (getL_len h).2]
/-- Bytes as a list. -/
def toL (s : ByteArray) : L := s.data.toList
theorem toL_len (s : ByteArray) : (toL s).length = s.size := Array.length_toList
theorem toL_inj {s t : ByteArray} (h : toL s = toL t) : s = t := by
  obtain ⟨⟨a⟩⟩ := s
  obtain ⟨⟨b⟩⟩ := t
  simp [toL] at h
  rw [h]
theorem toL_append (s t : ByteArray) : toL (s ++ t) = toL s ++ toL t := by simp [toL]
theorem toL_empty : toL ByteArray.empty = [] := rfl
end Go.Proofs.YtihkbakbciejiaaDoor
