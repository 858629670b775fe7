/-
  Plain facts on the digest: its blocks one behind the other, its last block or two, the digest of abc, and keys of the code that are alike. No condition but the lengths named.
-/
import Derived.Test.YtbicfhilehllnaaGreatDoorShHmac
namespace Go.Proofs.YtbicfhilehllnaaGreatDoor
set_option maxRecDepth 100000
open Go.RowKit

/-- What n blocks make of eight numbers. -/
def from_ (o : St) (b : List Nat) : Nat → St
  | 0 => o
  | n + 1 => blk (from_ o b n) ((b.drop (64 * n)).take 64)
theorem from_st0 (b : List Nat) : ∀ n, from_ st0 b n = blks b n
  | 0 => rfl
  | n + 1 => by rw [from_, blks, from_st0 b n]
theorem from_add (o : St) (b : List Nat) (n : Nat) : ∀ m, from_ o b (n + m) = from_ (from_ o b n) (b.drop (64 * n)) m
  | 0 => rfl
  | m + 1 => by
    have e : 64 * (n + m) = 64 * n + 64 * m := by omega
    rw [← Nat.add_assoc, from_, from_, from_add o b n m, List.drop_drop, e]
theorem from_app (o : St) (a b : List Nat) : ∀ n, 64 * n ≤ a.length → from_ o (a ++ b) n = from_ o a n
  | 0, _ => rfl
  | n + 1, h => by
    have e : ((a ++ b).drop (64 * n)).take 64 = (a.drop (64 * n)).take 64 := by
      rw [List.drop_append_of_le_length (by omega), List.take_append_of_le_length (by rw [List.length_drop]; omega)]
    rw [from_, from_, from_app o a b n (by omega), e]
theorem blks_add (b : List Nat) (n m : Nat) : blks b (n + m) = from_ (blks b n) (b.drop (64 * n)) m := by rw [← from_st0, from_add, from_st0]
theorem blks_app (a b : List Nat) (n : Nat) (h : 64 * n ≤ a.length) : blks (a ++ b) n = blks a n := by rw [← from_st0, from_app _ _ _ _ h, from_st0]
/-- What comes behind whole blocks: the rest of a text of n bytes, and what closes it. -/
def rest (r : List Nat) (n : Nat) : List Nat := r ++ 128 :: (List.replicate ((119 - n % 64) % 64) 0 ++ be (8 * n) 8)
theorem rest_length (r : List Nat) (n : Nat) : (rest r n).length = r.length + 9 + (119 - n % 64) % 64 := by simp [rest, be_length]; omega
/-- The digest by the numbers that the whole blocks left and the rest of the text. -/
theorem dig_rest (l : List Nat) (n : Nat) (h : 64 * n ≤ l.length) :
    dig l = (from_ (blks l n) (rest (l.drop (64 * n)) l.length) ((rest (l.drop (64 * n)) l.length).length / 64)).list.flatMap fun x => be x 4 := by
  have e : pad l = rest l l.length := rfl
  have e2 : (pad l).drop (64 * n) = rest (l.drop (64 * n)) l.length := by
    rw [e, rest, List.drop_append_of_le_length h, rest]
  have e3 : (pad l).length / 64 = n + (rest (l.drop (64 * n)) l.length).length / 64 := by
    rw [e, rest_length, rest_length, List.length_drop]; omega
  have e4 : blks (pad l) n = blks l n := by rw [e, rest, blks_app _ _ _ h]
  unfold dig
  rw [e3, blks_add, e2, e4]
/-- The rest of less than 56 bytes closes in one block, that of 56 to 63 in two. -/
theorem rest_one (l : List Nat) (h : l.length % 64 < 56) : (rest (l.drop (64 * (l.length / 64))) l.length).length = 64 := by
  rw [rest_length, List.length_drop]; omega
theorem rest_two (l : List Nat) (h : 56 ≤ l.length % 64) : (rest (l.drop (64 * (l.length / 64))) l.length).length = 128 := by
  rw [rest_length, List.length_drop]; omega
/-- The chapter's first example. -/
theorem dig_abc : dig [97, 98, 99] = [0xba, 0x78, 0x16, 0xbf, 0x8f, 0x01, 0xcf, 0xea, 0x41, 0x41, 0x40, 0xde, 0x5d, 0xae, 0x22, 0x23, 0xb0, 0x03, 0x61, 0xa3, 0x96, 0x17, 0x7a, 0x9c, 0xb4, 0x10, 0xff, 0x61, 0xf2, 0x00, 0x15, 0xad] := by decide +kernel
theorem dig_none : dig [] = [0xe3, 0xb0, 0xc4, 0x42, 0x98, 0xfc, 0x1c, 0x14, 0x9a, 0xfb, 0xf4, 0xc8, 0x99, 0x6f, 0xb9, 0x24, 0x27, 0xae, 0x41, 0xe4, 0x64, 0x9b, 0x93, 0x4c, 0xa4, 0x95, 0x99, 0x1b, 0x78, 0x52, 0xb8, 0x55] := by decide +kernel
/-- A key of more than 64 bytes is as its digest. -/
theorem hm_long (key l : List Nat) (h : 64 < key.length) : hm key l = hm (dig key) l := by
  have e : kk key = dig key := if_pos h
  have e2 : kk (dig key) = dig key := if_neg (by rw [dig_length]; omega)
  unfold hm; rw [e, e2]
theorem tby_zeros (key : List Nat) (k b n : Nat) : tby (key ++ List.replicate k 0) b n = tby key b n := by
  unfold tby
  refine List.map_congr_left fun i _ => ?_
  congr 1
  simp only [List.getD]
  rcases Nat.lt_or_ge i key.length with hi | hi
  · rw [List.getElem?_append_left hi]
  · rw [List.getElem?_append_right hi, List.getElem?_eq_none hi, List.getElem?_replicate]
    split <;> rfl
/-- A key with bytes 0 behind, up to 64, is as without them. -/
theorem hm_zeros (key l : List Nat) (k : Nat) (h : key.length + k ≤ 64) : hm (key ++ List.replicate k 0) l = hm key l := by
  have e : kk (key ++ List.replicate k 0) = key ++ List.replicate k 0 := if_neg (by simp; omega)
  have e2 : kk key = key := if_neg (by omega)
  unfold hm; rw [e, e2, tby_zeros, tby_zeros]
/-- A number in bytes, from its highest on. -/
theorem be_cons (m : Nat) : ∀ j, be m (j + 1) = (m / 256 ^ j % 256) :: be m j
  | 0 => by simp [be]
  | j + 1 => by
    have ih := be_cons (m / 256) j
    show be (m / 256) (j + 1) ++ [m % 256] = (m / 256 ^ (j + 1) % 256) :: (be (m / 256) j ++ [m % 256])
    rw [ih, Nat.div_div_eq_div_mul, ← Nat.pow_succ']
    rfl
theorem hm_length (key l : List Nat) : (hm key l).length = 32 := dig_length _
end Go.Proofs.YtbicfhilehllnaaGreatDoor
