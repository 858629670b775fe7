/-
  Plain facts on packets that differ in their Ttl alone. No condition.
-/
import Derived.Test.YthegfidmkenkeaaIpBytes
namespace Go.Proofs.Ythegfidmkenkeaa
open Go.RowKit

theorem hop_front (tos id frag ttl ttl2 proto src dst : Int) (data : ByteArray) (s0 : 0 ≤ src) (s1 : src < 4294967296) (d0 : 0 ≤ dst) (d1 : dst < 4294967296) : (pkt tos id frag ttl2 proto src dst data).extract 0 8 = (pkt tos id frag ttl proto src dst data).extract 0 8 := by
  refine bytes_ext _ _ (by rw [ByteArray.size_extract, ByteArray.size_extract, pkt_size, pkt_size]) fun i hi => ?_
  rw [ByteArray.size_extract, pkt_size] at hi
  have hi8 : i < 8 := by omega
  rw [byt_extract _ _ _ _ (by omega), byt_extract _ _ _ _ (by omega), Nat.zero_add, pkt_byt _ _ _ _ _ _ _ _ s0 s1 d0 d1 i (by omega), pkt_byt _ _ _ _ _ _ _ _ s0 s1 d0 d1 i (by omega)]
  rcases i with _|_|_|_|_|_|_|_|i
  all_goals first | rfl | omega
theorem hop_nine (tos id frag ttl ttl2 proto src dst : Int) (data : ByteArray) (s0 : 0 ≤ src) (s1 : src < 4294967296) (d0 : 0 ≤ dst) (d1 : dst < 4294967296) : byt (pkt tos id frag ttl2 proto src dst data) 9 = byt (pkt tos id frag ttl proto src dst data) 9 := by
  rw [pkt_byt _ _ _ _ _ _ _ _ s0 s1 d0 d1 9 (by decide), pkt_byt _ _ _ _ _ _ _ _ s0 s1 d0 d1 9 (by decide)]
  rfl
theorem hop_eight (tos id frag ttl proto src dst : Int) (data : ByteArray) (h : 0 ≤ ttl ∧ ttl ≤ 255) (s0 : 0 ≤ src) (s1 : src < 4294967296) (d0 : 0 ≤ dst) (d1 : dst < 4294967296) : byt (pkt tos id frag ttl proto src dst data) 8 = ttl := by
  rw [pkt_byt _ _ _ _ _ _ _ _ s0 s1 d0 d1 8 (by decide)]
  show ttl % 256 = ttl
  omega
theorem hop_rest (tos id frag ttl ttl2 proto src dst : Int) (data : ByteArray) (s0 : 0 ≤ src) (s1 : src < 4294967296) (d0 : 0 ≤ dst) (d1 : dst < 4294967296) : (pkt tos id frag ttl2 proto src dst data).extract 12 (20 + data.size) = (pkt tos id frag ttl proto src dst data).extract 12 (20 + data.size) := by
  refine bytes_ext _ _ (by rw [ByteArray.size_extract, ByteArray.size_extract, pkt_size, pkt_size]) fun i hi => ?_
  rw [ByteArray.size_extract, pkt_size] at hi
  rw [byt_extract _ _ _ _ (by omega), byt_extract _ _ _ _ (by omega)]
  rcases Nat.lt_or_ge i 8 with h8 | h8
  · rw [pkt_byt _ _ _ _ _ _ _ _ s0 s1 d0 d1 _ (by omega), pkt_byt _ _ _ _ _ _ _ _ s0 s1 d0 d1 _ (by omega)]
    rcases i with _|_|_|_|_|_|_|_|i
    all_goals first | rfl | omega
  · obtain ⟨j, rfl⟩ : ∃ j, i = 8 + j := ⟨i - 8, by omega⟩
    have R := fun t => byt_right (strOfNums (hb tos (20 + data.size) id frag t proto (ck (h0 tos id frag t proto src dst data)) src dst)) data j
    have R1 := R ttl
    have R2 := R ttl2
    rw [hb_size] at R1 R2
    unfold pkt
    rw [show 12 + (8 + j) = 20 + j by omega, R1, R2]
end Go.Proofs.Ythegfidmkenkeaa
