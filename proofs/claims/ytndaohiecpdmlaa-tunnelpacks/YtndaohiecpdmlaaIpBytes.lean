/-
  Plain facts on a packet's bytes: what is written is what is read, and what is read is what is written. No condition but those that are named.
-/
import Derived.Test.YtndaohiecpdmlaaIpBuild
import Derived.Test.YtndaohiecpdmlaaIpParse
namespace Go.Proofs.Ytndaohiecpdmlaa
open Go.RowKit

theorem bytes_ext (s t : ByteArray) (hz : s.size = t.size) (h : ∀ i, i < s.size → byt s i = byt t i) : s = t := by
  apply ByteArray.ext
  apply Array.ext
  · simpa using hz
  · intro i h1 h2
    have h1' : i < s.size := by simpa using h1
    have h2' : i < t.size := by simpa using h2
    have := h i h1'
    rw [← byt_eq s i h1', ← byt_eq t i h2'] at this
    have e : s[i].toNat = t[i].toNat := by omega
    have := UInt8.toNat_inj.1 e
    exact this
theorem num1 (f : Nat → Int) (p : Nat) : num f p 1 = f p := by simp [num]
theorem num2 (f : Nat → Int) (p : Nat) : num f p 2 = f p * 256 + f (p + 1) := by simp [num]
theorem num4 (f : Nat → Int) (p : Nat) : num f p 4 = ((f p * 256 + f (p + 1)) * 256 + f (p + 2)) * 256 + f (p + 3) := by simp [num]
theorem hb_bd (tos len id frag ttl proto sum src dst : Int) (s0 : 0 ≤ src) (s1 : src < 4294967296) (d0 : 0 ≤ dst) (d1 : dst < 4294967296) : ∀ y ∈ hb tos len id frag ttl proto sum src dst, 0 ≤ y ∧ y < 256 := by
  intro y hy
  simp only [hb, List.mem_cons, List.not_mem_nil, or_false] at hy
  rcases hy with rfl | rfl | rfl | rfl | rfl | rfl | rfl | rfl | rfl | rfl | rfl | rfl | rfl | rfl | rfl | rfl | rfl | rfl | rfl | rfl <;> omega
theorem hb_size (tos len id frag ttl proto sum src dst : Int) : (strOfNums (hb tos len id frag ttl proto sum src dst)).size = 20 := strOfNums_size _
theorem hb_byt (tos len id frag ttl proto sum src dst : Int) (s0 : 0 ≤ src) (s1 : src < 4294967296) (d0 : 0 ≤ dst) (d1 : dst < 4294967296) (i : Nat) :
    byt (strOfNums (hb tos len id frag ttl proto sum src dst)) i = (hb tos len id frag ttl proto sum src dst).getD i 0 := byt_nums _ (hb_bd _ _ _ _ _ _ _ _ _ s0 s1 d0 d1) i

/-- Twenty bytes with two of them put in. -/
theorem right_bytes (s t : ByteArray) (h : 20 ≤ s.size) (ht : t.size = 20) (h10 : byt t 10 = 0) (h11 : byt t 11 = 0) (hi : ∀ i, i < 20 → i ≠ 10 → i ≠ 11 → byt t i = byt s i) :
    t = s.extract 0 10 ++ ByteArray.mk #[0, 0] ++ s.extract 12 20 := by
  have z1 : (s.extract 0 10).size = 10 := by rw [ByteArray.size_extract]; omega
  have z2 : (s.extract 0 10 ++ ByteArray.mk #[0, 0]).size = 12 := by rw [ByteArray.size_append, z1]; rfl
  refine bytes_ext _ _ (by rw [ht, right_size s h]) fun i hl => ?_
  rw [ht] at hl
  rcases (show i < 10 ∨ i = 10 ∨ i = 11 ∨ 12 ≤ i by omega) with a | rfl | rfl | a
  · rw [byt_left _ _ _ (by omega), byt_left _ _ _ (by omega), byt_extract _ _ _ _ (by omega), hi i hl (by omega) (by omega), Nat.zero_add]
  · rw [byt_left _ _ _ (by omega), h10]
    have := byt_right (s.extract 0 10) (ByteArray.mk #[0, 0]) 0
    rw [z1] at this
    rw [this]
    rfl
  · rw [byt_left _ _ _ (by omega), h11]
    have := byt_right (s.extract 0 10) (ByteArray.mk #[0, 0]) 1
    rw [z1] at this
    rw [this]
    rfl
  · obtain ⟨j, rfl⟩ : ∃ j, i = 12 + j := ⟨i - 12, by omega⟩
    have := byt_right (s.extract 0 10 ++ ByteArray.mk #[0, 0]) (s.extract 12 20) j
    rw [z2] at this
    rw [this, byt_extract _ _ _ _ (by omega)]
    exact hi _ hl (by omega) (by omega)

/-! ### what is written is read -/
theorem pkt_size (tos id frag ttl proto src dst : Int) (data : ByteArray) : (pkt tos id frag ttl proto src dst data).size = 20 + data.size := by
  unfold pkt
  rw [ByteArray.size_append, hb_size]
theorem pkt_byt (tos id frag ttl proto src dst : Int) (data : ByteArray) (s0 : 0 ≤ src) (s1 : src < 4294967296) (d0 : 0 ≤ dst) (d1 : dst < 4294967296) (i : Nat) (hi : i < 20) :
    byt (pkt tos id frag ttl proto src dst data) i = (hb tos (20 + data.size) id frag ttl proto (ck (h0 tos id frag ttl proto src dst data)) src dst).getD i 0 := by
  unfold pkt
  rw [byt_left _ _ _ (by rw [hb_size]; exact hi), hb_byt _ _ _ _ _ _ _ _ _ s0 s1 d0 d1]
theorem pkt_right (tos id frag ttl proto src dst : Int) (data : ByteArray) (s0 : 0 ≤ src) (s1 : src < 4294967296) (d0 : 0 ≤ dst) (d1 : dst < 4294967296) :
    right (pkt tos id frag ttl proto src dst data) = ck (h0 tos id frag ttl proto src dst data) := by
  unfold right
  rw [← right_bytes (pkt tos id frag ttl proto src dst data) (h0 tos id frag ttl proto src dst data) (by rw [pkt_size]; omega) (h0_size _ _ _ _ _ _ _ _)]
  · unfold h0; rw [hb_byt _ _ _ _ _ _ _ _ _ s0 s1 d0 d1]; rfl
  · unfold h0; rw [hb_byt _ _ _ _ _ _ _ _ _ s0 s1 d0 d1]; rfl
  · intro i hi h10 h11
    rw [pkt_byt _ _ _ _ _ _ _ _ s0 s1 d0 d1 i hi]
    unfold h0
    rw [hb_byt _ _ _ _ _ _ _ _ _ s0 s1 d0 d1]
    rcases i with _|_|_|_|_|_|_|_|_|_|_|_|_|_|_|_|_|_|_|_|i
    all_goals first | rfl | omega
theorem pkt_data (tos id frag ttl proto src dst : Int) (data : ByteArray) : (pkt tos id frag ttl proto src dst data).extract 20 (pkt tos id frag ttl proto src dst data).size = data := by
  have hz := pkt_size tos id frag ttl proto src dst data
  refine bytes_ext _ _ (by rw [ByteArray.size_extract, hz]; omega) fun i hi => ?_
  rw [ByteArray.size_extract, hz] at hi
  rw [byt_extract _ _ _ _ (by omega)]
  unfold pkt
  have := byt_right (strOfNums (hb tos (20 + data.size) id frag ttl proto (ck (h0 tos id frag ttl proto src dst data)) src dst)) data i
  rwa [hb_size] at this
theorem pkt_good (tos id frag ttl proto src dst : Int) (data : ByteArray) (hl : data.size ≤ 65515) (s0 : 0 ≤ src) (s1 : src < 4294967296) (d0 : 0 ≤ dst) (d1 : dst < 4294967296) : Good (pkt tos id frag ttl proto src dst data) := by
  have B := pkt_byt tos id frag ttl proto src dst data s0 s1 d0 d1
  have cb := ck_bd (h0 tos id frag ttl proto src dst data)
  refine ⟨by rw [pkt_size]; omega, ?_, ?_, ?_⟩
  · rw [num1, B 0 (by decide)]; rfl
  · unfold said
    rw [num2, B 2 (by decide), B 3 (by decide), pkt_size]
    simp only [hb, List.getD_cons_succ, List.getD_cons_zero]
    omega
  · rw [pkt_right _ _ _ _ _ _ _ _ s0 s1 d0 d1, num2, B 10 (by decide), B 11 (by decide)]
    simp only [hb, List.getD_cons_succ, List.getD_cons_zero]
    omega
theorem pkt_hd (tos id frag ttl proto src dst : Int) (data : ByteArray) (hk : HOK tos id frag ttl proto) (s0 : 0 ≤ src) (s1 : src < 4294967296) (d0 : 0 ≤ dst) (d1 : dst < 4294967296) :
    hdOf (pkt tos id frag ttl proto src dst data) = hv tos id frag ttl proto src dst data := by
  have B := pkt_byt tos id frag ttl proto src dst data s0 s1 d0 d1
  obtain ⟨h1, h2, h3, h4, h5⟩ := hk
  have e1 : tos % 256 = tos := by omega
  have e2 : id / 256 % 256 * 256 + id % 256 = id := by omega
  have e3 : frag / 256 % 256 * 256 + frag % 256 = frag := by omega
  have e4 : ttl % 256 = ttl := by omega
  have e5 : proto % 256 = proto := by omega
  have e6 : ((src / 16777216 * 256 + src / 65536 % 256) * 256 + src / 256 % 256) * 256 + src % 256 = src := by omega
  have e7 : ((dst / 16777216 * 256 + dst / 65536 % 256) * 256 + dst / 256 % 256) * 256 + dst % 256 = dst := by omega
  unfold hdOf
  rw [pkt_data, num1, num2, num2, num1, num1, num4, num4, B 1 (by decide), B 4 (by decide), B (4 + 1) (by decide), B 6 (by decide), B (6 + 1) (by decide), B 8 (by decide), B 9 (by decide), B 12 (by decide), B (12 + 1) (by decide), B (12 + 2) (by decide), B (12 + 3) (by decide), B 16 (by decide), B (16 + 1) (by decide), B (16 + 2) (by decide), B (16 + 3) (by decide)]
  simp only [hb, List.getD_cons_succ, List.getD_cons_zero]
  rw [e1, e2, e3, e4, e5, e6, e7]

/-! ### what is read is written -/
def pktOf (s : ByteArray) : ByteArray := pkt (num (byt s) 1 1) (num (byt s) 4 2) (num (byt s) 6 2) (num (byt s) 8 1) (num (byt s) 9 1) (num (byt s) 12 4) (num (byt s) 16 4) (s.extract 20 s.size)
theorem hok_of (s : ByteArray) : HOK (num (byt s) 1 1) (num (byt s) 4 2) (num (byt s) 6 2) (num (byt s) 8 1) (num (byt s) 9 1) := by
  have a1 := num1_bd s 1; have a2 := num2_bd s 4; have a3 := num2_bd s 6; have a4 := num1_bd s 8; have a5 := num1_bd s 9
  unfold HOK
  omega
theorem data_size (s : ByteArray) (h : 20 ≤ s.size) : 20 + ((s.extract 20 s.size).size : Int) = s.size := by
  rw [ByteArray.size_extract]; omega
/-- A byte of the fields of some bytes, written again: the byte itself, but for the sum. -/
theorem again_byt (s : ByteArray) (c : Int) (h20 : 20 ≤ s.size) (hf : num (byt s) 0 1 = 69) (hl : said s = s.size) (i : Nat) (hi : i < 20) (h10 : i ≠ 10) (h11 : i ≠ 11) :
    (hb (num (byt s) 1 1) (20 + ((s.extract 20 s.size).size : Int)) (num (byt s) 4 2) (num (byt s) 6 2) (num (byt s) 8 1) (num (byt s) 9 1) c (num (byt s) 12 4) (num (byt s) 16 4)).getD i 0 = byt s i := by
  rw [data_size s h20, ← hl]
  unfold said
  rw [num1] at hf
  rw [num1, num2, num2, num2, num1, num1, num4, num4]
  have b := byt_bd s
  have c0 := b 0; have c1 := b 1; have c2 := b 2; have c3 := b (2 + 1); have c4 := b 4; have c5 := b (4 + 1); have c6 := b 6; have c7 := b (6 + 1); have c8 := b 8; have c9 := b 9
  have c12 := b 12; have c13 := b (12 + 1); have c14 := b (12 + 2); have c15 := b (12 + 3); have c16 := b 16; have c17 := b (16 + 1); have c18 := b (16 + 2); have c19 := b (16 + 3)
  clear b
  rcases i with _|_|_|_|_|_|_|_|_|_|_|_|_|_|_|_|_|_|_|_|i
  all_goals first | contradiction | omega | (simp only [hb, List.getD_cons_succ, List.getD_cons_zero, Nat.zero_add, Nat.reduceAdd] at *; omega)
theorem again_sum (s : ByteArray) (h20 : 20 ≤ s.size) (hf : num (byt s) 0 1 = 69) (hl : said s = s.size) :
    ck (h0 (num (byt s) 1 1) (num (byt s) 4 2) (num (byt s) 6 2) (num (byt s) 8 1) (num (byt s) 9 1) (num (byt s) 12 4) (num (byt s) 16 4) (s.extract 20 s.size)) = right s := by
  have s1 := num4_bd s 12
  have d1 := num4_bd s 16
  unfold right
  rw [← right_bytes s (h0 (num (byt s) 1 1) (num (byt s) 4 2) (num (byt s) 6 2) (num (byt s) 8 1) (num (byt s) 9 1) (num (byt s) 12 4) (num (byt s) 16 4) (s.extract 20 s.size)) h20 (h0_size _ _ _ _ _ _ _ _)]
  · unfold h0; rw [hb_byt _ _ _ _ _ _ _ _ _ s1.1 s1.2 d1.1 d1.2]; rfl
  · unfold h0; rw [hb_byt _ _ _ _ _ _ _ _ _ s1.1 s1.2 d1.1 d1.2]; rfl
  · intro i hi h10 h11
    unfold h0
    rw [hb_byt _ _ _ _ _ _ _ _ _ s1.1 s1.2 d1.1 d1.2]
    exact again_byt s 0 h20 hf hl i hi h10 h11
theorem again_eq (s : ByteArray) (h20 : 20 ≤ s.size) (hf : num (byt s) 0 1 = 69) (hl : said s = s.size) : pktOf s = s ↔ num (byt s) 10 2 = right s := by
  have s1 := num4_bd s 12
  have d1 := num4_bd s 16
  have B := fun i hi => pkt_byt (num (byt s) 1 1) (num (byt s) 4 2) (num (byt s) 6 2) (num (byt s) 8 1) (num (byt s) 9 1) (num (byt s) 12 4) (num (byt s) 16 4) (s.extract 20 s.size) s1.1 s1.2 d1.1 d1.2 i hi
  rw [again_sum s h20 hf hl] at B
  have cb := ck_bd (s.extract 0 10 ++ ByteArray.mk #[0, 0] ++ s.extract 12 20)
  change 0 ≤ right s ∧ right s ≤ 65535 at cb
  have g10 : byt (pktOf s) 10 = right s / 256 % 256 := B 10 (by decide)
  have g11 : byt (pktOf s) 11 = right s % 256 := B 11 (by decide)
  have a10 := byt_bd s 10
  have a11 := byt_bd s 11
  constructor
  · intro h
    rw [h] at g10 g11
    rw [num2]
    simp only [Nat.reduceAdd]
    omega
  · intro h
    rw [num2] at h
    simp only [Nat.reduceAdd] at h
    have hz : (pktOf s).size = s.size := by
      unfold pktOf
      rw [pkt_size, ByteArray.size_extract]; omega
    refine bytes_ext _ _ hz fun i hi => ?_
    rw [hz] at hi
    rcases (show i = 10 ∨ i = 11 ∨ (i < 20 ∧ i ≠ 10 ∧ i ≠ 11) ∨ 20 ≤ i by omega) with rfl | rfl | ⟨a, b, c⟩ | a
    · rw [g10]; omega
    · rw [g11]; omega
    · unfold pktOf
      rw [B i a]
      exact again_byt s _ h20 hf hl i a b c
    · obtain ⟨j, rfl⟩ : ∃ j, i = 20 + j := ⟨i - 20, by omega⟩
      unfold pktOf pkt
      have := byt_right (strOfNums (hb (num (byt s) 1 1) (20 + ((s.extract 20 s.size).size : Int)) (num (byt s) 4 2) (num (byt s) 6 2) (num (byt s) 8 1) (num (byt s) 9 1) (ck (h0 (num (byt s) 1 1) (num (byt s) 4 2) (num (byt s) 6 2) (num (byt s) 8 1) (num (byt s) 9 1) (num (byt s) 12 4) (num (byt s) 16 4) (s.extract 20 s.size))) (num (byt s) 12 4) (num (byt s) 16 4))) (s.extract 20 s.size) j
      rw [hb_size] at this
      rw [this, byt_extract _ _ _ _ (by omega)]
theorem again_good (s : ByteArray) (h : Good s) : pktOf s = s := (again_eq s h.1 h.2.1 h.2.2.1).2 h.2.2.2
end Go.Proofs.Ytndaohiecpdmlaa
