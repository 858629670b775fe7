/-
  Plain facts: a byte of a packet's header that is turned makes its check sum wrong; and bytes of a string, one of them stored anew. No condition but those that are named.
-/
import Derived.Test.YthegfidmkenkeaaIpBytes
import Derived.Lib.ConvBytes
namespace Go.Proofs.Ythegfidmkenkeaa
open Go.RowKit

theorem right_byt (s : ByteArray) (h : 20 ≤ s.size) (i : Nat) (hl : i < 20) : byt (s.extract 0 10 ++ ByteArray.mk #[0, 0] ++ s.extract 12 20) i = if i = 10 ∨ i = 11 then 0 else byt s i := by
  have z1 : (s.extract 0 10).size = 10 := by rw [ByteArray.size_extract]; omega
  have z2 : (s.extract 0 10 ++ ByteArray.mk #[0, 0]).size = 12 := by rw [ByteArray.size_append, z1]; rfl
  rcases (show i < 10 ∨ i = 10 ∨ i = 11 ∨ 12 ≤ i by omega) with a | rfl | rfl | a
  · rw [if_neg (by omega), byt_left _ _ _ (by omega), byt_left _ _ _ (by omega), byt_extract _ _ _ _ (by omega), Nat.zero_add]
  · rw [if_pos (by omega), byt_left _ _ _ (by omega)]
    have := byt_right (s.extract 0 10) (ByteArray.mk #[0, 0]) 0
    rw [z1] at this
    rw [this]
    rfl
  · rw [if_pos (by omega), byt_left _ _ _ (by omega)]
    have := byt_right (s.extract 0 10) (ByteArray.mk #[0, 0]) 1
    rw [z1] at this
    rw [this]
    rfl
  · obtain ⟨j, rfl⟩ : ∃ j, i = 12 + j := ⟨i - 12, by omega⟩
    have := byt_right (s.extract 0 10 ++ ByteArray.mk #[0, 0]) (s.extract 12 20) j
    rw [z2] at this
    rw [if_neg (by omega), this, byt_extract _ _ _ _ (by omega)]
def T (f : Nat → Int) : Int := 256 * f 0 + f 1 + 256 * f 2 + f 3 + 256 * f 4 + f 5 + 256 * f 6 + f 7 + 256 * f 8 + f 9 + 256 * f 12 + f 13 + 256 * f 14 + f 15 + 256 * f 16 + f 17 + 256 * f 18 + f 19
theorem right_T (s : ByteArray) (h : 20 ≤ s.size) : right s = 65535 - fold (T (byt s)) := by
  unfold right ck
  rw [right_size s h, tt_congr _ (fun i => if i = 10 ∨ i = 11 then 0 else byt s i) 20 (fun i hi => right_byt s h i hi)]
  congr 2
  simp [tt, T]
theorem T_turn (f g : Nat → Int) (k : Nat) (hk : k < 20) (h0 : k ≠ 0) (h2 : k ≠ 2) (h3 : k ≠ 3) (ho : ∀ i, i ≠ k → g i = f i) :
    (k = 10 ∨ k = 11) ∧ T g = T f ∨ (k ≠ 10 ∧ k ≠ 11) ∧ (T g = T f + 256 * (g k - f k) ∨ T g = T f + (g k - f k)) := by
  have q0 := ho 0
  have q1 := ho 1
  have q2 := ho 2
  have q3 := ho 3
  have q4 := ho 4
  have q5 := ho 5
  have q6 := ho 6
  have q7 := ho 7
  have q8 := ho 8
  have q9 := ho 9
  have q12 := ho 12
  have q13 := ho 13
  have q14 := ho 14
  have q15 := ho 15
  have q16 := ho 16
  have q17 := ho 17
  have q18 := ho 18
  have q19 := ho 19
  clear ho
  unfold T
  rcases (show k = 1 ∨ k = 4 ∨ k = 5 ∨ k = 6 ∨ k = 7 ∨ k = 8 ∨ k = 9 ∨ k = 10 ∨ k = 11 ∨ k = 12 ∨ k = 13 ∨ k = 14 ∨ k = 15 ∨ k = 16 ∨ k = 17 ∨ k = 18 ∨ k = 19 by omega) with rfl | rfl | rfl | rfl | rfl | rfl | rfl | rfl | rfl | rfl | rfl | rfl | rfl | rfl | rfl | rfl | rfl
  · exact .inr ⟨by omega, .inr (by omega)⟩
  · exact .inr ⟨by omega, .inl (by omega)⟩
  · exact .inr ⟨by omega, .inr (by omega)⟩
  · exact .inr ⟨by omega, .inl (by omega)⟩
  · exact .inr ⟨by omega, .inr (by omega)⟩
  · exact .inr ⟨by omega, .inl (by omega)⟩
  · exact .inr ⟨by omega, .inr (by omega)⟩
  · exact .inl ⟨by omega, by omega⟩
  · exact .inl ⟨by omega, by omega⟩
  · exact .inr ⟨by omega, .inl (by omega)⟩
  · exact .inr ⟨by omega, .inr (by omega)⟩
  · exact .inr ⟨by omega, .inl (by omega)⟩
  · exact .inr ⟨by omega, .inr (by omega)⟩
  · exact .inr ⟨by omega, .inl (by omega)⟩
  · exact .inr ⟨by omega, .inr (by omega)⟩
  · exact .inr ⟨by omega, .inl (by omega)⟩
  · exact .inr ⟨by omega, .inr (by omega)⟩
theorem told_err (s t : ByteArray) (k : Nat) (g : Good s) (hz : t.size = s.size) (hk : k < 20) (h0 : k ≠ 0) (h2 : k ≠ 2) (h3 : k ≠ 3) (hv : byt t k ≠ byt s k) (ho : ∀ i, i ≠ k → byt t i = byt s i) : errOf t = 9 := by
  obtain ⟨g1, g2, g3, g4⟩ := g
  have e0 := ho 0 (Ne.symm h0)
  have e2 := ho 2 (Ne.symm h2)
  have e3 := ho 3 (Ne.symm h3)
  have hsaid : said t = said s := by unfold said; rw [num2, num2]; simp only [Nat.reduceAdd]; rw [e2, e3]
  have hne : num (byt t) 10 2 ≠ right t := by
    rw [num1] at g2
    rw [num2] at g4 ⊢
    rw [right_T s g1] at g4
    rw [right_T t (by omega)]
    simp only [Nat.reduceAdd] at g4 ⊢
    have bs := byt_bd s
    have bt := byt_bd t
    have ps : 0 < T (byt s) := by
      have a1 := bs 1; have a2 := bs 2; have a3 := bs 3; have a4 := bs 4; have a5 := bs 5; have a6 := bs 6; have a7 := bs 7; have a8 := bs 8; have a9 := bs 9; have a12 := bs 12; have a13 := bs 13; have a14 := bs 14; have a15 := bs 15; have a16 := bs 16; have a17 := bs 17; have a18 := bs 18; have a19 := bs 19
      unfold T; omega
    have pt : 0 < T (byt t) := by
      have a1 := bt 1; have a2 := bt 2; have a3 := bt 3; have a4 := bt 4; have a5 := bt 5; have a6 := bt 6; have a7 := bt 7; have a8 := bt 8; have a9 := bt 9; have a12 := bt 12; have a13 := bt 13; have a14 := bt 14; have a15 := bt 15; have a16 := bt 16; have a17 := bt 17; have a18 := bt 18; have a19 := bt 19
      unfold T; omega
    rw [fold_pos _ ps] at g4
    rw [fold_pos _ pt]
    have bk := bs k
    have bk' := bt k
    have hT := T_turn (byt s) (byt t) k hk h0 h2 h3 ho
    rcases hT with ⟨hk', hT⟩ | ⟨⟨k1, k2⟩, hT⟩
    · rw [hT]
      rcases hk' with rfl | rfl
      · have := ho 11 (by decide); omega
      · have := ho 10 (by decide); omega
    · have e10 := ho 10 (Ne.symm k1)
      have e11 := ho 11 (Ne.symm k2)
      rw [e10, e11]
      omega
  unfold errOf
  rw [if_neg (by omega), if_neg (by rw [num1, e0]; rw [num1] at g2; simp [g2]), if_neg (by rw [hsaid]; omega), if_neg (by rw [hsaid]; omega), if_pos hne]

/-! ### one byte stored anew -/
def bl (s : ByteArray) : List Int := s.data.toList.map fun b => (b.toNat : Int)
theorem bl_length (s : ByteArray) : (bl s).length = s.size := by simp [bl]
theorem bl_get (s : ByteArray) (i : Nat) (h : i < s.size) : (bl s)[i]? = some (byt s i) := by
  unfold bl byt
  have h' : i < s.data.toList.length := by simpa using h
  simp [List.getElem?_eq_getElem h', List.getD]
def turned (s : ByteArray) (k : Nat) (v : Int) : ByteArray := strOfNums ((bl s).set k v)
theorem turned_size (s : ByteArray) (k : Nat) (v : Int) : (turned s k v).size = s.size := by
  unfold turned; rw [strOfNums_size, List.length_set, bl_length]
theorem turned_byt (s : ByteArray) (k : Nat) (v : Int) (hk : k < s.size) (h0 : 0 ≤ v) (h : v < 256) (i : Nat) : byt (turned s k v) i = if i = k then v else byt s i := by
  unfold turned
  rw [byt_nums]
  · rcases Nat.lt_or_ge i s.size with hi | hi
    · by_cases e : i = k
      · subst e
        rw [if_pos rfl, List.getD, List.getElem?_set_self (by rw [bl_length]; exact hi)]
        rfl
      · rw [if_neg e, List.getD, List.getElem?_set_ne (Ne.symm e), bl_get s i hi]
        rfl
    · rw [if_neg (by omega), byt_past s i hi, List.getD, List.getElem?_eq_none (by rw [List.length_set, bl_length]; exact hi)]
      rfl
  · intro y hy
    rcases List.mem_or_eq_of_mem_set hy with hy | rfl
    · unfold bl at hy
      obtain ⟨b, _, rfl⟩ := List.mem_map.1 hy
      have := b.toNat_lt
      omega
    · exact ⟨h0, h⟩
theorem tb_conv (w : World) (s : ByteArray) :
    (convert 9 36 (.string s)).run Try.prog w = .ok (.slice (some ⟨w.heap.size, 0, none⟩) s.size (grownCap w s.size 0 5)) (Lib.bytesWorld w 5 s) :=
  Lib.run_convert_string_bytes w 9 36 5 s Try.underlying9 Try.underlying36 Try.underlying5
theorem tb_cell (w : World) (s : ByteArray) (j : Nat) (hj : j < s.size) : (Lib.bytesWorld w 5 s).cell? ⟨w.heap.size, j, none⟩ = some (.int .u8 (byt s j)) := by
  rw [Lib.bytesWorld_cell w 5 _ j hj]
  have h' : j < s.data.toList.length := by simpa using hj
  simp [byt, List.getD, List.getElem?_eq_getElem h']
theorem tb_frozen (w : World) (s : ByteArray) (j : Nat) (hj : j < s.size) : (Lib.bytesWorld w 5 s).frozen? ⟨w.heap.size, j, none⟩ = false := by
  have hz : s.size ≤ (Lib.bytesCells w 5 s).size := by simp [Lib.bytesCells]
  simp only [World.frozen?, Lib.bytesWorld_at_new]
  simp
  omega
theorem tb_below (w : World) (s : ByteArray) : Below w.heap.size w (Lib.bytesWorld w 5 s) := by
  refine ⟨rfl, rfl, rfl, ?_, fun k hk => Lib.bytesWorld_at_old w 5 s k hk⟩
  rw [Lib.bytesWorld_size]; omega
theorem tb_back (w : World) (s : ByteArray) (k c : Nat) (v : Int) (hk : k < s.size) :
    (convert 36 9 (.slice (some ⟨w.heap.size, 0, none⟩) s.size c)).run Try.prog ((Lib.bytesWorld w 5 s).setCell ⟨w.heap.size, k, none⟩ (.int .u8 v)) = .ok (.string (turned s k v)) ((Lib.bytesWorld w 5 s).setCell ⟨w.heap.size, k, none⟩ (.int .u8 v)) := by
  refine run_convert_bytes_arg (P := Try.prog) _ 36 5 Try.underlying36 Try.underlying5 w.heap.size 0 _ c ((bl s).set k v) (by rw [List.length_set, bl_length]) (fun i hi => ?_) 9 Try.underlying9
  have hc := tb_cell w s
  rw [Nat.zero_add]
  by_cases e : i = k
  · subst e
    rw [World.cell?_setCell_same (h := hc i hi), List.getD, List.getElem?_set_self (by rw [bl_length]; exact hi)]
    rfl
  · rw [World.cell?_setCell_other (h := by simp), hc i hi, List.getD, List.getElem?_set_ne (Ne.symm e), bl_get s i hi]
    rfl
theorem xor_ne (a b : Int) (a0 : 0 ≤ a) (a1 : a < 256) (b0 : 0 ≤ b) (b1 : b < 256) (hb : b ≠ 0) : ∃ v : Int, bits .xor .u8 a b = v ∧ 0 ≤ v ∧ v < 256 ∧ v ≠ a := by
  obtain ⟨x, rfl⟩ := Int.eq_ofNat_of_zero_le a0
  obtain ⟨y, rfl⟩ := Int.eq_ofNat_of_zero_le b0
  refine ⟨((x ^^^ y : Nat) : Int), u8_xor_nat x y (by omega) (by omega), by omega, ?_, fun e => hb ?_⟩
  · have : x ^^^ y < 2 ^ 8 := Nat.xor_lt_two_pow (by omega) (by omega)
    omega
  · have e' : x ^^^ y = x := by omega
    have : x ^^^ (x ^^^ y) = x ^^^ x := by rw [e']
    rw [← Nat.xor_assoc, Nat.xor_self, Nat.zero_xor] at this
    omega
end Go.Proofs.Ythegfidmkenkeaa
