/-
  What the program's two and checkSum answer, and its Build, at every port and every data. Addresses are uint32's; no other condition.
-/
import Derived.Test.YtaloccmfpehhcabUdpCut
namespace Go.Proofs.Ytaloccmfpehhcab
open Go.RowKit

theorem ofInt_i64 (a : Nat) (ha : a < 9223372036854775808) : (BitVec.ofInt 64 (a : Int)).toNat = a := by
  rw [BitVec.ofInt_natCast, BitVec.toNat_ofNat]; exact Nat.mod_eq_of_lt (by omega)
theorem i64_or_nat (a b : Nat) (ha : a < 9223372036854775808) (hb : b < 9223372036854775808) : bits .or .i64 (a : Int) (b : Int) = ((a ||| b : Nat) : Int) := by
  have hx : a ||| b < 2 ^ 63 := Nat.or_lt_two_pow (by omega) (by omega)
  show IntKind.i64.wrap ((BitVec.ofInt 64 (a : Int) ||| BitVec.ofInt 64 (b : Int)).toNat : Int) = _
  rw [BitVec.toNat_or, ofInt_i64 a ha, ofInt_i64 b hb]
  simp [IntKind.wrap, IntKind.bits, IntKind.signed]; omega
theorem or_byte (x b : Int) (h0 : 0 ≤ x) (h : x < 256) (b0 : 0 ≤ b) (hb : b < 256) : bits .or .i64 (x * 256) b = x * 256 + b := by
  obtain ⟨a, rfl⟩ := Int.eq_ofNat_of_zero_le h0
  obtain ⟨c, rfl⟩ := Int.eq_ofNat_of_zero_le b0
  rw [show (a : Int) * 256 = ((a * 256 : Nat) : Int) by omega, i64_or_nat _ _ (by omega) (by omega), nat_join 8 (a * 256) c (by omega) (by omega)]
  omega
theorem u32_and16 (x : Int) (h0 : 0 ≤ x) (h : x < 4294967296) : bits .and .u32 x 65535 = x % 65536 := by
  obtain ⟨a, rfl⟩ := Int.eq_ofNat_of_zero_le h0
  rw [show (65535 : Int) = ((65535 : Nat) : Int) from rfl, u32_and_nat a 65535 (by omega) (by omega), show a &&& 65535 = a % 65536 from Nat.and_two_pow_sub_one_eq_mod a 16]
  omega
/-- The number of the two bytes at a place. -/
def w2 (s : ByteArray) (p : Nat) : Int := byt s p * 256 + byt s (p + 1)
theorem w2_bd (s : ByteArray) (p : Nat) : 0 ≤ w2 s p ∧ w2 s p ≤ 65535 := by
  have := byt_bd s p
  have := byt_bd s (p + 1)
  unfold w2
  omega
set_option maxHeartbeats 1000000 in
theorem two_ok (s : ByteArray) (p : Nat) (w : World) (h : p + 1 < s.size) (hp : p < 100) :
    Calls Try.prog 8 #[.string s, .int .i64 p] w fun e w' => e = .returned (.int .i64 (w2 s p)) ∧ ∃ m, w' = w.drewN m := by
  have h1 : (p : Int) < s.size := by omega
  have h2 : (p : Int) + 1 < s.size := by omega
  have e1 := byt_eq s p (by omega)
  have e2 := byt_eq s (p + 1) h
  have b1 := byt_bd s p
  have b2 := byt_bd s (p + 1)
  have ho := or_byte (byt s p) (byt s (p + 1)) b1.1 b1.2 b2.1 b2.2
  unfold w2
  rw [← ho]
  generalize byt s p = x at *
  generalize byt s (p + 1) = y at *
  have hx : ∀ h : p < s.size, ((s[p].toNat : Nat) : Int) = x := fun _ => e1
  have hy : ∀ h : p + 1 < s.size, ((s[p + 1].toNat : Nat) : Int) = y := fun _ => e2
  clear e1 e2 ho
  go_enter Try.func8, Try.ntmps8
  go_wp2
  go_quiet (fail)
  go_wp2
  go_ret
  exact ⟨rfl, _, rfl⟩

/-- The ten numbers that are summed ahead of the data. -/
def ten (src dst fr to n : Int) : List Int := [src / 65536, src % 65536, dst / 65536, dst % 65536, 17, n, fr, to, n, 0]
/-- A datagram's check sum. -/
def cks (src dst fr to : Int) (data : ByteArray) : Int :=
  if ck (strOfNums (ws (ten src dst fr to (8 + data.size))) ++ data) = 0 then 65535 else ck (strOfNums (ws (ten src dst fr to (8 + data.size))) ++ data)
theorem cks_bd (src dst fr to : Int) (data : ByteArray) : 1 ≤ cks src dst fr to data ∧ cks src dst fr to data ≤ 65535 := by
  have := ck_bd (strOfNums (ws (ten src dst fr to (8 + data.size))) ++ data)
  unfold cks
  split <;> omega
theorem ten_size (src dst fr to n : Int) : (strOfNums (ws (ten src dst fr to n))).size = 20 := strOfNums_size _
theorem nums10 (w : World) (a b c d e f g h i j : Int) (t : TypeId) : Nums (w.alloc (.cells #[.int .i64 a, .int .i64 b, .int .i64 c, .int .i64 d, .int .i64 e, .int .i64 f, .int .i64 g, .int .i64 h, .int .i64 i, .int .i64 j] t)) w.heap.size [a, b, c, d, e, f, g, h, i, j] := by
  refine ⟨by simp, fun k hk => ?_⟩
  rw [World.cell?_alloc_new]
  rcases k with _|_|_|_|_|_|_|_|_|_|k
  all_goals first | rfl | (simp at hk; omega)
theorem nums4 (w : World) (a b c d : Int) (t : TypeId) : Nums (w.alloc (.cells #[.int .i64 a, .int .i64 b, .int .i64 c, .int .i64 d] t)) w.heap.size [a, b, c, d] := by
  refine ⟨by simp, fun k hk => ?_⟩
  rw [World.cell?_alloc_new]
  rcases k with _|_|_|_|k
  all_goals first | rfl | (simp at hk; omega)
set_option maxHeartbeats 2000000 in
theorem checkSum_ok (src dst fr to : Int) (data : ByteArray) (w : World) (s0 : 0 ≤ src) (s1 : src < 4294967296) (d0 : 0 ≤ dst) (d1 : dst < 4294967296) (hz : data.size ≤ 281474976702000) :
    Calls Try.prog 10 #[.int .u32 src, .int .u32 dst, .int .i64 fr, .int .i64 to, .string data] w fun e w' => e = .returned (.int .i64 (cks src dst fr to data)) ∧ Below w.heap.size w w' := by
  have a1 := u32_and16 src s0 s1
  have a2 := u32_and16 dst d0 d1
  have C : Hid (∀ t, Calls Try.prog 11 #[.slice (some ⟨w.heap.size, 0, none⟩) 10 10] (w.alloc (.cells #[.int .i64 (src / 65536), .int .i64 (src % 65536), .int .i64 (dst / 65536), .int .i64 (dst % 65536), .int .i64 17, .int .i64 (8 + data.size), .int .i64 fr, .int .i64 to, .int .i64 (8 + data.size), .int .i64 0] t)) fun e w' => e = .returned (.string (strOfNums (ws (ten src dst fr to (8 + data.size))))) ∧ Below (w.alloc (.cells #[.int .i64 (src / 65536), .int .i64 (src % 65536), .int .i64 (dst / 65536), .int .i64 (dst % 65536), .int .i64 17, .int .i64 (8 + data.size), .int .i64 fr, .int .i64 to, .int .i64 (8 + data.size), .int .i64 0] t)).heap.size (w.alloc (.cells #[.int .i64 (src / 65536), .int .i64 (src % 65536), .int .i64 (dst / 65536), .int .i64 (dst % 65536), .int .i64 17, .int .i64 (8 + data.size), .int .i64 fr, .int .i64 to, .int .i64 (8 + data.size), .int .i64 0] t)) w') := fun t => cut10 (ten src dst fr to (8 + data.size)) rfl _ _ (nums10 w _ _ _ _ _ _ _ _ _ _ t)
  have z20 := ten_size src dst fr to (8 + data.size)
  have S : Hid (∀ w, _) := fun w => sum_ok (strOfNums (ws (ten src dst fr to (8 + data.size))) ++ data) w (by rw [ByteArray.size_append, z20]; omega)
  have w20 : IntKind.i64.wrap (8 + (data.size : Int)) = 8 + data.size := by simp [IntKind.wrap, IntKind.bits, IntKind.signed]; omega
  unfold cks
  generalize hck : ck (strOfNums (ws (ten src dst fr to (8 + data.size))) ++ data) = c at *
  generalize strOfNums (ws (ten src dst fr to (8 + data.size))) = T at *
  clear hck
  by_cases hc : c = 0
  · rw [if_pos hc]
    have hc' : (c == 0) = true := by simp [hc]
    go_enter Try.func10, Try.ntmps10
    go_wp2_with (first
      | (go_at_call 11; refine (C.out _).mono ?_; rintro e w1 ⟨rfl, b1⟩; replace b1 : Hid _ := b1)
      | (go_at_call 12; refine (S.out _).mono ?_; rintro e w' ⟨rfl, rfl⟩))
    go_ret
    exact ⟨rfl, ((Below.refl _ _).alloc (Nat.le_refl _) _).trans (b1.out.mono (by simp))⟩
  · rw [if_neg hc]
    have hc' : (c == 0) = false := by simp [hc]
    go_enter Try.func10, Try.ntmps10
    go_wp2_with (first
      | (go_at_call 11; refine (C.out _).mono ?_; rintro e w1 ⟨rfl, b1⟩; replace b1 : Hid _ := b1)
      | (go_at_call 12; refine (S.out _).mono ?_; rintro e w' ⟨rfl, rfl⟩))
    go_ret
    exact ⟨rfl, ((Below.refl _ _).alloc (Nat.le_refl _) _).trans (b1.out.mono (by simp))⟩
end Go.Proofs.Ytaloccmfpehhcab
