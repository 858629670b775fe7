/-
  What the document's own Build answers, at every port and every data. Addresses are uint32's; no other condition.
-/
import Derived.Test.YtaloccmfpehhcaaUdpRefBytes
import Derived.Test.YtaloccmfpehhcaaUdpBuild
namespace Go.Proofs.Ytaloccmfpehhcaa
open Go.RowKit

set_option maxHeartbeats 400000 in
theorem word_ok (n : Int) (w : World) (h0 : 0 ≤ n) (h : n < 9223372036854775808) :
    Calls Try.prog 23 #[.int .i64 n] w fun e w' => e = .returned (.string (strOfNums (digs n 2))) ∧ Below w.heap.size w w' := by
  have R : Hid (∀ w, _) := fun w => rbytes 2 (by decide) n w h0 h
  go_enter Try.func23, Try.ntmps23
  go_wp2_with (go_at_call 24; refine (R.out _).mono ?_; rintro e w' ⟨rfl, hb⟩)
  go_ret
  exact ⟨rfl, hb⟩
set_option maxHeartbeats 400000 in
theorem port_ok (n : Int) (w : World) :
    Calls Try.prog 22 #[.int .i64 n] w fun e w' => e = .returned (.bool (decide (0 ≤ n ∧ n ≤ 65535))) ∧ w = w' := by
  by_cases h : 0 ≤ n
  · by_cases h' : n ≤ 65535
    · have d : decide (0 ≤ n ∧ n ≤ 65535) = true := decide_eq_true ⟨h, h'⟩
      rw [d]
      go_enter Try.func22, Try.ntmps22
      go_wp2
      go_ret
      exact ⟨rfl, rfl⟩
    · have d : decide (0 ≤ n ∧ n ≤ 65535) = false := decide_eq_false (fun x => h' x.2)
      rw [d]
      go_enter Try.func22, Try.ntmps22
      go_wp2
      go_ret
      exact ⟨rfl, rfl⟩
  · have d : decide (0 ≤ n ∧ n ≤ 65535) = false := decide_eq_false (fun x => h x.1)
    rw [d]
    go_enter Try.func22, Try.ntmps22
    go_wp2
    go_ret
    exact ⟨rfl, rfl⟩
theorem digs2 (n : Int) : digs n 2 = [n / 256 % 256, n % 256] := rfl
theorem join_ten (src dst fr to n : Int) :
    strOfNums (digs src 4) ++ strOfNums (digs dst 4) ++ strOfNums (digs 17 2) ++ strOfNums (digs n 2) ++ (strOfNums (digs fr 2) ++ strOfNums (digs to 2) ++ strOfNums (digs n 2)) ++ strOfNums (digs 0 2) = strOfNums (ws (ten src dst fr to n)) := by
  have a1 : src / 65536 / 256 % 256 = src / 256 / 256 / 256 % 256 := by omega
  have a2 : src / 65536 % 256 = src / 256 / 256 % 256 := by omega
  have a3 : src % 65536 / 256 % 256 = src / 256 % 256 := by omega
  have a4 : src % 65536 % 256 = src % 256 := by omega
  have b1 : dst / 65536 / 256 % 256 = dst / 256 / 256 / 256 % 256 := by omega
  have b2 : dst / 65536 % 256 = dst / 256 / 256 % 256 := by omega
  have b3 : dst % 65536 / 256 % 256 = dst / 256 % 256 := by omega
  have b4 : dst % 65536 % 256 = dst % 256 := by omega
  simp only [strOfNums_append]
  unfold ten
  simp only [ws]
  rw [a1, a2, a3, a4, b1, b2, b3, b4]
  rfl
theorem join_gram (fr to n c : Int) : strOfNums (digs fr 2) ++ strOfNums (digs to 2) ++ strOfNums (digs n 2) ++ strOfNums (digs c 2) = strOfNums (ws [fr, to, n, c]) := by
  simp only [strOfNums_append]
  rfl
set_option maxHeartbeats 2000000 in
theorem rub_ok (src dst fr to : Int) (data : ByteArray) (w : World) (s0 : 0 ≤ src) (s1 : src < 4294967296) (d0 : 0 ≤ dst) (d1 : dst < 4294967296) (hf : 0 ≤ fr ∧ fr ≤ 65535) (ht : 0 ≤ to ∧ to ≤ 65535) (hz : data.size ≤ 65507) :
    Calls Try.prog 10 #[.int .u32 src, .int .u32 dst, .int .i64 fr, .int .i64 to, .string data] w fun e w' => e = .returned (.tuple #[.string (gram src dst fr to data), .int .i64 0]) ∧ Below w.heap.size w w' := by
  have P1 : Hid (∀ w, Calls Try.prog 22 #[.int .i64 fr] w fun e w' => e = .returned (.bool true) ∧ w = w') := fun w => by
    have := port_ok fr w
    rwa [decide_eq_true hf] at this
  have P2 : Hid (∀ w, Calls Try.prog 22 #[.int .i64 to] w fun e w' => e = .returned (.bool true) ∧ w = w') := fun w => by
    have := port_ok to w
    rwa [decide_eq_true ht] at this
  have hc := cks_bd src dst fr to data
  have w8 : IntKind.i64.wrap (8 + (data.size : Int)) = 8 + data.size := by simp [IntKind.wrap, IntKind.bits, IntKind.signed]; omega
  have wsrc : IntKind.i64.wrap src = src := by simp [IntKind.wrap, IntKind.bits, IntKind.signed]; omega
  have wdst : IntKind.i64.wrap dst = dst := by simp [IntKind.wrap, IntKind.bits, IntKind.signed]; omega
  have hz' : ¬ (data.size : Int) > 65507 := by omega
  have W1 : Hid (∀ w, _) := fun w => word_ok fr w (by omega) (by omega)
  have W2 : Hid (∀ w, _) := fun w => word_ok to w (by omega) (by omega)
  have W3 : Hid (∀ w, _) := fun w => word_ok (8 + data.size) w (by omega) (by omega)
  have W4 : Hid (∀ w, _) := fun w => word_ok 17 w (by omega) (by omega)
  have W5 : Hid (∀ w, _) := fun w => word_ok 0 w (by omega) (by omega)
  have B1 : Hid (∀ w, _) := fun w => rbytes 4 (by decide) src w (by omega) (by omega)
  have B2 : Hid (∀ w, _) := fun w => rbytes 4 (by decide) dst w (by omega) (by omega)
  have j1 := join_ten src dst fr to (8 + data.size)
  have j2 := join_gram fr to (8 + data.size)
  have z20 := ten_size src dst fr to (8 + data.size)
  have S : Hid (∀ w, _) := fun w => rsum_ok (strOfNums (ws (ten src dst fr to (8 + data.size))) ++ data) w (by rw [ByteArray.size_append, z20]; omega)
  have sz : ∀ n k, (strOfNums (digs n k)).size = k := fun n k => by rw [strOfNums_size, digs_length]
  have z1 := sz fr 2; have z2 := sz to 2; have z3 := sz (8 + data.size) 2; have z4 := sz 17 2; have z5 := sz 0 2; have z6 := sz src 4; have z7 := sz dst 4
  rw [← j1] at S
  unfold gram cks at *
  generalize hck : ck (strOfNums (ws (ten src dst fr to (8 + data.size))) ++ data) = c at *
  have j3 := j2 (if c = 0 then 65535 else c)
  rw [← j3]
  have W6 : Hid (∀ w, _) := fun w => word_ok (if c = 0 then 65535 else c) w (by omega) (by omega)
  have z8 := sz (if c = 0 then 65535 else c) 2
  rw [j1, hck] at S
  rw [← j1] at S
  clear sz j1 j2 j3 z20 hck
  generalize strOfNums (digs fr 2) = S1 at *
  generalize strOfNums (digs to 2) = S2 at *
  generalize strOfNums (digs (8 + data.size) 2) = S3 at *
  generalize strOfNums (digs 17 2) = S4 at *
  generalize strOfNums (digs 0 2) = S5 at *
  generalize strOfNums (digs src 4) = S6 at *
  generalize strOfNums (digs dst 4) = S7 at *
  generalize strOfNums (digs (if c = 0 then 65535 else c) 2) = S8 at *
  by_cases h0 : c = 0
  · have h0' : (c == 0) = true := by simp [h0]
    rw [if_pos h0] at W6 hc
    go_enter Try.func10, Try.ntmps10
    go_wp2_with (first
      | (go_at_call_of 22 fr; refine (P1.out _).mono ?_; rintro e w' ⟨rfl, rfl⟩)
      | (go_at_call_of 22 to; refine (P2.out _).mono ?_; rintro e w' ⟨rfl, rfl⟩)
      | (go_at_call_of 23 fr; refine (W1.out _).mono ?_; rintro e w1 ⟨rfl, b1⟩; replace b1 : Hid _ := b1)
      | (go_at_call_of 23 to; refine (W2.out _).mono ?_; rintro e w2 ⟨rfl, b2⟩; replace b2 : Hid _ := b1.out.trans (b2.mono b1.out.size); clear b1)
      | (go_at_call_of 23 (65535 : Int); refine (W6.out _).mono ?_; rintro e w9 ⟨rfl, b9⟩; replace b9 : Hid _ := b8.out.trans (b9.mono b8.out.size); clear b8)
      | (go_at_call_of 23 (17 : Int); refine (W4.out _).mono ?_; rintro e w6 ⟨rfl, b6⟩; replace b6 : Hid _ := b5.out.trans (b6.mono b5.out.size); clear b5)
      | (go_at_call_of 23 (0 : Int); refine (W5.out _).mono ?_; rintro e w8 ⟨rfl, b8⟩; replace b8 : Hid _ := b7.out.trans (b8.mono b7.out.size); clear b7)
      | (go_at_call_of 23 (data.size : Int); refine (W3.out _).mono ?_; rintro e w3 ⟨rfl, b3⟩; first | (replace b3 : Hid _ := b2.out.trans (b3.mono b2.out.size); clear b2) | (have b7 : Hid _ := b6.out.trans (b3.mono b6.out.size); clear b6 b3))
      | (go_at_call_of 24 src; refine (B1.out _).mono ?_; rintro e w4 ⟨rfl, b4⟩; replace b4 : Hid _ := b3.out.trans (b4.mono b3.out.size); clear b3)
      | (go_at_call_of 24 dst; refine (B2.out _).mono ?_; rintro e w5 ⟨rfl, b5⟩; replace b5 : Hid _ := b4.out.trans (b5.mono b4.out.size); clear b4)
      | (go_at_call 25; refine (S.out _).mono ?_; rintro e w' ⟨rfl, rfl⟩))
    go_ret2
    exact ⟨rfl, b9.out⟩
  · have h0' : (c == 0) = false := by simp [h0]
    rw [if_neg h0] at W6 hc
    go_enter Try.func10, Try.ntmps10
    go_wp2_with (first
      | (go_at_call_of 22 fr; refine (P1.out _).mono ?_; rintro e w' ⟨rfl, rfl⟩)
      | (go_at_call_of 22 to; refine (P2.out _).mono ?_; rintro e w' ⟨rfl, rfl⟩)
      | (go_at_call_of 23 fr; refine (W1.out _).mono ?_; rintro e w1 ⟨rfl, b1⟩; replace b1 : Hid _ := b1)
      | (go_at_call_of 23 to; refine (W2.out _).mono ?_; rintro e w2 ⟨rfl, b2⟩; replace b2 : Hid _ := b1.out.trans (b2.mono b1.out.size); clear b1)
      | (go_at_call_of 23 c; refine (W6.out _).mono ?_; rintro e w9 ⟨rfl, b9⟩; replace b9 : Hid _ := b8.out.trans (b9.mono b8.out.size); clear b8)
      | (go_at_call_of 23 (17 : Int); refine (W4.out _).mono ?_; rintro e w6 ⟨rfl, b6⟩; replace b6 : Hid _ := b5.out.trans (b6.mono b5.out.size); clear b5)
      | (go_at_call_of 23 (0 : Int); refine (W5.out _).mono ?_; rintro e w8 ⟨rfl, b8⟩; replace b8 : Hid _ := b7.out.trans (b8.mono b7.out.size); clear b7)
      | (go_at_call_of 23 (data.size : Int); refine (W3.out _).mono ?_; rintro e w3 ⟨rfl, b3⟩; first | (replace b3 : Hid _ := b2.out.trans (b3.mono b2.out.size); clear b2) | (have b7 : Hid _ := b6.out.trans (b3.mono b6.out.size); clear b6 b3))
      | (go_at_call_of 24 src; refine (B1.out _).mono ?_; rintro e w4 ⟨rfl, b4⟩; replace b4 : Hid _ := b3.out.trans (b4.mono b3.out.size); clear b3)
      | (go_at_call_of 24 dst; refine (B2.out _).mono ?_; rintro e w5 ⟨rfl, b5⟩; replace b5 : Hid _ := b4.out.trans (b5.mono b4.out.size); clear b4)
      | (go_at_call 25; refine (S.out _).mono ?_; rintro e w' ⟨rfl, rfl⟩))
    go_ret2
    exact ⟨rfl, b9.out⟩
set_option maxHeartbeats 1000000 in
theorem rub_long (src dst fr to : Int) (data : ByteArray) (w : World) (hf : 0 ≤ fr ∧ fr ≤ 65535) (ht : 0 ≤ to ∧ to ≤ 65535) (hz : 65507 < data.size) :
    Calls Try.prog 10 #[.int .u32 src, .int .u32 dst, .int .i64 fr, .int .i64 to, .string data] w fun e w' => e = .returned (.tuple #[.string ⟨#[]⟩, .int .i64 8]) ∧ Below w.heap.size w w' := by
  have P1 : Hid (∀ w, Calls Try.prog 22 #[.int .i64 fr] w fun e w' => e = .returned (.bool true) ∧ w = w') := fun w => by
    have := port_ok fr w
    rwa [decide_eq_true hf] at this
  have P2 : Hid (∀ w, Calls Try.prog 22 #[.int .i64 to] w fun e w' => e = .returned (.bool true) ∧ w = w') := fun w => by
    have := port_ok to w
    rwa [decide_eq_true ht] at this
  have hz' : (data.size : Int) > 65507 := by omega
  go_enter Try.func10, Try.ntmps10
  go_wp2_with (first
    | (go_at_call_of 22 fr; refine (P1.out _).mono ?_; rintro e w' ⟨rfl, rfl⟩)
    | (go_at_call_of 22 to; refine (P2.out _).mono ?_; rintro e w' ⟨rfl, rfl⟩))
  go_ret2
  exact ⟨rfl, Below.refl _ _⟩
set_option maxHeartbeats 1000000 in
theorem rub_range (src dst fr to : Int) (data : ByteArray) (w : World) (h : ¬ ((0 ≤ fr ∧ fr ≤ 65535) ∧ (0 ≤ to ∧ to ≤ 65535))) :
    Calls Try.prog 10 #[.int .u32 src, .int .u32 dst, .int .i64 fr, .int .i64 to, .string data] w fun e w' => e = .returned (.tuple #[.string ⟨#[]⟩, .int .i64 2]) ∧ Below w.heap.size w w' := by
  by_cases hf : 0 ≤ fr ∧ fr ≤ 65535
  · have ht : ¬ (0 ≤ to ∧ to ≤ 65535) := fun x => h ⟨hf, x⟩
    have P1 : Hid (∀ w, Calls Try.prog 22 #[.int .i64 fr] w fun e w' => e = .returned (.bool true) ∧ w = w') := fun w => by
      have := port_ok fr w
      rwa [decide_eq_true hf] at this
    have P2 : Hid (∀ w, Calls Try.prog 22 #[.int .i64 to] w fun e w' => e = .returned (.bool false) ∧ w = w') := fun w => by
      have := port_ok to w
      rwa [decide_eq_false ht] at this
    go_enter Try.func10, Try.ntmps10
    go_wp2_with (first
      | (go_at_call_of 22 fr; refine (P1.out _).mono ?_; rintro e w' ⟨rfl, rfl⟩)
      | (go_at_call_of 22 to; refine (P2.out _).mono ?_; rintro e w' ⟨rfl, rfl⟩))
    go_ret2
    exact ⟨rfl, Below.refl _ _⟩
  · have P1 : Hid (∀ w, Calls Try.prog 22 #[.int .i64 fr] w fun e w' => e = .returned (.bool false) ∧ w = w') := fun w => by
      have := port_ok fr w
      rwa [decide_eq_false hf] at this
    go_enter Try.func10, Try.ntmps10
    go_wp2_with (go_at_call_of 22 fr; refine (P1.out _).mono ?_; rintro e w' ⟨rfl, rfl⟩)
    go_ret2
    exact ⟨rfl, Below.refl _ _⟩
end Go.Proofs.Ytaloccmfpehhcaa
