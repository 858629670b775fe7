/-
  What both Ports answer of a header that was read: the port to which its packet goes. No condition but what the form allows.
-/
import Derived.Test.YtndaohiecpdmlaaGreatMgD
import Derived.Test.YtndaohiecpdmlaaGreatTuMath
import Derived.Lib.Hide
namespace Go.Proofs.YtndaohiecpdmlaaGreat
set_option maxRecDepth 100000
open Go.RowKit

theorem u13 (x : Int) (h0 : 0 ≤ x) (h : x < 65536) : bits .and .i64 x 8191 = x % 8192 := by
  obtain ⟨a, rfl⟩ := Int.eq_ofNat_of_zero_le h0
  have hx : a &&& 8191 = a % 8192 := Nat.and_two_pow_sub_one_eq_mod a 13
  show IntKind.i64.wrap ((BitVec.ofInt 64 (a : Int) &&& BitVec.ofInt 64 ((8191 : Nat) : Int)).toNat : Int) = _
  rw [BitVec.toNat_and, ofInt_i64 a (by omega), ofInt_i64 8191 (by omega), hx]
  simp [IntKind.wrap, IntKind.bits, IntKind.signed]; omega
theorem port_no {proto frag : Int} {data : ByteArray} (h : ¬ ((proto = 17 ∨ proto = 6) ∧ frag % 8192 = 0 ∧ 4 ≤ data.size)) : portV proto frag data = 0 := by unfold portV; rw [if_neg h]
theorem port_yes {proto frag : Int} {data : ByteArray} (h : (proto = 17 ∨ proto = 6) ∧ frag % 8192 = 0 ∧ 4 ≤ data.size) : portV proto frag data = w2 data 2 := by unfold portV; rw [if_pos h, num2]; rfl
/-- The program's. -/
theorem ports_ok (tos id frag ttl proto src dst : Int) (data : ByteArray) (w : World) (f0 : 0 ≤ frag) (f1 : frag < 65536) :
    Calls Tryz.prog 35 #[hv tos id frag ttl proto src dst data] w fun e w' => ∃ a b, e = .returned (.tuple #[.int .i64 a, .int .i64 (portV proto frag data), .bool b]) ∧ Below w.heap.size w w' := by
  have u := u13 frag f0 f1
  by_cases p17 : proto = 17
  · subst p17
    by_cases hf : frag % 8192 = 0
    · have hc : (bits .and .i64 frag 8191 != 0) = false := by rw [u, hf]; rfl
      by_cases hd : data.size < 4
      · rw [port_no (by omega)]
        exact (ports_S17 tos id frag ttl src dst data w hc hd).mono fun e w' ⟨h, b⟩ => ⟨_, _, h, b⟩
      · rw [port_yes (by omega)]
        exact (ports_O17 tos id frag ttl src dst data w hc (by omega)).mono fun e w' ⟨h, b⟩ => ⟨_, _, h, b⟩
    · have hc : (bits .and .i64 frag 8191 != 0) = true := by rw [u]; simp [hf]
      rw [port_no (by omega)]
      exact (ports_F17 tos id frag ttl src dst data w hc).mono fun e w' ⟨h, b⟩ => ⟨_, _, h, b⟩
  by_cases p6 : proto = 6
  · subst p6
    by_cases hf : frag % 8192 = 0
    · have hc : (bits .and .i64 frag 8191 != 0) = false := by rw [u, hf]; rfl
      by_cases hd : data.size < 4
      · rw [port_no (by omega)]
        exact (ports_S6 tos id frag ttl src dst data w hc hd).mono fun e w' ⟨h, b⟩ => ⟨_, _, h, b⟩
      · rw [port_yes (by omega)]
        exact (ports_O6 tos id frag ttl src dst data w hc (by omega)).mono fun e w' ⟨h, b⟩ => ⟨_, _, h, b⟩
    · have hc : (bits .and .i64 frag 8191 != 0) = true := by rw [u]; simp [hf]
      rw [port_no (by omega)]
      exact (ports_F6 tos id frag ttl src dst data w hc).mono fun e w' ⟨h, b⟩ => ⟨_, _, h, b⟩
  · rw [port_no (by omega)]
    exact (ports_X tos id frag ttl proto src dst data w (by simp [p17]) (by simp [p6])).mono fun e w' ⟨h, b⟩ => ⟨_, _, h, b⟩
/-! ### the document's -/
set_option maxHeartbeats 2000000 in
theorem rports_X (tos id frag ttl proto src dst : Int) (data : ByteArray) (w : World) (p17 : (proto != 17) = true) (p6 : (proto != 6) = true) :
    Calls Tryz.prog 28 #[hv tos id frag ttl proto src dst data] w fun e w' => e = .returned (.tuple #[.int .i64 0, .int .i64 0, .bool false]) ∧ Below w.heap.size w w' := by
  unfold hv
  go_enter Tryz.func28, Tryz.ntmps28
  go_wp2
  go_ret3
  exact ⟨rfl, (Below.refl _ _).alloc (Nat.le_refl _) _⟩
set_option maxHeartbeats 2000000 in
theorem rports_F17 (tos id frag ttl proto src dst : Int) (data : ByteArray) (w : World) (p17 : (proto != 17) = false) (hc : (frag.tmod 8192 != 0) = true) :
    Calls Tryz.prog 28 #[hv tos id frag ttl proto src dst data] w fun e w' => e = .returned (.tuple #[.int .i64 0, .int .i64 0, .bool false]) ∧ Below w.heap.size w w' := by
  unfold hv
  go_enter Tryz.func28, Tryz.ntmps28
  go_wp2
  go_ret3
  exact ⟨rfl, (Below.refl _ _).alloc (Nat.le_refl _) _⟩
set_option maxHeartbeats 2000000 in
theorem rports_S17 (tos id frag ttl proto src dst : Int) (data : ByteArray) (w : World) (p17 : (proto != 17) = false) (hc : (frag.tmod 8192 != 0) = false) (hd : data.size < 4) :
    Calls Tryz.prog 28 #[hv tos id frag ttl proto src dst data] w fun e w' => e = .returned (.tuple #[.int .i64 0, .int .i64 0, .bool false]) ∧ Below w.heap.size w w' := by
  have hd' : (data.size : Int) < 4 := by omega
  unfold hv
  go_enter Tryz.func28, Tryz.ntmps28
  go_wp2
  go_ret3
  exact ⟨rfl, (Below.refl _ _).alloc (Nat.le_refl _) _⟩
set_option maxHeartbeats 2000000 in
theorem rports_O17 (tos id frag ttl proto src dst : Int) (data : ByteArray) (w : World) (p17 : (proto != 17) = false) (hc : (frag.tmod 8192 != 0) = false) (hd : 4 ≤ data.size) (hz : data.size ≤ 9223372036854775807) :
    Calls Tryz.prog 28 #[hv tos id frag ttl proto src dst data] w fun e w' => e = .returned (.tuple #[.int .i64 (num (byt data) 0 2), .int .i64 (num (byt data) 2 2), .bool true]) ∧ Below w.heap.size w w' := by
  have hd' : ¬ (data.size : Int) < 4 := by omega
  have T0 : Hid (∀ w, _) := fun w => rnum2 data w 0 2 rfl (by omega)
  have T2 : Hid (∀ w, _) := fun w => rnum2 data w 2 4 rfl (by omega)
  generalize num (byt data) 0 2 = x0 at *
  generalize num (byt data) 2 2 = x2 at *
  unfold hv
  go_enter Tryz.func28, Tryz.ntmps28
  go_wp2
  go_quiet (first
    | (go_at_call_of 24 (data.extract 0 2); exact Calls.quiet_of_same ((T0.out _).mono fun _ _ ⟨a, b⟩ => ⟨a, b.symm⟩))
    | (go_at_call_of 24 (data.extract 2 4); exact Calls.quiet_of_same ((T2.out _).mono fun _ _ ⟨a, b⟩ => ⟨a, b.symm⟩)))
  go_wp2
  go_ret3
  exact ⟨rfl, ((Below.refl _ _).alloc (Nat.le_refl _) _).trans ⟨rfl, rfl, rfl, Nat.le_refl _, fun _ _ => rfl⟩⟩
set_option maxHeartbeats 2000000 in
theorem rports_F6 (tos id frag ttl proto src dst : Int) (data : ByteArray) (w : World) (p17 : (proto != 17) = true) (p6 : (proto != 6) = false) (hc : (frag.tmod 8192 != 0) = true) :
    Calls Tryz.prog 28 #[hv tos id frag ttl proto src dst data] w fun e w' => e = .returned (.tuple #[.int .i64 0, .int .i64 0, .bool false]) ∧ Below w.heap.size w w' := by
  unfold hv
  go_enter Tryz.func28, Tryz.ntmps28
  go_wp2
  go_ret3
  exact ⟨rfl, (Below.refl _ _).alloc (Nat.le_refl _) _⟩
set_option maxHeartbeats 2000000 in
theorem rports_S6 (tos id frag ttl proto src dst : Int) (data : ByteArray) (w : World) (p17 : (proto != 17) = true) (p6 : (proto != 6) = false) (hc : (frag.tmod 8192 != 0) = false) (hd : data.size < 4) :
    Calls Tryz.prog 28 #[hv tos id frag ttl proto src dst data] w fun e w' => e = .returned (.tuple #[.int .i64 0, .int .i64 0, .bool false]) ∧ Below w.heap.size w w' := by
  have hd' : (data.size : Int) < 4 := by omega
  unfold hv
  go_enter Tryz.func28, Tryz.ntmps28
  go_wp2
  go_ret3
  exact ⟨rfl, (Below.refl _ _).alloc (Nat.le_refl _) _⟩
set_option maxHeartbeats 2000000 in
theorem rports_O6 (tos id frag ttl proto src dst : Int) (data : ByteArray) (w : World) (p17 : (proto != 17) = true) (p6 : (proto != 6) = false) (hc : (frag.tmod 8192 != 0) = false) (hd : 4 ≤ data.size) (hz : data.size ≤ 9223372036854775807) :
    Calls Tryz.prog 28 #[hv tos id frag ttl proto src dst data] w fun e w' => e = .returned (.tuple #[.int .i64 (num (byt data) 0 2), .int .i64 (num (byt data) 2 2), .bool true]) ∧ Below w.heap.size w w' := by
  have hd' : ¬ (data.size : Int) < 4 := by omega
  have T0 : Hid (∀ w, _) := fun w => rnum2 data w 0 2 rfl (by omega)
  have T2 : Hid (∀ w, _) := fun w => rnum2 data w 2 4 rfl (by omega)
  generalize num (byt data) 0 2 = x0 at *
  generalize num (byt data) 2 2 = x2 at *
  unfold hv
  go_enter Tryz.func28, Tryz.ntmps28
  go_wp2
  go_quiet (first
    | (go_at_call_of 24 (data.extract 0 2); exact Calls.quiet_of_same ((T0.out _).mono fun _ _ ⟨a, b⟩ => ⟨a, b.symm⟩))
    | (go_at_call_of 24 (data.extract 2 4); exact Calls.quiet_of_same ((T2.out _).mono fun _ _ ⟨a, b⟩ => ⟨a, b.symm⟩)))
  go_wp2
  go_ret3
  exact ⟨rfl, ((Below.refl _ _).alloc (Nat.le_refl _) _).trans ⟨rfl, rfl, rfl, Nat.le_refl _, fun _ _ => rfl⟩⟩
theorem rports_ok (tos id frag ttl proto src dst : Int) (data : ByteArray) (w : World) (f0 : 0 ≤ frag) (hz : data.size ≤ 9223372036854775807) :
    Calls Tryz.prog 28 #[hv tos id frag ttl proto src dst data] w fun e w' => ∃ a b, e = .returned (.tuple #[.int .i64 a, .int .i64 (portV proto frag data), .bool b]) ∧ Below w.heap.size w w' := by
  have u : frag.tmod 8192 = frag % 8192 := Int.tmod_eq_emod_of_nonneg f0
  have y2 : (proto = 17 ∨ proto = 6) → frag % 8192 = 0 → 4 ≤ data.size → portV proto frag data = num (byt data) 2 2 := fun a b c => by rw [port_yes ⟨a, b, c⟩, num2]; rfl
  by_cases p17 : proto = 17
  · have q17 : (proto != 17) = false := by simp [p17]
    by_cases hf : frag % 8192 = 0
    · have hc : (frag.tmod 8192 != 0) = false := by rw [u, hf]; rfl
      by_cases hd : data.size < 4
      · rw [port_no (by omega)]
        exact (rports_S17 tos id frag ttl proto src dst data w q17 hc hd).mono fun e w' ⟨h, b⟩ => ⟨_, _, h, b⟩
      · rw [y2 (.inl p17) hf (by omega)]
        exact (rports_O17 tos id frag ttl proto src dst data w q17 hc (by omega) hz).mono fun e w' ⟨h, b⟩ => ⟨_, _, h, b⟩
    · have hc : (frag.tmod 8192 != 0) = true := by rw [u]; simp [hf]
      rw [port_no (by omega)]
      exact (rports_F17 tos id frag ttl proto src dst data w q17 hc).mono fun e w' ⟨h, b⟩ => ⟨_, _, h, b⟩
  have q17 : (proto != 17) = true := by simp [p17]
  by_cases p6 : proto = 6
  · have q6 : (proto != 6) = false := by simp [p6]
    by_cases hf : frag % 8192 = 0
    · have hc : (frag.tmod 8192 != 0) = false := by rw [u, hf]; rfl
      by_cases hd : data.size < 4
      · rw [port_no (by omega)]
        exact (rports_S6 tos id frag ttl proto src dst data w q17 q6 hc hd).mono fun e w' ⟨h, b⟩ => ⟨_, _, h, b⟩
      · rw [y2 (.inr p6) hf (by omega)]
        exact (rports_O6 tos id frag ttl proto src dst data w q17 q6 hc (by omega) hz).mono fun e w' ⟨h, b⟩ => ⟨_, _, h, b⟩
    · have hc : (frag.tmod 8192 != 0) = true := by rw [u]; simp [hf]
      rw [port_no (by omega)]
      exact (rports_F6 tos id frag ttl proto src dst data w q17 q6 hc).mono fun e w' ⟨h, b⟩ => ⟨_, _, h, b⟩
  · rw [port_no (by omega)]
    exact (rports_X tos id frag ttl proto src dst data w q17 (by simp [p6])).mono fun e w' ⟨h, b⟩ => ⟨_, _, h, b⟩
/-- The document's own Port. -/
theorem rport_ok (tos id frag ttl proto src dst : Int) (data : ByteArray) (w : World) (f0 : 0 ≤ frag) (hz : data.size ≤ 9223372036854775807) :
    Calls Tryz.prog 15 #[hv tos id frag ttl proto src dst data] w fun e w' => e = .returned (.int .i64 (portV proto frag data)) ∧ Below w.heap.size w w' := by
  have P : Hid (∀ w, _) := fun w => rports_ok tos id frag ttl proto src dst data w f0 hz
  generalize portV proto frag data = x at *
  have b0 : Below w.heap.size w (w.alloc (.cells #[.int .i64 tos, .int .i64 id, .int .i64 frag, .int .i64 ttl, .int .i64 proto, .int .u32 src, .int .u32 dst, .string data] 40)) := (Below.refl _ _).alloc (Nat.le_refl _) _
  replace b0 := Lib.hid b0
  unfold hv at *
  go_enter Tryz.func15, Tryz.ntmps15
  go_wp2_with fail
  refine (P.out _).mono ?_
  rintro e w' ⟨a, b, rfl, b1⟩
  go_wp2_with fail
  go_ret
  exact ⟨rfl, b0.out.trans (b1.mono b0.out.size)⟩
end Go.Proofs.YtndaohiecpdmlaaGreat
