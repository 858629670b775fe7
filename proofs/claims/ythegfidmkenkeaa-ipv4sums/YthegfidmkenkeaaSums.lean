/-
  The law Ipv4Sums returns true for every header and every two strings: a header that is written, its sum in it, has the check sum 0; the sum of pairs of bytes does not hang on their order. No condition but the form's own reach.
-/
import Derived.Test.YthegfidmkenkeaaIpWorks
import Derived.Test.YthegfidmkenkeaaIpOpen
import Derived.LaidLaws
namespace Go.Proofs.Ythegfidmkenkeaa.ipv4Sums
open Go.ChangeShapes Go.WideShapes Go.ChangeAt Go.RowKit
open Go.ChangeMaps (open_string shut_string)

theorem pkt_front (tos id frag ttl proto src dst : Int) (data : ByteArray) : (pkt tos id frag ttl proto src dst data).extract 0 20 = strOfNums (hb tos (20 + data.size) id frag ttl proto (ck (h0 tos id frag ttl proto src dst data)) src dst) := by
  refine bytes_ext _ _ (by rw [ByteArray.size_extract, pkt_size, hb_size]; omega) fun i hi => ?_
  rw [ByteArray.size_extract, pkt_size] at hi
  rw [byt_extract _ _ _ _ (by omega), Nat.zero_add]
  unfold pkt
  rw [byt_left _ _ _ (by rw [hb_size]; omega)]
theorem pkt_zero (tos id frag ttl proto src dst : Int) (data : ByteArray) (s0 : 0 ≤ src) (s1 : src < 4294967296) (d0 : 0 ≤ dst) (d1 : dst < 4294967296) : ck ((pkt tos id frag ttl proto src dst data).extract 0 20) = 0 := by
  rw [pkt_front]
  have cb := ck_bd (h0 tos id frag ttl proto src dst data)
  have hc : ck (h0 tos id frag ttl proto src dst data) = 65535 - fold (tt (byt (h0 tos id frag ttl proto src dst data)) 20) := by unfold ck; rw [h0_size]
  have B0 : ∀ i, byt (h0 tos id frag ttl proto src dst data) i = (hb tos (20 + data.size) id frag ttl proto 0 src dst).getD i 0 := fun i => hb_byt _ _ _ _ _ _ _ _ _ s0 s1 d0 d1 i
  generalize ck (h0 tos id frag ttl proto src dst data) = c at *
  have T0 : tt (byt (h0 tos id frag ttl proto src dst data)) 20 = tt (fun i => (hb tos (20 + data.size) id frag ttl proto 0 src dst).getD i 0) 20 := tt_congr _ _ 20 (fun i _ => B0 i)
  have T1 : tt (byt (strOfNums (hb tos (20 + data.size) id frag ttl proto c src dst))) 20 = tt (fun i => (hb tos (20 + data.size) id frag ttl proto c src dst).getD i 0) 20 := tt_congr _ _ 20 (fun i _ => hb_byt _ _ _ _ _ _ _ _ _ s0 s1 d0 d1 i)
  have E : tt (fun i => (hb tos (20 + data.size) id frag ttl proto c src dst).getD i 0) 20 = tt (fun i => (hb tos (20 + data.size) id frag ttl proto 0 src dst).getD i 0) 20 + c := by
    simp [tt, hb]
    omega
  have G : 0 < tt (fun i => (hb tos (20 + data.size) id frag ttl proto 0 src dst).getD i 0) 20 := by
    have := hb_bd tos (20 + data.size) id frag ttl proto 0 src dst s0 s1 d0 d1
    simp [tt, hb]
    omega
  rw [T0] at hc
  unfold ck
  rw [hb_size, T1, E]
  generalize tt (fun i => (hb tos (20 + data.size) id frag ttl proto 0 src dst).getD i 0) 20 = T at *
  rw [fold_pos _ G] at hc
  rw [fold_pos _ (by omega)]
  omega
theorem ck_comm (a b : ByteArray) (ha : a.size % 2 = 0) (hb : b.size % 2 = 0) : ck (a ++ b) = ck (b ++ a) := by
  unfold ck
  rw [tt_append a b ha, tt_append b a hb, Int.add_comm]

set_option maxHeartbeats 2000000 in
theorem walkY00 (tos id frag ttl proto src dst : Int) (data a b : ByteArray) (w : World) (t : ByteArray) (ht : 20 ≤ t.size) (hm : t.size ≤ 9223372036854775807) (B1 : Hid (∀ w, Calls Try.prog 9 #[hv tos id frag ttl proto src dst data] w fun e w' => e = .returned (.tuple #[.string t, .int .i64 0]) ∧ Below w.heap.size w w')) (S0 : Hid (∀ w, Calls Try.prog 11 #[.string (t.extract 0 20)] w fun e w' => e = .returned (.int .i64 0) ∧ w = w')) (pa : a.size % 2 = 0) (pb : b.size % 2 = 0) (za : a.size ≤ 140737488351232) (zb : b.size ≤ 140737488351232) :
    Calls Try.prog 8 #[hv tos id frag ttl proto src dst data, .string a, .string b] w fun e w' => e = .returned (.bool true) ∧ Below w.heap.size w w' := by
  have lt : ∀ o, w.heap.size < (w.alloc o).heap.size := fun o => by simp
  have le : ∀ (w : World) o, w.heap.size ≤ (w.alloc o).heap.size := fun w o => by simp
  have X0 : Hid _ := box_new w tos id frag ttl proto src dst data
  have ta : ((a.size : Int) % 2 == 1) = false := by simp; omega
  have tb : ((b.size : Int) % 2 == 1) = false := by simp; omega
  have S1 : Hid (∀ w, _) := fun w => sum_ok (a ++ b) w (by rw [ByteArray.size_append]; omega)
  have S2 : Hid (∀ w, _) := fun w => sum_ok (b ++ a) w (by rw [ByteArray.size_append]; omega)
  have S3 : Hid (∀ w, _) := fun w => sum_ok a w (by omega)
  rw [ck_comm b a (by omega) (by omega)] at S2
  have cb := ck_bd a
  generalize ck (a ++ b) = c at *
  generalize ck a = d at *
  have q1 : decide (0 ≤ d) = true := by simp; omega
  have q2 : decide (d ≤ 65535) = true := by simp; omega
  unfold hv at *
  go_enter Try.func8, Try.ntmps8
  go_wp2_with (first
    | (go_at_call 17; refine (works_ok _).mono ?_; rintro e w1 ⟨rfl, b1⟩; have X1 := X0.out.keep (lt _) b1; obtain ⟨l1, c0, c1, c2, c3, c4, c5, c6, c7⟩ := X1; have Z1 : Hid _ := ((Below.refl w.heap.size w).alloc (Nat.le_refl _) _).trans (b1.mono (le w _)); clear b1 X0)
    | (go_at_call 9; refine (B1.out _).mono ?_; rintro e w2 ⟨rfl, b2⟩; have Z2 : Hid _ := Z1.out.trans (b2.mono Z1.out.size); clear b2 Z1 c0 c1 c2 c3 c4 c5 c6 c7 B1)
    | (go_at_call_of 11 (t.extract 0 20); refine (S0.out _).mono ?_; rintro e w' ⟨rfl, rfl⟩)
    | (go_at_call_of 11 (a ++ b); refine (S1.out _).mono ?_; rintro e w' ⟨rfl, rfl⟩)
    | (go_at_call_of 11 (b ++ a); refine (S2.out _).mono ?_; rintro e w' ⟨rfl, rfl⟩)
    | (go_at_call_of 11 a; refine (S3.out _).mono ?_; rintro e w' ⟨rfl, rfl⟩)
    )
  go_ret
  exact ⟨rfl, Z2.out⟩

set_option maxHeartbeats 2000000 in
theorem walkY01 (tos id frag ttl proto src dst : Int) (data a b : ByteArray) (w : World) (t : ByteArray) (ht : 20 ≤ t.size) (hm : t.size ≤ 9223372036854775807) (B1 : Hid (∀ w, Calls Try.prog 9 #[hv tos id frag ttl proto src dst data] w fun e w' => e = .returned (.tuple #[.string t, .int .i64 0]) ∧ Below w.heap.size w w')) (S0 : Hid (∀ w, Calls Try.prog 11 #[.string (t.extract 0 20)] w fun e w' => e = .returned (.int .i64 0) ∧ w = w')) (pa : a.size % 2 = 0) (pb : b.size % 2 = 1) (za : a.size ≤ 140737488351232) (zb : b.size ≤ 140737488351232) :
    Calls Try.prog 8 #[hv tos id frag ttl proto src dst data, .string a, .string b] w fun e w' => e = .returned (.bool true) ∧ Below w.heap.size w w' := by
  have lt : ∀ o, w.heap.size < (w.alloc o).heap.size := fun o => by simp
  have le : ∀ (w : World) o, w.heap.size ≤ (w.alloc o).heap.size := fun w o => by simp
  have X0 : Hid _ := box_new w tos id frag ttl proto src dst data
  have hzb : (b ++ ByteArray.mk #[0]).size = b.size + 1 := by rw [ByteArray.size_append]; rfl
  have ta : ((a.size : Int) % 2 == 1) = false := by simp; omega
  have tb : ((b.size : Int) % 2 == 1) = true := by simp; omega
  have S1 : Hid (∀ w, _) := fun w => sum_ok (a ++ (b ++ ByteArray.mk #[0])) w (by rw [ByteArray.size_append]; omega)
  have S2 : Hid (∀ w, _) := fun w => sum_ok ((b ++ ByteArray.mk #[0]) ++ a) w (by rw [ByteArray.size_append]; omega)
  have S3 : Hid (∀ w, _) := fun w => sum_ok a w (by omega)
  rw [ck_comm (b ++ ByteArray.mk #[0]) a (by omega) (by omega)] at S2
  have cb := ck_bd a
  generalize ck (a ++ (b ++ ByteArray.mk #[0])) = c at *
  generalize ck a = d at *
  have q1 : decide (0 ≤ d) = true := by simp; omega
  have q2 : decide (d ≤ 65535) = true := by simp; omega
  unfold hv at *
  go_enter Try.func8, Try.ntmps8
  go_wp2_with (first
    | (go_at_call 17; refine (works_ok _).mono ?_; rintro e w1 ⟨rfl, b1⟩; have X1 := X0.out.keep (lt _) b1; obtain ⟨l1, c0, c1, c2, c3, c4, c5, c6, c7⟩ := X1; have Z1 : Hid _ := ((Below.refl w.heap.size w).alloc (Nat.le_refl _) _).trans (b1.mono (le w _)); clear b1 X0)
    | (go_at_call 9; refine (B1.out _).mono ?_; rintro e w2 ⟨rfl, b2⟩; have Z2 : Hid _ := Z1.out.trans (b2.mono Z1.out.size); clear b2 Z1 c0 c1 c2 c3 c4 c5 c6 c7 B1)
    | (go_at_call_of 11 (t.extract 0 20); refine (S0.out _).mono ?_; rintro e w' ⟨rfl, rfl⟩)
    | (go_at_call_of 11 (a ++ (b ++ ByteArray.mk #[0])); refine (S1.out _).mono ?_; rintro e w' ⟨rfl, rfl⟩)
    | (go_at_call_of 11 ((b ++ ByteArray.mk #[0]) ++ a); refine (S2.out _).mono ?_; rintro e w' ⟨rfl, rfl⟩)
    | (go_at_call_of 11 a; refine (S3.out _).mono ?_; rintro e w' ⟨rfl, rfl⟩)
    )
  go_ret
  exact ⟨rfl, Z2.out⟩

set_option maxHeartbeats 2000000 in
theorem walkY10 (tos id frag ttl proto src dst : Int) (data a b : ByteArray) (w : World) (t : ByteArray) (ht : 20 ≤ t.size) (hm : t.size ≤ 9223372036854775807) (B1 : Hid (∀ w, Calls Try.prog 9 #[hv tos id frag ttl proto src dst data] w fun e w' => e = .returned (.tuple #[.string t, .int .i64 0]) ∧ Below w.heap.size w w')) (S0 : Hid (∀ w, Calls Try.prog 11 #[.string (t.extract 0 20)] w fun e w' => e = .returned (.int .i64 0) ∧ w = w')) (pa : a.size % 2 = 1) (pb : b.size % 2 = 0) (za : a.size ≤ 140737488351232) (zb : b.size ≤ 140737488351232) :
    Calls Try.prog 8 #[hv tos id frag ttl proto src dst data, .string a, .string b] w fun e w' => e = .returned (.bool true) ∧ Below w.heap.size w w' := by
  have lt : ∀ o, w.heap.size < (w.alloc o).heap.size := fun o => by simp
  have le : ∀ (w : World) o, w.heap.size ≤ (w.alloc o).heap.size := fun w o => by simp
  have X0 : Hid _ := box_new w tos id frag ttl proto src dst data
  have hza : (a ++ ByteArray.mk #[0]).size = a.size + 1 := by rw [ByteArray.size_append]; rfl
  have ta : ((a.size : Int) % 2 == 1) = true := by simp; omega
  have tb : ((b.size : Int) % 2 == 1) = false := by simp; omega
  have S1 : Hid (∀ w, _) := fun w => sum_ok ((a ++ ByteArray.mk #[0]) ++ b) w (by rw [ByteArray.size_append]; omega)
  have S2 : Hid (∀ w, _) := fun w => sum_ok (b ++ (a ++ ByteArray.mk #[0])) w (by rw [ByteArray.size_append]; omega)
  have S3 : Hid (∀ w, _) := fun w => sum_ok (a ++ ByteArray.mk #[0]) w (by omega)
  rw [ck_comm b (a ++ ByteArray.mk #[0]) (by omega) (by omega)] at S2
  have cb := ck_bd (a ++ ByteArray.mk #[0])
  generalize ck ((a ++ ByteArray.mk #[0]) ++ b) = c at *
  generalize ck (a ++ ByteArray.mk #[0]) = d at *
  have q1 : decide (0 ≤ d) = true := by simp; omega
  have q2 : decide (d ≤ 65535) = true := by simp; omega
  unfold hv at *
  go_enter Try.func8, Try.ntmps8
  go_wp2_with (first
    | (go_at_call 17; refine (works_ok _).mono ?_; rintro e w1 ⟨rfl, b1⟩; have X1 := X0.out.keep (lt _) b1; obtain ⟨l1, c0, c1, c2, c3, c4, c5, c6, c7⟩ := X1; have Z1 : Hid _ := ((Below.refl w.heap.size w).alloc (Nat.le_refl _) _).trans (b1.mono (le w _)); clear b1 X0)
    | (go_at_call 9; refine (B1.out _).mono ?_; rintro e w2 ⟨rfl, b2⟩; have Z2 : Hid _ := Z1.out.trans (b2.mono Z1.out.size); clear b2 Z1 c0 c1 c2 c3 c4 c5 c6 c7 B1)
    | (go_at_call_of 11 (t.extract 0 20); refine (S0.out _).mono ?_; rintro e w' ⟨rfl, rfl⟩)
    | (go_at_call_of 11 ((a ++ ByteArray.mk #[0]) ++ b); refine (S1.out _).mono ?_; rintro e w' ⟨rfl, rfl⟩)
    | (go_at_call_of 11 (b ++ (a ++ ByteArray.mk #[0])); refine (S2.out _).mono ?_; rintro e w' ⟨rfl, rfl⟩)
    | (go_at_call_of 11 (a ++ ByteArray.mk #[0]); refine (S3.out _).mono ?_; rintro e w' ⟨rfl, rfl⟩)
    )
  go_ret
  exact ⟨rfl, Z2.out⟩

set_option maxHeartbeats 2000000 in
theorem walkY11 (tos id frag ttl proto src dst : Int) (data a b : ByteArray) (w : World) (t : ByteArray) (ht : 20 ≤ t.size) (hm : t.size ≤ 9223372036854775807) (B1 : Hid (∀ w, Calls Try.prog 9 #[hv tos id frag ttl proto src dst data] w fun e w' => e = .returned (.tuple #[.string t, .int .i64 0]) ∧ Below w.heap.size w w')) (S0 : Hid (∀ w, Calls Try.prog 11 #[.string (t.extract 0 20)] w fun e w' => e = .returned (.int .i64 0) ∧ w = w')) (pa : a.size % 2 = 1) (pb : b.size % 2 = 1) (za : a.size ≤ 140737488351232) (zb : b.size ≤ 140737488351232) :
    Calls Try.prog 8 #[hv tos id frag ttl proto src dst data, .string a, .string b] w fun e w' => e = .returned (.bool true) ∧ Below w.heap.size w w' := by
  have lt : ∀ o, w.heap.size < (w.alloc o).heap.size := fun o => by simp
  have le : ∀ (w : World) o, w.heap.size ≤ (w.alloc o).heap.size := fun w o => by simp
  have X0 : Hid _ := box_new w tos id frag ttl proto src dst data
  have hza : (a ++ ByteArray.mk #[0]).size = a.size + 1 := by rw [ByteArray.size_append]; rfl
  have hzb : (b ++ ByteArray.mk #[0]).size = b.size + 1 := by rw [ByteArray.size_append]; rfl
  have ta : ((a.size : Int) % 2 == 1) = true := by simp; omega
  have tb : ((b.size : Int) % 2 == 1) = true := by simp; omega
  have S1 : Hid (∀ w, _) := fun w => sum_ok ((a ++ ByteArray.mk #[0]) ++ (b ++ ByteArray.mk #[0])) w (by rw [ByteArray.size_append]; omega)
  have S2 : Hid (∀ w, _) := fun w => sum_ok ((b ++ ByteArray.mk #[0]) ++ (a ++ ByteArray.mk #[0])) w (by rw [ByteArray.size_append]; omega)
  have S3 : Hid (∀ w, _) := fun w => sum_ok (a ++ ByteArray.mk #[0]) w (by omega)
  rw [ck_comm (b ++ ByteArray.mk #[0]) (a ++ ByteArray.mk #[0]) (by omega) (by omega)] at S2
  have cb := ck_bd (a ++ ByteArray.mk #[0])
  generalize ck ((a ++ ByteArray.mk #[0]) ++ (b ++ ByteArray.mk #[0])) = c at *
  generalize ck (a ++ ByteArray.mk #[0]) = d at *
  have q1 : decide (0 ≤ d) = true := by simp; omega
  have q2 : decide (d ≤ 65535) = true := by simp; omega
  unfold hv at *
  go_enter Try.func8, Try.ntmps8
  go_wp2_with (first
    | (go_at_call 17; refine (works_ok _).mono ?_; rintro e w1 ⟨rfl, b1⟩; have X1 := X0.out.keep (lt _) b1; obtain ⟨l1, c0, c1, c2, c3, c4, c5, c6, c7⟩ := X1; have Z1 : Hid _ := ((Below.refl w.heap.size w).alloc (Nat.le_refl _) _).trans (b1.mono (le w _)); clear b1 X0)
    | (go_at_call 9; refine (B1.out _).mono ?_; rintro e w2 ⟨rfl, b2⟩; have Z2 : Hid _ := Z1.out.trans (b2.mono Z1.out.size); clear b2 Z1 c0 c1 c2 c3 c4 c5 c6 c7 B1)
    | (go_at_call_of 11 (t.extract 0 20); refine (S0.out _).mono ?_; rintro e w' ⟨rfl, rfl⟩)
    | (go_at_call_of 11 ((a ++ ByteArray.mk #[0]) ++ (b ++ ByteArray.mk #[0])); refine (S1.out _).mono ?_; rintro e w' ⟨rfl, rfl⟩)
    | (go_at_call_of 11 ((b ++ ByteArray.mk #[0]) ++ (a ++ ByteArray.mk #[0])); refine (S2.out _).mono ?_; rintro e w' ⟨rfl, rfl⟩)
    | (go_at_call_of 11 (a ++ ByteArray.mk #[0]); refine (S3.out _).mono ?_; rintro e w' ⟨rfl, rfl⟩)
    )
  go_ret
  exact ⟨rfl, Z2.out⟩

set_option maxHeartbeats 2000000 in
theorem walkN00 (tos id frag ttl proto src dst : Int) (data a b : ByteArray) (w : World) (t : ByteArray) (e1 : Int) (he1 : (e1 == 0) = false) (B1 : Hid (∀ w, Calls Try.prog 9 #[hv tos id frag ttl proto src dst data] w fun e w' => e = .returned (.tuple #[.string t, .int .i64 e1]) ∧ Below w.heap.size w w')) (pa : a.size % 2 = 0) (pb : b.size % 2 = 0) (za : a.size ≤ 140737488351232) (zb : b.size ≤ 140737488351232) :
    Calls Try.prog 8 #[hv tos id frag ttl proto src dst data, .string a, .string b] w fun e w' => e = .returned (.bool true) ∧ Below w.heap.size w w' := by
  have lt : ∀ o, w.heap.size < (w.alloc o).heap.size := fun o => by simp
  have le : ∀ (w : World) o, w.heap.size ≤ (w.alloc o).heap.size := fun w o => by simp
  have X0 : Hid _ := box_new w tos id frag ttl proto src dst data
  have ta : ((a.size : Int) % 2 == 1) = false := by simp; omega
  have tb : ((b.size : Int) % 2 == 1) = false := by simp; omega
  have S1 : Hid (∀ w, _) := fun w => sum_ok (a ++ b) w (by rw [ByteArray.size_append]; omega)
  have S2 : Hid (∀ w, _) := fun w => sum_ok (b ++ a) w (by rw [ByteArray.size_append]; omega)
  have S3 : Hid (∀ w, _) := fun w => sum_ok a w (by omega)
  rw [ck_comm b a (by omega) (by omega)] at S2
  have cb := ck_bd a
  generalize ck (a ++ b) = c at *
  generalize ck a = d at *
  have q1 : decide (0 ≤ d) = true := by simp; omega
  have q2 : decide (d ≤ 65535) = true := by simp; omega
  unfold hv at *
  go_enter Try.func8, Try.ntmps8
  go_wp2_with (first
    | (go_at_call 17; refine (works_ok _).mono ?_; rintro e w1 ⟨rfl, b1⟩; have X1 := X0.out.keep (lt _) b1; obtain ⟨l1, c0, c1, c2, c3, c4, c5, c6, c7⟩ := X1; have Z1 : Hid _ := ((Below.refl w.heap.size w).alloc (Nat.le_refl _) _).trans (b1.mono (le w _)); clear b1 X0)
    | (go_at_call 9; refine (B1.out _).mono ?_; rintro e w2 ⟨rfl, b2⟩; have Z2 : Hid _ := Z1.out.trans (b2.mono Z1.out.size); clear b2 Z1 c0 c1 c2 c3 c4 c5 c6 c7 B1)
    | (go_at_call_of 11 (a ++ b); refine (S1.out _).mono ?_; rintro e w' ⟨rfl, rfl⟩)
    | (go_at_call_of 11 (b ++ a); refine (S2.out _).mono ?_; rintro e w' ⟨rfl, rfl⟩)
    | (go_at_call_of 11 a; refine (S3.out _).mono ?_; rintro e w' ⟨rfl, rfl⟩)
    )
  go_ret
  exact ⟨rfl, Z2.out⟩

set_option maxHeartbeats 2000000 in
theorem walkN01 (tos id frag ttl proto src dst : Int) (data a b : ByteArray) (w : World) (t : ByteArray) (e1 : Int) (he1 : (e1 == 0) = false) (B1 : Hid (∀ w, Calls Try.prog 9 #[hv tos id frag ttl proto src dst data] w fun e w' => e = .returned (.tuple #[.string t, .int .i64 e1]) ∧ Below w.heap.size w w')) (pa : a.size % 2 = 0) (pb : b.size % 2 = 1) (za : a.size ≤ 140737488351232) (zb : b.size ≤ 140737488351232) :
    Calls Try.prog 8 #[hv tos id frag ttl proto src dst data, .string a, .string b] w fun e w' => e = .returned (.bool true) ∧ Below w.heap.size w w' := by
  have lt : ∀ o, w.heap.size < (w.alloc o).heap.size := fun o => by simp
  have le : ∀ (w : World) o, w.heap.size ≤ (w.alloc o).heap.size := fun w o => by simp
  have X0 : Hid _ := box_new w tos id frag ttl proto src dst data
  have hzb : (b ++ ByteArray.mk #[0]).size = b.size + 1 := by rw [ByteArray.size_append]; rfl
  have ta : ((a.size : Int) % 2 == 1) = false := by simp; omega
  have tb : ((b.size : Int) % 2 == 1) = true := by simp; omega
  have S1 : Hid (∀ w, _) := fun w => sum_ok (a ++ (b ++ ByteArray.mk #[0])) w (by rw [ByteArray.size_append]; omega)
  have S2 : Hid (∀ w, _) := fun w => sum_ok ((b ++ ByteArray.mk #[0]) ++ a) w (by rw [ByteArray.size_append]; omega)
  have S3 : Hid (∀ w, _) := fun w => sum_ok a w (by omega)
  rw [ck_comm (b ++ ByteArray.mk #[0]) a (by omega) (by omega)] at S2
  have cb := ck_bd a
  generalize ck (a ++ (b ++ ByteArray.mk #[0])) = c at *
  generalize ck a = d at *
  have q1 : decide (0 ≤ d) = true := by simp; omega
  have q2 : decide (d ≤ 65535) = true := by simp; omega
  unfold hv at *
  go_enter Try.func8, Try.ntmps8
  go_wp2_with (first
    | (go_at_call 17; refine (works_ok _).mono ?_; rintro e w1 ⟨rfl, b1⟩; have X1 := X0.out.keep (lt _) b1; obtain ⟨l1, c0, c1, c2, c3, c4, c5, c6, c7⟩ := X1; have Z1 : Hid _ := ((Below.refl w.heap.size w).alloc (Nat.le_refl _) _).trans (b1.mono (le w _)); clear b1 X0)
    | (go_at_call 9; refine (B1.out _).mono ?_; rintro e w2 ⟨rfl, b2⟩; have Z2 : Hid _ := Z1.out.trans (b2.mono Z1.out.size); clear b2 Z1 c0 c1 c2 c3 c4 c5 c6 c7 B1)
    | (go_at_call_of 11 (a ++ (b ++ ByteArray.mk #[0])); refine (S1.out _).mono ?_; rintro e w' ⟨rfl, rfl⟩)
    | (go_at_call_of 11 ((b ++ ByteArray.mk #[0]) ++ a); refine (S2.out _).mono ?_; rintro e w' ⟨rfl, rfl⟩)
    | (go_at_call_of 11 a; refine (S3.out _).mono ?_; rintro e w' ⟨rfl, rfl⟩)
    )
  go_ret
  exact ⟨rfl, Z2.out⟩

set_option maxHeartbeats 2000000 in
theorem walkN10 (tos id frag ttl proto src dst : Int) (data a b : ByteArray) (w : World) (t : ByteArray) (e1 : Int) (he1 : (e1 == 0) = false) (B1 : Hid (∀ w, Calls Try.prog 9 #[hv tos id frag ttl proto src dst data] w fun e w' => e = .returned (.tuple #[.string t, .int .i64 e1]) ∧ Below w.heap.size w w')) (pa : a.size % 2 = 1) (pb : b.size % 2 = 0) (za : a.size ≤ 140737488351232) (zb : b.size ≤ 140737488351232) :
    Calls Try.prog 8 #[hv tos id frag ttl proto src dst data, .string a, .string b] w fun e w' => e = .returned (.bool true) ∧ Below w.heap.size w w' := by
  have lt : ∀ o, w.heap.size < (w.alloc o).heap.size := fun o => by simp
  have le : ∀ (w : World) o, w.heap.size ≤ (w.alloc o).heap.size := fun w o => by simp
  have X0 : Hid _ := box_new w tos id frag ttl proto src dst data
  have hza : (a ++ ByteArray.mk #[0]).size = a.size + 1 := by rw [ByteArray.size_append]; rfl
  have ta : ((a.size : Int) % 2 == 1) = true := by simp; omega
  have tb : ((b.size : Int) % 2 == 1) = false := by simp; omega
  have S1 : Hid (∀ w, _) := fun w => sum_ok ((a ++ ByteArray.mk #[0]) ++ b) w (by rw [ByteArray.size_append]; omega)
  have S2 : Hid (∀ w, _) := fun w => sum_ok (b ++ (a ++ ByteArray.mk #[0])) w (by rw [ByteArray.size_append]; omega)
  have S3 : Hid (∀ w, _) := fun w => sum_ok (a ++ ByteArray.mk #[0]) w (by omega)
  rw [ck_comm b (a ++ ByteArray.mk #[0]) (by omega) (by omega)] at S2
  have cb := ck_bd (a ++ ByteArray.mk #[0])
  generalize ck ((a ++ ByteArray.mk #[0]) ++ b) = c at *
  generalize ck (a ++ ByteArray.mk #[0]) = d at *
  have q1 : decide (0 ≤ d) = true := by simp; omega
  have q2 : decide (d ≤ 65535) = true := by simp; omega
  unfold hv at *
  go_enter Try.func8, Try.ntmps8
  go_wp2_with (first
    | (go_at_call 17; refine (works_ok _).mono ?_; rintro e w1 ⟨rfl, b1⟩; have X1 := X0.out.keep (lt _) b1; obtain ⟨l1, c0, c1, c2, c3, c4, c5, c6, c7⟩ := X1; have Z1 : Hid _ := ((Below.refl w.heap.size w).alloc (Nat.le_refl _) _).trans (b1.mono (le w _)); clear b1 X0)
    | (go_at_call 9; refine (B1.out _).mono ?_; rintro e w2 ⟨rfl, b2⟩; have Z2 : Hid _ := Z1.out.trans (b2.mono Z1.out.size); clear b2 Z1 c0 c1 c2 c3 c4 c5 c6 c7 B1)
    | (go_at_call_of 11 ((a ++ ByteArray.mk #[0]) ++ b); refine (S1.out _).mono ?_; rintro e w' ⟨rfl, rfl⟩)
    | (go_at_call_of 11 (b ++ (a ++ ByteArray.mk #[0])); refine (S2.out _).mono ?_; rintro e w' ⟨rfl, rfl⟩)
    | (go_at_call_of 11 (a ++ ByteArray.mk #[0]); refine (S3.out _).mono ?_; rintro e w' ⟨rfl, rfl⟩)
    )
  go_ret
  exact ⟨rfl, Z2.out⟩

set_option maxHeartbeats 2000000 in
theorem walkN11 (tos id frag ttl proto src dst : Int) (data a b : ByteArray) (w : World) (t : ByteArray) (e1 : Int) (he1 : (e1 == 0) = false) (B1 : Hid (∀ w, Calls Try.prog 9 #[hv tos id frag ttl proto src dst data] w fun e w' => e = .returned (.tuple #[.string t, .int .i64 e1]) ∧ Below w.heap.size w w')) (pa : a.size % 2 = 1) (pb : b.size % 2 = 1) (za : a.size ≤ 140737488351232) (zb : b.size ≤ 140737488351232) :
    Calls Try.prog 8 #[hv tos id frag ttl proto src dst data, .string a, .string b] w fun e w' => e = .returned (.bool true) ∧ Below w.heap.size w w' := by
  have lt : ∀ o, w.heap.size < (w.alloc o).heap.size := fun o => by simp
  have le : ∀ (w : World) o, w.heap.size ≤ (w.alloc o).heap.size := fun w o => by simp
  have X0 : Hid _ := box_new w tos id frag ttl proto src dst data
  have hza : (a ++ ByteArray.mk #[0]).size = a.size + 1 := by rw [ByteArray.size_append]; rfl
  have hzb : (b ++ ByteArray.mk #[0]).size = b.size + 1 := by rw [ByteArray.size_append]; rfl
  have ta : ((a.size : Int) % 2 == 1) = true := by simp; omega
  have tb : ((b.size : Int) % 2 == 1) = true := by simp; omega
  have S1 : Hid (∀ w, _) := fun w => sum_ok ((a ++ ByteArray.mk #[0]) ++ (b ++ ByteArray.mk #[0])) w (by rw [ByteArray.size_append]; omega)
  have S2 : Hid (∀ w, _) := fun w => sum_ok ((b ++ ByteArray.mk #[0]) ++ (a ++ ByteArray.mk #[0])) w (by rw [ByteArray.size_append]; omega)
  have S3 : Hid (∀ w, _) := fun w => sum_ok (a ++ ByteArray.mk #[0]) w (by omega)
  rw [ck_comm (b ++ ByteArray.mk #[0]) (a ++ ByteArray.mk #[0]) (by omega) (by omega)] at S2
  have cb := ck_bd (a ++ ByteArray.mk #[0])
  generalize ck ((a ++ ByteArray.mk #[0]) ++ (b ++ ByteArray.mk #[0])) = c at *
  generalize ck (a ++ ByteArray.mk #[0]) = d at *
  have q1 : decide (0 ≤ d) = true := by simp; omega
  have q2 : decide (d ≤ 65535) = true := by simp; omega
  unfold hv at *
  go_enter Try.func8, Try.ntmps8
  go_wp2_with (first
    | (go_at_call 17; refine (works_ok _).mono ?_; rintro e w1 ⟨rfl, b1⟩; have X1 := X0.out.keep (lt _) b1; obtain ⟨l1, c0, c1, c2, c3, c4, c5, c6, c7⟩ := X1; have Z1 : Hid _ := ((Below.refl w.heap.size w).alloc (Nat.le_refl _) _).trans (b1.mono (le w _)); clear b1 X0)
    | (go_at_call 9; refine (B1.out _).mono ?_; rintro e w2 ⟨rfl, b2⟩; have Z2 : Hid _ := Z1.out.trans (b2.mono Z1.out.size); clear b2 Z1 c0 c1 c2 c3 c4 c5 c6 c7 B1)
    | (go_at_call_of 11 ((a ++ ByteArray.mk #[0]) ++ (b ++ ByteArray.mk #[0])); refine (S1.out _).mono ?_; rintro e w' ⟨rfl, rfl⟩)
    | (go_at_call_of 11 ((b ++ ByteArray.mk #[0]) ++ (a ++ ByteArray.mk #[0])); refine (S2.out _).mono ?_; rintro e w' ⟨rfl, rfl⟩)
    | (go_at_call_of 11 (a ++ ByteArray.mk #[0]); refine (S3.out _).mono ?_; rintro e w' ⟨rfl, rfl⟩)
    )
  go_ret
  exact ⟨rfl, Z2.out⟩

theorem walkN (tos id frag ttl proto src dst : Int) (data a b : ByteArray) (w : World) (za : a.size ≤ 140737488351232) (zb : b.size ≤ 140737488351232) (t : ByteArray) (e1 : Int) (he1 : (e1 == 0) = false) (B1 : Hid (∀ w, Calls Try.prog 9 #[hv tos id frag ttl proto src dst data] w fun e w' => e = .returned (.tuple #[.string t, .int .i64 e1]) ∧ Below w.heap.size w w')) :
    Calls Try.prog 8 #[hv tos id frag ttl proto src dst data, .string a, .string b] w fun e w' => e = .returned (.bool true) ∧ Below w.heap.size w w' := by
  rcases Nat.mod_two_eq_zero_or_one a.size with pa | pa <;> rcases Nat.mod_two_eq_zero_or_one b.size with pb | pb
  · exact walkN00 tos id frag ttl proto src dst data a b w t e1 he1 B1 pa pb za zb
  · exact walkN01 tos id frag ttl proto src dst data a b w t e1 he1 B1 pa pb za zb
  · exact walkN10 tos id frag ttl proto src dst data a b w t e1 he1 B1 pa pb za zb
  · exact walkN11 tos id frag ttl proto src dst data a b w t e1 he1 B1 pa pb za zb

theorem walk (tos id frag ttl proto src dst : Int) (data a b : ByteArray) (w : World) (za : a.size ≤ 140737488351232) (zb : b.size ≤ 140737488351232) (s0 : 0 ≤ src) (s1 : src < 4294967296) (d0 : 0 ≤ dst) (d1 : dst < 4294967296) (hz : data.size ≤ 9223372036854775807) :
    Calls Try.prog 8 #[hv tos id frag ttl proto src dst data, .string a, .string b] w fun e w' => e = .returned (.bool true) ∧ Below w.heap.size w w' := by
  by_cases hk : HOK tos id frag ttl proto
  · by_cases hl : data.size ≤ 65515
    · have ht : 20 ≤ (pkt tos id frag ttl proto src dst data).size := by rw [pkt_size]; omega
      have hm : (pkt tos id frag ttl proto src dst data).size ≤ 9223372036854775807 := by rw [pkt_size]; omega
      have B1 : Hid (∀ w, _) := fun w => build_ok tos id frag ttl proto src dst data w hk hl s0 s1 d0 d1
      have S0 : Hid (∀ w, _) := fun w => sum_ok ((pkt tos id frag ttl proto src dst data).extract 0 20) w (by rw [ByteArray.size_extract]; omega)
      rw [pkt_zero tos id frag ttl proto src dst data s0 s1 d0 d1] at S0
      rcases Nat.mod_two_eq_zero_or_one a.size with pa | pa <;> rcases Nat.mod_two_eq_zero_or_one b.size with pb | pb
      · exact walkY00 tos id frag ttl proto src dst data a b w _ ht hm B1 S0 pa pb za zb
      · exact walkY01 tos id frag ttl proto src dst data a b w _ ht hm B1 S0 pa pb za zb
      · exact walkY10 tos id frag ttl proto src dst data a b w _ ht hm B1 S0 pa pb za zb
      · exact walkY11 tos id frag ttl proto src dst data a b w _ ht hm B1 S0 pa pb za zb
    · exact walkN tos id frag ttl proto src dst data a b w za zb _ 8 rfl (fun w => build_long tos id frag ttl proto src dst data w hk hz (by omega))
  · exact walkN tos id frag ttl proto src dst data a b w za zb _ 2 rfl (fun w => build_range tos id frag ttl proto src dst data w hk)

theorem contract (H : Type) (enc : TypeId × Value → H) (W : World) (base : Nat) (args : Array Value) (ds gs : List (DataW H)) (before : List MemPlace)
    (hval : ∀ (j : Nat) t v, Try.f8.params[j]? = some t → args[j]? = some v → Value.okWide Try.prog W .any base t v)
    (hW : DataW.Whole enc Try.prog Try.f8.params.toList Rows.ipv4SumsSpec.vars false W args.toList ds gs before)
    (hsz : (DataW.weightsEach Try.prog (Try.f8.params.toList ++ (OpenSpec.ofChange Rows.ipv4SumsSpec).bare.plain.varTypes Try.prog) (ds ++ gs)).all (· ≤ reachBytes) = true) :
    Calls Try.prog 8 args W fun e W' => ∃ v, e = .returned v ∧ Rows.ipv4SumsSpec.post enc Try.prog Try.f8 false true false false W args v W' := by
  have hW' := hW
  obtain ⟨p, q, hA0, hV, rfl, hfz, hnd⟩ := hW
  have hA : DataW.TrodAll enc Try.prog W 0 (fun _ => true) true Try.f8.params.toList args.toList ds p := hA0
  rw [Try.params8] at hA hval hsz
  obtain ⟨v0, vs0, d0, ds0, p0, q0, hargs, rfl, rfl, h0, r0⟩ := trodAll_cons hA
  obtain ⟨v1, vs1, d1, ds1, p1, q1, rfl, rfl, rfl, h1, r1⟩ := trodAll_cons r0
  obtain ⟨v2, vs2, d2, ds2, p2, q2, rfl, rfl, rfl, h2, r2⟩ := trodAll_cons r1
  obtain ⟨rfl, rfl, rfl⟩ := trodAll_nil r2
  obtain rfl : args = #[v0, v1, v2] := by cases args; simp_all
  obtain ⟨rfl, rfl⟩ := trodVars_none hV
  have k0 := h0
  have lt0 : ∀ x ∈ p0, x.block < W.heap.size := by obtain ⟨m, hm⟩ := k0; exact DataW.trod_lt m _ _ _ hm
  obtain ⟨tos, id, frag, ttl, proto, src, dst, data, rfl, s0, s1, d0', d1', z0⟩ := open_hdr (hval 0 24 v0 rfl rfl) h0
  obtain ⟨a1, rfl, rfl, rfl, w1⟩ := open_string Try.underlying9 (hval 1 9 v1 rfl rfl) h1
  obtain ⟨a2, rfl, rfl, rfl, w2⟩ := open_string Try.underlying9 (hval 2 9 v2 rfl rfl) h2
  have z1 : a1.size ≤ 140737488351232 := by
    have hz := sized_string hsz (j := 1) (t := 9) (bytes := a1.data.toList) rfl rfl
    simpa [reachBytes] using hz
  have z2 : a2.size ≤ 140737488351232 := by
    have hz := sized_string hsz (j := 2) (t := 9) (bytes := a2.data.toList) rfl rfl
    simpa [reachBytes] using hz
  clear hA0
  simp only [List.append_nil] at hW'
  refine (walk tos id frag ttl proto src dst data a1 a2 W z1 z2 s0 s1 d0' d1' z0).mono fun e W' ⟨he, bel⟩ => ?_
  subst he
  exact ⟨_, rfl, _, _, _, [], _, [], hW', trodAll_mk1 (shut_bool Try.underlying4 _), (trodAll_cons_mk (Below.trod laidOut (by kernel_rfl) (of_decide_eq_true (by kernel_rfl)) k0 bel lt0) (trodAll_cons_mk (shut_string Try.underlying9 w1) (trodAll_cons_mk (shut_string Try.underlying9 w2) trodAll_mk0))), rfl, bel.frame _, fun h => by cases h⟩

theorem laid_met (os : Os) : laidMet Try.prog Rows.ipv4SumsRow.laid ((startWorld Try.prog os).forCall (fun _ _ => 0) ⟨#[], #[.agg #[.int .i64 0, .int .i64 0, .int .i64 0, .int .i64 0, .int .i64 0, .int .u32 0, .int .u32 0, .string ByteArray.empty], .string ByteArray.empty, .string ByteArray.empty], []⟩).memory :=
  laidMet_of_run' 8 (by kernel_rfl) (by kernel_rfl)
theorem reads (os : Os) {H : Type} (enc : TypeId × Value → H) : ∃ places, DataW.whole enc Try.prog ((startWorld Try.prog os).forCall (fun _ _ => 0) ⟨#[], #[.agg #[.int .i64 0, .int .i64 0, .int .i64 0, .int .i64 0, .int .i64 0, .int .u32 0, .int .u32 0, .string ByteArray.empty], .string ByteArray.empty, .string ByteArray.empty], []⟩).memory Try.f8.params.toList Rows.ipv4SumsSpec.vars false #[Value.agg #[.int .i64 0, .int .i64 0, .int .i64 0, .int .i64 0, .int .i64 0, .int .u32 0, .int .u32 0, .string ByteArray.empty], Value.string ByteArray.empty, Value.string ByteArray.empty].toList 8 = some ([.agg [.lit (.int .i64 0), .lit (.int .i64 0), .lit (.int .i64 0), .lit (.int .i64 0), .lit (.int .i64 0), .lit (.int .u32 0), .lit (.int .u32 0), .lit (.string [])], .lit (.string []), .lit (.string [])], [], places) :=
  ⟨[], by kernel_rfl⟩

set_option maxRecDepth 100000 in
theorem lifted (os : Os) (started : os.Started) (H : Type) (enc : TypeId × Value → H) (F : Stop.Interp) :
    ReturnsInHanded {} Try.checked os 8 .any ((OpenSpec.ofChange Rows.ipv4SumsSpec).preRow enc Try.prog Try.f8 Rows.ipv4SumsRow.domain false Rows.ipv4SumsRow.laid) (((OpenSpec.ofChange Rows.ipv4SumsSpec).at F).post enc Try.prog Try.f8 false true false false) := by
  obtain ⟨places, hx⟩ := reads os enc
  refine returnsInHanded_of_row (C := Try.checked) (s := OpenSpec.ofChange Rows.ipv4SumsSpec) own started (by kernel_rfl) Try.func8
    (witness_row_at (enc := enc) (C := Try.checked) false (startWorld Try.prog os) #[.agg #[.int .i64 0, .int .i64 0, .int .i64 0, .int .i64 0, .int .i64 0, .int .u32 0, .int .u32 0, .string ByteArray.empty], .string ByteArray.empty, .string ByteArray.empty] rfl (by kernel_rfl) (by kernel_rfl) (by kernel_rfl)
      (OpenSpec.preRow_of_cond 8 hx (by kernel_rfl) (fun k hk => by cases hk) (by kernel_rfl) (laid_met os))) ?_
  intro W base args ds gs before hval hW _ _ hsz _ _ _
  exact contract H enc W base args ds gs before hval hW hsz

theorem said : Rows.Ipv4SumsSaid :=
  OpenClaim.holds_of_cond 8 Try.f8 rfl rfl rfl rfl rfl rfl rfl ⟨rfl, rfl, rfl, rfl, rfl⟩ rfl rfl rfl rfl rfl (by kernel_rfl) Try.func8 (by kernel_rfl)
    (of_decide_eq_true (by kernel_rfl)) (by unfold Func.isWrapper; first | (rw [if_pos (by decide +kernel)]; kernel_rfl) | (rw [if_neg (by decide +kernel)]; exact ⟨rfl, rfl⟩))
    (fun os started H enc _ F => by rw [OpenClaim.pre_eq_preRow]; exact lifted os started H enc F)
end Go.Proofs.Ythegfidmkenkeaa.ipv4Sums
namespace Go.Proofs.Ythegfidmkenkeaa
theorem ipv4Sums_said : Rows.Ipv4SumsSaid := ipv4Sums.said
end Go.Proofs.Ythegfidmkenkeaa
