/-
  The law Ipv4Told returns true for every header, place and byte: a byte of a header that is turned is told, but where the chapter says otherwise. No condition but the form's own reach.
-/
import Derived.Test.YthegfidmkenkeaaIpWorks
import Derived.Test.YthegfidmkenkeaaIpTurn
import Derived.Test.YthegfidmkenkeaaIpPlace
import Derived.Test.YthegfidmkenkeaaIpOpen
import Derived.LaidLaws
namespace Go.Proofs.Ythegfidmkenkeaa.ipv4Told
open Go.ChangeShapes Go.WideShapes Go.ChangeAt Go.RowKit
open Go.ChangeMaps (open_string shut_string)

set_option maxHeartbeats 2000000 in
theorem wN (tos id frag ttl proto src dst : Int) (data : ByteArray) (at_ by_ : Int) (w : World) (e1 : Int) (he1 : (e1 != 0) = true) (s : ByteArray) (B1 : Hid (∀ w, Calls Try.prog 9 #[hv tos id frag ttl proto src dst data] w fun e w' => e = .returned (.tuple #[.string s, .int .i64 e1]) ∧ Below w.heap.size w w')) :
    Calls Try.prog 6 #[hv tos id frag ttl proto src dst data, .int .i64 at_, .int .u8 by_] w fun e w' => e = .returned (.bool true) ∧ Below w.heap.size w w' := by
  have lt : ∀ o, w.heap.size < (w.alloc o).heap.size := fun o => by simp
  have le : ∀ (w : World) o, w.heap.size ≤ (w.alloc o).heap.size := fun w o => by simp
  have X0 : Hid _ := box_new w tos id frag ttl proto src dst data
  unfold hv at *

  go_enter Try.func6, Try.ntmps6
  go_wp2_with (first
    | (go_at_call 17; refine (works_ok _).mono ?_; rintro e w1 ⟨rfl, b1⟩; have X1 := X0.out.keep (lt _) b1; obtain ⟨l1, c0, c1, c2, c3, c4, c5, c6, c7⟩ := X1; have Z1 : Hid _ := ((Below.refl w.heap.size w).alloc (Nat.le_refl _) _).trans (b1.mono (le w _)); clear b1 X0)
    | (go_at_call 9; refine (B1.out _).mono ?_; rintro e w2 ⟨rfl, b2⟩; have Z2 : Hid _ := Z1.out.trans (b2.mono Z1.out.size); clear b2 Z1 c0 c1 c2 c3 c4 c5 c6 c7 B1))
  go_ret
  exact ⟨rfl, Z2.out⟩

set_option maxHeartbeats 2000000 in
theorem wZ (tos id frag ttl proto src dst : Int) (data : ByteArray) (at_ by_ : Int) (w : World) (s : ByteArray) (B1 : Hid (∀ w, Calls Try.prog 9 #[hv tos id frag ttl proto src dst data] w fun e w' => e = .returned (.tuple #[.string s, .int .i64 0]) ∧ Below w.heap.size w w')) (hb : (by_ == 0) = true) :
    Calls Try.prog 6 #[hv tos id frag ttl proto src dst data, .int .i64 at_, .int .u8 by_] w fun e w' => e = .returned (.bool true) ∧ Below w.heap.size w w' := by
  have lt : ∀ o, w.heap.size < (w.alloc o).heap.size := fun o => by simp
  have le : ∀ (w : World) o, w.heap.size ≤ (w.alloc o).heap.size := fun w o => by simp
  have X0 : Hid _ := box_new w tos id frag ttl proto src dst data
  unfold hv at *

  go_enter Try.func6, Try.ntmps6
  go_wp2_with (first
    | (go_at_call 17; refine (works_ok _).mono ?_; rintro e w1 ⟨rfl, b1⟩; have X1 := X0.out.keep (lt _) b1; obtain ⟨l1, c0, c1, c2, c3, c4, c5, c6, c7⟩ := X1; have Z1 : Hid _ := ((Below.refl w.heap.size w).alloc (Nat.le_refl _) _).trans (b1.mono (le w _)); clear b1 X0)
    | (go_at_call 9; refine (B1.out _).mono ?_; rintro e w2 ⟨rfl, b2⟩; have Z2 : Hid _ := Z1.out.trans (b2.mono Z1.out.size); clear b2 Z1 c0 c1 c2 c3 c4 c5 c6 c7 B1))
  go_ret
  exact ⟨rfl, Z2.out⟩

set_option maxHeartbeats 2000000 in
theorem wK0 (tos id frag ttl proto src dst : Int) (data : ByteArray) (at_ by_ : Int) (w : World) (k : Nat) (ek : wrap64 ((IntKind.u64.wrap at_).tmod 20) = k) (s : ByteArray) (B1 : Hid (∀ w, Calls Try.prog 9 #[hv tos id frag ttl proto src dst data] w fun e w' => e = .returned (.tuple #[.string s, .int .i64 0]) ∧ Below w.heap.size w w')) (hb : (by_ == 0) = false) (hk : ((k : Int) == 0) = true) :
    Calls Try.prog 6 #[hv tos id frag ttl proto src dst data, .int .i64 at_, .int .u8 by_] w fun e w' => e = .returned (.bool true) ∧ Below w.heap.size w w' := by
  have lt : ∀ o, w.heap.size < (w.alloc o).heap.size := fun o => by simp
  have le : ∀ (w : World) o, w.heap.size ≤ (w.alloc o).heap.size := fun w o => by simp
  have X0 : Hid _ := box_new w tos id frag ttl proto src dst data
  unfold hv at *

  go_enter Try.func6, Try.ntmps6
  go_wp2_with (first
    | (go_at_call 17; refine (works_ok _).mono ?_; rintro e w1 ⟨rfl, b1⟩; have X1 := X0.out.keep (lt _) b1; obtain ⟨l1, c0, c1, c2, c3, c4, c5, c6, c7⟩ := X1; have Z1 : Hid _ := ((Below.refl w.heap.size w).alloc (Nat.le_refl _) _).trans (b1.mono (le w _)); clear b1 X0)
    | (go_at_call 9; refine (B1.out _).mono ?_; rintro e w2 ⟨rfl, b2⟩; have Z2 : Hid _ := Z1.out.trans (b2.mono Z1.out.size); clear b2 Z1 c0 c1 c2 c3 c4 c5 c6 c7 B1))
  go_ret
  exact ⟨rfl, Z2.out⟩

set_option maxHeartbeats 2000000 in
theorem wK2 (tos id frag ttl proto src dst : Int) (data : ByteArray) (at_ by_ : Int) (w : World) (k : Nat) (ek : wrap64 ((IntKind.u64.wrap at_).tmod 20) = k) (s : ByteArray) (B1 : Hid (∀ w, Calls Try.prog 9 #[hv tos id frag ttl proto src dst data] w fun e w' => e = .returned (.tuple #[.string s, .int .i64 0]) ∧ Below w.heap.size w w')) (hb : (by_ == 0) = false) (hk : ((k : Int) == 0) = false) (hk2 : ((k : Int) == 2) = true) :
    Calls Try.prog 6 #[hv tos id frag ttl proto src dst data, .int .i64 at_, .int .u8 by_] w fun e w' => e = .returned (.bool true) ∧ Below w.heap.size w w' := by
  have lt : ∀ o, w.heap.size < (w.alloc o).heap.size := fun o => by simp
  have le : ∀ (w : World) o, w.heap.size ≤ (w.alloc o).heap.size := fun w o => by simp
  have X0 : Hid _ := box_new w tos id frag ttl proto src dst data
  unfold hv at *

  go_enter Try.func6, Try.ntmps6
  go_wp2_with (first
    | (go_at_call 17; refine (works_ok _).mono ?_; rintro e w1 ⟨rfl, b1⟩; have X1 := X0.out.keep (lt _) b1; obtain ⟨l1, c0, c1, c2, c3, c4, c5, c6, c7⟩ := X1; have Z1 : Hid _ := ((Below.refl w.heap.size w).alloc (Nat.le_refl _) _).trans (b1.mono (le w _)); clear b1 X0)
    | (go_at_call 9; refine (B1.out _).mono ?_; rintro e w2 ⟨rfl, b2⟩; have Z2 : Hid _ := Z1.out.trans (b2.mono Z1.out.size); clear b2 Z1 c0 c1 c2 c3 c4 c5 c6 c7 B1))
  go_ret
  exact ⟨rfl, Z2.out⟩

set_option maxHeartbeats 2000000 in
theorem wK3 (tos id frag ttl proto src dst : Int) (data : ByteArray) (at_ by_ : Int) (w : World) (k : Nat) (ek : wrap64 ((IntKind.u64.wrap at_).tmod 20) = k) (s : ByteArray) (B1 : Hid (∀ w, Calls Try.prog 9 #[hv tos id frag ttl proto src dst data] w fun e w' => e = .returned (.tuple #[.string s, .int .i64 0]) ∧ Below w.heap.size w w')) (hb : (by_ == 0) = false) (hk : ((k : Int) == 0) = false) (hk2 : ((k : Int) == 2) = false) (hk3 : ((k : Int) == 3) = true) :
    Calls Try.prog 6 #[hv tos id frag ttl proto src dst data, .int .i64 at_, .int .u8 by_] w fun e w' => e = .returned (.bool true) ∧ Below w.heap.size w w' := by
  have lt : ∀ o, w.heap.size < (w.alloc o).heap.size := fun o => by simp
  have le : ∀ (w : World) o, w.heap.size ≤ (w.alloc o).heap.size := fun w o => by simp
  have X0 : Hid _ := box_new w tos id frag ttl proto src dst data
  unfold hv at *

  go_enter Try.func6, Try.ntmps6
  go_wp2_with (first
    | (go_at_call 17; refine (works_ok _).mono ?_; rintro e w1 ⟨rfl, b1⟩; have X1 := X0.out.keep (lt _) b1; obtain ⟨l1, c0, c1, c2, c3, c4, c5, c6, c7⟩ := X1; have Z1 : Hid _ := ((Below.refl w.heap.size w).alloc (Nat.le_refl _) _).trans (b1.mono (le w _)); clear b1 X0)
    | (go_at_call 9; refine (B1.out _).mono ?_; rintro e w2 ⟨rfl, b2⟩; have Z2 : Hid _ := Z1.out.trans (b2.mono Z1.out.size); clear b2 Z1 c0 c1 c2 c3 c4 c5 c6 c7 B1))
  go_ret
  exact ⟨rfl, Z2.out⟩

set_option maxHeartbeats 2000000 in
theorem wA1 (tos id frag ttl proto src dst : Int) (data : ByteArray) (at_ by_ : Int) (w : World) (k : Nat) (ek : wrap64 ((IntKind.u64.wrap at_).tmod 20) = k) (lk : (k : Int) < 20) (s : ByteArray) (B1 : Hid (∀ w, Calls Try.prog 9 #[hv tos id frag ttl proto src dst data] w fun e w' => e = .returned (.tuple #[.string s, .int .i64 0]) ∧ Below w.heap.size w w')) (hb : (by_ == 0) = false) (hk : ((k : Int) == 0) = false) (hk2 : ((k : Int) == 2) = false) (hk3 : ((k : Int) == 3) = false) (hz : 20 ≤ s.size) (hm : s.size ≤ 65535) (v : Int) (hx : bits .xor .u8 (byt s k) by_ = v) (f1 : (byt s k == 0) = true) (f3 : (v == 255) = true) :
    Calls Try.prog 6 #[hv tos id frag ttl proto src dst data, .int .i64 at_, .int .u8 by_] w fun e w' => e = .returned (.bool true) ∧ Below w.heap.size w w' := by
  have lt : ∀ o, w.heap.size < (w.alloc o).heap.size := fun o => by simp
  have le : ∀ (w : World) o, w.heap.size ≤ (w.alloc o).heap.size := fun w o => by simp
  have X0 : Hid _ := box_new w tos id frag ttl proto src dst data
  have cv := fun w => tb_conv w s
  have cc : ∀ w, (Lib.bytesWorld w 5 s).cell? ⟨w.heap.size, k, none⟩ = some (.int .u8 (byt s k)) := fun w => tb_cell w s k (by omega)
  have cf : ∀ w, (Lib.bytesWorld w 5 s).frozen? ⟨w.heap.size, k, none⟩ = false := fun w => tb_frozen w s k (by omega)
  have cb := fun w c => tb_back w s k c v (by omega)
  have kl : (k : Int) < s.size := by omega
  have hn20 : ¬ (s.size : Int) < 20 := by omega
  generalize byt s k = x at *
  unfold hv at *

  go_enter Try.func6, Try.ntmps6
  go_wp2_with (first
    | (go_at_call 17; refine (works_ok _).mono ?_; rintro e w1 ⟨rfl, b1⟩; have X1 := X0.out.keep (lt _) b1; obtain ⟨l1, c0, c1, c2, c3, c4, c5, c6, c7⟩ := X1; have Z1 : Hid _ := ((Below.refl w.heap.size w).alloc (Nat.le_refl _) _).trans (b1.mono (le w _)); clear b1 X0)
    | (go_at_call 9; refine (B1.out _).mono ?_; rintro e w2 ⟨rfl, b2⟩; have Z2 : Hid _ := Z1.out.trans (b2.mono Z1.out.size); clear b2 Z1 c0 c1 c2 c3 c4 c5 c6 c7 B1))
  go_ret
  exact ⟨rfl, ((Z2.out.trans ((tb_below w2 s).mono Z2.out.size)).setCell (p := ⟨w2.heap.size, k, none⟩) Z2.out.size _)⟩

set_option maxHeartbeats 2000000 in
theorem wA2 (tos id frag ttl proto src dst : Int) (data : ByteArray) (at_ by_ : Int) (w : World) (k : Nat) (ek : wrap64 ((IntKind.u64.wrap at_).tmod 20) = k) (lk : (k : Int) < 20) (s : ByteArray) (B1 : Hid (∀ w, Calls Try.prog 9 #[hv tos id frag ttl proto src dst data] w fun e w' => e = .returned (.tuple #[.string s, .int .i64 0]) ∧ Below w.heap.size w w')) (hb : (by_ == 0) = false) (hk : ((k : Int) == 0) = false) (hk2 : ((k : Int) == 2) = false) (hk3 : ((k : Int) == 3) = false) (hz : 20 ≤ s.size) (hm : s.size ≤ 65535) (v : Int) (hx : bits .xor .u8 (byt s k) by_ = v) (f1 : (byt s k == 0) = true) (f2 : (byt s k == 255) = false) (f3 : (v == 255) = false) (P : Hid (∀ w, Calls Try.prog 13 #[.string (turned s k v)] w fun e w' => e = .returned (.tuple #[none', .int .i64 9]) ∧ Below w.heap.size w w')) :
    Calls Try.prog 6 #[hv tos id frag ttl proto src dst data, .int .i64 at_, .int .u8 by_] w fun e w' => e = .returned (.bool true) ∧ Below w.heap.size w w' := by
  have lt : ∀ o, w.heap.size < (w.alloc o).heap.size := fun o => by simp
  have le : ∀ (w : World) o, w.heap.size ≤ (w.alloc o).heap.size := fun w o => by simp
  have X0 : Hid _ := box_new w tos id frag ttl proto src dst data
  have cv := fun w => tb_conv w s
  have cc : ∀ w, (Lib.bytesWorld w 5 s).cell? ⟨w.heap.size, k, none⟩ = some (.int .u8 (byt s k)) := fun w => tb_cell w s k (by omega)
  have cf : ∀ w, (Lib.bytesWorld w 5 s).frozen? ⟨w.heap.size, k, none⟩ = false := fun w => tb_frozen w s k (by omega)
  have cb := fun w c => tb_back w s k c v (by omega)
  have kl : (k : Int) < s.size := by omega
  have hn20 : ¬ (s.size : Int) < 20 := by omega
  generalize turned s k v = T2 at *
  generalize byt s k = x at *
  unfold hv at *
  unfold none' hv at *
  go_enter Try.func6, Try.ntmps6
  go_wp2_with (first
    | (go_at_call 17; refine (works_ok _).mono ?_; rintro e w1 ⟨rfl, b1⟩; have X1 := X0.out.keep (lt _) b1; obtain ⟨l1, c0, c1, c2, c3, c4, c5, c6, c7⟩ := X1; have Z1 : Hid _ := ((Below.refl w.heap.size w).alloc (Nat.le_refl _) _).trans (b1.mono (le w _)); clear b1 X0)
    | (go_at_call 9; refine (B1.out _).mono ?_; rintro e w2 ⟨rfl, b2⟩; have Z2 : Hid _ := Z1.out.trans (b2.mono Z1.out.size); clear b2 Z1 c0 c1 c2 c3 c4 c5 c6 c7 B1)
    | (go_at_call 13; refine (P.out _).mono ?_; rintro e w3 ⟨rfl, b3⟩; replace b3 : Hid _ := b3))
  go_ret
  exact ⟨rfl, ((((Z2.out.trans ((tb_below w2 s).mono Z2.out.size)).setCell (p := ⟨w2.heap.size, k, none⟩) Z2.out.size _).trans (b3.out.mono ((Z2.out.trans ((tb_below w2 s).mono Z2.out.size)).setCell (p := ⟨w2.heap.size, k, none⟩) Z2.out.size _).size)).alloc (Nat.le_trans ((Z2.out.trans ((tb_below w2 s).mono Z2.out.size)).setCell (p := ⟨w2.heap.size, k, none⟩) Z2.out.size _).size b3.out.size) _)⟩

set_option maxHeartbeats 2000000 in
theorem wB1 (tos id frag ttl proto src dst : Int) (data : ByteArray) (at_ by_ : Int) (w : World) (k : Nat) (ek : wrap64 ((IntKind.u64.wrap at_).tmod 20) = k) (lk : (k : Int) < 20) (s : ByteArray) (B1 : Hid (∀ w, Calls Try.prog 9 #[hv tos id frag ttl proto src dst data] w fun e w' => e = .returned (.tuple #[.string s, .int .i64 0]) ∧ Below w.heap.size w w')) (hb : (by_ == 0) = false) (hk : ((k : Int) == 0) = false) (hk2 : ((k : Int) == 2) = false) (hk3 : ((k : Int) == 3) = false) (hz : 20 ≤ s.size) (hm : s.size ≤ 65535) (v : Int) (hx : bits .xor .u8 (byt s k) by_ = v) (f1 : (byt s k == 0) = false) (f2 : (byt s k == 255) = true) (f4 : (v == 0) = true) :
    Calls Try.prog 6 #[hv tos id frag ttl proto src dst data, .int .i64 at_, .int .u8 by_] w fun e w' => e = .returned (.bool true) ∧ Below w.heap.size w w' := by
  have lt : ∀ o, w.heap.size < (w.alloc o).heap.size := fun o => by simp
  have le : ∀ (w : World) o, w.heap.size ≤ (w.alloc o).heap.size := fun w o => by simp
  have X0 : Hid _ := box_new w tos id frag ttl proto src dst data
  have cv := fun w => tb_conv w s
  have cc : ∀ w, (Lib.bytesWorld w 5 s).cell? ⟨w.heap.size, k, none⟩ = some (.int .u8 (byt s k)) := fun w => tb_cell w s k (by omega)
  have cf : ∀ w, (Lib.bytesWorld w 5 s).frozen? ⟨w.heap.size, k, none⟩ = false := fun w => tb_frozen w s k (by omega)
  have cb := fun w c => tb_back w s k c v (by omega)
  have kl : (k : Int) < s.size := by omega
  have hn20 : ¬ (s.size : Int) < 20 := by omega
  generalize byt s k = x at *
  unfold hv at *

  go_enter Try.func6, Try.ntmps6
  go_wp2_with (first
    | (go_at_call 17; refine (works_ok _).mono ?_; rintro e w1 ⟨rfl, b1⟩; have X1 := X0.out.keep (lt _) b1; obtain ⟨l1, c0, c1, c2, c3, c4, c5, c6, c7⟩ := X1; have Z1 : Hid _ := ((Below.refl w.heap.size w).alloc (Nat.le_refl _) _).trans (b1.mono (le w _)); clear b1 X0)
    | (go_at_call 9; refine (B1.out _).mono ?_; rintro e w2 ⟨rfl, b2⟩; have Z2 : Hid _ := Z1.out.trans (b2.mono Z1.out.size); clear b2 Z1 c0 c1 c2 c3 c4 c5 c6 c7 B1))
  go_ret
  exact ⟨rfl, ((Z2.out.trans ((tb_below w2 s).mono Z2.out.size)).setCell (p := ⟨w2.heap.size, k, none⟩) Z2.out.size _)⟩

set_option maxHeartbeats 2000000 in
theorem wB2 (tos id frag ttl proto src dst : Int) (data : ByteArray) (at_ by_ : Int) (w : World) (k : Nat) (ek : wrap64 ((IntKind.u64.wrap at_).tmod 20) = k) (lk : (k : Int) < 20) (s : ByteArray) (B1 : Hid (∀ w, Calls Try.prog 9 #[hv tos id frag ttl proto src dst data] w fun e w' => e = .returned (.tuple #[.string s, .int .i64 0]) ∧ Below w.heap.size w w')) (hb : (by_ == 0) = false) (hk : ((k : Int) == 0) = false) (hk2 : ((k : Int) == 2) = false) (hk3 : ((k : Int) == 3) = false) (hz : 20 ≤ s.size) (hm : s.size ≤ 65535) (v : Int) (hx : bits .xor .u8 (byt s k) by_ = v) (f1 : (byt s k == 0) = false) (f2 : (byt s k == 255) = true) (f4 : (v == 0) = false) (P : Hid (∀ w, Calls Try.prog 13 #[.string (turned s k v)] w fun e w' => e = .returned (.tuple #[none', .int .i64 9]) ∧ Below w.heap.size w w')) :
    Calls Try.prog 6 #[hv tos id frag ttl proto src dst data, .int .i64 at_, .int .u8 by_] w fun e w' => e = .returned (.bool true) ∧ Below w.heap.size w w' := by
  have lt : ∀ o, w.heap.size < (w.alloc o).heap.size := fun o => by simp
  have le : ∀ (w : World) o, w.heap.size ≤ (w.alloc o).heap.size := fun w o => by simp
  have X0 : Hid _ := box_new w tos id frag ttl proto src dst data
  have cv := fun w => tb_conv w s
  have cc : ∀ w, (Lib.bytesWorld w 5 s).cell? ⟨w.heap.size, k, none⟩ = some (.int .u8 (byt s k)) := fun w => tb_cell w s k (by omega)
  have cf : ∀ w, (Lib.bytesWorld w 5 s).frozen? ⟨w.heap.size, k, none⟩ = false := fun w => tb_frozen w s k (by omega)
  have cb := fun w c => tb_back w s k c v (by omega)
  have kl : (k : Int) < s.size := by omega
  have hn20 : ¬ (s.size : Int) < 20 := by omega
  generalize turned s k v = T2 at *
  generalize byt s k = x at *
  unfold hv at *
  unfold none' hv at *
  go_enter Try.func6, Try.ntmps6
  go_wp2_with (first
    | (go_at_call 17; refine (works_ok _).mono ?_; rintro e w1 ⟨rfl, b1⟩; have X1 := X0.out.keep (lt _) b1; obtain ⟨l1, c0, c1, c2, c3, c4, c5, c6, c7⟩ := X1; have Z1 : Hid _ := ((Below.refl w.heap.size w).alloc (Nat.le_refl _) _).trans (b1.mono (le w _)); clear b1 X0)
    | (go_at_call 9; refine (B1.out _).mono ?_; rintro e w2 ⟨rfl, b2⟩; have Z2 : Hid _ := Z1.out.trans (b2.mono Z1.out.size); clear b2 Z1 c0 c1 c2 c3 c4 c5 c6 c7 B1)
    | (go_at_call 13; refine (P.out _).mono ?_; rintro e w3 ⟨rfl, b3⟩; replace b3 : Hid _ := b3))
  go_ret
  exact ⟨rfl, ((((Z2.out.trans ((tb_below w2 s).mono Z2.out.size)).setCell (p := ⟨w2.heap.size, k, none⟩) Z2.out.size _).trans (b3.out.mono ((Z2.out.trans ((tb_below w2 s).mono Z2.out.size)).setCell (p := ⟨w2.heap.size, k, none⟩) Z2.out.size _).size)).alloc (Nat.le_trans ((Z2.out.trans ((tb_below w2 s).mono Z2.out.size)).setCell (p := ⟨w2.heap.size, k, none⟩) Z2.out.size _).size b3.out.size) _)⟩

set_option maxHeartbeats 2000000 in
theorem wC (tos id frag ttl proto src dst : Int) (data : ByteArray) (at_ by_ : Int) (w : World) (k : Nat) (ek : wrap64 ((IntKind.u64.wrap at_).tmod 20) = k) (lk : (k : Int) < 20) (s : ByteArray) (B1 : Hid (∀ w, Calls Try.prog 9 #[hv tos id frag ttl proto src dst data] w fun e w' => e = .returned (.tuple #[.string s, .int .i64 0]) ∧ Below w.heap.size w w')) (hb : (by_ == 0) = false) (hk : ((k : Int) == 0) = false) (hk2 : ((k : Int) == 2) = false) (hk3 : ((k : Int) == 3) = false) (hz : 20 ≤ s.size) (hm : s.size ≤ 65535) (v : Int) (hx : bits .xor .u8 (byt s k) by_ = v) (f1 : (byt s k == 0) = false) (f2 : (byt s k == 255) = false) (P : Hid (∀ w, Calls Try.prog 13 #[.string (turned s k v)] w fun e w' => e = .returned (.tuple #[none', .int .i64 9]) ∧ Below w.heap.size w w')) :
    Calls Try.prog 6 #[hv tos id frag ttl proto src dst data, .int .i64 at_, .int .u8 by_] w fun e w' => e = .returned (.bool true) ∧ Below w.heap.size w w' := by
  have lt : ∀ o, w.heap.size < (w.alloc o).heap.size := fun o => by simp
  have le : ∀ (w : World) o, w.heap.size ≤ (w.alloc o).heap.size := fun w o => by simp
  have X0 : Hid _ := box_new w tos id frag ttl proto src dst data
  have cv := fun w => tb_conv w s
  have cc : ∀ w, (Lib.bytesWorld w 5 s).cell? ⟨w.heap.size, k, none⟩ = some (.int .u8 (byt s k)) := fun w => tb_cell w s k (by omega)
  have cf : ∀ w, (Lib.bytesWorld w 5 s).frozen? ⟨w.heap.size, k, none⟩ = false := fun w => tb_frozen w s k (by omega)
  have cb := fun w c => tb_back w s k c v (by omega)
  have kl : (k : Int) < s.size := by omega
  have hn20 : ¬ (s.size : Int) < 20 := by omega
  generalize turned s k v = T2 at *
  generalize byt s k = x at *
  unfold hv at *
  unfold none' hv at *
  go_enter Try.func6, Try.ntmps6
  go_wp2_with (first
    | (go_at_call 17; refine (works_ok _).mono ?_; rintro e w1 ⟨rfl, b1⟩; have X1 := X0.out.keep (lt _) b1; obtain ⟨l1, c0, c1, c2, c3, c4, c5, c6, c7⟩ := X1; have Z1 : Hid _ := ((Below.refl w.heap.size w).alloc (Nat.le_refl _) _).trans (b1.mono (le w _)); clear b1 X0)
    | (go_at_call 9; refine (B1.out _).mono ?_; rintro e w2 ⟨rfl, b2⟩; have Z2 : Hid _ := Z1.out.trans (b2.mono Z1.out.size); clear b2 Z1 c0 c1 c2 c3 c4 c5 c6 c7 B1)
    | (go_at_call 13; refine (P.out _).mono ?_; rintro e w3 ⟨rfl, b3⟩; replace b3 : Hid _ := b3))
  go_ret
  exact ⟨rfl, ((((Z2.out.trans ((tb_below w2 s).mono Z2.out.size)).setCell (p := ⟨w2.heap.size, k, none⟩) Z2.out.size _).trans (b3.out.mono ((Z2.out.trans ((tb_below w2 s).mono Z2.out.size)).setCell (p := ⟨w2.heap.size, k, none⟩) Z2.out.size _).size)).alloc (Nat.le_trans ((Z2.out.trans ((tb_below w2 s).mono Z2.out.size)).setCell (p := ⟨w2.heap.size, k, none⟩) Z2.out.size _).size b3.out.size) _)⟩

theorem walk (tos id frag ttl proto src dst : Int) (data : ByteArray) (at_ by_ : Int) (w : World) (b0 : 0 ≤ by_ ∧ by_ ≤ 255) (s0 : 0 ≤ src) (s1 : src < 4294967296) (d0 : 0 ≤ dst) (d1 : dst < 4294967296) (hz : data.size ≤ 9223372036854775807) :
    Calls Try.prog 6 #[hv tos id frag ttl proto src dst data, .int .i64 at_, .int .u8 by_] w fun e w' => e = .returned (.bool true) ∧ Below w.heap.size w w' := by
  obtain ⟨k, ek, lk⟩ := place at_ 20 (by decide) (by decide)
  by_cases hk : HOK tos id frag ttl proto
  · by_cases hl : data.size ≤ 65515
    · have B1 : Hid (∀ w, _) := fun w => build_ok tos id frag ttl proto src dst data w hk hl s0 s1 d0 d1
      have g := pkt_good tos id frag ttl proto src dst data hl s0 s1 d0 d1
      have z := pkt_size tos id frag ttl proto src dst data
      generalize pkt tos id frag ttl proto src dst data = s at *
      by_cases hb : by_ = 0
      · exact wZ tos id frag ttl proto src dst data at_ by_ w s B1 (by simp [hb])
      have hb' : (by_ == 0) = false := by simp [hb]
      by_cases k0 : k = 0
      · exact wK0 tos id frag ttl proto src dst data at_ by_ w k ek s B1 hb' (by simp [k0])
      have k0' : ((k : Int) == 0) = false := by simp; omega
      by_cases k2 : k = 2
      · exact wK2 tos id frag ttl proto src dst data at_ by_ w k ek s B1 hb' k0' (by simp [k2])
      have k2' : ((k : Int) == 2) = false := by simp; omega
      by_cases k3 : k = 3
      · exact wK3 tos id frag ttl proto src dst data at_ by_ w k ek s B1 hb' k0' k2' (by simp [k3])
      have k3' : ((k : Int) == 3) = false := by simp; omega
      have bd := byt_bd s k
      obtain ⟨v, hx, v0, v1, vn⟩ := xor_ne (byt s k) by_ bd.1 bd.2 b0.1 (by omega) hb
      have P : Hid (∀ w, Calls Try.prog 13 #[.string (turned s k v)] w fun e w' => e = .returned (.tuple #[none', .int .i64 9]) ∧ Below w.heap.size w w') := fun w => by
        have tbk := turned_byt s k v (by omega) v0 v1
        have e9 := told_err s (turned s k v) k g (turned_size s k v) (by omega) k0 k2 k3 (by rw [tbk k, if_pos rfl]; exact vn) (fun i hi => by rw [tbk i, if_neg hi])
        have := parse_ok (turned s k v) w (by rw [turned_size]; omega)
        unfold valOf at this
        rwa [e9, if_neg (by omega)] at this
      by_cases x0 : byt s k = 0
      · by_cases y : v = 255
        · exact wA1 tos id frag ttl proto src dst data at_ by_ w k ek lk s B1 hb' k0' k2' k3' (by omega) (by omega) v hx (by simp [x0]) (by simp [y])
        · exact wA2 tos id frag ttl proto src dst data at_ by_ w k ek lk s B1 hb' k0' k2' k3' (by omega) (by omega) v hx (by simp [x0]) (by simp [x0]) (by simp [y]) P
      · by_cases x1 : byt s k = 255
        · by_cases y : v = 0
          · exact wB1 tos id frag ttl proto src dst data at_ by_ w k ek lk s B1 hb' k0' k2' k3' (by omega) (by omega) v hx (by simp [x0]) (by simp [x1]) (by simp [y])
          · exact wB2 tos id frag ttl proto src dst data at_ by_ w k ek lk s B1 hb' k0' k2' k3' (by omega) (by omega) v hx (by simp [x0]) (by simp [x1]) (by simp [y]) P
        · exact wC tos id frag ttl proto src dst data at_ by_ w k ek lk s B1 hb' k0' k2' k3' (by omega) (by omega) v hx (by simp [x0]) (by simp [x1]) P
    · exact wN tos id frag ttl proto src dst data at_ by_ w 8 rfl _ (fun w => build_long tos id frag ttl proto src dst data w hk hz (by omega))
  · exact wN tos id frag ttl proto src dst data at_ by_ w 2 rfl _ (fun w => build_range tos id frag ttl proto src dst data w hk)

theorem contract (H : Type) (enc : TypeId × Value → H) (W : World) (base : Nat) (args : Array Value) (ds gs : List (DataW H)) (before : List MemPlace)
    (hval : ∀ (j : Nat) t v, Try.f6.params[j]? = some t → args[j]? = some v → Value.okWide Try.prog W .any base t v)
    (hW : DataW.Whole enc Try.prog Try.f6.params.toList Rows.ipv4ToldSpec.vars false W args.toList ds gs before) :
    Calls Try.prog 6 args W fun e W' => ∃ v, e = .returned v ∧ Rows.ipv4ToldSpec.post enc Try.prog Try.f6 false true false false W args v W' := by
  have hW' := hW
  obtain ⟨p, q, hA0, hV, rfl, hfz, hnd⟩ := hW
  have hA : DataW.TrodAll enc Try.prog W 0 (fun _ => true) true Try.f6.params.toList args.toList ds p := hA0
  rw [Try.params6] at hA hval
  obtain ⟨v0, vs0, d0, ds0, p0, q0, hargs, rfl, rfl, h0, r0⟩ := trodAll_cons hA
  obtain ⟨v1, vs1, d1, ds1, p1, q1, rfl, rfl, rfl, h1, r1⟩ := trodAll_cons r0
  obtain ⟨v2, vs2, d2, ds2, p2, q2, rfl, rfl, rfl, h2, r2⟩ := trodAll_cons r1
  obtain ⟨rfl, rfl, rfl⟩ := trodAll_nil r2
  obtain rfl : args = #[v0, v1, v2] := by cases args; simp_all
  obtain ⟨rfl, rfl⟩ := trodVars_none hV
  have k0 := h0
  have lt0 : ∀ x ∈ p0, x.block < W.heap.size := by obtain ⟨m, hm⟩ := k0; exact DataW.trod_lt m _ _ _ hm
  obtain ⟨tos, id, frag, ttl, proto, src, dst, data, rfl, s0, s1, d0', d1', z0⟩ := open_hdr (hval 0 24 v0 rfl rfl) h0
  obtain ⟨a1, rfl, rfl, rfl, w1⟩ := open_int Try.underlying3 (hval 1 3 v1 rfl rfl) h1
  have b1 := bounds_i64 w1
  obtain ⟨a2, rfl, rfl, rfl, w2⟩ := open_int Try.underlying5 (hval 2 5 v2 rfl rfl) h2
  have b2 := bounds_u8 w2
  clear hA0
  simp only [List.append_nil] at hW'
  refine (walk tos id frag ttl proto src dst data a1 a2 W b2 s0 s1 d0' d1' z0).mono fun e W' ⟨he, bel⟩ => ?_
  subst he
  exact ⟨_, rfl, _, _, _, [], _, [], hW', trodAll_mk1 (shut_bool Try.underlying4 _), (trodAll_cons_mk (Below.trod laidOut (by kernel_rfl) (of_decide_eq_true (by kernel_rfl)) k0 bel lt0) (trodAll_cons_mk (shut_int Try.underlying3 w1) (trodAll_cons_mk (shut_int Try.underlying5 w2) trodAll_mk0))), rfl, bel.frame _, fun h => by cases h⟩

theorem laid_met (os : Os) : laidMet Try.prog Rows.ipv4ToldRow.laid ((startWorld Try.prog os).forCall (fun _ _ => 0) ⟨#[], #[.agg #[.int .i64 0, .int .i64 0, .int .i64 0, .int .i64 0, .int .i64 0, .int .u32 0, .int .u32 0, .string ByteArray.empty], .int .i64 0, .int .u8 0], []⟩).memory :=
  laidMet_of_run' 8 (by kernel_rfl) (by kernel_rfl)
theorem reads (os : Os) {H : Type} (enc : TypeId × Value → H) : ∃ places, DataW.whole enc Try.prog ((startWorld Try.prog os).forCall (fun _ _ => 0) ⟨#[], #[.agg #[.int .i64 0, .int .i64 0, .int .i64 0, .int .i64 0, .int .i64 0, .int .u32 0, .int .u32 0, .string ByteArray.empty], .int .i64 0, .int .u8 0], []⟩).memory Try.f6.params.toList Rows.ipv4ToldSpec.vars false #[Value.agg #[.int .i64 0, .int .i64 0, .int .i64 0, .int .i64 0, .int .i64 0, .int .u32 0, .int .u32 0, .string ByteArray.empty], Value.int .i64 0, Value.int .u8 0].toList 8 = some ([.agg [.lit (.int .i64 0), .lit (.int .i64 0), .lit (.int .i64 0), .lit (.int .i64 0), .lit (.int .i64 0), .lit (.int .u32 0), .lit (.int .u32 0), .lit (.string [])], .lit (.int .i64 0), .lit (.int .u8 0)], [], places) :=
  ⟨[], by kernel_rfl⟩

set_option maxRecDepth 100000 in
theorem lifted (os : Os) (started : os.Started) (H : Type) (enc : TypeId × Value → H) (F : Stop.Interp) :
    ReturnsInHanded {} Try.checked os 6 .any ((OpenSpec.ofChange Rows.ipv4ToldSpec).preRow enc Try.prog Try.f6 Rows.ipv4ToldRow.domain false Rows.ipv4ToldRow.laid) (((OpenSpec.ofChange Rows.ipv4ToldSpec).at F).post enc Try.prog Try.f6 false true false false) := by
  obtain ⟨places, hx⟩ := reads os enc
  refine returnsInHanded_of_row (C := Try.checked) (s := OpenSpec.ofChange Rows.ipv4ToldSpec) own started (by kernel_rfl) Try.func6
    (witness_row_at (enc := enc) (C := Try.checked) false (startWorld Try.prog os) #[.agg #[.int .i64 0, .int .i64 0, .int .i64 0, .int .i64 0, .int .i64 0, .int .u32 0, .int .u32 0, .string ByteArray.empty], .int .i64 0, .int .u8 0] rfl (by kernel_rfl) (by kernel_rfl) (by kernel_rfl)
      (OpenSpec.preRow_of_cond 8 hx (by kernel_rfl) (fun k hk => by cases hk) (by kernel_rfl) (laid_met os))) ?_
  intro W base args ds gs before hval hW _ _ _ _ _ _
  exact contract H enc W base args ds gs before hval hW

theorem said : Rows.Ipv4ToldSaid :=
  OpenClaim.holds_of_cond 6 Try.f6 rfl rfl rfl rfl rfl rfl rfl ⟨rfl, rfl, rfl, rfl, rfl⟩ rfl rfl rfl rfl rfl (by kernel_rfl) Try.func6 (by kernel_rfl)
    (of_decide_eq_true (by kernel_rfl)) (by unfold Func.isWrapper; first | (rw [if_pos (by decide +kernel)]; kernel_rfl) | (rw [if_neg (by decide +kernel)]; exact ⟨rfl, rfl⟩))
    (fun os started H enc _ F => by rw [OpenClaim.pre_eq_preRow]; exact lifted os started H enc F)
end Go.Proofs.Ythegfidmkenkeaa.ipv4Told
namespace Go.Proofs.Ythegfidmkenkeaa
theorem ipv4Told_said : Rows.Ipv4ToldSaid := ipv4Told.said
end Go.Proofs.Ythegfidmkenkeaa
