/-
  The law UdpTold returns true for every datagram, place and byte: a byte of a datagram that is turned is told, but where the chapter says otherwise. No condition but the form's own reach.
-/
import Derived.Test.YtaloccmfpehhcaaUdpMath
import Derived.Test.YtaloccmfpehhcaaUdpWorks
import Derived.Test.YtaloccmfpehhcaaUdpOpen
import Derived.Test.YtaloccmfpehhcaaUdpTurn
import Derived.Test.YtaloccmfpehhcaaIpPlace
import Derived.Test.YtaloccmfpehhcaaIpOpen
import Derived.LaidLaws
namespace Go.Proofs.Ytaloccmfpehhcaa.udpTold
open Go.ChangeShapes Go.WideShapes Go.ChangeAt Go.RowKit
open Go.ChangeMaps (open_string shut_string)

theorem some_bytes (a : ByteArray) (h : 0 < a.size) : a.toList.isEmpty = false := by
  rw [ByteArray.toList_eq]
  cases e : a.data.toList with
  | nil => have : a.data.toList.length = a.size := by simp
           rw [e] at this; simp at this; omega
  | cons x l => rfl
theorem tb_keep (w : World) (s : ByteArray) (k A q : Nat) (x : Int) (h : A < w.heap.size) : ((Lib.bytesWorld w 5 s).setCell ⟨w.heap.size, k, none⟩ (.int .u8 x)).cell? ⟨A, q, none⟩ = w.cell? ⟨A, q, none⟩ := by
  rw [World.cell?_setCell_other (h := by simp)]
  exact (tb_below w s).cell h

set_option maxHeartbeats 2000000 in
theorem wN (src dst fr to : Int) (data : ByteArray) (at_ by_ : Int) (w : World) (e1 : Int) (he1 : (e1 != 0) = true) (s : ByteArray) (B1 : Hid (∀ w, Calls Try.prog 9 #[.int .u32 src, .int .u32 dst, .int .i64 fr, .int .i64 to, .string data] w fun e w' => e = .returned (.tuple #[.string s, .int .i64 e1]) ∧ Below w.heap.size w w')) :
    Calls Try.prog 7 #[gv src dst fr to data, .int .i64 at_, .int .u8 by_] w fun e w' => e = .returned (.bool true) ∧ Below w.heap.size w w' := by
  have lt : ∀ o, w.heap.size < (w.alloc o).heap.size := fun o => by simp
  have le : ∀ (w : World) o, w.heap.size ≤ (w.alloc o).heap.size := fun w o => by simp
  have X0 : Hid _ := gbox_new w src dst fr to data
  unfold gv at *
  go_enter Try.func7, Try.ntmps7
  go_wp2_with (first
    | (go_at_call 15; refine (works_ok _).mono ?_; rintro e w1 ⟨rfl, b1⟩; have X1 := X0.out.keep (lt _) b1; obtain ⟨l1, c0, c1, c2, c3, c4⟩ := X1; have Y1 : Hid _ := GBox.mk l1 c0 c1 c2 c3 c4; have Z1 : Hid _ := ((Below.refl w.heap.size w).alloc (Nat.le_refl _) _).trans (b1.mono (le w _)); clear b1 X0)
    | (go_at_call 9; refine (B1.out _).mono ?_; rintro e w2 ⟨rfl, b2⟩; obtain ⟨l2, k0, k1, k2, k3, k4⟩ := Y1.out.keep Y1.out.lt b2; have Z2 : Hid _ := Z1.out.trans (b2.mono Z1.out.size); clear b2 Z1 Y1 c0 c1 c2 c3 c4 B1))
  go_ret
  exact ⟨rfl, Z2.out⟩

set_option maxHeartbeats 2000000 in
theorem wZ (src dst fr to : Int) (data : ByteArray) (at_ by_ : Int) (w : World) (s : ByteArray) (B1 : Hid (∀ w, Calls Try.prog 9 #[.int .u32 src, .int .u32 dst, .int .i64 fr, .int .i64 to, .string data] w fun e w' => e = .returned (.tuple #[.string s, .int .i64 0]) ∧ Below w.heap.size w w')) (hb : (by_ == 0) = true) :
    Calls Try.prog 7 #[gv src dst fr to data, .int .i64 at_, .int .u8 by_] w fun e w' => e = .returned (.bool true) ∧ Below w.heap.size w w' := by
  have lt : ∀ o, w.heap.size < (w.alloc o).heap.size := fun o => by simp
  have le : ∀ (w : World) o, w.heap.size ≤ (w.alloc o).heap.size := fun w o => by simp
  have X0 : Hid _ := gbox_new w src dst fr to data
  unfold gv at *
  go_enter Try.func7, Try.ntmps7
  go_wp2_with (first
    | (go_at_call 15; refine (works_ok _).mono ?_; rintro e w1 ⟨rfl, b1⟩; have X1 := X0.out.keep (lt _) b1; obtain ⟨l1, c0, c1, c2, c3, c4⟩ := X1; have Y1 : Hid _ := GBox.mk l1 c0 c1 c2 c3 c4; have Z1 : Hid _ := ((Below.refl w.heap.size w).alloc (Nat.le_refl _) _).trans (b1.mono (le w _)); clear b1 X0)
    | (go_at_call 9; refine (B1.out _).mono ?_; rintro e w2 ⟨rfl, b2⟩; obtain ⟨l2, k0, k1, k2, k3, k4⟩ := Y1.out.keep Y1.out.lt b2; have Z2 : Hid _ := Z1.out.trans (b2.mono Z1.out.size); clear b2 Z1 Y1 c0 c1 c2 c3 c4 B1))
  go_ret
  exact ⟨rfl, Z2.out⟩

set_option maxHeartbeats 2000000 in
theorem wK4 (src dst fr to : Int) (data : ByteArray) (at_ by_ : Int) (w : World) (s : ByteArray) (B1 : Hid (∀ w, Calls Try.prog 9 #[.int .u32 src, .int .u32 dst, .int .i64 fr, .int .i64 to, .string data] w fun e w' => e = .returned (.tuple #[.string s, .int .i64 0]) ∧ Below w.heap.size w w')) (k n : Nat) (hn : s.size = n) (hn1 : 8 ≤ n) (hn2 : n ≤ 65535) (ek : wrap64 ((IntKind.u64.wrap at_).tmod (n : Int)) = k) (lk : k < n) (hb : (by_ == 0) = false) (v : Int) (hx : bits .xor .u8 (byt s k) by_ = v) (hk4 : ((k : Int) == 4) = true) :
    Calls Try.prog 7 #[gv src dst fr to data, .int .i64 at_, .int .u8 by_] w fun e w' => e = .returned (.bool true) ∧ Below w.heap.size w w' := by
  have lt : ∀ o, w.heap.size < (w.alloc o).heap.size := fun o => by simp
  have le : ∀ (w : World) o, w.heap.size ≤ (w.alloc o).heap.size := fun w o => by simp
  have X0 : Hid _ := gbox_new w src dst fr to data
  have cv := fun w => tb_conv w s
  have cc : ∀ w, (Lib.bytesWorld w 5 s).cell? ⟨w.heap.size, k, none⟩ = some (.int .u8 (byt s k)) := fun w => tb_cell w s k (by omega)
  have cf : ∀ w, (Lib.bytesWorld w 5 s).frozen? ⟨w.heap.size, k, none⟩ = false := fun w => tb_frozen w s k (by omega)
  have kl : (k : Int) < s.size := by omega
  have hem := some_bytes s (by omega)
  have hun : IntKind.u64.wrap (s.size : Int) = n := by rw [hn]; simp [IntKind.wrap, IntKind.bits, IntKind.signed]; omega
  have hun' : ¬ (n : Int) = 0 := by omega
  generalize byt s k = x at *
  unfold gv at *
  go_enter Try.func7, Try.ntmps7
  go_wp2_with (first
    | (go_at_call 15; refine (works_ok _).mono ?_; rintro e w1 ⟨rfl, b1⟩; have X1 := X0.out.keep (lt _) b1; obtain ⟨l1, c0, c1, c2, c3, c4⟩ := X1; have Y1 : Hid _ := GBox.mk l1 c0 c1 c2 c3 c4; have Z1 : Hid _ := ((Below.refl w.heap.size w).alloc (Nat.le_refl _) _).trans (b1.mono (le w _)); clear b1 X0)
    | (go_at_call 9; refine (B1.out _).mono ?_; rintro e w2 ⟨rfl, b2⟩; obtain ⟨l2, k0, k1, k2, k3, k4⟩ := Y1.out.keep Y1.out.lt b2; have Z2 : Hid _ := Z1.out.trans (b2.mono Z1.out.size); clear b2 Z1 Y1 c0 c1 c2 c3 c4 B1))
  go_ret
  exact ⟨rfl, ((Z2.out.trans ((tb_below w2 s).mono Z2.out.size)).setCell (p := ⟨w2.heap.size, k, none⟩) Z2.out.size _)⟩

set_option maxHeartbeats 2000000 in
theorem wK5 (src dst fr to : Int) (data : ByteArray) (at_ by_ : Int) (w : World) (s : ByteArray) (B1 : Hid (∀ w, Calls Try.prog 9 #[.int .u32 src, .int .u32 dst, .int .i64 fr, .int .i64 to, .string data] w fun e w' => e = .returned (.tuple #[.string s, .int .i64 0]) ∧ Below w.heap.size w w')) (k n : Nat) (hn : s.size = n) (hn1 : 8 ≤ n) (hn2 : n ≤ 65535) (ek : wrap64 ((IntKind.u64.wrap at_).tmod (n : Int)) = k) (lk : k < n) (hb : (by_ == 0) = false) (v : Int) (hx : bits .xor .u8 (byt s k) by_ = v) (hk4 : ((k : Int) == 4) = false) (hk5 : ((k : Int) == 5) = true) :
    Calls Try.prog 7 #[gv src dst fr to data, .int .i64 at_, .int .u8 by_] w fun e w' => e = .returned (.bool true) ∧ Below w.heap.size w w' := by
  have lt : ∀ o, w.heap.size < (w.alloc o).heap.size := fun o => by simp
  have le : ∀ (w : World) o, w.heap.size ≤ (w.alloc o).heap.size := fun w o => by simp
  have X0 : Hid _ := gbox_new w src dst fr to data
  have cv := fun w => tb_conv w s
  have cc : ∀ w, (Lib.bytesWorld w 5 s).cell? ⟨w.heap.size, k, none⟩ = some (.int .u8 (byt s k)) := fun w => tb_cell w s k (by omega)
  have cf : ∀ w, (Lib.bytesWorld w 5 s).frozen? ⟨w.heap.size, k, none⟩ = false := fun w => tb_frozen w s k (by omega)
  have kl : (k : Int) < s.size := by omega
  have hem := some_bytes s (by omega)
  have hun : IntKind.u64.wrap (s.size : Int) = n := by rw [hn]; simp [IntKind.wrap, IntKind.bits, IntKind.signed]; omega
  have hun' : ¬ (n : Int) = 0 := by omega
  generalize byt s k = x at *
  unfold gv at *
  go_enter Try.func7, Try.ntmps7
  go_wp2_with (first
    | (go_at_call 15; refine (works_ok _).mono ?_; rintro e w1 ⟨rfl, b1⟩; have X1 := X0.out.keep (lt _) b1; obtain ⟨l1, c0, c1, c2, c3, c4⟩ := X1; have Y1 : Hid _ := GBox.mk l1 c0 c1 c2 c3 c4; have Z1 : Hid _ := ((Below.refl w.heap.size w).alloc (Nat.le_refl _) _).trans (b1.mono (le w _)); clear b1 X0)
    | (go_at_call 9; refine (B1.out _).mono ?_; rintro e w2 ⟨rfl, b2⟩; obtain ⟨l2, k0, k1, k2, k3, k4⟩ := Y1.out.keep Y1.out.lt b2; have Z2 : Hid _ := Z1.out.trans (b2.mono Z1.out.size); clear b2 Z1 Y1 c0 c1 c2 c3 c4 B1))
  go_ret
  exact ⟨rfl, ((Z2.out.trans ((tb_below w2 s).mono Z2.out.size)).setCell (p := ⟨w2.heap.size, k, none⟩) Z2.out.size _)⟩

set_option maxHeartbeats 2000000 in
theorem wA1 (src dst fr to : Int) (data : ByteArray) (at_ by_ : Int) (w : World) (s : ByteArray) (B1 : Hid (∀ w, Calls Try.prog 9 #[.int .u32 src, .int .u32 dst, .int .i64 fr, .int .i64 to, .string data] w fun e w' => e = .returned (.tuple #[.string s, .int .i64 0]) ∧ Below w.heap.size w w')) (k n : Nat) (hn : s.size = n) (hn1 : 8 ≤ n) (hn2 : n ≤ 65535) (ek : wrap64 ((IntKind.u64.wrap at_).tmod (n : Int)) = k) (lk : k < n) (hb : (by_ == 0) = false) (v : Int) (hx : bits .xor .u8 (byt s k) by_ = v) (hk4 : ((k : Int) == 4) = false) (hk5 : ((k : Int) == 5) = false) (f1 : (byt s k == 0) = true) (f3 : (v == 255) = true) :
    Calls Try.prog 7 #[gv src dst fr to data, .int .i64 at_, .int .u8 by_] w fun e w' => e = .returned (.bool true) ∧ Below w.heap.size w w' := by
  have lt : ∀ o, w.heap.size < (w.alloc o).heap.size := fun o => by simp
  have le : ∀ (w : World) o, w.heap.size ≤ (w.alloc o).heap.size := fun w o => by simp
  have X0 : Hid _ := gbox_new w src dst fr to data
  have cv := fun w => tb_conv w s
  have cc : ∀ w, (Lib.bytesWorld w 5 s).cell? ⟨w.heap.size, k, none⟩ = some (.int .u8 (byt s k)) := fun w => tb_cell w s k (by omega)
  have cf : ∀ w, (Lib.bytesWorld w 5 s).frozen? ⟨w.heap.size, k, none⟩ = false := fun w => tb_frozen w s k (by omega)
  have kl : (k : Int) < s.size := by omega
  have hem := some_bytes s (by omega)
  have hun : IntKind.u64.wrap (s.size : Int) = n := by rw [hn]; simp [IntKind.wrap, IntKind.bits, IntKind.signed]; omega
  have hun' : ¬ (n : Int) = 0 := by omega
  generalize byt s k = x at *
  unfold gv at *
  go_enter Try.func7, Try.ntmps7
  go_wp2_with (first
    | (go_at_call 15; refine (works_ok _).mono ?_; rintro e w1 ⟨rfl, b1⟩; have X1 := X0.out.keep (lt _) b1; obtain ⟨l1, c0, c1, c2, c3, c4⟩ := X1; have Y1 : Hid _ := GBox.mk l1 c0 c1 c2 c3 c4; have Z1 : Hid _ := ((Below.refl w.heap.size w).alloc (Nat.le_refl _) _).trans (b1.mono (le w _)); clear b1 X0)
    | (go_at_call 9; refine (B1.out _).mono ?_; rintro e w2 ⟨rfl, b2⟩; obtain ⟨l2, k0, k1, k2, k3, k4⟩ := Y1.out.keep Y1.out.lt b2; have Z2 : Hid _ := Z1.out.trans (b2.mono Z1.out.size); clear b2 Z1 Y1 c0 c1 c2 c3 c4 B1))
  go_ret
  exact ⟨rfl, ((Z2.out.trans ((tb_below w2 s).mono Z2.out.size)).setCell (p := ⟨w2.heap.size, k, none⟩) Z2.out.size _)⟩

set_option maxHeartbeats 2000000 in
theorem wA2 (src dst fr to : Int) (data : ByteArray) (at_ by_ : Int) (w : World) (s : ByteArray) (B1 : Hid (∀ w, Calls Try.prog 9 #[.int .u32 src, .int .u32 dst, .int .i64 fr, .int .i64 to, .string data] w fun e w' => e = .returned (.tuple #[.string s, .int .i64 0]) ∧ Below w.heap.size w w')) (k n : Nat) (hn : s.size = n) (hn1 : 8 ≤ n) (hn2 : n ≤ 65535) (ek : wrap64 ((IntKind.u64.wrap at_).tmod (n : Int)) = k) (lk : k < n) (hb : (by_ == 0) = false) (v : Int) (hx : bits .xor .u8 (byt s k) by_ = v) (hk4 : ((k : Int) == 4) = false) (hk5 : ((k : Int) == 5) = false) (f1 : (byt s k == 0) = true) (f2 : (byt s k == 255) = false) (f3 : (v == 255) = false) (P : Hid (∀ w, Calls Try.prog 11 #[.int .u32 src, .int .u32 dst, .string (turned s k v)] w fun e w' => e = .returned (uno 9) ∧ Below w.heap.size w w')) :
    Calls Try.prog 7 #[gv src dst fr to data, .int .i64 at_, .int .u8 by_] w fun e w' => e = .returned (.bool true) ∧ Below w.heap.size w w' := by
  have lt : ∀ o, w.heap.size < (w.alloc o).heap.size := fun o => by simp
  have le : ∀ (w : World) o, w.heap.size ≤ (w.alloc o).heap.size := fun w o => by simp
  have X0 : Hid _ := gbox_new w src dst fr to data
  have cv := fun w => tb_conv w s
  have cc : ∀ w, (Lib.bytesWorld w 5 s).cell? ⟨w.heap.size, k, none⟩ = some (.int .u8 (byt s k)) := fun w => tb_cell w s k (by omega)
  have cf : ∀ w, (Lib.bytesWorld w 5 s).frozen? ⟨w.heap.size, k, none⟩ = false := fun w => tb_frozen w s k (by omega)
  have kl : (k : Int) < s.size := by omega
  have hem := some_bytes s (by omega)
  have hun : IntKind.u64.wrap (s.size : Int) = n := by rw [hn]; simp [IntKind.wrap, IntKind.bits, IntKind.signed]; omega
  have hun' : ¬ (n : Int) = 0 := by omega
  have cb := fun w c => tb_back w s k c v (by omega)
  simp only [hn] at cb
  generalize turned s k v = T2 at *
  unfold uno at P
  generalize byt s k = x at *
  unfold gv at *
  go_enter Try.func7, Try.ntmps7
  go_wp2_with (first
    | (go_at_call 15; refine (works_ok _).mono ?_; rintro e w1 ⟨rfl, b1⟩; have X1 := X0.out.keep (lt _) b1; obtain ⟨l1, c0, c1, c2, c3, c4⟩ := X1; have Y1 : Hid _ := GBox.mk l1 c0 c1 c2 c3 c4; have Z1 : Hid _ := ((Below.refl w.heap.size w).alloc (Nat.le_refl _) _).trans (b1.mono (le w _)); clear b1 X0)
    | (go_at_call 9; refine (B1.out _).mono ?_; rintro e w2 ⟨rfl, b2⟩; obtain ⟨l2, k0, k1, k2, k3, k4⟩ := Y1.out.keep Y1.out.lt b2; have n0 := (tb_keep w2 s k _ 0 v l2).trans k0; have n1 := (tb_keep w2 s k _ 1 v l2).trans k1; have Z2 : Hid _ := Z1.out.trans (b2.mono Z1.out.size); clear b2 Z1 Y1 c0 c1 c2 c3 c4 B1)
    | (go_at_call 11; refine (P.out _).mono ?_; rintro e w3 ⟨rfl, b3⟩; replace b3 : Hid _ := b3))
  go_ret
  exact ⟨rfl, (((Z2.out.trans ((tb_below w2 s).mono Z2.out.size)).setCell (p := ⟨w2.heap.size, k, none⟩) Z2.out.size _).trans (b3.out.mono ((Z2.out.trans ((tb_below w2 s).mono Z2.out.size)).setCell (p := ⟨w2.heap.size, k, none⟩) Z2.out.size _).size))⟩

set_option maxHeartbeats 2000000 in
theorem wB1 (src dst fr to : Int) (data : ByteArray) (at_ by_ : Int) (w : World) (s : ByteArray) (B1 : Hid (∀ w, Calls Try.prog 9 #[.int .u32 src, .int .u32 dst, .int .i64 fr, .int .i64 to, .string data] w fun e w' => e = .returned (.tuple #[.string s, .int .i64 0]) ∧ Below w.heap.size w w')) (k n : Nat) (hn : s.size = n) (hn1 : 8 ≤ n) (hn2 : n ≤ 65535) (ek : wrap64 ((IntKind.u64.wrap at_).tmod (n : Int)) = k) (lk : k < n) (hb : (by_ == 0) = false) (v : Int) (hx : bits .xor .u8 (byt s k) by_ = v) (hk4 : ((k : Int) == 4) = false) (hk5 : ((k : Int) == 5) = false) (f1 : (byt s k == 0) = false) (f2 : (byt s k == 255) = true) (f4 : (v == 0) = true) :
    Calls Try.prog 7 #[gv src dst fr to data, .int .i64 at_, .int .u8 by_] w fun e w' => e = .returned (.bool true) ∧ Below w.heap.size w w' := by
  have lt : ∀ o, w.heap.size < (w.alloc o).heap.size := fun o => by simp
  have le : ∀ (w : World) o, w.heap.size ≤ (w.alloc o).heap.size := fun w o => by simp
  have X0 : Hid _ := gbox_new w src dst fr to data
  have cv := fun w => tb_conv w s
  have cc : ∀ w, (Lib.bytesWorld w 5 s).cell? ⟨w.heap.size, k, none⟩ = some (.int .u8 (byt s k)) := fun w => tb_cell w s k (by omega)
  have cf : ∀ w, (Lib.bytesWorld w 5 s).frozen? ⟨w.heap.size, k, none⟩ = false := fun w => tb_frozen w s k (by omega)
  have kl : (k : Int) < s.size := by omega
  have hem := some_bytes s (by omega)
  have hun : IntKind.u64.wrap (s.size : Int) = n := by rw [hn]; simp [IntKind.wrap, IntKind.bits, IntKind.signed]; omega
  have hun' : ¬ (n : Int) = 0 := by omega
  generalize byt s k = x at *
  unfold gv at *
  go_enter Try.func7, Try.ntmps7
  go_wp2_with (first
    | (go_at_call 15; refine (works_ok _).mono ?_; rintro e w1 ⟨rfl, b1⟩; have X1 := X0.out.keep (lt _) b1; obtain ⟨l1, c0, c1, c2, c3, c4⟩ := X1; have Y1 : Hid _ := GBox.mk l1 c0 c1 c2 c3 c4; have Z1 : Hid _ := ((Below.refl w.heap.size w).alloc (Nat.le_refl _) _).trans (b1.mono (le w _)); clear b1 X0)
    | (go_at_call 9; refine (B1.out _).mono ?_; rintro e w2 ⟨rfl, b2⟩; obtain ⟨l2, k0, k1, k2, k3, k4⟩ := Y1.out.keep Y1.out.lt b2; have Z2 : Hid _ := Z1.out.trans (b2.mono Z1.out.size); clear b2 Z1 Y1 c0 c1 c2 c3 c4 B1))
  go_ret
  exact ⟨rfl, ((Z2.out.trans ((tb_below w2 s).mono Z2.out.size)).setCell (p := ⟨w2.heap.size, k, none⟩) Z2.out.size _)⟩

set_option maxHeartbeats 2000000 in
theorem wB2 (src dst fr to : Int) (data : ByteArray) (at_ by_ : Int) (w : World) (s : ByteArray) (B1 : Hid (∀ w, Calls Try.prog 9 #[.int .u32 src, .int .u32 dst, .int .i64 fr, .int .i64 to, .string data] w fun e w' => e = .returned (.tuple #[.string s, .int .i64 0]) ∧ Below w.heap.size w w')) (k n : Nat) (hn : s.size = n) (hn1 : 8 ≤ n) (hn2 : n ≤ 65535) (ek : wrap64 ((IntKind.u64.wrap at_).tmod (n : Int)) = k) (lk : k < n) (hb : (by_ == 0) = false) (v : Int) (hx : bits .xor .u8 (byt s k) by_ = v) (hk4 : ((k : Int) == 4) = false) (hk5 : ((k : Int) == 5) = false) (f1 : (byt s k == 0) = false) (f2 : (byt s k == 255) = true) (f4 : (v == 0) = false) (P : Hid (∀ w, Calls Try.prog 11 #[.int .u32 src, .int .u32 dst, .string (turned s k v)] w fun e w' => e = .returned (uno 9) ∧ Below w.heap.size w w')) :
    Calls Try.prog 7 #[gv src dst fr to data, .int .i64 at_, .int .u8 by_] w fun e w' => e = .returned (.bool true) ∧ Below w.heap.size w w' := by
  have lt : ∀ o, w.heap.size < (w.alloc o).heap.size := fun o => by simp
  have le : ∀ (w : World) o, w.heap.size ≤ (w.alloc o).heap.size := fun w o => by simp
  have X0 : Hid _ := gbox_new w src dst fr to data
  have cv := fun w => tb_conv w s
  have cc : ∀ w, (Lib.bytesWorld w 5 s).cell? ⟨w.heap.size, k, none⟩ = some (.int .u8 (byt s k)) := fun w => tb_cell w s k (by omega)
  have cf : ∀ w, (Lib.bytesWorld w 5 s).frozen? ⟨w.heap.size, k, none⟩ = false := fun w => tb_frozen w s k (by omega)
  have kl : (k : Int) < s.size := by omega
  have hem := some_bytes s (by omega)
  have hun : IntKind.u64.wrap (s.size : Int) = n := by rw [hn]; simp [IntKind.wrap, IntKind.bits, IntKind.signed]; omega
  have hun' : ¬ (n : Int) = 0 := by omega
  have cb := fun w c => tb_back w s k c v (by omega)
  simp only [hn] at cb
  generalize turned s k v = T2 at *
  unfold uno at P
  generalize byt s k = x at *
  unfold gv at *
  go_enter Try.func7, Try.ntmps7
  go_wp2_with (first
    | (go_at_call 15; refine (works_ok _).mono ?_; rintro e w1 ⟨rfl, b1⟩; have X1 := X0.out.keep (lt _) b1; obtain ⟨l1, c0, c1, c2, c3, c4⟩ := X1; have Y1 : Hid _ := GBox.mk l1 c0 c1 c2 c3 c4; have Z1 : Hid _ := ((Below.refl w.heap.size w).alloc (Nat.le_refl _) _).trans (b1.mono (le w _)); clear b1 X0)
    | (go_at_call 9; refine (B1.out _).mono ?_; rintro e w2 ⟨rfl, b2⟩; obtain ⟨l2, k0, k1, k2, k3, k4⟩ := Y1.out.keep Y1.out.lt b2; have n0 := (tb_keep w2 s k _ 0 v l2).trans k0; have n1 := (tb_keep w2 s k _ 1 v l2).trans k1; have Z2 : Hid _ := Z1.out.trans (b2.mono Z1.out.size); clear b2 Z1 Y1 c0 c1 c2 c3 c4 B1)
    | (go_at_call 11; refine (P.out _).mono ?_; rintro e w3 ⟨rfl, b3⟩; replace b3 : Hid _ := b3))
  go_ret
  exact ⟨rfl, (((Z2.out.trans ((tb_below w2 s).mono Z2.out.size)).setCell (p := ⟨w2.heap.size, k, none⟩) Z2.out.size _).trans (b3.out.mono ((Z2.out.trans ((tb_below w2 s).mono Z2.out.size)).setCell (p := ⟨w2.heap.size, k, none⟩) Z2.out.size _).size))⟩

set_option maxHeartbeats 2000000 in
theorem wC (src dst fr to : Int) (data : ByteArray) (at_ by_ : Int) (w : World) (s : ByteArray) (B1 : Hid (∀ w, Calls Try.prog 9 #[.int .u32 src, .int .u32 dst, .int .i64 fr, .int .i64 to, .string data] w fun e w' => e = .returned (.tuple #[.string s, .int .i64 0]) ∧ Below w.heap.size w w')) (k n : Nat) (hn : s.size = n) (hn1 : 8 ≤ n) (hn2 : n ≤ 65535) (ek : wrap64 ((IntKind.u64.wrap at_).tmod (n : Int)) = k) (lk : k < n) (hb : (by_ == 0) = false) (v : Int) (hx : bits .xor .u8 (byt s k) by_ = v) (hk4 : ((k : Int) == 4) = false) (hk5 : ((k : Int) == 5) = false) (f1 : (byt s k == 0) = false) (f2 : (byt s k == 255) = false) (P : Hid (∀ w, Calls Try.prog 11 #[.int .u32 src, .int .u32 dst, .string (turned s k v)] w fun e w' => e = .returned (uno 9) ∧ Below w.heap.size w w')) :
    Calls Try.prog 7 #[gv src dst fr to data, .int .i64 at_, .int .u8 by_] w fun e w' => e = .returned (.bool true) ∧ Below w.heap.size w w' := by
  have lt : ∀ o, w.heap.size < (w.alloc o).heap.size := fun o => by simp
  have le : ∀ (w : World) o, w.heap.size ≤ (w.alloc o).heap.size := fun w o => by simp
  have X0 : Hid _ := gbox_new w src dst fr to data
  have cv := fun w => tb_conv w s
  have cc : ∀ w, (Lib.bytesWorld w 5 s).cell? ⟨w.heap.size, k, none⟩ = some (.int .u8 (byt s k)) := fun w => tb_cell w s k (by omega)
  have cf : ∀ w, (Lib.bytesWorld w 5 s).frozen? ⟨w.heap.size, k, none⟩ = false := fun w => tb_frozen w s k (by omega)
  have kl : (k : Int) < s.size := by omega
  have hem := some_bytes s (by omega)
  have hun : IntKind.u64.wrap (s.size : Int) = n := by rw [hn]; simp [IntKind.wrap, IntKind.bits, IntKind.signed]; omega
  have hun' : ¬ (n : Int) = 0 := by omega
  have cb := fun w c => tb_back w s k c v (by omega)
  simp only [hn] at cb
  generalize turned s k v = T2 at *
  unfold uno at P
  generalize byt s k = x at *
  unfold gv at *
  go_enter Try.func7, Try.ntmps7
  go_wp2_with (first
    | (go_at_call 15; refine (works_ok _).mono ?_; rintro e w1 ⟨rfl, b1⟩; have X1 := X0.out.keep (lt _) b1; obtain ⟨l1, c0, c1, c2, c3, c4⟩ := X1; have Y1 : Hid _ := GBox.mk l1 c0 c1 c2 c3 c4; have Z1 : Hid _ := ((Below.refl w.heap.size w).alloc (Nat.le_refl _) _).trans (b1.mono (le w _)); clear b1 X0)
    | (go_at_call 9; refine (B1.out _).mono ?_; rintro e w2 ⟨rfl, b2⟩; obtain ⟨l2, k0, k1, k2, k3, k4⟩ := Y1.out.keep Y1.out.lt b2; have n0 := (tb_keep w2 s k _ 0 v l2).trans k0; have n1 := (tb_keep w2 s k _ 1 v l2).trans k1; have Z2 : Hid _ := Z1.out.trans (b2.mono Z1.out.size); clear b2 Z1 Y1 c0 c1 c2 c3 c4 B1)
    | (go_at_call 11; refine (P.out _).mono ?_; rintro e w3 ⟨rfl, b3⟩; replace b3 : Hid _ := b3))
  go_ret
  exact ⟨rfl, (((Z2.out.trans ((tb_below w2 s).mono Z2.out.size)).setCell (p := ⟨w2.heap.size, k, none⟩) Z2.out.size _).trans (b3.out.mono ((Z2.out.trans ((tb_below w2 s).mono Z2.out.size)).setCell (p := ⟨w2.heap.size, k, none⟩) Z2.out.size _).size))⟩

theorem walk (src dst fr to : Int) (data : ByteArray) (at_ by_ : Int) (w : World) (b0 : 0 ≤ by_ ∧ by_ ≤ 255) (s0 : 0 ≤ src) (s1 : src < 4294967296) (d0 : 0 ≤ dst) (d1 : dst < 4294967296) :
    Calls Try.prog 7 #[gv src dst fr to data, .int .i64 at_, .int .u8 by_] w fun e w' => e = .returned (.bool true) ∧ Below w.heap.size w w' := by
  by_cases hk : (0 ≤ fr ∧ fr ≤ 65535) ∧ (0 ≤ to ∧ to ≤ 65535)
  · by_cases hl : data.size ≤ 65507
    · have B1 : Hid (∀ w, _) := fun w => ub_ok src dst fr to data w s0 s1 d0 d1 hk.1 hk.2 hl
      have g := gram_err src dst fr to data hk.1 hk.2 hl
      have z := gram_size src dst fr to data
      generalize gram src dst fr to data = s at *
      by_cases hb : by_ = 0
      · exact wZ src dst fr to data at_ by_ w s B1 (by simp [hb])
      have hb' : (by_ == 0) = false := by simp [hb]
      obtain ⟨k, ek, lk⟩ := place at_ s.size (by omega) (by omega)
      have lk' : k < s.size := by omega
      have bd := byt_bd s k
      obtain ⟨v, hx, v0, v1, vn⟩ := xor_ne (byt s k) by_ bd.1 bd.2 b0.1 (by omega) hb
      by_cases k4 : k = 4
      · exact wK4 src dst fr to data at_ by_ w s B1 k s.size rfl (by omega) (by omega) ek lk' hb' v hx (by simp [k4])
      have k4' : ((k : Int) == 4) = false := by simp; omega
      by_cases k5 : k = 5
      · exact wK5 src dst fr to data at_ by_ w s B1 k s.size rfl (by omega) (by omega) ek lk' hb' v hx k4' (by simp [k5])
      have k5' : ((k : Int) == 5) = false := by simp; omega
      have P : Hid (∀ w, Calls Try.prog 11 #[.int .u32 src, .int .u32 dst, .string (turned s k v)] w fun e w' => e = .returned (uno 9) ∧ Below w.heap.size w w') := fun w => by
        have tbk := turned_byt s k v lk' v0 v1
        have e9 := turn_err src dst s (turned s k v) k (by omega) (by omega) g (turned_size s k v) lk' k4 k5 (by rw [tbk k, if_pos rfl]; exact vn) (fun i hi => by rw [tbk i, if_neg hi])
        have := up_ok src dst (turned s k v) w (by rw [turned_size]; omega) s0 s1 d0 d1
        unfold uval at this
        rwa [e9, if_neg (by decide)] at this
      by_cases x0 : byt s k = 0
      · by_cases y : v = 255
        · exact wA1 src dst fr to data at_ by_ w s B1 k s.size rfl (by omega) (by omega) ek lk' hb' v hx k4' k5' (by simp [x0]) (by simp [y])
        · exact wA2 src dst fr to data at_ by_ w s B1 k s.size rfl (by omega) (by omega) ek lk' hb' v hx k4' k5' (by simp [x0]) (by simp [x0]) (by simp [y]) P
      · by_cases x1 : byt s k = 255
        · by_cases y : v = 0
          · exact wB1 src dst fr to data at_ by_ w s B1 k s.size rfl (by omega) (by omega) ek lk' hb' v hx k4' k5' (by simp [x0]) (by simp [x1]) (by simp [y])
          · exact wB2 src dst fr to data at_ by_ w s B1 k s.size rfl (by omega) (by omega) ek lk' hb' v hx k4' k5' (by simp [x0]) (by simp [x1]) (by simp [y]) P
        · exact wC src dst fr to data at_ by_ w s B1 k s.size rfl (by omega) (by omega) ek lk' hb' v hx k4' k5' (by simp [x0]) (by simp [x1]) P
    · exact wN src dst fr to data at_ by_ w 8 rfl _ (fun w => ub_long src dst fr to data w hk.1 hk.2 (by omega))
  · exact wN src dst fr to data at_ by_ w 2 rfl _ (fun w => ub_range src dst fr to data w hk)

theorem contract (H : Type) (enc : TypeId × Value → H) (W : World) (base : Nat) (args : Array Value) (ds gs : List (DataW H)) (before : List MemPlace)
    (hval : ∀ (j : Nat) t v, Try.f7.params[j]? = some t → args[j]? = some v → Value.okWide Try.prog W .any base t v)
    (hW : DataW.Whole enc Try.prog Try.f7.params.toList Rows.udpToldSpec.vars false W args.toList ds gs before) :
    Calls Try.prog 7 args W fun e W' => ∃ v, e = .returned v ∧ Rows.udpToldSpec.post enc Try.prog Try.f7 false true false false W args v W' := by
  have hW' := hW
  obtain ⟨p, q, hA0, hV, rfl, hfz, hnd⟩ := hW
  have hA : DataW.TrodAll enc Try.prog W 0 (fun _ => true) true Try.f7.params.toList args.toList ds p := hA0
  rw [Try.params7] at hA hval
  obtain ⟨v0, vs0, d0, ds0, p0, q0, hargs, rfl, rfl, h0, r0⟩ := trodAll_cons hA
  obtain ⟨v1, vs1, d1, ds1, p1, q1, rfl, rfl, rfl, h1, r1⟩ := trodAll_cons r0
  obtain ⟨v2, vs2, d2, ds2, p2, q2, rfl, rfl, rfl, h2, r2⟩ := trodAll_cons r1
  obtain ⟨rfl, rfl, rfl⟩ := trodAll_nil r2
  obtain rfl : args = #[v0, v1, v2] := by cases args; simp_all
  obtain ⟨rfl, rfl⟩ := trodVars_none hV
  have k0 := h0
  have lt0 : ∀ x ∈ p0, x.block < W.heap.size := by obtain ⟨m, hm⟩ := k0; exact DataW.trod_lt m _ _ _ hm
  obtain ⟨src, dst, fr, to, data, rfl, s0, s1, d0', d1', z0⟩ := open_gram (hval 0 24 v0 rfl rfl) h0
  obtain ⟨a1, rfl, rfl, rfl, w1⟩ := open_int Try.underlying3 (hval 1 3 v1 rfl rfl) h1
  have b1 := bounds_i64 w1
  obtain ⟨a2, rfl, rfl, rfl, w2⟩ := open_int Try.underlying5 (hval 2 5 v2 rfl rfl) h2
  have b2 := bounds_u8 w2
  clear hA0
  simp only [List.append_nil] at hW'
  refine (walk src dst fr to data a1 a2 W b2 s0 s1 d0' d1').mono fun e W' ⟨he, bel⟩ => ?_
  subst he
  exact ⟨_, rfl, _, _, _, [], _, [], hW', trodAll_mk1 (shut_bool Try.underlying4 _), (trodAll_cons_mk (Below.trod laidOut (by kernel_rfl) (of_decide_eq_true (by kernel_rfl)) k0 bel lt0) (trodAll_cons_mk (shut_int Try.underlying3 w1) (trodAll_cons_mk (shut_int Try.underlying5 w2) trodAll_mk0))), rfl, bel.frame _, fun h => by cases h⟩

theorem laid_met (os : Os) : laidMet Try.prog Rows.udpToldRow.laid ((startWorld Try.prog os).forCall (fun _ _ => 0) ⟨#[], #[.agg #[.int .u32 0, .int .u32 0, .int .i64 0, .int .i64 0, .string ByteArray.empty], .int .i64 0, .int .u8 0], []⟩).memory :=
  laidMet_of_run' 8 (by kernel_rfl) (by kernel_rfl)
theorem reads (os : Os) {H : Type} (enc : TypeId × Value → H) : ∃ places, DataW.whole enc Try.prog ((startWorld Try.prog os).forCall (fun _ _ => 0) ⟨#[], #[.agg #[.int .u32 0, .int .u32 0, .int .i64 0, .int .i64 0, .string ByteArray.empty], .int .i64 0, .int .u8 0], []⟩).memory Try.f7.params.toList Rows.udpToldSpec.vars false #[Value.agg #[.int .u32 0, .int .u32 0, .int .i64 0, .int .i64 0, .string ByteArray.empty], Value.int .i64 0, Value.int .u8 0].toList 8 = some ([.agg [.lit (.int .u32 0), .lit (.int .u32 0), .lit (.int .i64 0), .lit (.int .i64 0), .lit (.string [])], .lit (.int .i64 0), .lit (.int .u8 0)], [], places) :=
  ⟨[], by kernel_rfl⟩

set_option maxRecDepth 100000 in
theorem lifted (os : Os) (started : os.Started) (H : Type) (enc : TypeId × Value → H) (F : Stop.Interp) :
    ReturnsInHanded {} Try.checked os 7 .any ((OpenSpec.ofChange Rows.udpToldSpec).preRow enc Try.prog Try.f7 Rows.udpToldRow.domain false Rows.udpToldRow.laid) (((OpenSpec.ofChange Rows.udpToldSpec).at F).post enc Try.prog Try.f7 false true false false) := by
  obtain ⟨places, hx⟩ := reads os enc
  refine returnsInHanded_of_row (C := Try.checked) (s := OpenSpec.ofChange Rows.udpToldSpec) own started (by kernel_rfl) Try.func7
    (witness_row_at (enc := enc) (C := Try.checked) false (startWorld Try.prog os) #[.agg #[.int .u32 0, .int .u32 0, .int .i64 0, .int .i64 0, .string ByteArray.empty], .int .i64 0, .int .u8 0] rfl (by kernel_rfl) (by kernel_rfl) (by kernel_rfl)
      (OpenSpec.preRow_of_cond 8 hx (by kernel_rfl) (fun k hk => by cases hk) (by kernel_rfl) (laid_met os))) ?_
  intro W base args ds gs before hval hW _ _ _ _ _ _
  exact contract H enc W base args ds gs before hval hW

theorem said : Rows.UdpToldSaid :=
  OpenClaim.holds_of_cond 7 Try.f7 rfl rfl rfl rfl rfl rfl rfl ⟨rfl, rfl, rfl, rfl, rfl⟩ rfl rfl rfl rfl rfl (by kernel_rfl) Try.func7 (by kernel_rfl)
    (of_decide_eq_true (by kernel_rfl)) (by unfold Func.isWrapper; first | (rw [if_pos (by decide +kernel)]; kernel_rfl) | (rw [if_neg (by decide +kernel)]; exact ⟨rfl, rfl⟩))
    (fun os started H enc _ F => by rw [OpenClaim.pre_eq_preRow]; exact lifted os started H enc F)
end Go.Proofs.Ytaloccmfpehhcaa.udpTold
namespace Go.Proofs.Ytaloccmfpehhcaa
theorem udpTold_said : Rows.UdpToldSaid := udpTold.said
end Go.Proofs.Ytaloccmfpehhcaa
