/-
  What the program's throwIf and the reader's number, length and sum do, in every world that holds the reader. No condition but that. What the reader's length does, in every world that holds the reader. No condition but that. What the reader's sum does, in every world that holds the reader. No condition but that. What the reader's packet does, in every world that holds the reader. No condition but that. What the reader's packet does with 20 bytes and more, in every world that holds the reader. No condition but that. What the reader's packet does with bytes whose check sum is wrong, in every world that holds the reader. No condition but that. What the reader's packet answers where all is right, in every world that holds the reader. No condition but that. What the function that Parse defers does: where the reader threw, the header is empty and the error is what was thrown; else nothing. No condition but that the two variables are there. What the program's Parse answers, for every string. No condition. Plain facts on a packet's bytes: what is written is what is read, and what is read is what is written. No condition but those that are named. What the program's Hop answers, out of what Parse and Build answer. No other condition.
-/
import Derived.Test.YtndaohiecpdmlaaGreatMgB
import Derived.Deep.RegionWith
import Derived.BigQuiet
import Derived.Laws.ResultCell
import Derived.Defers
import Derived.Recover
import Derived.Laws.Pointers
namespace Go.Proofs.YtndaohiecpdmlaaGreat
open Go.RowKit

/-- What throwIf throws. -/
def thrown (e : Int) : List PanicEntry := [{ v := .iface 32 (.int .i64 e), recovered := false }]
set_option maxHeartbeats 400000 in
theorem throw_no (e : Int) (w : World) : Calls Tryz.prog 51 #[.bool false, .int .i64 e] w fun r w' => r = .returned (.tuple #[]) ∧ w = w' := by
  go_enter Tryz.func51, Tryz.ntmps51
  go_wp2
  go_end0
  exact ⟨rfl, rfl⟩
set_option maxHeartbeats 400000 in
theorem throw_yes (e : Int) (w : World) : Calls Tryz.prog 51 #[.bool true, .int .i64 e] w fun r w' => r = .panicked (thrown e) ∧ w = w' := by
  go_enter Tryz.func51, Tryz.ntmps51
  go_wp2
  exact ⟨rfl, rfl, rfl⟩

/-- A reader in a block. -/
structure Rd (w : World) (B : Nat) (s : ByteArray) (p : Nat) : Prop where
  lt : B < w.heap.size
  c0 : w.cell? ⟨B, 0, none⟩ = some (.string s)
  c1 : w.cell? ⟨B, 1, none⟩ = some (.int .i64 p)
  z1 : w.frozen? ⟨B, 1, none⟩ = false
theorem Rd.set {w : World} {B : Nat} {s : ByteArray} {p : Nat} (h : Rd w B s p) (q : Nat) : Rd (w.setCell ⟨B, 1, none⟩ (.int .i64 q)) B s q :=
  ⟨by simpa [World.setCell] using h.lt, by rw [World.cell?_setCell_other (h := by simp)]; exact h.c0, by rw [World.cell?_setCell_same (h := h.c1)], by rw [World.frozen?_setCell]; exact h.z1⟩
/-- Nothing has turned but block B (and how often the tape was asked). -/
structure Only (B : Nat) (w w' : World) : Prop where
  os : w'.os = w.os
  tape : w'.tape = w.tape
  output : w'.output = w.output
  size : w'.heap.size = w.heap.size
  block : ∀ k, k ≠ B → w'.heap[k]? = w.heap[k]?
theorem Only.refl (B : Nat) (w : World) : Only B w w := ⟨rfl, rfl, rfl, rfl, fun _ _ => rfl⟩
theorem Only.trans {B : Nat} {a b c : World} (h : Only B a b) (k : Only B b c) : Only B a c :=
  ⟨k.os.trans h.os, k.tape.trans h.tape, k.output.trans h.output, k.size.trans h.size, fun i hi => (k.block i hi).trans (h.block i hi)⟩
theorem Only.drewN (B : Nat) (w : World) (n : Nat) : Only B w (w.drewN n) := ⟨rfl, rfl, rfl, rfl, fun _ _ => rfl⟩
theorem Only.setCell {B : Nat} {a w : World} (h : Only B a w) (i : Nat) (v : Value) : Only B a (w.setCell ⟨B, i, none⟩ v) :=
  h.trans ⟨rfl, rfl, rfl, by simp [World.setCell], fun k hk => Below.heap_setCell _ _ _ _ hk⟩
theorem Only.below {B n : Nat} {w w' : World} (h : Only B w w') (hn : n ≤ B) : Below n w w' :=
  ⟨h.os, h.tape, h.output, Nat.le_of_eq h.size.symm, fun k hk => h.block k (by omega)⟩
theorem Only.cell {B : Nat} {w w' : World} (h : Only B w w') {p : Addr} (hp : p.block ≠ B) : w'.cell? p = w.cell? p := World.cell?_of_block (w := w) (h.block p.block hp)
theorem Only.frozen {B : Nat} {w w' : World} (h : Only B w w') {p : Addr} (hp : p.block ≠ B) : w'.frozen? p = w.frozen? p := World.frozen?_of_block (w := w) (h.block p.block hp)
theorem Rd.drewN {w : World} {B : Nat} {s : ByteArray} {p : Nat} (h : Rd w B s p) (n : Nat) : Rd (w.drewN n) B s p := ⟨h.lt, h.c0, h.c1, h.z1⟩
/-- The number of some bytes, the highest first. -/
def num (f : Nat → Int) (p : Nat) : Nat → Int
  | 0 => 0
  | j + 1 => num f p j * 256 + f (p + j)
theorem num_bd (f : Nat → Int) (hf : ∀ i, 0 ≤ f i ∧ f i < 256) (p : Nat) : ∀ j, 0 ≤ num f p j ∧ num f p j < 256 ^ j
  | 0 => by simp [num]
  | j + 1 => by
    have ih := num_bd f hf p j
    have := hf (p + j)
    have e : (256 : Int) ^ (j + 1) = 256 ^ j * 256 := by rw [Int.pow_succ]
    rw [e]
    simp only [num]
    omega
theorem num_lt (f : Nat → Int) (hf : ∀ i, 0 ≤ f i ∧ f i < 256) (p j : Nat) (hj : j < 4) : 0 ≤ num f p j ∧ num f p j < 16777216 := by
  have := num_bd f hf p j
  rcases (show j = 0 ∨ j = 1 ∨ j = 2 ∨ j = 3 by omega) with rfl | rfl | rfl | rfl <;> omega
theorem u32_or_byte (x b : Int) (h0 : 0 ≤ x) (h : x < 16777216) (b0 : 0 ≤ b) (hb : b < 256) : bits .or .u32 (x * 256) b = x * 256 + b := by
  obtain ⟨a, rfl⟩ := Int.eq_ofNat_of_zero_le h0
  obtain ⟨c, rfl⟩ := Int.eq_ofNat_of_zero_le b0
  rw [show (a : Int) * 256 = ((a * 256 : Nat) : Int) by omega, u32_or_nat _ _ (by omega) (by omega), nat_join 8 (a * 256) c (by omega) (by omega)]
  omega
set_option maxHeartbeats 1000000 in
theorem number_ok (w : World) (B : Nat) (s : ByteArray) (p k : Nat) (h : Rd w B s p) (hk : k ≤ 4) (hp : p + k ≤ s.size) (hs : s.size ≤ 9223372036854775807) :
    Calls Tryz.prog 52 #[.pointer (some ⟨B, 0, none⟩), .int .i64 k] w fun e w' => e = .returned (.int .u32 (num (byt s) p k)) ∧ Rd w' B s (p + k) ∧ Only B w w' := by
  go_enter Tryz.func52, Tryz.ntmps52
  go_wp2
  go_loopw [5, 7] (fun n i w' => ∃ j q : Nat, j ≤ k ∧ Hid (q = p + j) ∧ i = .int .i64 j ∧ n = .int .u32 (num (byt s) p j) ∧ Rd w' B s q ∧ Only B w w') (fun _ i _ => k - (intOf i).toNat)
  case atStart => exact ⟨0, p, Nat.zero_le _, rfl, rfl, rfl, h, Only.refl _ _⟩
  case round =>
    obtain ⟨j, q, hj, hq, rfl, rfl, hr, hbel⟩ := hrel
    by_cases hlt : j < k
    · have hrd : Hid (Rd wr B s q) := hr
      obtain ⟨lt, c0, c1, z1⟩ := hr
      have hql : q < s.size := by have := hq.out; omega
      have hb := byt_bd s q
      have e1 := byt_eq s q hql
      have hn1 := num_lt (byt s) (byt_bd s) p j (by omega)
      have hor1 := u32_or_byte (num (byt s) p j) (byt s q) hn1.1 hn1.2 hb.1 hb.2
      have hs' : num (byt s) p (j + 1) = num (byt s) p j * 256 + byt s q := by rw [hq.out]; rfl
      have hw1 : IntKind.u32.wrap (num (byt s) p j * 256) = num (byt s) p j * 256 := by simp [IntKind.wrap, IntKind.bits, IntKind.signed]; omega
      have hw2 : IntKind.u32.wrap (byt s q) = byt s q := by simp [IntKind.wrap, IntKind.bits, IntKind.signed]; omega
      replace hs' : Hid _ := hs'
      have hqi : (q : Int) < s.size := by omega
      have hq0 : (0 : Int) ≤ q := by omega
      generalize num (byt s) p j = x at *
      generalize byt s q = y at *
      go_wp2
      go_quiet (fail)
      go_wp2
      have hR : Rd ((wr.drewN nq).setCell ⟨B, 1, none⟩ (.int .i64 ((q : Int) + 1))) B s (q + 1) := (hrd.out.drewN nq).set (q + 1)
      have hB : Only B w ((wr.drewN nq).setCell ⟨B, 1, none⟩ (.int .i64 ((q : Int) + 1))) := (hbel.trans (Only.drewN _ _ _)).setCell 1 _
      go_roundw
      case rel => exact ⟨j + 1, q + 1, by omega, (by have := hq.out; omega : q + 1 = p + (j + 1)), by go_num, by rw [hs'.out], hR, hB⟩
      case measure => simp [intOf]; omega
    · obtain rfl : j = k := by omega
      obtain rfl : q = p + j := hq.out
      replace hr : Hid _ := hr
      go_wp2
      go_ret
      exact ⟨rfl, hr.out, hbel⟩

/-- What bytes say of their length. -/
def said (s : ByteArray) : Int := num (byt s) 2 2
theorem num2_bd (s : ByteArray) (p : Nat) : 0 ≤ num (byt s) p 2 ∧ num (byt s) p 2 < 65536 := num_bd (byt s) (byt_bd s) p 2
end Go.Proofs.YtndaohiecpdmlaaGreat
namespace Go.Proofs.YtndaohiecpdmlaaGreat
open Go.RowKit
set_option maxHeartbeats 1000000 in
theorem length_ok (w : World) (B : Nat) (s : ByteArray) (h : Rd w B s 2) (h20 : 20 ≤ s.size) (hs : s.size ≤ 9223372036854775807) (hl : said s = s.size) :
    Calls Tryz.prog 53 #[.pointer (some ⟨B, 0, none⟩)] w fun e w' => e = .returned (.tuple #[]) ∧ Rd w' B s 4 ∧ Only B w w' := by
  have bd := num2_bd s 2
  unfold said at *
  have N : Hid (Calls Tryz.prog 52 #[.pointer (some ⟨B, 0, none⟩), .int .i64 2] w fun e w' => e = .returned (.int .u32 (num (byt s) 2 2)) ∧ Rd w' B s 4 ∧ Only B w w') := number_ok w B s 2 2 h (by decide) (by omega) (by omega)
  generalize num (byt s) 2 2 = n at *
  have f1 : decide ((s.size : Int) < 20) = false := by simp; omega
  go_enter Tryz.func53, Tryz.ntmps53
  go_wp2_with (first | (go_at_call 52; refine N.out.mono ?_; rintro e w1 ⟨rfl, R1, b1⟩; have c0 := R1.c0; replace R1 : Hid _ := R1) | (go_at_call_of 51 (1 : Int); refine (throw_no _ _).mono ?_; rintro e w' ⟨rfl, rfl⟩) | (go_at_call_of 51 (6 : Int); refine (throw_no _ _).mono ?_; rintro e w' ⟨rfl, rfl⟩))
  go_end0
  exact ⟨rfl, R1.out, b1⟩
set_option maxHeartbeats 1000000 in
theorem length_short1 (w : World) (B : Nat) (s : ByteArray) (h : Rd w B s 2) (h20 : 20 ≤ s.size) (hs : s.size ≤ 9223372036854775807) (hl : s.size < said s) :
    Calls Tryz.prog 53 #[.pointer (some ⟨B, 0, none⟩)] w fun e w' => e = .panicked (thrown 1) ∧ Only B w w' := by
  have bd := num2_bd s 2
  unfold said at *
  have N : Hid (Calls Tryz.prog 52 #[.pointer (some ⟨B, 0, none⟩), .int .i64 2] w fun e w' => e = .returned (.int .u32 (num (byt s) 2 2)) ∧ Rd w' B s 4 ∧ Only B w w') := number_ok w B s 2 2 h (by decide) (by omega) (by omega)
  generalize num (byt s) 2 2 = n at *
  have f1 : decide ((s.size : Int) < n) = true := by simp; omega
  go_enter Tryz.func53, Tryz.ntmps53
  go_wp2_with (first | (go_at_call 52; refine N.out.mono ?_; rintro e w1 ⟨rfl, R1, b1⟩; have c0 := R1.c0; replace R1 : Hid _ := R1) | (go_at_call_of 51 (1 : Int); refine (throw_yes _ _).mono ?_; rintro e w' ⟨rfl, rfl⟩))
  exact ⟨rfl, rfl, b1⟩
set_option maxHeartbeats 1000000 in
theorem length_short2 (w : World) (B : Nat) (s : ByteArray) (h : Rd w B s 2) (h20 : 20 ≤ s.size) (hs : s.size ≤ 9223372036854775807) (hl : ¬ s.size < said s) (hg : said s < 20) :
    Calls Tryz.prog 53 #[.pointer (some ⟨B, 0, none⟩)] w fun e w' => e = .panicked (thrown 1) ∧ Only B w w' := by
  have bd := num2_bd s 2
  unfold said at *
  have N : Hid (Calls Tryz.prog 52 #[.pointer (some ⟨B, 0, none⟩), .int .i64 2] w fun e w' => e = .returned (.int .u32 (num (byt s) 2 2)) ∧ Rd w' B s 4 ∧ Only B w w') := number_ok w B s 2 2 h (by decide) (by omega) (by omega)
  generalize num (byt s) 2 2 = n at *
  have f1 : decide ((s.size : Int) < n) = false := by simp; omega
  have f2 : decide (n < 20) = true := by simp; omega
  go_enter Tryz.func53, Tryz.ntmps53
  go_wp2_with (first | (go_at_call 52; refine N.out.mono ?_; rintro e w1 ⟨rfl, R1, b1⟩; have c0 := R1.c0; replace R1 : Hid _ := R1) | (go_at_call_of 51 (1 : Int); refine (throw_yes _ _).mono ?_; rintro e w' ⟨rfl, rfl⟩))
  exact ⟨rfl, rfl, b1⟩
set_option maxHeartbeats 1000000 in
theorem length_more (w : World) (B : Nat) (s : ByteArray) (h : Rd w B s 2) (h20 : 20 ≤ s.size) (hs : s.size ≤ 9223372036854775807) (hl : said s < s.size) (hg : 20 ≤ said s) :
    Calls Tryz.prog 53 #[.pointer (some ⟨B, 0, none⟩)] w fun e w' => e = .panicked (thrown 6) ∧ Only B w w' := by
  have bd := num2_bd s 2
  unfold said at *
  have N : Hid (Calls Tryz.prog 52 #[.pointer (some ⟨B, 0, none⟩), .int .i64 2] w fun e w' => e = .returned (.int .u32 (num (byt s) 2 2)) ∧ Rd w' B s 4 ∧ Only B w w') := number_ok w B s 2 2 h (by decide) (by omega) (by omega)
  generalize num (byt s) 2 2 = n at *
  have f1 : decide ((s.size : Int) < n) = false := by simp; omega
  have f2 : decide (n < 20) = false := by simp; omega
  have f3 : decide (n < (s.size : Int)) = true := by simp; omega
  go_enter Tryz.func53, Tryz.ntmps53
  go_wp2_with (first | (go_at_call 52; refine N.out.mono ?_; rintro e w1 ⟨rfl, R1, b1⟩; have c0 := R1.c0; replace R1 : Hid _ := R1) | (go_at_call_of 51 (1 : Int); refine (throw_no _ _).mono ?_; rintro e w' ⟨rfl, rfl⟩) | (go_at_call_of 51 (6 : Int); refine (throw_yes _ _).mono ?_; rintro e w' ⟨rfl, rfl⟩))
  exact ⟨rfl, rfl, b1⟩
end Go.Proofs.YtndaohiecpdmlaaGreat
namespace Go.Proofs.YtndaohiecpdmlaaGreat
open Go.RowKit
/-- The check sum that bytes should tell. -/
def right (s : ByteArray) : Int := ck (s.extract 0 10 ++ ByteArray.mk #[0, 0] ++ s.extract 12 20)
theorem right_size (s : ByteArray) (h : 20 ≤ s.size) : (s.extract 0 10 ++ ByteArray.mk #[0, 0] ++ s.extract 12 20).size = 20 := by
  have e : (ByteArray.mk #[0, 0]).size = 2 := rfl
  rw [ByteArray.size_append, ByteArray.size_append, ByteArray.size_extract, ByteArray.size_extract, e]
  omega
theorem quiet_sum (s : ByteArray) (w : World) (hs : s.size = 20) :
    Calls Tryz.prog 66 #[.string s] w fun e w' => e = .returned (.int .i64 (ck s)) ∧ w' = w :=
  (sum_ok s w (by omega)).mono fun _ _ ⟨h, k⟩ => ⟨h, k.symm⟩
set_option maxHeartbeats 1000000 in
theorem ipchk_ok (w : World) (B : Nat) (s : ByteArray) (h : Rd w B s 10) (h20 : 20 ≤ s.size) (hs : s.size ≤ 9223372036854775807) (hl : num (byt s) 10 2 = right s) :
    Calls Tryz.prog 54 #[.pointer (some ⟨B, 0, none⟩)] w fun e w' => e = .returned (.tuple #[]) ∧ Rd w' B s 12 ∧ Only B w w' := by
  have bd := num2_bd s 10
  have N : Hid (Calls Tryz.prog 52 #[.pointer (some ⟨B, 0, none⟩), .int .i64 2] w fun e w' => e = .returned (.int .u32 (num (byt s) 10 2)) ∧ Rd w' B s 12 ∧ Only B w w') := number_ok w B s 10 2 h (by decide) (by omega) hs
  have S : Hid (∀ w, _) := fun w => quiet_sum _ w (right_size s h20)
  have q1 : (10 : Int) ≤ s.size := by omega
  have q2 : (20 : Int) ≤ s.size := by omega
  have q3 : (s.extract 0 10).size = 10 := by rw [ByteArray.size_extract]; omega
  have q4 : (s.extract 12 20).size = 8 := by rw [ByteArray.size_extract]; omega
  have q5 : (ByteArray.mk #[0, 0]).size = 2 := rfl
  unfold right at *
  generalize num (byt s) 10 2 = n at *
  generalize ck (s.extract 0 10 ++ ByteArray.mk #[0, 0] ++ s.extract 12 20) = c at *
  have f1 : (n != c) = false := by simp [hl]
  clear hl
  go_enter Tryz.func54, Tryz.ntmps54
  go_wp2_with (go_at_call 52; refine N.out.mono ?_; rintro e w1 ⟨rfl, R1, b1⟩; have c0 := R1.c0; replace R1 : Hid _ := R1; replace b1 : Hid _ := b1)
  go_quiet ((go_at_call 66; exact Calls.quiet_of_same (S.out _)))
  go_wp2_with (go_at_call 51; refine (throw_no _ _).mono ?_; rintro e w' ⟨rfl, rfl⟩)
  go_end0
  exact ⟨rfl, R1.out.drewN nq, b1.out.trans (Only.drewN _ _ _)⟩
set_option maxHeartbeats 1000000 in
theorem ipchk_no (w : World) (B : Nat) (s : ByteArray) (h : Rd w B s 10) (h20 : 20 ≤ s.size) (hs : s.size ≤ 9223372036854775807) (hl : num (byt s) 10 2 ≠ right s) :
    Calls Tryz.prog 54 #[.pointer (some ⟨B, 0, none⟩)] w fun e w' => e = .panicked (thrown 9) ∧ Only B w w' := by
  have bd := num2_bd s 10
  have N : Hid (Calls Tryz.prog 52 #[.pointer (some ⟨B, 0, none⟩), .int .i64 2] w fun e w' => e = .returned (.int .u32 (num (byt s) 10 2)) ∧ Rd w' B s 12 ∧ Only B w w') := number_ok w B s 10 2 h (by decide) (by omega) hs
  have S : Hid (∀ w, _) := fun w => quiet_sum _ w (right_size s h20)
  have q1 : (10 : Int) ≤ s.size := by omega
  have q2 : (20 : Int) ≤ s.size := by omega
  have q3 : (s.extract 0 10).size = 10 := by rw [ByteArray.size_extract]; omega
  have q4 : (s.extract 12 20).size = 8 := by rw [ByteArray.size_extract]; omega
  have q5 : (ByteArray.mk #[0, 0]).size = 2 := rfl
  unfold right at *
  generalize num (byt s) 10 2 = n at *
  generalize ck (s.extract 0 10 ++ ByteArray.mk #[0, 0] ++ s.extract 12 20) = c at *
  have f1 : (n != c) = true := by simp [hl]
  clear hl
  go_enter Tryz.func54, Tryz.ntmps54
  go_wp2_with (go_at_call 52; refine N.out.mono ?_; rintro e w1 ⟨rfl, R1, b1⟩; have c0 := R1.c0; replace R1 : Hid _ := R1; replace b1 : Hid _ := b1)
  go_quiet ((go_at_call 66; exact Calls.quiet_of_same (S.out _)))
  go_wp2_with (go_at_call 51; refine (throw_yes _ _).mono ?_; rintro e w' ⟨rfl, rfl⟩)
  exact ⟨rfl, rfl, b1.out.trans (Only.drewN _ _ _)⟩
end Go.Proofs.YtndaohiecpdmlaaGreat
namespace Go.Proofs.YtndaohiecpdmlaaGreat
open Go.RowKit

/-- A header's eight cells in a block. -/
structure HB (w : World) (A : Nat) (f : Nat → Value) : Prop where
  lt : A < w.heap.size
  at' : ∀ i, i < 8 → w.cell? ⟨A, i, none⟩ = some (f i) ∧ w.frozen? ⟨A, i, none⟩ = false
def upV (f : Nat → Value) (k : Nat) (v : Value) : Nat → Value := fun i => if i = k then v else f i
theorem HB.alloc {w : World} {A : Nat} {f : Nat → Value} (h : HB w A f) (o : Obj) : HB (w.alloc o) A f := by
  refine ⟨by have := h.lt; simp; omega, fun i hi => ?_⟩
  rw [World.cell?_alloc_past _ _ _ h.lt, World.frozen?_alloc_past _ _ _ h.lt]
  exact h.at' i hi
theorem HB.set {w : World} {A : Nat} {f : Nat → Value} (h : HB w A f) (k : Nat) (hk : k < 8) (v : Value) : HB (w.setCell ⟨A, k, none⟩ v) A (upV f k v) := by
  refine ⟨by simpa [World.setCell] using h.lt, fun i hi => ?_⟩
  rw [World.frozen?_setCell]
  refine ⟨?_, (h.at' i hi).2⟩
  unfold upV
  by_cases e : i = k
  · subst e
    rw [if_pos rfl, World.cell?_setCell_same (h := (h.at' i hi).1)]
  · rw [if_neg e, World.cell?_setCell_other (h := by simp)]
    exact (h.at' i hi).1
theorem HB.other {w : World} {A C k : Nat} {f : Nat → Value} (h : HB w A f) (hc : C ≠ A) (v : Value) : HB (w.setCell ⟨C, k, none⟩ v) A f := by
  refine ⟨by simpa [World.setCell] using h.lt, fun i hi => ?_⟩
  rw [World.frozen?_setCell, World.cell?_setCell_other (h := by simp)]
  exact h.at' i hi
theorem HB.only {w w' : World} {A B : Nat} {f : Nat → Value} (h : HB w A f) (o : Only B w w') (hA : A ≠ B) : HB w' A f :=
  ⟨by rw [o.size]; exact h.lt, fun i hi => ⟨(o.cell hA).trans (h.at' i hi).1, (o.frozen hA).trans (h.at' i hi).2⟩⟩
theorem Rd.alloc {w : World} {B : Nat} {s : ByteArray} {p : Nat} (h : Rd w B s p) (o : Obj) : Rd (w.alloc o) B s p := by
  refine ⟨by have := h.lt; simp; omega, ?_, ?_, ?_⟩
  · rw [World.cell?_alloc_past _ _ _ h.lt]; exact h.c0
  · rw [World.cell?_alloc_past _ _ _ h.lt]; exact h.c1
  · rw [World.frozen?_alloc_past _ _ _ h.lt]; exact h.z1
theorem Rd.other {w : World} {A B k : Nat} {s : ByteArray} {p : Nat} (h : Rd w B s p) (hA : A ≠ B) (v : Value) : Rd (w.setCell ⟨A, k, none⟩ v) B s p := by
  refine ⟨by simpa [World.setCell] using h.lt, ?_, ?_, ?_⟩
  · rw [World.cell?_setCell_other (h := by simp)]; exact h.c0
  · rw [World.cell?_setCell_other (h := by simp)]; exact h.c1
  · rw [World.frozen?_setCell]; exact h.z1

/-- Where the reader stands: at p; the header's block A holds f so far, the result's block R what it was made with. -/
structure St (w0 w : World) (B R A : Nat) (s : ByteArray) (p : Nat) (f g : Nat → Value) : Prop where
  rd : Rd w B s p
  h : HB w A f
  r : HB w R g
  bel : Below B w0 w
  ab : A ≠ B
  rb : R ≠ B
  ar : A ≠ R
  ba : B ≤ A
theorem St.call {w0 w w' : World} {B R A : Nat} {s : ByteArray} {p q : Nat} {f g : Nat → Value} (S : St w0 w B R A s p f g) (hr : Rd w' B s q) (o : Only B w w') : St w0 w' B R A s q f g :=
  ⟨hr, S.h.only o S.ab, S.r.only o S.rb, S.bel.trans (o.below (Nat.le_refl B)), S.ab, S.rb, S.ar, S.ba⟩
theorem St.store {w0 w : World} {B R A : Nat} {s : ByteArray} {p : Nat} {f g : Nat → Value} (S : St w0 w B R A s p f g) (k : Nat) (hk : k < 8) (v : Value) : St w0 (w.setCell ⟨A, k, none⟩ v) B R A s p (upV f k v) g :=
  ⟨S.rd.other S.ab v, S.h.set k hk v, S.r.other S.ar v, S.bel.setCell (p := ⟨A, k, none⟩) S.ba v, S.ab, S.rb, S.ar, S.ba⟩
/-- A header with nothing in it. -/
def zs : Nat → Value := fun i => #[.int .i64 0, .int .i64 0, .int .i64 0, .int .i64 0, .int .i64 0, .int .u32 0, .int .u32 0, .string ⟨#[]⟩].getD i undef
def hdOf (s : ByteArray) : Value := hv (num (byt s) 1 1) (num (byt s) 4 2) (num (byt s) 6 2) (num (byt s) 8 1) (num (byt s) 9 1) (num (byt s) 12 4) (num (byt s) 16 4) (s.extract 20 s.size)

set_option maxHeartbeats 1000000 in
theorem packet_short (w : World) (B : Nat) (s : ByteArray) (h : Rd w B s 0) (h20 : s.size < 20) :
    Calls Tryz.prog 34 #[.pointer (some ⟨B, 0, none⟩)] w fun e w' => e = .panicked (thrown 1) ∧ Below B w w' := by
  obtain ⟨lt, c0, c1, z1⟩ := h
  have f1 : decide ((s.size : Int) < 20) = true := by simp; omega
  go_enter Tryz.func34, Tryz.ntmps34
  go_wp2_with (go_at_call 51; refine (throw_yes _ _).mono ?_; rintro e w' ⟨rfl, rfl⟩)
  exact ⟨rfl, rfl, (Below.refl _ _).alloc (Nat.le_of_lt lt) _⟩
set_option maxHeartbeats 1000000 in
theorem packet_field (w : World) (B : Nat) (s : ByteArray) (h : Rd w B s 0) (h20 : 20 ≤ s.size) (hs : s.size ≤ 9223372036854775807) (hf : num (byt s) 0 1 ≠ 69) :
    Calls Tryz.prog 34 #[.pointer (some ⟨B, 0, none⟩)] w fun e w' => e = .panicked (thrown 3) ∧ Below B w w' := by
  have hr : Hid (Rd w B s 0) := h
  obtain ⟨lt, c0, c1, z1⟩ := h
  have f1 : decide ((s.size : Int) < 20) = false := by simp; omega
  have N : Hid (∀ w, Rd w B s 0 → _) := fun w hr => number_ok w B s 0 1 hr (by decide) (by omega) hs
  have f2 : (num (byt s) 0 1 != 69) = true := by simp [hf]
  clear hf
  generalize num (byt s) 0 1 = n at *
  go_enter Tryz.func34, Tryz.ntmps34
  go_wp2_with (first
    | (go_at_call_of 51 (1 : Int); refine (throw_no _ _).mono ?_; rintro e w' ⟨rfl, rfl⟩)
    | (go_at_call_of 51 (3 : Int); refine (throw_yes _ _).mono ?_; rintro e w' ⟨rfl, rfl⟩)
    | (go_at_call 52; refine (N.out _ (hr.out.alloc _)).mono ?_; rintro e w1 ⟨rfl, R1, o1⟩))
  exact ⟨rfl, rfl, ((Below.refl _ _).alloc (Nat.le_of_lt lt) _).trans (o1.below (Nat.le_refl B))⟩
end Go.Proofs.YtndaohiecpdmlaaGreat
namespace Go.Proofs.YtndaohiecpdmlaaGreat
open Go.RowKit

theorem num1_bd (s : ByteArray) (p : Nat) : 0 ≤ num (byt s) p 1 ∧ num (byt s) p 1 < 256 := num_bd (byt s) (byt_bd s) p 1
theorem num4_bd (s : ByteArray) (p : Nat) : 0 ≤ num (byt s) p 4 ∧ num (byt s) p 4 < 4294967296 := num_bd (byt s) (byt_bd s) p 4
theorem hb_new (w : World) : HB (w.alloc (.cells #[.int .i64 0, .int .i64 0, .int .i64 0, .int .i64 0, .int .i64 0, .int .u32 0, .int .u32 0, .string ⟨#[]⟩] 40)) w.heap.size zs := by
  refine ⟨by simp, fun i hi => ⟨?_, by simp⟩⟩
  rw [World.cell?_alloc_new]
  rcases i with _|_|_|_|_|_|_|_|i
  all_goals first | rfl | omega
theorem St.start {w w1 : World} {B : Nat} {s : ByteArray} (lt : B < w.heap.size) (R1 : Rd w1 B s 1) (o1 : Only B (w.alloc (.cells #[.int .i64 0, .int .i64 0, .int .i64 0, .int .i64 0, .int .i64 0, .int .u32 0, .int .u32 0, .string ⟨#[]⟩] 40)) w1) : St w (w1.alloc (.cells #[.int .i64 0, .int .i64 0, .int .i64 0, .int .i64 0, .int .i64 0, .int .u32 0, .int .u32 0, .string ⟨#[]⟩] 40)) B w.heap.size w1.heap.size s 1 zs zs := by
  have hz : w1.heap.size = w.heap.size + 1 := by rw [o1.size]; simp
  exact ⟨R1.alloc _, hb_new w1, ((hb_new w).only o1 (by omega)).alloc _, (((Below.refl B w).alloc (Nat.le_of_lt lt) _).trans (o1.below (Nat.le_refl B))).alloc (by omega) _, by omega, by omega, by omega, by omega⟩
set_option maxHeartbeats 2000000 in
theorem packet_short1 (w : World) (B : Nat) (s : ByteArray) (h : Rd w B s 0) (h20 : 20 ≤ s.size) (hs : s.size ≤ 9223372036854775807) (hf : num (byt s) 0 1 = 69) (hl : s.size < said s) :
    Calls Tryz.prog 34 #[.pointer (some ⟨B, 0, none⟩)] w fun e w' => e = .panicked (thrown 1) ∧ Below B w w' := by
  have hr : Hid (Rd w B s 0) := h
  obtain ⟨lt, c0, c1, z1⟩ := h
  have f1 : decide ((s.size : Int) < 20) = false := by simp; omega
  have N0 : Hid (∀ w, Rd w B s 0 → _) := fun w hr => number_ok w B s 0 1 hr (by decide) (by omega) hs
  have N1 : Hid (∀ w, Rd w B s 1 → _) := fun w hr => number_ok w B s 1 1 hr (by decide) (by omega) hs
  have LEN : Hid _ := fun (w : World) (hr : Rd w B s 2) => length_short1 w B s hr h20 hs hl
  have b1 := num1_bd s 1
  rw [hf] at N0
  clear hf
  generalize num (byt s) 1 1 = tos at *
  have k0 : 0 < 8 := by decide
  have k1 : 1 < 8 := by decide
  have k2 : 2 < 8 := by decide
  have k3 : 3 < 8 := by decide
  have k4 : 4 < 8 := by decide
  have k5 : 5 < 8 := by decide
  have k6 : 6 < 8 := by decide
  have k7 : 7 < 8 := by decide
  go_enter Tryz.func34, Tryz.ntmps34
  go_wp2_with (first
    | (go_at_call_of 51 (1 : Int); refine (throw_no _ _).mono ?_; rintro e w' ⟨rfl, rfl⟩)
    | (go_at_call_of 51 (3 : Int); refine (throw_no _ _).mono ?_; rintro e w' ⟨rfl, rfl⟩)
    | (go_at_call 52; refine (N0.out _ (hr.out.alloc _)).mono ?_; rintro e w1 ⟨rfl, R1, o1⟩; have S1 : Hid _ := St.start lt R1 o1; clear R1 o1 hr c0 c1 z1 N0)
    | (go_at_call 52; refine (N1.out _ S1.out.rd).mono ?_; rintro e w2 ⟨rfl, R2, o2⟩; have S2 := S1.out.call R2 o2; obtain ⟨x2, z2⟩ := S2.h.at' 0 k0; replace S2 : Hid _ := S2; clear S1 R2 o2 N1)
    | (go_at_call 53; refine (LEN.out _ (S2.out.store 0 k0 _).rd).mono ?_; rintro e w3 ⟨rfl, o3⟩; have Z3 := (S2.out.store 0 k0 _).bel.trans (o3.below (Nat.le_refl B))))
  exact ⟨rfl, rfl, Z3⟩
set_option maxHeartbeats 2000000 in
theorem packet_short2 (w : World) (B : Nat) (s : ByteArray) (h : Rd w B s 0) (h20 : 20 ≤ s.size) (hs : s.size ≤ 9223372036854775807) (hf : num (byt s) 0 1 = 69) (hl : ¬ s.size < said s) (hg : said s < 20) :
    Calls Tryz.prog 34 #[.pointer (some ⟨B, 0, none⟩)] w fun e w' => e = .panicked (thrown 1) ∧ Below B w w' := by
  have hr : Hid (Rd w B s 0) := h
  obtain ⟨lt, c0, c1, z1⟩ := h
  have f1 : decide ((s.size : Int) < 20) = false := by simp; omega
  have N0 : Hid (∀ w, Rd w B s 0 → _) := fun w hr => number_ok w B s 0 1 hr (by decide) (by omega) hs
  have N1 : Hid (∀ w, Rd w B s 1 → _) := fun w hr => number_ok w B s 1 1 hr (by decide) (by omega) hs
  have LEN : Hid _ := fun (w : World) (hr : Rd w B s 2) => length_short2 w B s hr h20 hs hl hg
  have b1 := num1_bd s 1
  rw [hf] at N0
  clear hf
  generalize num (byt s) 1 1 = tos at *
  have k0 : 0 < 8 := by decide
  have k1 : 1 < 8 := by decide
  have k2 : 2 < 8 := by decide
  have k3 : 3 < 8 := by decide
  have k4 : 4 < 8 := by decide
  have k5 : 5 < 8 := by decide
  have k6 : 6 < 8 := by decide
  have k7 : 7 < 8 := by decide
  go_enter Tryz.func34, Tryz.ntmps34
  go_wp2_with (first
    | (go_at_call_of 51 (1 : Int); refine (throw_no _ _).mono ?_; rintro e w' ⟨rfl, rfl⟩)
    | (go_at_call_of 51 (3 : Int); refine (throw_no _ _).mono ?_; rintro e w' ⟨rfl, rfl⟩)
    | (go_at_call 52; refine (N0.out _ (hr.out.alloc _)).mono ?_; rintro e w1 ⟨rfl, R1, o1⟩; have S1 : Hid _ := St.start lt R1 o1; clear R1 o1 hr c0 c1 z1 N0)
    | (go_at_call 52; refine (N1.out _ S1.out.rd).mono ?_; rintro e w2 ⟨rfl, R2, o2⟩; have S2 := S1.out.call R2 o2; obtain ⟨x2, z2⟩ := S2.h.at' 0 k0; replace S2 : Hid _ := S2; clear S1 R2 o2 N1)
    | (go_at_call 53; refine (LEN.out _ (S2.out.store 0 k0 _).rd).mono ?_; rintro e w3 ⟨rfl, o3⟩; have Z3 := (S2.out.store 0 k0 _).bel.trans (o3.below (Nat.le_refl B))))
  exact ⟨rfl, rfl, Z3⟩
set_option maxHeartbeats 2000000 in
theorem packet_more (w : World) (B : Nat) (s : ByteArray) (h : Rd w B s 0) (h20 : 20 ≤ s.size) (hs : s.size ≤ 9223372036854775807) (hf : num (byt s) 0 1 = 69) (hl : said s < s.size) (hg : 20 ≤ said s) :
    Calls Tryz.prog 34 #[.pointer (some ⟨B, 0, none⟩)] w fun e w' => e = .panicked (thrown 6) ∧ Below B w w' := by
  have hr : Hid (Rd w B s 0) := h
  obtain ⟨lt, c0, c1, z1⟩ := h
  have f1 : decide ((s.size : Int) < 20) = false := by simp; omega
  have N0 : Hid (∀ w, Rd w B s 0 → _) := fun w hr => number_ok w B s 0 1 hr (by decide) (by omega) hs
  have N1 : Hid (∀ w, Rd w B s 1 → _) := fun w hr => number_ok w B s 1 1 hr (by decide) (by omega) hs
  have LEN : Hid _ := fun (w : World) (hr : Rd w B s 2) => length_more w B s hr h20 hs hl hg
  have b1 := num1_bd s 1
  rw [hf] at N0
  clear hf
  generalize num (byt s) 1 1 = tos at *
  have k0 : 0 < 8 := by decide
  have k1 : 1 < 8 := by decide
  have k2 : 2 < 8 := by decide
  have k3 : 3 < 8 := by decide
  have k4 : 4 < 8 := by decide
  have k5 : 5 < 8 := by decide
  have k6 : 6 < 8 := by decide
  have k7 : 7 < 8 := by decide
  go_enter Tryz.func34, Tryz.ntmps34
  go_wp2_with (first
    | (go_at_call_of 51 (1 : Int); refine (throw_no _ _).mono ?_; rintro e w' ⟨rfl, rfl⟩)
    | (go_at_call_of 51 (3 : Int); refine (throw_no _ _).mono ?_; rintro e w' ⟨rfl, rfl⟩)
    | (go_at_call 52; refine (N0.out _ (hr.out.alloc _)).mono ?_; rintro e w1 ⟨rfl, R1, o1⟩; have S1 : Hid _ := St.start lt R1 o1; clear R1 o1 hr c0 c1 z1 N0)
    | (go_at_call 52; refine (N1.out _ S1.out.rd).mono ?_; rintro e w2 ⟨rfl, R2, o2⟩; have S2 := S1.out.call R2 o2; obtain ⟨x2, z2⟩ := S2.h.at' 0 k0; replace S2 : Hid _ := S2; clear S1 R2 o2 N1)
    | (go_at_call 53; refine (LEN.out _ (S2.out.store 0 k0 _).rd).mono ?_; rintro e w3 ⟨rfl, o3⟩; have Z3 := (S2.out.store 0 k0 _).bel.trans (o3.below (Nat.le_refl B))))
  exact ⟨rfl, rfl, Z3⟩
end Go.Proofs.YtndaohiecpdmlaaGreat
namespace Go.Proofs.YtndaohiecpdmlaaGreat
open Go.RowKit
set_option maxHeartbeats 2000000 in
theorem packet_sum (w : World) (B : Nat) (s : ByteArray) (h : Rd w B s 0) (h20 : 20 ≤ s.size) (hs : s.size ≤ 9223372036854775807) (hf : num (byt s) 0 1 = 69) (hl : said s = s.size) (hc : num (byt s) 10 2 ≠ right s) :
    Calls Tryz.prog 34 #[.pointer (some ⟨B, 0, none⟩)] w fun e w' => e = .panicked (thrown 9) ∧ Below B w w' := by
  have hr : Hid (Rd w B s 0) := h
  obtain ⟨lt, c0, c1, z1⟩ := h
  have f1 : decide ((s.size : Int) < 20) = false := by simp; omega
  have N0 : Hid (∀ w, Rd w B s 0 → _) := fun w hr => number_ok w B s 0 1 hr (by decide) (by omega) hs
  have N1 : Hid (∀ w, Rd w B s 1 → _) := fun w hr => number_ok w B s 1 1 hr (by decide) (by omega) hs
  have N4 : Hid (∀ w, Rd w B s 4 → _) := fun w hr => number_ok w B s 4 2 hr (by decide) (by omega) hs
  have N6 : Hid (∀ w, Rd w B s 6 → _) := fun w hr => number_ok w B s 6 2 hr (by decide) (by omega) hs
  have N8 : Hid (∀ w, Rd w B s 8 → _) := fun w hr => number_ok w B s 8 1 hr (by decide) (by omega) hs
  have N9 : Hid (∀ w, Rd w B s 9 → _) := fun w hr => number_ok w B s 9 1 hr (by decide) (by omega) hs
  have LEN : Hid _ := fun (w : World) (hr : Rd w B s 2) => length_ok w B s hr h20 hs hl
  have CHK : Hid _ := fun (w : World) (hr : Rd w B s 10) => ipchk_no w B s hr h20 hs hc
  have b1 := num1_bd s 1
  have b4 := num2_bd s 4
  have b6 := num2_bd s 6
  have b8 := num1_bd s 8
  have b9 := num1_bd s 9
  rw [hf] at N0
  clear hf
  generalize num (byt s) 1 1 = tos at *
  generalize num (byt s) 4 2 = id at *
  generalize num (byt s) 6 2 = frag at *
  generalize num (byt s) 8 1 = ttl at *
  generalize num (byt s) 9 1 = proto at *
  have k0 : 0 < 8 := by decide
  have k1 : 1 < 8 := by decide
  have k2 : 2 < 8 := by decide
  have k3 : 3 < 8 := by decide
  have k4 : 4 < 8 := by decide
  have k5 : 5 < 8 := by decide
  have k6 : 6 < 8 := by decide
  have k7 : 7 < 8 := by decide
  go_enter Tryz.func34, Tryz.ntmps34
  go_wp2_with (first
    | (go_at_call_of 51 (1 : Int); refine (throw_no _ _).mono ?_; rintro e w' ⟨rfl, rfl⟩)
    | (go_at_call_of 51 (3 : Int); refine (throw_no _ _).mono ?_; rintro e w' ⟨rfl, rfl⟩)
    | (go_at_call 52; refine (N0.out _ (hr.out.alloc _)).mono ?_; rintro e w1 ⟨rfl, R1, o1⟩; have S1 : Hid _ := St.start lt R1 o1; clear R1 o1 hr c0 c1 z1 N0)
    | (go_at_call 52; refine (N1.out _ S1.out.rd).mono ?_; rintro e w2 ⟨rfl, R2, o2⟩; have S2 := S1.out.call R2 o2; obtain ⟨x2, z2⟩ := S2.h.at' 0 k0; replace S2 : Hid _ := S2; clear S1 R2 o2 N1)
    | (go_at_call 53; refine (LEN.out _ (S2.out.store 0 k0 _).rd).mono ?_; rintro e w3 ⟨rfl, R3, o3⟩; have S3 : Hid _ := (S2.out.store 0 k0 _).call R3 o3; clear S2 x2 z2 R3 o3)
    | (go_at_call 52; refine (N4.out _ (S3.out).rd).mono ?_; rintro e w4 ⟨rfl, R4, o4⟩; have S4 := (S3.out).call R4 o4; obtain ⟨x4, z4⟩ := S4.h.at' 1 k1; replace S4 : Hid _ := S4; clear S3 R4 o4 N4)
    | (go_at_call 52; refine (N6.out _ (S4.out.store 1 k1 _).rd).mono ?_; rintro e w5 ⟨rfl, R5, o5⟩; have S5 := (S4.out.store 1 k1 _).call R5 o5; obtain ⟨x5, z5⟩ := S5.h.at' 2 k2; replace S5 : Hid _ := S5; clear S4 R5 o5 x4 z4 N6)
    | (go_at_call 52; refine (N8.out _ (S5.out.store 2 k2 _).rd).mono ?_; rintro e w6 ⟨rfl, R6, o6⟩; have S6 := (S5.out.store 2 k2 _).call R6 o6; obtain ⟨x6, z6⟩ := S6.h.at' 3 k3; replace S6 : Hid _ := S6; clear S5 R6 o6 x5 z5 N8)
    | (go_at_call 52; refine (N9.out _ (S6.out.store 3 k3 _).rd).mono ?_; rintro e w7 ⟨rfl, R7, o7⟩; have S7 := (S6.out.store 3 k3 _).call R7 o7; obtain ⟨x7, z7⟩ := S7.h.at' 4 k4; replace S7 : Hid _ := S7; clear S6 R7 o7 x6 z6 N9)
    | (go_at_call 54; refine (CHK.out _ (S7.out.store 4 k4 _).rd).mono ?_; rintro e w8 ⟨rfl, o8⟩; have Z8 := (S7.out.store 4 k4 _).bel.trans (o8.below (Nat.le_refl B))))
  exact ⟨rfl, rfl, Z8⟩
end Go.Proofs.YtndaohiecpdmlaaGreat
namespace Go.Proofs.YtndaohiecpdmlaaGreat
open Go.RowKit
set_option maxHeartbeats 2000000 in
theorem packet_ok (w : World) (B : Nat) (s : ByteArray) (h : Rd w B s 0) (h20 : 20 ≤ s.size) (hs : s.size ≤ 9223372036854775807) (hf : num (byt s) 0 1 = 69) (hl : said s = s.size) (hc : num (byt s) 10 2 = right s) :
    Calls Tryz.prog 34 #[.pointer (some ⟨B, 0, none⟩)] w fun e w' => e = .returned (hdOf s) ∧ Below B w w' := by
  have hr : Hid (Rd w B s 0) := h
  obtain ⟨lt, c0, c1, z1⟩ := h
  have f1 : decide ((s.size : Int) < 20) = false := by simp; omega
  have N0 : Hid (∀ w, Rd w B s 0 → _) := fun w hr => number_ok w B s 0 1 hr (by decide) (by omega) hs
  have N1 : Hid (∀ w, Rd w B s 1 → _) := fun w hr => number_ok w B s 1 1 hr (by decide) (by omega) hs
  have N4 : Hid (∀ w, Rd w B s 4 → _) := fun w hr => number_ok w B s 4 2 hr (by decide) (by omega) hs
  have N6 : Hid (∀ w, Rd w B s 6 → _) := fun w hr => number_ok w B s 6 2 hr (by decide) (by omega) hs
  have N8 : Hid (∀ w, Rd w B s 8 → _) := fun w hr => number_ok w B s 8 1 hr (by decide) (by omega) hs
  have N9 : Hid (∀ w, Rd w B s 9 → _) := fun w hr => number_ok w B s 9 1 hr (by decide) (by omega) hs
  have N12 : Hid (∀ w, Rd w B s 12 → _) := fun w hr => number_ok w B s 12 4 hr (by decide) (by omega) hs
  have N16 : Hid (∀ w, Rd w B s 16 → _) := fun w hr => number_ok w B s 16 4 hr (by decide) (by omega) hs
  have LEN : Hid _ := fun (w : World) (hr : Rd w B s 2) => length_ok w B s hr h20 hs hl
  have CHK : Hid _ := fun (w : World) (hr : Rd w B s 10) => ipchk_ok w B s hr h20 hs hc
  unfold hdOf hv
  have b1 := num1_bd s 1
  have b4 := num2_bd s 4
  have b6 := num2_bd s 6
  have b8 := num1_bd s 8
  have b9 := num1_bd s 9
  have b12 := num4_bd s 12
  have b16 := num4_bd s 16
  rw [hf] at N0
  clear hf
  generalize num (byt s) 1 1 = tos at *
  generalize num (byt s) 4 2 = id at *
  generalize num (byt s) 6 2 = frag at *
  generalize num (byt s) 8 1 = ttl at *
  generalize num (byt s) 9 1 = proto at *
  generalize num (byt s) 12 4 = src at *
  generalize num (byt s) 16 4 = dst at *
  have k0 : 0 < 8 := by decide
  have k1 : 1 < 8 := by decide
  have k2 : 2 < 8 := by decide
  have k3 : 3 < 8 := by decide
  have k4 : 4 < 8 := by decide
  have k5 : 5 < 8 := by decide
  have k6 : 6 < 8 := by decide
  have k7 : 7 < 8 := by decide
  go_enter Tryz.func34, Tryz.ntmps34
  go_wp2_with (first
    | (go_at_call_of 51 (1 : Int); refine (throw_no _ _).mono ?_; rintro e w' ⟨rfl, rfl⟩)
    | (go_at_call_of 51 (3 : Int); refine (throw_no _ _).mono ?_; rintro e w' ⟨rfl, rfl⟩)
    | (go_at_call 52; refine (N0.out _ (hr.out.alloc _)).mono ?_; rintro e w1 ⟨rfl, R1, o1⟩; have S1 : Hid _ := St.start lt R1 o1; clear R1 o1 hr c0 c1 z1 N0)
    | (go_at_call 52; refine (N1.out _ S1.out.rd).mono ?_; rintro e w2 ⟨rfl, R2, o2⟩; have S2 := S1.out.call R2 o2; obtain ⟨x2, z2⟩ := S2.h.at' 0 k0; replace S2 : Hid _ := S2; clear S1 R2 o2 N1)
    | (go_at_call 53; refine (LEN.out _ (S2.out.store 0 k0 _).rd).mono ?_; rintro e w3 ⟨rfl, R3, o3⟩; have S3 : Hid _ := (S2.out.store 0 k0 _).call R3 o3; clear S2 x2 z2 R3 o3)
    | (go_at_call 52; refine (N4.out _ (S3.out).rd).mono ?_; rintro e w4 ⟨rfl, R4, o4⟩; have S4 := (S3.out).call R4 o4; obtain ⟨x4, z4⟩ := S4.h.at' 1 k1; replace S4 : Hid _ := S4; clear S3 R4 o4 N4)
    | (go_at_call 52; refine (N6.out _ (S4.out.store 1 k1 _).rd).mono ?_; rintro e w5 ⟨rfl, R5, o5⟩; have S5 := (S4.out.store 1 k1 _).call R5 o5; obtain ⟨x5, z5⟩ := S5.h.at' 2 k2; replace S5 : Hid _ := S5; clear S4 R5 o5 x4 z4 N6)
    | (go_at_call 52; refine (N8.out _ (S5.out.store 2 k2 _).rd).mono ?_; rintro e w6 ⟨rfl, R6, o6⟩; have S6 := (S5.out.store 2 k2 _).call R6 o6; obtain ⟨x6, z6⟩ := S6.h.at' 3 k3; replace S6 : Hid _ := S6; clear S5 R6 o6 x5 z5 N8)
    | (go_at_call 52; refine (N9.out _ (S6.out.store 3 k3 _).rd).mono ?_; rintro e w7 ⟨rfl, R7, o7⟩; have S7 := (S6.out.store 3 k3 _).call R7 o7; obtain ⟨x7, z7⟩ := S7.h.at' 4 k4; replace S7 : Hid _ := S7; clear S6 R7 o7 x6 z6 N9)
    | (go_at_call 54; refine (CHK.out _ (S7.out.store 4 k4 _).rd).mono ?_; rintro e w8 ⟨rfl, R8, o8⟩; have S8 : Hid _ := (S7.out.store 4 k4 _).call R8 o8; clear S7 x7 z7 R8 o8)
    | (go_at_call 52; refine (N12.out _ S8.out.rd).mono ?_; rintro e w9 ⟨rfl, R9, o9⟩; have S9 := S8.out.call R9 o9; obtain ⟨x9, z9⟩ := S9.h.at' 5 k5; replace S9 : Hid _ := S9; clear S8 R9 o9 N12)
    | (go_at_call 52; refine (N16.out _ (S9.out.store 5 k5 _).rd).mono ?_; rintro e w10 ⟨rfl, R10, o10⟩; have S10 := (S9.out.store 5 k5 _).call R10 o10; obtain ⟨x10, z10⟩ := S10.h.at' 6 k6; replace S10 : Hid _ := S10; clear S9 R10 o10 x9 z9 N16))
  have S11 := S10.out.store 6 k6 (.int .u32 dst)
  clear S10 x10 z10 LEN CHK hl hc
  generalize w10.setCell ⟨w1.heap.size, 6, none⟩ (.int .u32 dst) = W at *
  generalize w1.heap.size = A at *
  generalize w.heap.size = R at *
  obtain ⟨⟨rlt, r0, r1, rz⟩, ⟨hlt, hat⟩, ⟨glt, gat⟩, bel, ab, rb, ar, ba⟩ := S11
  replace r1 : W.cell? ⟨B, 1, none⟩ = some (.int .i64 20) := r1
  have a0 : W.cell? ⟨A, 0, none⟩ = some (.int .i64 tos) := (hat 0 k0).1
  have a1 : W.cell? ⟨A, 1, none⟩ = some (.int .i64 id) := (hat 1 k1).1
  have a2 : W.cell? ⟨A, 2, none⟩ = some (.int .i64 frag) := (hat 2 k2).1
  have a3 : W.cell? ⟨A, 3, none⟩ = some (.int .i64 ttl) := (hat 3 k3).1
  have a4 : W.cell? ⟨A, 4, none⟩ = some (.int .i64 proto) := (hat 4 k4).1
  have a5 : W.cell? ⟨A, 5, none⟩ = some (.int .u32 src) := (hat 5 k5).1
  have a6 : W.cell? ⟨A, 6, none⟩ = some (.int .u32 dst) := (hat 6 k6).1
  have a7 : W.cell? ⟨A, 7, none⟩ = some (.string ⟨#[]⟩) := (hat 7 k7).1
  have az : W.frozen? ⟨A, 7, none⟩ = false := (hat 7 k7).2
  have g0 : W.cell? ⟨R, 0, none⟩ = some (.int .i64 0) := (gat 0 k0).1
  have g1 : W.cell? ⟨R, 1, none⟩ = some (.int .i64 0) := (gat 1 k1).1
  have g2 : W.cell? ⟨R, 2, none⟩ = some (.int .i64 0) := (gat 2 k2).1
  have g3 : W.cell? ⟨R, 3, none⟩ = some (.int .i64 0) := (gat 3 k3).1
  have g4 : W.cell? ⟨R, 4, none⟩ = some (.int .i64 0) := (gat 4 k4).1
  have g5 : W.cell? ⟨R, 5, none⟩ = some (.int .u32 0) := (gat 5 k5).1
  have g6 : W.cell? ⟨R, 6, none⟩ = some (.int .u32 0) := (gat 6 k6).1
  have g7 : W.cell? ⟨R, 7, none⟩ = some (.string ⟨#[]⟩) := (gat 7 k7).1
  have y0 := (gat 0 k0).2; have y1 := (gat 1 k1).2; have y2 := (gat 2 k2).2; have y3 := (gat 3 k3).2; have y4 := (gat 4 k4).2; have y5 := (gat 5 k5).2; have y6 := (gat 6 k6).2; have y7 := (gat 7 k7).2
  have q20 : (20 : Int) ≤ s.size := by omega
  have ar' : ¬ R = A := fun e => ar e.symm
  have ab' : ¬ B = A := fun e => ab e.symm
  clear hat gat k0 k1 k2 k3 k4 k5 k6 k7
  replace bel : Hid _ := bel
  go_region
  go_wp2
  refine ⟨rfl, .agg #[.int .i64 tos, .int .i64 id, .int .i64 frag, .int .i64 ttl, .int .i64 proto, .int .u32 src, .int .u32 dst, .string (s.extract 20 s.size)], ?_, rfl, ?_⟩
  · simp [results, Tryz.results34, go_sem, *]
  · exact (((((((((bel.out.setCell (p := ⟨A, 7, none⟩) ba _).setCell (p := ⟨R, 0, none⟩) (Nat.le_of_lt lt) _).setCell (p := ⟨R, 1, none⟩) (Nat.le_of_lt lt) _).setCell (p := ⟨R, 2, none⟩) (Nat.le_of_lt lt) _).setCell (p := ⟨R, 3, none⟩) (Nat.le_of_lt lt) _).setCell (p := ⟨R, 4, none⟩) (Nat.le_of_lt lt) _).setCell (p := ⟨R, 5, none⟩) (Nat.le_of_lt lt) _).setCell (p := ⟨R, 6, none⟩) (Nat.le_of_lt lt) _).setCell (p := ⟨R, 7, none⟩) (Nat.le_of_lt lt) _).drew
end Go.Proofs.YtndaohiecpdmlaaGreat
namespace Go.Proofs.YtndaohiecpdmlaaGreat
open Go.RowKit

theorem HB.congr {w : World} {A : Nat} {f g : Nat → Value} (h : HB w A f) (e : ∀ i, i < 8 → f i = g i) : HB w A g :=
  ⟨h.lt, fun i hi => ⟨by rw [← e i hi]; exact (h.at' i hi).1, (h.at' i hi).2⟩⟩
set_option maxHeartbeats 1000000 in
theorem catch_idle (p q : Addr) (w : World) :
    CallsD Tryz.prog 33 #[.pointer (some p), .pointer (some q)] .returning w fun e u' w' => e = .returned (.tuple #[]) ∧ u' = .returning ∧ w' = w := by
  refine callsD_of_wpS Tryz.func33 rfl fun c₀ cs hu => ?_
  apply wpS_seq
  apply wpS_region
  simp [wpOpsS, go_sem, recoverD, hu, Tryz.ntmps33, Exit.thenS]
  refine wpS_of_wp ?_
  change Code.wp _ _ _ { tmps := #[.pointer (some p), .pointer (some q), .nilIface, undef, undef, .nilIface, undef, undef, undef, undef, undef, undef, undef, undef, undef, undef, undef, undef], defers := [] } w
  go_wp2
  cases c₀
  simp_all [bodyPostS, results, Tryz.results33]
set_option maxHeartbeats 1000000 in
theorem catch_thrown (H E : Nat) (x : Int) (f : Nat → Value) (y : Int) (older : List PanicEntry) (w : World) (hH : HB w H f) (hE : w.cell? ⟨E, 0, none⟩ = some (.int .i64 y)) (zE : w.frozen? ⟨E, 0, none⟩ = false) (hne : E ≠ H) :
    CallsD Tryz.prog 33 #[.pointer (some ⟨H, 0, none⟩), .pointer (some ⟨E, 0, none⟩)] (.panicking ({ v := .iface 32 (.int .i64 x), recovered := false } :: older)) w fun e u' w' =>
      e = .returned (.tuple #[]) ∧ u' = .panicking ({ v := .iface 32 (.int .i64 x), recovered := true } :: older) ∧ HB w' H zs ∧ w'.cell? ⟨E, 0, none⟩ = some (.int .i64 x) ∧ ∀ n, n ≤ H → n ≤ E → Below n w w' := by
  refine callsD_of_wpS Tryz.func33 rfl fun c₀ cs hu => ?_
  apply wpS_seq
  apply wpS_region
  simp [wpOpsS, go_sem, recoverD, hu, Tryz.ntmps33, Exit.thenS]
  refine wpS_of_wp ?_
  change Code.wp _ _ _ { tmps := #[.pointer (some ⟨H, 0, none⟩), .pointer (some ⟨E, 0, none⟩), .iface 32 (.int .i64 x), undef, undef, .iface 32 (.int .i64 x), undef, undef, undef, undef, undef, undef, undef, undef, undef, undef, undef, undef], defers := [] } w
  have hH' : Hid (HB w H f) := hH
  obtain ⟨hlt, hat⟩ := hH
  obtain ⟨a0, y0⟩ := hat 0 (by decide)
  obtain ⟨a1, y1⟩ := hat 1 (by decide)
  obtain ⟨a2, y2⟩ := hat 2 (by decide)
  obtain ⟨a3, y3⟩ := hat 3 (by decide)
  obtain ⟨a4, y4⟩ := hat 4 (by decide)
  obtain ⟨a5, y5⟩ := hat 5 (by decide)
  obtain ⟨a6, y6⟩ := hat 6 (by decide)
  obtain ⟨a7, y7⟩ := hat 7 (by decide)
  clear hat
  have hta : ∀ w, (Instr.typeAssert (.iface 32 (.int .i64 x)) 20 32 true).run Tryz.prog w = .ok (.tuple #[.int .i64 x, .bool true]) w := fun _ => by kernel_rfl
  have hne' : ¬ H = E := fun e => hne e.symm
  go_wp2
  have h1 := (((((((hH'.out.set 0 (by decide) (.int .i64 0)).set 1 (by decide) (.int .i64 0)).set 2 (by decide) (.int .i64 0)).set 3 (by decide) (.int .i64 0)).set 4 (by decide) (.int .i64 0)).set 5 (by decide) (.int .u32 0)).set 6 (by decide) (.int .u32 0)).set 7 (by decide) (.string ⟨#[]⟩)
  refine ⟨rfl, _, rfl, .tuple #[], ?_, rfl, rfl, (h1.other hne _).congr ?_, ?_, fun n hn he => ?_⟩
  · simp [results, Tryz.results33]
  · intro i hi
    rcases i with _|_|_|_|_|_|_|_|i
    all_goals first | rfl | omega
  · simp [go_sem, *]
  · exact (((((((((Below.refl n w).setCell (p := ⟨H, 0, none⟩) hn _).setCell (p := ⟨H, 1, none⟩) hn _).setCell (p := ⟨H, 2, none⟩) hn _).setCell (p := ⟨H, 3, none⟩) hn _).setCell (p := ⟨H, 4, none⟩) hn _).setCell (p := ⟨H, 5, none⟩) hn _).setCell (p := ⟨H, 6, none⟩) hn _).setCell (p := ⟨H, 7, none⟩) hn _).setCell (p := ⟨E, 0, none⟩) he _
end Go.Proofs.YtndaohiecpdmlaaGreat
namespace Go.Proofs.YtndaohiecpdmlaaGreat
open Go.RowKit

/-- An empty header. -/
def none' : Value := hv 0 0 0 0 0 0 0 ⟨#[]⟩
theorem w3_rd (w : World) (s : ByteArray) : Rd (((w.alloc (.cells #[.int .i64 0, .int .i64 0, .int .i64 0, .int .i64 0, .int .i64 0, .int .u32 0, .int .u32 0, .string ⟨#[]⟩] 40)).alloc (.cells #[.int .i64 0] 32)).alloc (.cells #[.string s, .int .i64 0] 70)) (w.heap.size + 1 + 1) s 0 := by
  refine ⟨by simp, ?_, ?_, ?_⟩ <;> simp [go_sem]
theorem w3_h (w : World) (s : ByteArray) : HB (((w.alloc (.cells #[.int .i64 0, .int .i64 0, .int .i64 0, .int .i64 0, .int .i64 0, .int .u32 0, .int .u32 0, .string ⟨#[]⟩] 40)).alloc (.cells #[.int .i64 0] 32)).alloc (.cells #[.string s, .int .i64 0] 70)) w.heap.size zs := ((hb_new w).alloc _).alloc _
theorem w3_e (w : World) (s : ByteArray) : (((w.alloc (.cells #[.int .i64 0, .int .i64 0, .int .i64 0, .int .i64 0, .int .i64 0, .int .u32 0, .int .u32 0, .string ⟨#[]⟩] 40)).alloc (.cells #[.int .i64 0] 32)).alloc (.cells #[.string s, .int .i64 0] 70)).cell? ⟨w.heap.size + 1, 0, none⟩ = some (.int .i64 0) ∧ (((w.alloc (.cells #[.int .i64 0, .int .i64 0, .int .i64 0, .int .i64 0, .int .i64 0, .int .u32 0, .int .u32 0, .string ⟨#[]⟩] 40)).alloc (.cells #[.int .i64 0] 32)).alloc (.cells #[.string s, .int .i64 0] 70)).frozen? ⟨w.heap.size + 1, 0, none⟩ = false := by
  constructor <;> simp [go_sem]
theorem w3_below (w : World) (s : ByteArray) : Below w.heap.size w (((w.alloc (.cells #[.int .i64 0, .int .i64 0, .int .i64 0, .int .i64 0, .int .i64 0, .int .u32 0, .int .u32 0, .string ⟨#[]⟩] 40)).alloc (.cells #[.int .i64 0] 32)).alloc (.cells #[.string s, .int .i64 0] 70)) :=
  (((Below.refl _ _).alloc (Nat.le_refl _) _).alloc (by simp) _).alloc (by simp; omega) _
theorem HB.below {w w' : World} {A B : Nat} {f : Nat → Value} (h : HB w A f) (k : Below B w w') (hA : A < B) : HB w' A f :=
  ⟨Nat.lt_of_lt_of_le h.lt k.size, fun i hi => ⟨(k.cell hA).trans (h.at' i hi).1, (k.frozen hA).trans (h.at' i hi).2⟩⟩
theorem n1 (w : World) : w.heap.size + 1 < w.heap.size + 1 + 1 := Nat.lt_succ_self _
theorem n2 (w : World) : w.heap.size < w.heap.size + 1 + 1 := by omega
theorem n3 (w : World) : ¬ w.heap.size + 1 = w.heap.size := by omega
set_option maxHeartbeats 2000000 in
theorem parse_err (s : ByteArray) (x : Int) (w : World) (hP : Hid (∀ w B, Rd w B s 0 → Calls Tryz.prog 34 #[.pointer (some ⟨B, 0, none⟩)] w fun e w' => e = .panicked (thrown x) ∧ Below B w w')) :
    Calls Tryz.prog 21 #[.string s] w fun e w' => e = .returned (.tuple #[none', .int .i64 x]) ∧ Below w.heap.size w w' := by
  have hmf : ∀ (fn : Fn) (first cap : Array Value) (w : World), (Instr.makeFunc fn first cap).run Tryz.prog w = .ok (.func fn first cap) w := fun _ _ _ _ => rfl
  go_enter_defers Tryz.func21, Tryz.ntmps21
  go_wp2_with (go_at_call 34; refine (hP.out _ _ (w3_rd w s)).mono ?_; rintro e w1 ⟨rfl, b1⟩)
  have hH := (w3_h w s).below b1 (by omega)
  have hE := (b1.cell (p := ⟨w.heap.size + 1, 0, none⟩) (by simp)).trans (w3_e w s).1
  have zE := (b1.frozen (p := ⟨w.heap.size + 1, 0, none⟩) (by simp)).trans (w3_e w s).2
  refine leaves_cons (f := 33) (args := #[.pointer (some ⟨w.heap.size, 0, none⟩), .pointer (some ⟨w.heap.size + 1, 0, none⟩)]) (by simp) (by simp [go_sem]) ?_
  refine (catch_thrown w.heap.size (w.heap.size + 1) x zs 0 [] w1 hH hE zE (by omega)).mono ?_
  rintro e u' w2 ⟨rfl, rfl, hz, he, bel⟩
  have bel' := (w3_below w s).trans ((b1.mono (by omega)).trans (bel w.heap.size (Nat.le_refl _) (Nat.le_succ _)))
  have a0 : w2.cell? ⟨w.heap.size, 0, none⟩ = some (.int .i64 0) := (hz.at' 0 (by decide)).1
  have a1 : w2.cell? ⟨w.heap.size, 1, none⟩ = some (.int .i64 0) := (hz.at' 1 (by decide)).1
  have a2 : w2.cell? ⟨w.heap.size, 2, none⟩ = some (.int .i64 0) := (hz.at' 2 (by decide)).1
  have a3 : w2.cell? ⟨w.heap.size, 3, none⟩ = some (.int .i64 0) := (hz.at' 3 (by decide)).1
  have a4 : w2.cell? ⟨w.heap.size, 4, none⟩ = some (.int .i64 0) := (hz.at' 4 (by decide)).1
  have a5 : w2.cell? ⟨w.heap.size, 5, none⟩ = some (.int .u32 0) := (hz.at' 5 (by decide)).1
  have a6 : w2.cell? ⟨w.heap.size, 6, none⟩ = some (.int .u32 0) := (hz.at' 6 (by decide)).1
  have a7 : w2.cell? ⟨w.heap.size, 7, none⟩ = some (.string ⟨#[]⟩) := (hz.at' 7 (by decide)).1
  refine ⟨.tuple #[none', .int .i64 x], ?_, rfl, bel'⟩
  clear hz bel bel' hH hE zE b1 hP
  simp [results, Tryz.results21, go_sem, none', hv, *]
set_option maxHeartbeats 2000000 in
theorem parse_right (s : ByteArray) (w : World) (h20 : 20 ≤ s.size) (hs : s.size ≤ 9223372036854775807) (hf : num (byt s) 0 1 = 69) (hl : said s = s.size) (hc : num (byt s) 10 2 = right s) :
    Calls Tryz.prog 21 #[.string s] w fun e w' => e = .returned (.tuple #[hdOf s, .int .i64 0]) ∧ Below w.heap.size w w' := by
  have hmf : ∀ (fn : Fn) (first cap : Array Value) (w : World), (Instr.makeFunc fn first cap).run Tryz.prog w = .ok (.func fn first cap) w := fun _ _ _ _ => rfl
  have hP : Hid (∀ w B, Rd w B s 0 → _) := fun w B hr => packet_ok w B s hr h20 hs hf hl hc
  clear hf hl hc
  unfold hdOf hv at *
  go_enter_defers Tryz.func21, Tryz.ntmps21
  go_wp2_with (go_at_call 34; refine (hP.out _ _ (w3_rd w s)).mono ?_; rintro e w1 ⟨rfl, b1⟩; have hH := (w3_h w s).below b1 (n2 w); have e0 := (b1.cell (p := ⟨w.heap.size + 1, 0, none⟩) (n1 w)).trans (w3_e w s).1; have e1 := (b1.frozen (p := ⟨w.heap.size + 1, 0, none⟩) (n1 w)).trans (w3_e w s).2; obtain ⟨g0, z0⟩ := hH.at' 0 (by decide); obtain ⟨g1, z1⟩ := hH.at' 1 (by decide); obtain ⟨g2, z2⟩ := hH.at' 2 (by decide); obtain ⟨g3, z3⟩ := hH.at' 3 (by decide); obtain ⟨g4, z4⟩ := hH.at' 4 (by decide); obtain ⟨g5, z5⟩ := hH.at' 5 (by decide); obtain ⟨g6, z6⟩ := hH.at' 6 (by decide); obtain ⟨g7, z7⟩ := hH.at' 7 (by decide); replace hH : Hid _ := hH; replace b1 : Hid _ := b1; have ne : ¬ w.heap.size + 1 = w.heap.size := n3 w)
  refine leaves_cons (f := 33) (args := #[.pointer (some ⟨w.heap.size, 0, none⟩), .pointer (some ⟨w.heap.size + 1, 0, none⟩)]) (by simp) (by simp [go_sem]) ?_
  refine (catch_idle _ _ _).mono ?_
  rintro e u' w2 ⟨rfl, rfl, rfl⟩
  refine ⟨.tuple #[.agg #[.int .i64 (num (byt s) 1 1), .int .i64 (num (byt s) 4 2), .int .i64 (num (byt s) 6 2), .int .i64 (num (byt s) 8 1), .int .i64 (num (byt s) 9 1), .int .u32 (num (byt s) 12 4), .int .u32 (num (byt s) 16 4), .string (s.extract 20 s.size)], .int .i64 0], ?_, rfl, ?_⟩
  · clear hP hH b1
    simp [results, Tryz.results21, go_sem, *]
  · have hn := Nat.le_refl w.heap.size
    exact ((((((((((w3_below w s).trans (b1.out.mono (by omega))).setCell (p := ⟨w.heap.size, 0, none⟩) hn _).setCell (p := ⟨w.heap.size, 1, none⟩) hn _).setCell (p := ⟨w.heap.size, 2, none⟩) hn _).setCell (p := ⟨w.heap.size, 3, none⟩) hn _).setCell (p := ⟨w.heap.size, 4, none⟩) hn _).setCell (p := ⟨w.heap.size, 5, none⟩) hn _).setCell (p := ⟨w.heap.size, 6, none⟩) hn _).setCell (p := ⟨w.heap.size, 7, none⟩) hn _).setCell (p := ⟨w.heap.size + 1, 0, none⟩) (Nat.le_succ _) _

/-- The error of some bytes; 0: none. -/
def errOf (s : ByteArray) : Int :=
  if s.size < 20 then 1 else if num (byt s) 0 1 ≠ 69 then 3 else if (s.size : Int) < said s ∨ said s < 20 then 1 else if said s < s.size then 6 else if num (byt s) 10 2 ≠ right s then 9 else 0
/-- The header of some bytes. -/
def valOf (s : ByteArray) : Value := if errOf s = 0 then hdOf s else none'
/-- Bytes that are a packet. -/
def Good (s : ByteArray) : Prop := 20 ≤ s.size ∧ num (byt s) 0 1 = 69 ∧ said s = s.size ∧ num (byt s) 10 2 = right s
theorem err_good (s : ByteArray) (h : Good s) : errOf s = 0 := by
  obtain ⟨h1, h2, h3, h4⟩ := h
  unfold errOf
  rw [if_neg (by omega), if_neg (by simp [h2]), if_neg (by omega), if_neg (by omega), if_neg (by simp [h4])]
theorem good_err (s : ByteArray) (h : errOf s = 0) : Good s := by
  unfold errOf at h
  split at h
  · omega
  split at h
  · omega
  split at h
  · omega
  split at h
  · omega
  split at h
  · omega
  rename_i a b c d e
  exact ⟨by omega, by simpa using b, by omega, by simpa using e⟩
theorem parse_ok (s : ByteArray) (w : World) (hs : s.size ≤ 9223372036854775807) :
    Calls Tryz.prog 21 #[.string s] w fun e w' => e = .returned (.tuple #[valOf s, .int .i64 (errOf s)]) ∧ Below w.heap.size w w' := by
  by_cases hg : Good s
  · have he := err_good s hg
    unfold valOf
    rw [he, if_pos rfl]
    exact parse_right s w hg.1 hs hg.2.1 hg.2.2.1 hg.2.2.2
  have hne : errOf s ≠ 0 := fun e => hg (good_err s e)
  unfold valOf
  rw [if_neg hne]
  unfold errOf
  by_cases h1 : s.size < 20
  · rw [if_pos h1]
    exact parse_err s 1 w fun w B hr => packet_short w B s hr h1
  rw [if_neg h1]
  by_cases h2 : num (byt s) 0 1 ≠ 69
  · rw [if_pos h2]
    exact parse_err s 3 w fun w B hr => packet_field w B s hr (by omega) hs h2
  rw [if_neg h2]
  have h2' : num (byt s) 0 1 = 69 := by simpa using h2
  by_cases h3 : (s.size : Int) < said s ∨ said s < 20
  · rw [if_pos h3]
    by_cases h3' : (s.size : Int) < said s
    · exact parse_err s 1 w fun w B hr => packet_short1 w B s hr (by omega) hs h2' h3'
    · exact parse_err s 1 w fun w B hr => packet_short2 w B s hr (by omega) hs h2' h3' (by omega)
  rw [if_neg h3]
  by_cases h4 : said s < s.size
  · rw [if_pos h4]
    exact parse_err s 6 w fun w B hr => packet_more w B s hr (by omega) hs h2' h4 (by omega)
  rw [if_neg h4]
  by_cases h5 : num (byt s) 10 2 ≠ right s
  · rw [if_pos h5]
    exact parse_err s 9 w fun w B hr => packet_sum w B s hr (by omega) hs h2' (by omega) h5
  · exact absurd ⟨by omega, h2', by omega, by simpa using h5⟩ hg
end Go.Proofs.YtndaohiecpdmlaaGreat
namespace Go.Proofs.YtndaohiecpdmlaaGreat
open Go.RowKit

theorem bytes_ext (s t : ByteArray) (hz : s.size = t.size) (h : ∀ i, i < s.size → byt s i = byt t i) : s = t := by
  apply ByteArray.ext
  apply Array.ext
  · simpa using hz
  · intro i h1 h2
    have h1' : i < s.size := by simpa using h1
    have h2' : i < t.size := by simpa using h2
    have := h i h1'
    rw [← byt_eq s i h1', ← byt_eq t i h2'] at this
    have e : s[i].toNat = t[i].toNat := by omega
    have := UInt8.toNat_inj.1 e
    exact this
theorem num1 (f : Nat → Int) (p : Nat) : num f p 1 = f p := by simp [num]
theorem num2 (f : Nat → Int) (p : Nat) : num f p 2 = f p * 256 + f (p + 1) := by simp [num]
theorem num4 (f : Nat → Int) (p : Nat) : num f p 4 = ((f p * 256 + f (p + 1)) * 256 + f (p + 2)) * 256 + f (p + 3) := by simp [num]
theorem hb_bd (tos len id frag ttl proto sum src dst : Int) (s0 : 0 ≤ src) (s1 : src < 4294967296) (d0 : 0 ≤ dst) (d1 : dst < 4294967296) : ∀ y ∈ hb tos len id frag ttl proto sum src dst, 0 ≤ y ∧ y < 256 := by
  intro y hy
  simp only [hb, List.mem_cons, List.not_mem_nil, or_false] at hy
  rcases hy with rfl | rfl | rfl | rfl | rfl | rfl | rfl | rfl | rfl | rfl | rfl | rfl | rfl | rfl | rfl | rfl | rfl | rfl | rfl | rfl <;> omega
theorem hb_size (tos len id frag ttl proto sum src dst : Int) : (strOfNums (hb tos len id frag ttl proto sum src dst)).size = 20 := strOfNums_size _
theorem hb_byt (tos len id frag ttl proto sum src dst : Int) (s0 : 0 ≤ src) (s1 : src < 4294967296) (d0 : 0 ≤ dst) (d1 : dst < 4294967296) (i : Nat) :
    byt (strOfNums (hb tos len id frag ttl proto sum src dst)) i = (hb tos len id frag ttl proto sum src dst).getD i 0 := byt_nums _ (hb_bd _ _ _ _ _ _ _ _ _ s0 s1 d0 d1) i

/-- Twenty bytes with two of them put in. -/
theorem right_bytes (s t : ByteArray) (h : 20 ≤ s.size) (ht : t.size = 20) (h10 : byt t 10 = 0) (h11 : byt t 11 = 0) (hi : ∀ i, i < 20 → i ≠ 10 → i ≠ 11 → byt t i = byt s i) :
    t = s.extract 0 10 ++ ByteArray.mk #[0, 0] ++ s.extract 12 20 := by
  have z1 : (s.extract 0 10).size = 10 := by rw [ByteArray.size_extract]; omega
  have z2 : (s.extract 0 10 ++ ByteArray.mk #[0, 0]).size = 12 := by rw [ByteArray.size_append, z1]; rfl
  refine bytes_ext _ _ (by rw [ht, right_size s h]) fun i hl => ?_
  rw [ht] at hl
  rcases (show i < 10 ∨ i = 10 ∨ i = 11 ∨ 12 ≤ i by omega) with a | rfl | rfl | a
  · rw [byt_left _ _ _ (by omega), byt_left _ _ _ (by omega), byt_extract _ _ _ _ (by omega), hi i hl (by omega) (by omega), Nat.zero_add]
  · rw [byt_left _ _ _ (by omega), h10]
    have := byt_right (s.extract 0 10) (ByteArray.mk #[0, 0]) 0
    rw [z1] at this
    rw [this]
    rfl
  · rw [byt_left _ _ _ (by omega), h11]
    have := byt_right (s.extract 0 10) (ByteArray.mk #[0, 0]) 1
    rw [z1] at this
    rw [this]
    rfl
  · obtain ⟨j, rfl⟩ : ∃ j, i = 12 + j := ⟨i - 12, by omega⟩
    have := byt_right (s.extract 0 10 ++ ByteArray.mk #[0, 0]) (s.extract 12 20) j
    rw [z2] at this
    rw [this, byt_extract _ _ _ _ (by omega)]
    exact hi _ hl (by omega) (by omega)

/-! ### what is written is read -/
theorem pkt_size (tos id frag ttl proto src dst : Int) (data : ByteArray) : (pkt tos id frag ttl proto src dst data).size = 20 + data.size := by
  unfold pkt
  rw [ByteArray.size_append, hb_size]
theorem pkt_byt (tos id frag ttl proto src dst : Int) (data : ByteArray) (s0 : 0 ≤ src) (s1 : src < 4294967296) (d0 : 0 ≤ dst) (d1 : dst < 4294967296) (i : Nat) (hi : i < 20) :
    byt (pkt tos id frag ttl proto src dst data) i = (hb tos (20 + data.size) id frag ttl proto (ck (h0 tos id frag ttl proto src dst data)) src dst).getD i 0 := by
  unfold pkt
  rw [byt_left _ _ _ (by rw [hb_size]; exact hi), hb_byt _ _ _ _ _ _ _ _ _ s0 s1 d0 d1]
theorem pkt_right (tos id frag ttl proto src dst : Int) (data : ByteArray) (s0 : 0 ≤ src) (s1 : src < 4294967296) (d0 : 0 ≤ dst) (d1 : dst < 4294967296) :
    right (pkt tos id frag ttl proto src dst data) = ck (h0 tos id frag ttl proto src dst data) := by
  unfold right
  rw [← right_bytes (pkt tos id frag ttl proto src dst data) (h0 tos id frag ttl proto src dst data) (by rw [pkt_size]; omega) (h0_size _ _ _ _ _ _ _ _)]
  · unfold h0; rw [hb_byt _ _ _ _ _ _ _ _ _ s0 s1 d0 d1]; rfl
  · unfold h0; rw [hb_byt _ _ _ _ _ _ _ _ _ s0 s1 d0 d1]; rfl
  · intro i hi h10 h11
    rw [pkt_byt _ _ _ _ _ _ _ _ s0 s1 d0 d1 i hi]
    unfold h0
    rw [hb_byt _ _ _ _ _ _ _ _ _ s0 s1 d0 d1]
    rcases i with _|_|_|_|_|_|_|_|_|_|_|_|_|_|_|_|_|_|_|_|i
    all_goals first | rfl | omega
theorem pkt_data (tos id frag ttl proto src dst : Int) (data : ByteArray) : (pkt tos id frag ttl proto src dst data).extract 20 (pkt tos id frag ttl proto src dst data).size = data := by
  have hz := pkt_size tos id frag ttl proto src dst data
  refine bytes_ext _ _ (by rw [ByteArray.size_extract, hz]; omega) fun i hi => ?_
  rw [ByteArray.size_extract, hz] at hi
  rw [byt_extract _ _ _ _ (by omega)]
  unfold pkt
  have := byt_right (strOfNums (hb tos (20 + data.size) id frag ttl proto (ck (h0 tos id frag ttl proto src dst data)) src dst)) data i
  rwa [hb_size] at this
theorem pkt_good (tos id frag ttl proto src dst : Int) (data : ByteArray) (hl : data.size ≤ 65515) (s0 : 0 ≤ src) (s1 : src < 4294967296) (d0 : 0 ≤ dst) (d1 : dst < 4294967296) : Good (pkt tos id frag ttl proto src dst data) := by
  have B := pkt_byt tos id frag ttl proto src dst data s0 s1 d0 d1
  have cb := ck_bd (h0 tos id frag ttl proto src dst data)
  refine ⟨by rw [pkt_size]; omega, ?_, ?_, ?_⟩
  · rw [num1, B 0 (by decide)]; rfl
  · unfold said
    rw [num2, B 2 (by decide), B 3 (by decide), pkt_size]
    simp only [hb, List.getD_cons_succ, List.getD_cons_zero]
    omega
  · rw [pkt_right _ _ _ _ _ _ _ _ s0 s1 d0 d1, num2, B 10 (by decide), B 11 (by decide)]
    simp only [hb, List.getD_cons_succ, List.getD_cons_zero]
    omega
theorem pkt_hd (tos id frag ttl proto src dst : Int) (data : ByteArray) (hk : HOK tos id frag ttl proto) (s0 : 0 ≤ src) (s1 : src < 4294967296) (d0 : 0 ≤ dst) (d1 : dst < 4294967296) :
    hdOf (pkt tos id frag ttl proto src dst data) = hv tos id frag ttl proto src dst data := by
  have B := pkt_byt tos id frag ttl proto src dst data s0 s1 d0 d1
  obtain ⟨h1, h2, h3, h4, h5⟩ := hk
  have e1 : tos % 256 = tos := by omega
  have e2 : id / 256 % 256 * 256 + id % 256 = id := by omega
  have e3 : frag / 256 % 256 * 256 + frag % 256 = frag := by omega
  have e4 : ttl % 256 = ttl := by omega
  have e5 : proto % 256 = proto := by omega
  have e6 : ((src / 16777216 * 256 + src / 65536 % 256) * 256 + src / 256 % 256) * 256 + src % 256 = src := by omega
  have e7 : ((dst / 16777216 * 256 + dst / 65536 % 256) * 256 + dst / 256 % 256) * 256 + dst % 256 = dst := by omega
  unfold hdOf
  rw [pkt_data, num1, num2, num2, num1, num1, num4, num4, B 1 (by decide), B 4 (by decide), B (4 + 1) (by decide), B 6 (by decide), B (6 + 1) (by decide), B 8 (by decide), B 9 (by decide), B 12 (by decide), B (12 + 1) (by decide), B (12 + 2) (by decide), B (12 + 3) (by decide), B 16 (by decide), B (16 + 1) (by decide), B (16 + 2) (by decide), B (16 + 3) (by decide)]
  simp only [hb, List.getD_cons_succ, List.getD_cons_zero]
  rw [e1, e2, e3, e4, e5, e6, e7]

/-! ### what is read is written -/
def pktOf (s : ByteArray) : ByteArray := pkt (num (byt s) 1 1) (num (byt s) 4 2) (num (byt s) 6 2) (num (byt s) 8 1) (num (byt s) 9 1) (num (byt s) 12 4) (num (byt s) 16 4) (s.extract 20 s.size)
theorem hok_of (s : ByteArray) : HOK (num (byt s) 1 1) (num (byt s) 4 2) (num (byt s) 6 2) (num (byt s) 8 1) (num (byt s) 9 1) := by
  have a1 := num1_bd s 1; have a2 := num2_bd s 4; have a3 := num2_bd s 6; have a4 := num1_bd s 8; have a5 := num1_bd s 9
  unfold HOK
  omega
theorem data_size (s : ByteArray) (h : 20 ≤ s.size) : 20 + ((s.extract 20 s.size).size : Int) = s.size := by
  rw [ByteArray.size_extract]; omega
/-- A byte of the fields of some bytes, written again: the byte itself, but for the sum. -/
theorem again_byt (s : ByteArray) (c : Int) (h20 : 20 ≤ s.size) (hf : num (byt s) 0 1 = 69) (hl : said s = s.size) (i : Nat) (hi : i < 20) (h10 : i ≠ 10) (h11 : i ≠ 11) :
    (hb (num (byt s) 1 1) (20 + ((s.extract 20 s.size).size : Int)) (num (byt s) 4 2) (num (byt s) 6 2) (num (byt s) 8 1) (num (byt s) 9 1) c (num (byt s) 12 4) (num (byt s) 16 4)).getD i 0 = byt s i := by
  rw [data_size s h20, ← hl]
  unfold said
  rw [num1] at hf
  rw [num1, num2, num2, num2, num1, num1, num4, num4]
  have b := byt_bd s
  have c0 := b 0; have c1 := b 1; have c2 := b 2; have c3 := b (2 + 1); have c4 := b 4; have c5 := b (4 + 1); have c6 := b 6; have c7 := b (6 + 1); have c8 := b 8; have c9 := b 9
  have c12 := b 12; have c13 := b (12 + 1); have c14 := b (12 + 2); have c15 := b (12 + 3); have c16 := b 16; have c17 := b (16 + 1); have c18 := b (16 + 2); have c19 := b (16 + 3)
  clear b
  rcases i with _|_|_|_|_|_|_|_|_|_|_|_|_|_|_|_|_|_|_|_|i
  all_goals first | contradiction | omega | (simp only [hb, List.getD_cons_succ, List.getD_cons_zero, Nat.zero_add, Nat.reduceAdd] at *; omega)
theorem again_sum (s : ByteArray) (h20 : 20 ≤ s.size) (hf : num (byt s) 0 1 = 69) (hl : said s = s.size) :
    ck (h0 (num (byt s) 1 1) (num (byt s) 4 2) (num (byt s) 6 2) (num (byt s) 8 1) (num (byt s) 9 1) (num (byt s) 12 4) (num (byt s) 16 4) (s.extract 20 s.size)) = right s := by
  have s1 := num4_bd s 12
  have d1 := num4_bd s 16
  unfold right
  rw [← right_bytes s (h0 (num (byt s) 1 1) (num (byt s) 4 2) (num (byt s) 6 2) (num (byt s) 8 1) (num (byt s) 9 1) (num (byt s) 12 4) (num (byt s) 16 4) (s.extract 20 s.size)) h20 (h0_size _ _ _ _ _ _ _ _)]
  · unfold h0; rw [hb_byt _ _ _ _ _ _ _ _ _ s1.1 s1.2 d1.1 d1.2]; rfl
  · unfold h0; rw [hb_byt _ _ _ _ _ _ _ _ _ s1.1 s1.2 d1.1 d1.2]; rfl
  · intro i hi h10 h11
    unfold h0
    rw [hb_byt _ _ _ _ _ _ _ _ _ s1.1 s1.2 d1.1 d1.2]
    exact again_byt s 0 h20 hf hl i hi h10 h11
theorem again_eq (s : ByteArray) (h20 : 20 ≤ s.size) (hf : num (byt s) 0 1 = 69) (hl : said s = s.size) : pktOf s = s ↔ num (byt s) 10 2 = right s := by
  have s1 := num4_bd s 12
  have d1 := num4_bd s 16
  have B := fun i hi => pkt_byt (num (byt s) 1 1) (num (byt s) 4 2) (num (byt s) 6 2) (num (byt s) 8 1) (num (byt s) 9 1) (num (byt s) 12 4) (num (byt s) 16 4) (s.extract 20 s.size) s1.1 s1.2 d1.1 d1.2 i hi
  rw [again_sum s h20 hf hl] at B
  have cb := ck_bd (s.extract 0 10 ++ ByteArray.mk #[0, 0] ++ s.extract 12 20)
  change 0 ≤ right s ∧ right s ≤ 65535 at cb
  have g10 : byt (pktOf s) 10 = right s / 256 % 256 := B 10 (by decide)
  have g11 : byt (pktOf s) 11 = right s % 256 := B 11 (by decide)
  have a10 := byt_bd s 10
  have a11 := byt_bd s 11
  constructor
  · intro h
    rw [h] at g10 g11
    rw [num2]
    simp only [Nat.reduceAdd]
    omega
  · intro h
    rw [num2] at h
    simp only [Nat.reduceAdd] at h
    have hz : (pktOf s).size = s.size := by
      unfold pktOf
      rw [pkt_size, ByteArray.size_extract]; omega
    refine bytes_ext _ _ hz fun i hi => ?_
    rw [hz] at hi
    rcases (show i = 10 ∨ i = 11 ∨ (i < 20 ∧ i ≠ 10 ∧ i ≠ 11) ∨ 20 ≤ i by omega) with rfl | rfl | ⟨a, b, c⟩ | a
    · rw [g10]; omega
    · rw [g11]; omega
    · unfold pktOf
      rw [B i a]
      exact again_byt s _ h20 hf hl i a b c
    · obtain ⟨j, rfl⟩ : ∃ j, i = 20 + j := ⟨i - 20, by omega⟩
      unfold pktOf pkt
      have := byt_right (strOfNums (hb (num (byt s) 1 1) (20 + ((s.extract 20 s.size).size : Int)) (num (byt s) 4 2) (num (byt s) 6 2) (num (byt s) 8 1) (num (byt s) 9 1) (ck (h0 (num (byt s) 1 1) (num (byt s) 4 2) (num (byt s) 6 2) (num (byt s) 8 1) (num (byt s) 9 1) (num (byt s) 12 4) (num (byt s) 16 4) (s.extract 20 s.size))) (num (byt s) 12 4) (num (byt s) 16 4))) (s.extract 20 s.size) j
      rw [hb_size] at this
      rw [this, byt_extract _ _ _ _ (by omega)]
theorem again_good (s : ByteArray) (h : Good s) : pktOf s = s := (again_eq s h.1 h.2.1 h.2.2.1).2 h.2.2.2
end Go.Proofs.YtndaohiecpdmlaaGreat
namespace Go.Proofs.YtndaohiecpdmlaaGreat
set_option maxRecDepth 100000
open Go.RowKit
set_option maxHeartbeats 1000000 in
theorem hop_err (s : ByteArray) (w : World) (x : Int) (hx : (x != 0) = true) (P : Hid (∀ w, Calls Tryz.prog 21 #[.string s] w fun e w' => e = .returned (.tuple #[none', .int .i64 x]) ∧ Below w.heap.size w w')) :
    Calls Tryz.prog 36 #[.string s] w fun e w' => e = .returned (.tuple #[.string ⟨#[]⟩, .int .i64 x]) ∧ Below w.heap.size w w' := by
  unfold none' hv at *
  go_enter Tryz.func36, Tryz.ntmps36
  go_wp2_with (go_at_call 21; refine (P.out _).mono ?_; rintro e w1 ⟨rfl, b1⟩)
  go_ret2
  exact ⟨rfl, b1.alloc b1.size _⟩
set_option maxHeartbeats 1000000 in
theorem hop_stop (s : ByteArray) (w : World) (tos id frag ttl proto src dst : Int) (data : ByteArray) (ht : ttl < 2) (P : Hid (∀ w, Calls Tryz.prog 21 #[.string s] w fun e w' => e = .returned (.tuple #[hv tos id frag ttl proto src dst data, .int .i64 0]) ∧ Below w.heap.size w w')) :
    Calls Tryz.prog 36 #[.string s] w fun e w' => e = .returned (.tuple #[.string ⟨#[]⟩, .int .i64 2]) ∧ Below w.heap.size w w' := by
  unfold hv at *
  go_enter Tryz.func36, Tryz.ntmps36
  go_wp2_with (go_at_call 21; refine (P.out _).mono ?_; rintro e w1 ⟨rfl, b1⟩)
  go_ret2
  exact ⟨rfl, b1.alloc b1.size _⟩
set_option maxHeartbeats 1000000 in
theorem hop_go (s t : ByteArray) (w : World) (tos id frag ttl proto src dst : Int) (data : ByteArray) (ht : 2 ≤ ttl) (hm : ttl ≤ 255) (P : Hid (∀ w, Calls Tryz.prog 21 #[.string s] w fun e w' => e = .returned (.tuple #[hv tos id frag ttl proto src dst data, .int .i64 0]) ∧ Below w.heap.size w w'))
    (B : Hid (∀ w, Calls Tryz.prog 56 #[hv tos id frag (ttl - 1) proto src dst data] w fun e w' => e = .returned (.tuple #[.string t, .int .i64 0]) ∧ Below w.heap.size w w')) :
    Calls Tryz.prog 36 #[.string s] w fun e w' => e = .returned (.tuple #[.string t, .int .i64 0]) ∧ Below w.heap.size w w' := by
  unfold hv at *
  go_enter Tryz.func36, Tryz.ntmps36
  go_wp2_with (first | (go_at_call 21; refine (P.out _).mono ?_; rintro e w1 ⟨rfl, b1⟩) | (go_at_call 56; refine (B.out _).mono ?_; rintro e w2 ⟨rfl, b2⟩))
  go_ret2
  exact ⟨rfl, (b1.alloc b1.size _).trans (b2.mono (b1.alloc b1.size _).size)⟩
end Go.Proofs.YtndaohiecpdmlaaGreat
