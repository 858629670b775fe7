/-
  What the program's throwIf and the reader's number, length and sum do, in every world that holds the reader. No condition but that.
-/
import Derived.Test.YtndaohiecpdmlaaIpSum
import Derived.Test.YtndaohiecpdmlaaIpHead
import Derived.Deep.RegionWith
import Derived.BigQuiet
namespace Go.Proofs.Ytndaohiecpdmlaa
open Go.RowKit

/-- What throwIf throws. -/
def thrown (e : Int) : List PanicEntry := [{ v := .iface 26 (.int .i64 e), recovered := false }]
set_option maxHeartbeats 400000 in
theorem throw_no (e : Int) (w : World) : Calls Try.prog 48 #[.bool false, .int .i64 e] w fun r w' => r = .returned (.tuple #[]) ∧ w = w' := by
  go_enter Try.func48, Try.ntmps48
  go_wp2
  go_end0
  exact ⟨rfl, rfl⟩
set_option maxHeartbeats 400000 in
theorem throw_yes (e : Int) (w : World) : Calls Try.prog 48 #[.bool true, .int .i64 e] w fun r w' => r = .panicked (thrown e) ∧ w = w' := by
  go_enter Try.func48, Try.ntmps48
  go_wp2
  exact ⟨rfl, rfl, rfl⟩

/-- A reader in a block. -/
structure Rd (w : World) (B : Nat) (s : ByteArray) (p : Nat) : Prop where
  lt : B < w.heap.size
  c0 : w.cell? ⟨B, 0, none⟩ = some (.string s)
  c1 : w.cell? ⟨B, 1, none⟩ = some (.int .i64 p)
  z1 : w.frozen? ⟨B, 1, none⟩ = false
theorem Rd.set {w : World} {B : Nat} {s : ByteArray} {p : Nat} (h : Rd w B s p) (q : Nat) : Rd (w.setCell ⟨B, 1, none⟩ (.int .i64 q)) B s q :=
  ⟨by simpa [World.setCell] using h.lt, by rw [World.cell?_setCell_other (h := by simp)]; exact h.c0, by rw [World.cell?_setCell_same (h := h.c1)], by rw [World.frozen?_setCell]; exact h.z1⟩
/-- Nothing has turned but block B (and how often the tape was asked). -/
structure Only (B : Nat) (w w' : World) : Prop where
  os : w'.os = w.os
  tape : w'.tape = w.tape
  output : w'.output = w.output
  size : w'.heap.size = w.heap.size
  block : ∀ k, k ≠ B → w'.heap[k]? = w.heap[k]?
theorem Only.refl (B : Nat) (w : World) : Only B w w := ⟨rfl, rfl, rfl, rfl, fun _ _ => rfl⟩
theorem Only.trans {B : Nat} {a b c : World} (h : Only B a b) (k : Only B b c) : Only B a c :=
  ⟨k.os.trans h.os, k.tape.trans h.tape, k.output.trans h.output, k.size.trans h.size, fun i hi => (k.block i hi).trans (h.block i hi)⟩
theorem Only.drewN (B : Nat) (w : World) (n : Nat) : Only B w (w.drewN n) := ⟨rfl, rfl, rfl, rfl, fun _ _ => rfl⟩
theorem Only.setCell {B : Nat} {a w : World} (h : Only B a w) (i : Nat) (v : Value) : Only B a (w.setCell ⟨B, i, none⟩ v) :=
  h.trans ⟨rfl, rfl, rfl, by simp [World.setCell], fun k hk => Below.heap_setCell _ _ _ _ hk⟩
theorem Only.below {B n : Nat} {w w' : World} (h : Only B w w') (hn : n ≤ B) : Below n w w' :=
  ⟨h.os, h.tape, h.output, Nat.le_of_eq h.size.symm, fun k hk => h.block k (by omega)⟩
theorem Only.cell {B : Nat} {w w' : World} (h : Only B w w') {p : Addr} (hp : p.block ≠ B) : w'.cell? p = w.cell? p := World.cell?_of_block (w := w) (h.block p.block hp)
theorem Only.frozen {B : Nat} {w w' : World} (h : Only B w w') {p : Addr} (hp : p.block ≠ B) : w'.frozen? p = w.frozen? p := World.frozen?_of_block (w := w) (h.block p.block hp)
theorem Rd.drewN {w : World} {B : Nat} {s : ByteArray} {p : Nat} (h : Rd w B s p) (n : Nat) : Rd (w.drewN n) B s p := ⟨h.lt, h.c0, h.c1, h.z1⟩
/-- The number of some bytes, the highest first. -/
def num (f : Nat → Int) (p : Nat) : Nat → Int
  | 0 => 0
  | j + 1 => num f p j * 256 + f (p + j)
theorem num_bd (f : Nat → Int) (hf : ∀ i, 0 ≤ f i ∧ f i < 256) (p : Nat) : ∀ j, 0 ≤ num f p j ∧ num f p j < 256 ^ j
  | 0 => by simp [num]
  | j + 1 => by
    have ih := num_bd f hf p j
    have := hf (p + j)
    have e : (256 : Int) ^ (j + 1) = 256 ^ j * 256 := by rw [Int.pow_succ]
    rw [e]
    simp only [num]
    omega
theorem num_lt (f : Nat → Int) (hf : ∀ i, 0 ≤ f i ∧ f i < 256) (p j : Nat) (hj : j < 4) : 0 ≤ num f p j ∧ num f p j < 16777216 := by
  have := num_bd f hf p j
  rcases (show j = 0 ∨ j = 1 ∨ j = 2 ∨ j = 3 by omega) with rfl | rfl | rfl | rfl <;> omega
theorem u32_or_byte (x b : Int) (h0 : 0 ≤ x) (h : x < 16777216) (b0 : 0 ≤ b) (hb : b < 256) : bits .or .u32 (x * 256) b = x * 256 + b := by
  obtain ⟨a, rfl⟩ := Int.eq_ofNat_of_zero_le h0
  obtain ⟨c, rfl⟩ := Int.eq_ofNat_of_zero_le b0
  rw [show (a : Int) * 256 = ((a * 256 : Nat) : Int) by omega, u32_or_nat _ _ (by omega) (by omega), nat_join 8 (a * 256) c (by omega) (by omega)]
  omega
set_option maxHeartbeats 1000000 in
theorem number_ok (w : World) (B : Nat) (s : ByteArray) (p k : Nat) (h : Rd w B s p) (hk : k ≤ 4) (hp : p + k ≤ s.size) (hs : s.size ≤ 9223372036854775807) :
    Calls Try.prog 49 #[.pointer (some ⟨B, 0, none⟩), .int .i64 k] w fun e w' => e = .returned (.int .u32 (num (byt s) p k)) ∧ Rd w' B s (p + k) ∧ Only B w w' := by
  go_enter Try.func49, Try.ntmps49
  go_wp2
  go_loopw [5, 7] (fun n i w' => ∃ j q : Nat, j ≤ k ∧ Hid (q = p + j) ∧ i = .int .i64 j ∧ n = .int .u32 (num (byt s) p j) ∧ Rd w' B s q ∧ Only B w w') (fun _ i _ => k - (intOf i).toNat)
  case atStart => exact ⟨0, p, Nat.zero_le _, rfl, rfl, rfl, h, Only.refl _ _⟩
  case round =>
    obtain ⟨j, q, hj, hq, rfl, rfl, hr, hbel⟩ := hrel
    by_cases hlt : j < k
    · have hrd : Hid (Rd wr B s q) := hr
      obtain ⟨lt, c0, c1, z1⟩ := hr
      have hql : q < s.size := by have := hq.out; omega
      have hb := byt_bd s q
      have e1 := byt_eq s q hql
      have hn1 := num_lt (byt s) (byt_bd s) p j (by omega)
      have hor1 := u32_or_byte (num (byt s) p j) (byt s q) hn1.1 hn1.2 hb.1 hb.2
      have hs' : num (byt s) p (j + 1) = num (byt s) p j * 256 + byt s q := by rw [hq.out]; rfl
      have hw1 : IntKind.u32.wrap (num (byt s) p j * 256) = num (byt s) p j * 256 := by simp [IntKind.wrap, IntKind.bits, IntKind.signed]; omega
      have hw2 : IntKind.u32.wrap (byt s q) = byt s q := by simp [IntKind.wrap, IntKind.bits, IntKind.signed]; omega
      replace hs' : Hid _ := hs'
      have hqi : (q : Int) < s.size := by omega
      have hq0 : (0 : Int) ≤ q := by omega
      generalize num (byt s) p j = x at *
      generalize byt s q = y at *
      go_wp2
      go_quiet (fail)
      go_wp2
      have hR : Rd ((wr.drewN nq).setCell ⟨B, 1, none⟩ (.int .i64 ((q : Int) + 1))) B s (q + 1) := (hrd.out.drewN nq).set (q + 1)
      have hB : Only B w ((wr.drewN nq).setCell ⟨B, 1, none⟩ (.int .i64 ((q : Int) + 1))) := (hbel.trans (Only.drewN _ _ _)).setCell 1 _
      go_roundw
      case rel => exact ⟨j + 1, q + 1, by omega, (by have := hq.out; omega : q + 1 = p + (j + 1)), by go_num, by rw [hs'.out], hR, hB⟩
      case measure => simp [intOf]; omega
    · obtain rfl : j = k := by omega
      obtain rfl : q = p + j := hq.out
      replace hr : Hid _ := hr
      go_wp2
      go_ret
      exact ⟨rfl, hr.out, hbel⟩

/-- What bytes say of their length. -/
def said (s : ByteArray) : Int := num (byt s) 2 2
theorem num2_bd (s : ByteArray) (p : Nat) : 0 ≤ num (byt s) p 2 ∧ num (byt s) p 2 < 65536 := num_bd (byt s) (byt_bd s) p 2
end Go.Proofs.Ytndaohiecpdmlaa
