/-
  The document's own stream as the program holds it; what its New, Limit, Ended, place and End do. No condition but what always holds of a stream.
-/
import Derived.Test.YtpendchkalagnaaInMath
import Derived.Test.YtpendchkalagnaaObCells
import Derived.Test.YtpendchkalagnaaObMapY
import Derived.Test.YtpendchkalagnaaObDraw
import Derived.Deep.LoopGhost
import Derived.Lib.QuietBelow
import Derived.BigQuiet
import Derived.RegionTactic
import Derived.Laws.OwnMore
import Derived.OwnWalk
import Derived.Deep.Onto
namespace Go.Proofs.Ytpendchkalagnaa
set_option maxRecDepth 100000
open Go.RowKit Go.Sort

abbrev In64 (n : Int) : Prop := -9223372036854775808 ≤ n ∧ n ≤ 9223372036854775807
abbrev ptr (B : Nat) : Value := .pointer (some ⟨B, 0, none⟩)
def bxc (m : Nat) (d : Bx) : List Value := [.map (some m), .int .i64 d.rd, .int .i64 d.size, .int .i64 d.most, .bool d.rst]
/-- The document's own stream in block R, its map in block m. -/
structure RX (w : World) (R m : Nat) (d : Bx) : Prop where
  led : Lies w R (bxc m d)
  map : ∃ n S, n ≤ d.cnt ∧ MapY w m n S ∧ ∀ x, d.rd ≤ x → S x = d.got x
  ne : m ≠ R
theorem RX.lt {w : World} {R m : Nat} {d : Bx} (h : RX w R m d) : R < w.heap.size ∧ m < w.heap.size := by
  obtain ⟨n, S, -, h2, -⟩ := h.map
  exact ⟨h.led.lt (by show 0 < 5; decide), h2.lt⟩
theorem RX.of {w w' : World} {R m : Nat} {d : Bx} (h : RX w R m d) (k1 : w'.heap[R]? = w.heap[R]?) (k2 : w'.heap[m]? = w.heap[m]?) : RX w' R m d := by
  obtain ⟨n, S, h1, h2, h3⟩ := h.map
  exact ⟨h.led.of_block k1, ⟨n, S, h1, h2.of_block k2, h3⟩, h.ne⟩
theorem RX.keep {w w' : World} {R m : Nat} {d : Bx} (h : RX w R m d) (b : Below w.heap.size w w') : RX w' R m d := h.of (b.block R h.lt.1) (b.block m h.lt.2)
theorem rnew_ok (w : World) :
    Calls Try.prog 8 #[] w fun e w' => ∃ R m, e = .returned (ptr R) ∧ RX w' R m bx0 ∧ w.heap.size ≤ R ∧ w.heap.size ≤ m ∧ Below w.heap.size w w' := by
  have b1 : Below w.heap.size w (w.alloc (.map #[] 0)) := (Below.refl _ _).alloc (Nat.le_refl _) _
  have b2 := b1.alloc b1.size (.cells #[.map (some w.heap.size), .int .i64 0, .int .i64 (-1), .int .i64 0, .bool false] 37)
  have z : (w.alloc (.map #[] 0)).heap.size = w.heap.size + 1 := by simp
  have L : Hid (RX ((w.alloc (.map #[] 0)).alloc (.cells #[.map (some w.heap.size), .int .i64 0, .int .i64 (-1), .int .i64 0, .bool false] 37)) (w.heap.size + 1) w.heap.size bx0) := by
    have l := Lies.new (w.alloc (.map #[] 0)) (bxc w.heap.size bx0) 37
    rw [z] at l
    refine ⟨l, ⟨0, _, Nat.le_refl _, (MapY.made w).of_block ?_, fun _ _ => rfl⟩, by omega⟩
    exact ((Below.refl (w.alloc (.map #[] 0)).heap.size (w.alloc (.map #[] 0))).alloc (Nat.le_refl _) _).block _ (by omega)
  replace b2 : Hid _ := b2
  have hmm := @run_makeMap Try.prog
  clear b1 z
  go_enter Try.func8, Try.ntmps8
  go_wp2
  go_ret
  exact ⟨_, _, rfl, L.out, by omega, Nat.le_refl _, b2.out⟩
theorem rlimit_ok (R m : Nat) (d : Bx) (w : World) (h : RX w R m d) (hd : Bw d) :
    Calls Try.prog 16 #[ptr R] w fun e w' => e = .returned (.int .i64 (lim d)) ∧ w = w' := by
  have c1 := h.led.cell 1 (v := .int .i64 d.rd) rfl
  have h1 := hd.k.rd.1
  have h2 := hd.rd
  unfold lim
  clear h hd
  go_enter Try.func16, Try.ntmps16
  go_wp2
  go_ret
  exact ⟨rfl, rfl⟩
theorem rplace_ok (n : Int) (w : World) :
    Calls Try.prog 20 #[.int .i64 n] w fun e w' => e = .returned (.bool (decide (0 ≤ n ∧ n ≤ 4611686018427387903))) ∧ w = w' := by
  by_cases h1 : 0 ≤ n
  · have g1 : decide (0 ≤ n) = true := decide_eq_true h1
    have e : decide (0 ≤ n ∧ n ≤ 4611686018427387903) = decide (n ≤ 4611686018427387903) := by simp [h1]
    rw [e]
    go_enter Try.func20, Try.ntmps20
    go_wp2
    go_ret
    exact ⟨rfl, rfl⟩
  · have g1 : decide (0 ≤ n) = false := decide_eq_false h1
    have e : decide (0 ≤ n ∧ n ≤ 4611686018427387903) = false := by simp [h1]
    rw [e]
    go_enter Try.func20, Try.ntmps20
    go_wp2
    go_ret
    exact ⟨rfl, rfl⟩
theorem rended_ok (R m : Nat) (d : Bx) (w : World) (h : RX w R m d) :
    Calls Try.prog 17 #[ptr R] w fun e w' => e = .returned (.int .i64 (ended d)) ∧ Below w.heap.size w w' := by
  have c1 := h.led.cell 1 (v := .int .i64 d.rd) rfl
  have c2 := h.led.cell 2 (v := .int .i64 d.size) rfl
  have c4 := h.led.cell 4 (v := .bool d.rst) rfl
  clear h
  unfold ended
  cases hr : d.rst
  · rw [hr] at c4
    rw [if_neg (by decide)]
    by_cases q : d.size = d.rd
    · rw [if_pos q]
      have g : (d.size == d.rd) = true := by simpa using q
      replace q : Hid _ := q
      replace hr : Hid _ := hr
      go_enter Try.func17, Try.ntmps17
      go_wp2
      go_region
      go_wp2
      go_ret
      exact ⟨rfl, drewB _ _⟩
    · rw [if_neg q]
      have g : (d.size == d.rd) = false := by simpa using q
      replace q : Hid _ := q
      replace hr : Hid _ := hr
      go_enter Try.func17, Try.ntmps17
      go_wp2
      go_region
      go_wp2
      go_ret
      exact ⟨rfl, drewB _ _⟩
  · rw [hr] at c4
    rw [if_pos rfl]
    replace hr : Hid _ := hr
    go_enter Try.func17, Try.ntmps17
    go_wp2
    go_ret
    exact ⟨rfl, Below.refl _ _⟩
end Go.Proofs.Ytpendchkalagnaa
