/-
  What the program's Size and Put answer, for every number, in every world that holds the table of sizes. No condition but that.
-/
import Derived.Test.YtihkbakbciejiaaDoorVaMath
import Derived.WalkSpells
import Derived.WalkLawsBesides
import Derived.Handy
namespace Go.Proofs.YtihkbakbciejiaaDoor
set_option maxRecDepth 100000
open Go.RowKit

/-- The table of sizes lies where the program's text lays it. -/
structure VTab (w : World) : Prop where
  pos : 0 < w.heap.size
  c0 : w.cell? ⟨0, 0, none⟩ = some (.int .i64 1)
  c1 : w.cell? ⟨0, 1, none⟩ = some (.int .i64 2)
  c2 : w.cell? ⟨0, 2, none⟩ = some (.int .i64 4)
  c3 : w.cell? ⟨0, 3, none⟩ = some (.int .i64 8)
theorem VTab.below {w w' : World} (h : VTab w) (b : Below w.heap.size w w') : VTab w' :=
  ⟨Nat.lt_of_lt_of_le h.pos b.size, (b.cell h.pos).trans h.c0, (b.cell h.pos).trans h.c1, (b.cell h.pos).trans h.c2, (b.cell h.pos).trans h.c3⟩

theorem ix0 (w : World) : (Instr.index 115 (.agg #[.int .i64 1, .int .i64 2, .int .i64 4, .int .i64 8]) (.int .i64 0)).run Tryd.prog w = .ok (.int .i64 1) w := by kernel_rfl
theorem ix1 (w : World) : (Instr.index 115 (.agg #[.int .i64 1, .int .i64 2, .int .i64 4, .int .i64 8]) (.int .i64 1)).run Tryd.prog w = .ok (.int .i64 2) w := by kernel_rfl
theorem ix2 (w : World) : (Instr.index 115 (.agg #[.int .i64 1, .int .i64 2, .int .i64 4, .int .i64 8]) (.int .i64 2)).run Tryd.prog w = .ok (.int .i64 4) w := by kernel_rfl
theorem ix3 (w : World) : (Instr.index 115 (.agg #[.int .i64 1, .int .i64 2, .int .i64 4, .int .i64 8]) (.int .i64 3)).run Tryd.prog w = .ok (.int .i64 8) w := by kernel_rfl

/-! ### leastMark -/
set_option maxHeartbeats 400000 in
theorem least_yes (n : Int) (m k : Nat) (w : World) (t : VTab w) (h : Cl n m k) :
    Calls Tryd.prog 56 #[.int .i64 n] w fun e w' => e = .returned (.tuple #[.int .i64 m, .bool true]) ∧ w = w' := by
  obtain ⟨_, h0, h1, h2, h3⟩ := t
  have i0 := ix0; have i1 := ix1; have i2 := ix2; have i3 := ix3
  rcases h with ⟨rfl, rfl, a, b⟩ | ⟨rfl, rfl, a, b⟩ | ⟨rfl, rfl, a, b⟩ | ⟨rfl, rfl, a, b⟩
  · have g0 : (n / 64 == 0) = true := by simp; omega
    go_enter Tryd.func56, Tryd.ntmps56
    go_wp2
    go_rounds 1
    go_ret2
    exact ⟨rfl, rfl⟩
  · have g0 : (n / 64 == 0) = false := by simp; omega
    have g1 : (n / 16384 == 0) = true := by simp; omega
    go_enter Tryd.func56, Tryd.ntmps56
    go_wp2
    go_rounds 2
    go_ret2
    exact ⟨rfl, rfl⟩
  · have g0 : (n / 64 == 0) = false := by simp; omega
    have g1 : (n / 16384 == 0) = false := by simp; omega
    have g2 : (n / 1073741824 == 0) = true := by simp; omega
    go_enter Tryd.func56, Tryd.ntmps56
    go_wp2
    go_rounds 3
    go_ret2
    exact ⟨rfl, rfl⟩
  · have g0 : (n / 64 == 0) = false := by simp; omega
    have g1 : (n / 16384 == 0) = false := by simp; omega
    have g2 : (n / 1073741824 == 0) = false := by simp; omega
    have g3 : (n / 4611686018427387904 == 0) = true := by simp; omega
    go_enter Tryd.func56, Tryd.ntmps56
    go_wp2
    go_rounds 4
    go_ret2
    exact ⟨rfl, rfl⟩

set_option maxHeartbeats 400000 in
theorem least_no (n : Int) (w : World) (t : VTab w) (h : No n) :
    Calls Tryd.prog 56 #[.int .i64 n] w fun e w' => e = .returned (.tuple #[.int .i64 0, .bool false]) ∧ w = w' := by
  obtain ⟨_, h0, h1, h2, h3⟩ := t
  have i0 := ix0; have i1 := ix1; have i2 := ix2; have i3 := ix3
  rcases h with a | a
  · go_enter Tryd.func56, Tryd.ntmps56
    go_wp2
    go_ret2
    exact ⟨rfl, rfl⟩
  · have g : 0 ≤ n := by omega
    have g0 : (n / 64 == 0) = false := by simp; omega
    have g1 : (n / 16384 == 0) = false := by simp; omega
    have g2 : (n / 1073741824 == 0) = false := by simp; omega
    have g3 : (n / 4611686018427387904 == 0) = false := by simp; omega
    go_enter Tryd.func56, Tryd.ntmps56
    go_wp2
    go_rounds 5
    go_ret2
    exact ⟨rfl, rfl⟩

/-! ### Put -/
/-- 'string(b)' of a slice that the call has just made. -/
theorem convN (w : World) (xs : List Int) (c : Nat) :
    (convert 80 9 (.slice (some ⟨w.heap.size, 0, none⟩) xs.length c)).run Tryd.prog (w.alloc (.cells (xs.map (Value.int .u8)).toArray 5)) = .ok (.string (strOfNums xs)) (w.alloc (.cells (xs.map (Value.int .u8)).toArray 5)) :=
  run_convert_bytes_arg (P := Tryd.prog) _ 80 5 Tryd.underlying80 Tryd.underlying5 w.heap.size 0 xs.length c xs rfl (fun i hi => by
    rw [World.cell?_alloc_mark]; simp [List.getD, List.getElem?_eq_getElem hi]) 9 Tryd.underlying9


theorem mark_byte (x : Int) (m : Nat) (c : Int) (h0 : 0 ≤ x) (h : x < 64) (hm : m < 4) (hc : c = m * 64) : bits .or .u8 (bits .and .i64 x 255 % 256) c = x % 256 + 64 * m := by
  rw [and255 x h0 (by omega), hc, or_mark (x % 256) m (by omega) (by omega) hm]
theorem next_byte {x : Int} (h : 0 ≤ x ∧ x < 4611686018427387904) : bits .and .i64 x 255 % 256 = x % 256 ∧ 0 ≤ x / 256 ∧ x / 256 < 4611686018427387904 :=
  ⟨and255 x h.1 (by omega), by omega, by omega⟩
theorem eq8 (n : Int) (h : 0 ≤ n ∧ n < 4611686018427387904) :
    [bits .or .u8 (bits .and .i64 (n / 256 / 256 / 256 / 256 / 256 / 256 / 256) 255 % 256) 192, bits .and .i64 (n / 256 / 256 / 256 / 256 / 256 / 256) 255 % 256, bits .and .i64 (n / 256 / 256 / 256 / 256 / 256) 255 % 256, bits .and .i64 (n / 256 / 256 / 256 / 256) 255 % 256, bits .and .i64 (n / 256 / 256 / 256) 255 % 256, bits .and .i64 (n / 256 / 256) 255 % 256, bits .and .i64 (n / 256) 255 % 256, bits .and .i64 n 255 % 256] = puts n 3 8 := by
  simp only [puts, digs, List.nil_append, List.cons_append]
  obtain ⟨e0, h1⟩ := next_byte h
  obtain ⟨e1, h2⟩ := next_byte h1
  obtain ⟨e2, h3⟩ := next_byte h2
  obtain ⟨e3, h4⟩ := next_byte h3
  obtain ⟨e4, h5⟩ := next_byte h4
  obtain ⟨e5, h6⟩ := next_byte h5
  obtain ⟨e6, h7⟩ := next_byte h6
  rw [e0, e1, e2, e3, e4, e5, e6, mark_byte _ 3 192 h7.1 (by omega) (by omega) (by omega)]
theorem eq4 (n : Int) (h : 0 ≤ n ∧ n < 1073741824) :
    [bits .or .u8 (bits .and .i64 (n / 256 / 256 / 256) 255 % 256) 128, bits .and .i64 (n / 256 / 256) 255 % 256, bits .and .i64 (n / 256) 255 % 256, bits .and .i64 n 255 % 256] = puts n 2 4 := by
  simp only [puts, digs, List.nil_append, List.cons_append]
  obtain ⟨e0, h1⟩ := next_byte (x := n) (by omega)
  obtain ⟨e1, h2⟩ := next_byte h1
  obtain ⟨e2, h3⟩ := next_byte h2
  rw [e0, e1, e2, mark_byte _ 2 128 h3.1 (by omega) (by omega) (by omega)]
theorem eq2 (n : Int) (h : 0 ≤ n ∧ n < 16384) : [bits .or .u8 (bits .and .i64 (n / 256) 255 % 256) 64, bits .and .i64 n 255 % 256] = puts n 1 2 := by
  simp only [puts, digs, List.nil_append, List.cons_append]
  obtain ⟨e0, h1⟩ := next_byte (x := n) (by omega)
  rw [e0, mark_byte _ 1 64 h1.1 (by omega) (by omega) (by omega)]
theorem eq1 (n : Int) (h : 0 ≤ n ∧ n < 64) : [bits .or .u8 (bits .and .i64 n 255 % 256) 0] = puts n 0 1 := by
  simp only [puts, digs, List.nil_append]
  rw [mark_byte _ 0 0 h.1 (by omega) (by omega) (by omega)]
theorem ret_str {a b : List Int} (h : a = b) : Ending.returned (.string (strOfNums a)) = .returned (.string (strOfNums b)) := by rw [h]

set_option maxHeartbeats 1000000 in
theorem put1 (n : Int) (w : World) (t : VTab w) (h : Cl n 0 1) :
    Calls Tryd.prog 32 #[.int .i64 n] w fun e w' => e = .returned (.string (strOfNums (puts n 0 1))) ∧ Below w.heap.size w w' := by
  have hmk : ∀ w, (Instr.makeSlice 80 (.int .i64 1) (.int .i64 1)).run Tryd.prog w = .ok (.slice (some ⟨w.heap.size, 0, none⟩) 1 1) (w.alloc (.cells #[.int .u8 0] 5)) := fun _ => by kernel_rfl
  have hcv : ∀ (w : World) (a : Int), (convert 80 9 (.slice (some ⟨w.heap.size, 0, none⟩) 1 1)).run Tryd.prog (w.alloc (.cells #[.int .u8 a] 5)) = .ok (.string (strOfNums [a])) (w.alloc (.cells #[.int .u8 a] 5)) := fun w a => convN w [a] 1
  have t' := t
  obtain ⟨_, h0, h1, h2, h3⟩ := t'
  have hb : 0 ≤ n ∧ n < 64 := by unfold Cl at h; omega
  go_enter Tryd.func32, Tryd.ntmps32
  go_wp2_with (go_at_call 56; refine (least_yes n _ _ _ t h).mono ?_; rintro e w' ⟨rfl, rfl⟩)
  go_rounds 2
  go_ret
  refine ⟨ret_str ?_, (Below.refl _ _).alloc (Nat.le_refl _) _⟩
  exact eq1 n hb

set_option maxHeartbeats 1000000 in
theorem put2 (n : Int) (w : World) (t : VTab w) (h : Cl n 1 2) :
    Calls Tryd.prog 32 #[.int .i64 n] w fun e w' => e = .returned (.string (strOfNums (puts n 1 2))) ∧ Below w.heap.size w w' := by
  have hmk : ∀ w, (Instr.makeSlice 80 (.int .i64 2) (.int .i64 2)).run Tryd.prog w = .ok (.slice (some ⟨w.heap.size, 0, none⟩) 2 2) (w.alloc (.cells #[.int .u8 0, .int .u8 0] 5)) := fun _ => by kernel_rfl
  have hcv : ∀ (w : World) (a b : Int), (convert 80 9 (.slice (some ⟨w.heap.size, 0, none⟩) 2 2)).run Tryd.prog (w.alloc (.cells #[.int .u8 a, .int .u8 b] 5)) = .ok (.string (strOfNums [a, b])) (w.alloc (.cells #[.int .u8 a, .int .u8 b] 5)) := fun w a b => convN w [a, b] 2
  have t' := t
  obtain ⟨_, h0, h1, h2, h3⟩ := t'
  have hb : 64 ≤ n ∧ n < 16384 := by unfold Cl at h; omega
  go_enter Tryd.func32, Tryd.ntmps32
  go_wp2_with (go_at_call 56; refine (least_yes n _ _ _ t h).mono ?_; rintro e w' ⟨rfl, rfl⟩)
  go_rounds 3
  go_ret
  refine ⟨ret_str ?_, (Below.refl _ _).alloc (Nat.le_refl _) _⟩
  exact eq2 n (by omega)

set_option maxHeartbeats 1000000 in
theorem put4 (n : Int) (w : World) (t : VTab w) (h : Cl n 2 4) :
    Calls Tryd.prog 32 #[.int .i64 n] w fun e w' => e = .returned (.string (strOfNums (puts n 2 4))) ∧ Below w.heap.size w w' := by
  have hmk : ∀ w, (Instr.makeSlice 80 (.int .i64 4) (.int .i64 4)).run Tryd.prog w = .ok (.slice (some ⟨w.heap.size, 0, none⟩) 4 4) (w.alloc (.cells #[.int .u8 0, .int .u8 0, .int .u8 0, .int .u8 0] 5)) := fun _ => by kernel_rfl
  have hcv : ∀ (w : World) (a b c d : Int), (convert 80 9 (.slice (some ⟨w.heap.size, 0, none⟩) 4 4)).run Tryd.prog (w.alloc (.cells #[.int .u8 a, .int .u8 b, .int .u8 c, .int .u8 d] 5)) = .ok (.string (strOfNums [a, b, c, d])) (w.alloc (.cells #[.int .u8 a, .int .u8 b, .int .u8 c, .int .u8 d] 5)) := fun w a b c d => convN w [a, b, c, d] 4
  have t' := t
  obtain ⟨_, h0, h1, h2, h3⟩ := t'
  have hb : 16384 ≤ n ∧ n < 1073741824 := by unfold Cl at h; omega
  go_enter Tryd.func32, Tryd.ntmps32
  go_wp2_with (go_at_call 56; refine (least_yes n _ _ _ t h).mono ?_; rintro e w' ⟨rfl, rfl⟩)
  go_rounds 5
  go_ret
  refine ⟨ret_str ?_, (Below.refl _ _).alloc (Nat.le_refl _) _⟩
  exact eq4 n (by omega)

set_option maxHeartbeats 1000000 in
theorem put8 (n : Int) (w : World) (t : VTab w) (h : Cl n 3 8) :
    Calls Tryd.prog 32 #[.int .i64 n] w fun e w' => e = .returned (.string (strOfNums (puts n 3 8))) ∧ Below w.heap.size w w' := by
  have hmk : ∀ w, (Instr.makeSlice 80 (.int .i64 8) (.int .i64 8)).run Tryd.prog w = .ok (.slice (some ⟨w.heap.size, 0, none⟩) 8 8) (w.alloc (.cells #[.int .u8 0, .int .u8 0, .int .u8 0, .int .u8 0, .int .u8 0, .int .u8 0, .int .u8 0, .int .u8 0] 5)) := fun _ => by kernel_rfl
  have hcv : ∀ (w : World) (a b c d e f g h : Int), (convert 80 9 (.slice (some ⟨w.heap.size, 0, none⟩) 8 8)).run Tryd.prog (w.alloc (.cells #[.int .u8 a, .int .u8 b, .int .u8 c, .int .u8 d, .int .u8 e, .int .u8 f, .int .u8 g, .int .u8 h] 5)) = .ok (.string (strOfNums [a, b, c, d, e, f, g, h])) (w.alloc (.cells #[.int .u8 a, .int .u8 b, .int .u8 c, .int .u8 d, .int .u8 e, .int .u8 f, .int .u8 g, .int .u8 h] 5)) := fun w a b c d e f g h => convN w [a, b, c, d, e, f, g, h] 8
  have t' := t
  obtain ⟨_, h0, h1, h2, h3⟩ := t'
  have hb : 1073741824 ≤ n ∧ n < 4611686018427387904 := by unfold Cl at h; omega
  go_enter Tryd.func32, Tryd.ntmps32
  go_wp2_with (go_at_call 56; refine (least_yes n _ _ _ t h).mono ?_; rintro e w' ⟨rfl, rfl⟩)
  go_rounds 9
  go_ret
  refine ⟨ret_str ?_, (Below.refl _ _).alloc (Nat.le_refl _) _⟩
  exact eq8 n (by omega)

theorem put_yes (n : Int) (m k : Nat) (w : World) (t : VTab w) (h : Cl n m k) :
    Calls Tryd.prog 32 #[.int .i64 n] w fun e w' => e = .returned (.string (strOfNums (puts n m k))) ∧ Below w.heap.size w w' := by
  have H := h
  rcases h with ⟨rfl, rfl, _⟩ | ⟨rfl, rfl, _⟩ | ⟨rfl, rfl, _⟩ | ⟨rfl, rfl, _⟩
  · exact put1 n w t H
  · exact put2 n w t H
  · exact put4 n w t H
  · exact put8 n w t H
set_option maxHeartbeats 400000 in
theorem put_no (n : Int) (w : World) (t : VTab w) (h : No n) :
    Calls Tryd.prog 32 #[.int .i64 n] w fun e w' => e = .returned (.string (strOfNums [])) ∧ Below w.heap.size w w' := by
  go_enter Tryd.func32, Tryd.ntmps32
  go_wp2_with (go_at_call 56; refine (least_no n _ t h).mono ?_; rintro e w' ⟨rfl, rfl⟩)
  go_ret
  exact ⟨rfl, Below.refl _ _⟩
end Go.Proofs.YtihkbakbciejiaaDoor
