/-
  What the document's own Size and Put answer, for every number. No condition.
-/
import Derived.Test.YtihkbakbciejiaaDoorShBytes
import Derived.WalkSpells
import Derived.WalkLawsBesides
import Derived.Handy
namespace Go.Proofs.YtihkbakbciejiaaDoor
set_option maxRecDepth 100000
open Go.RowKit

set_option maxHeartbeats 400000 in
theorem rsize_yes (n : Int) (m k : Nat) (w : World) (h : Cl n m k) :
    Calls Tryd.prog 57 #[.int .i64 n] w fun e w' => e = .returned (.int .i64 k) ∧ w = w' := by
  rcases h with ⟨rfl, rfl, a, b⟩ | ⟨rfl, rfl, a, b⟩ | ⟨rfl, rfl, a, b⟩ | ⟨rfl, rfl, a, b⟩
  all_goals
    go_enter Tryd.func57, Tryd.ntmps57
    go_wp2
    go_ret
    exact ⟨rfl, rfl⟩
set_option maxHeartbeats 400000 in
theorem rsize_no (n : Int) (w : World) (h : No n) :
    Calls Tryd.prog 57 #[.int .i64 n] w fun e w' => e = .returned (.int .i64 0) ∧ w = w' := by
  rcases h with a | a
  all_goals
    go_enter Tryd.func57, Tryd.ntmps57
    go_wp2
    go_ret
    exact ⟨rfl, rfl⟩

theorem digs_bd (n : Int) (k : Nat) : ∀ y ∈ digs n k, 0 ≤ y ∧ y < 256 := by
  induction k generalizing n with
  | zero => simp [digs]
  | succ k ih =>
    intro y hy
    simp only [digs, List.mem_append, List.mem_singleton] at hy
    rcases hy with hy | rfl
    · exact ih _ y hy
    · omega
theorem first_digit {n : Int} {m k : Nat} (h : Cl n m k) : ∃ x r, digs n k = x :: r ∧ 0 ≤ x ∧ x < 64 := by
  rcases h with ⟨rfl, rfl, a, b⟩ | ⟨rfl, rfl, a, b⟩ | ⟨rfl, rfl, a, b⟩ | ⟨rfl, rfl, a, b⟩
  all_goals
    simp only [digs, List.nil_append, List.cons_append]
    exact ⟨_, _, rfl, by omega, by omega⟩

theorem ret_strs {a b : List Int} (h : a = b) : Ending.returned (.string (strOfNums a)) = .returned (.string (strOfNums b)) := by rw [h]
/-- A row of bytes out of a string, in whatever world. -/
theorem bw_conv (w : World) (s : ByteArray) (k : Nat) (hs : s.size = k) :
    (convert 9 80 (.string s)).run Tryd.prog w = .ok (.slice (some ⟨w.heap.size, 0, none⟩) k (grownCap w k 0 5)) (Lib.bytesWorld w 5 s) := by
  subst hs
  exact Lib.run_convert_string_bytes w 9 80 5 s Tryd.underlying9 Tryd.underlying80 Tryd.underlying5
theorem bw_cell (w : World) (l : List Int) (hl : ∀ y ∈ l, 0 ≤ y ∧ y < 256) (j : Nat) (hj : j < l.length) :
    (Lib.bytesWorld w 5 (strOfNums l)).cell? ⟨w.heap.size, j, none⟩ = some (.int .u8 (l.getD j 0)) := by
  rw [Lib.bytesWorld_cell w 5 _ j (by rw [strOfNums_size]; exact hj), strOfNums_data]
  have := hl l[j] (List.getElem_mem hj)
  simp [List.getD, List.getElem?_eq_getElem hj]
  omega
theorem bw_frozen (w : World) (s : ByteArray) (j : Nat) (hj : j < s.size) : (Lib.bytesWorld w 5 s).frozen? ⟨w.heap.size, j, none⟩ = false := by
  have hz : s.size ≤ (Lib.bytesCells w 5 s).size := by simp [Lib.bytesCells]
  simp only [World.frozen?, Lib.bytesWorld_at_new]
  simp
  omega
theorem bw_below (w : World) (s : ByteArray) : Below w.heap.size w (Lib.bytesWorld w 5 s) := by
  refine ⟨rfl, rfl, rfl, ?_, fun k hk => Lib.bytesWorld_at_old w 5 s k hk⟩
  rw [Lib.bytesWorld_size]; omega
theorem bw_back (w : World) (x : Int) (r : List Int) (hl : ∀ y ∈ x :: r, 0 ≤ y ∧ y < 256) (v : Int) (k c : Nat) (hk : k = r.length + 1) :
    (convert 80 9 (.slice (some ⟨w.heap.size, 0, none⟩) k c)).run Tryd.prog ((Lib.bytesWorld w 5 (strOfNums (x :: r))).setCell ⟨w.heap.size, 0, none⟩ (.int .u8 v)) = .ok (.string (strOfNums (v :: r))) ((Lib.bytesWorld w 5 (strOfNums (x :: r))).setCell ⟨w.heap.size, 0, none⟩ (.int .u8 v)) := by
  subst hk
  refine run_convert_bytes_arg (P := Tryd.prog) _ 80 5 Tryd.underlying80 Tryd.underlying5 w.heap.size 0 _ c (v :: r) rfl (fun i hi => ?_) 9 Tryd.underlying9
  have hc := bw_cell w (x :: r) hl
  cases i with
  | zero =>
    rw [show (0 + 0) = 0 from rfl, World.cell?_setCell_same (h := hc 0 (by simp))]
    rfl
  | succ i =>
    rw [World.cell?_setCell_other (h := by simp), show 0 + (i + 1) = i + 1 by omega, hc (i + 1) (by simpa using hi)]
    rfl

theorem bw_end {w w1 : World} (hb1 : Below w.heap.size w w1) (s : ByteArray) (v : Value) : Below w.heap.size w ((Lib.bytesWorld w1 5 s).setCell ⟨w1.heap.size, 0, none⟩ v) :=
  (hb1.trans ((bw_below w1 s).mono hb1.size)).setCell hb1.size v
set_option maxHeartbeats 1000000 in
theorem rput_gen (n : Int) (m k : Nat) (x : Int) (r : List Int) (w : World) (h : Cl n m k) (hd : digs n k = x :: r) (h0 : 0 ≤ x) (h1 : x < 64) :
    Calls Tryd.prog 35 #[.int .i64 n] w fun e w' => e = .returned (.string (strOfNums ((x + 64 * m) :: r))) ∧ Below w.heap.size w w' := by
  have hl : ∀ y ∈ x :: r, 0 ≤ y ∧ y < 256 := by rw [← hd]; exact digs_bd n k
  have hlen : k = r.length + 1 := by rw [← digs_length n k, hd]; rfl
  have B : Hid (∀ w, Calls Tryd.prog 52 #[.int .i64 n, .int .i64 k] w fun e w' => e = .returned (.string (strOfNums (x :: r))) ∧ Below w.heap.size w w') := fun w => by
    have := rbytes k (by have := h.lo; omega) n w (by have := h.lo; omega) (by have := h.lo; omega)
    rwa [hd] at this
  have S : Hid (∀ w, Calls Tryd.prog 57 #[.int .i64 n] w fun e w' => e = .returned (.int .i64 k) ∧ w = w') := fun w => rsize_yes n m k w h
  have cv := fun w => bw_conv w (strOfNums (x :: r)) k (by rw [strOfNums_size, hlen]; rfl)
  have cc : ∀ w, (Lib.bytesWorld w 5 (strOfNums (x :: r))).cell? ⟨w.heap.size, 0, none⟩ = some (.int .u8 x) := fun w => bw_cell w (x :: r) hl 0 (by simp)
  have cf : ∀ w, (Lib.bytesWorld w 5 (strOfNums (x :: r))).frozen? ⟨w.heap.size, 0, none⟩ = false := fun w => bw_frozen w _ 0 (by rw [strOfNums_size]; simp)
  have cb := fun w v c => bw_back w x r hl v k c hlen
  clear hl hlen hd
  rcases h with ⟨rfl, rfl, a, b⟩ | ⟨rfl, rfl, a, b⟩ | ⟨rfl, rfl, a, b⟩ | ⟨rfl, rfl, a, b⟩
  · go_enter Tryd.func35, Tryd.ntmps35
    go_wp2_with (first | (go_at_call 57; refine (S.out _).mono ?_; rintro e w' ⟨rfl, rfl⟩) | (go_at_call 52; refine (B.out _).mono ?_; rintro e w1 ⟨rfl, hb1⟩))
    go_rounds 1
    go_ret
    exact ⟨ret_strs (by simp), bw_end hb1 _ _⟩
  · go_enter Tryd.func35, Tryd.ntmps35
    go_wp2_with (first | (go_at_call 57; refine (S.out _).mono ?_; rintro e w' ⟨rfl, rfl⟩) | (go_at_call 52; refine (B.out _).mono ?_; rintro e w1 ⟨rfl, hb1⟩))
    go_rounds 2
    go_ret
    exact ⟨ret_strs (by simp), bw_end hb1 _ _⟩
  · go_enter Tryd.func35, Tryd.ntmps35
    go_wp2_with (first | (go_at_call 57; refine (S.out _).mono ?_; rintro e w' ⟨rfl, rfl⟩) | (go_at_call 52; refine (B.out _).mono ?_; rintro e w1 ⟨rfl, hb1⟩))
    go_rounds 3
    go_ret
    exact ⟨ret_strs (by simp), bw_end hb1 _ _⟩
  · go_enter Tryd.func35, Tryd.ntmps35
    go_wp2_with (first | (go_at_call 57; refine (S.out _).mono ?_; rintro e w' ⟨rfl, rfl⟩) | (go_at_call 52; refine (B.out _).mono ?_; rintro e w1 ⟨rfl, hb1⟩))
    go_rounds 4
    go_ret
    exact ⟨ret_strs (by simp), bw_end hb1 _ _⟩

theorem rput_yes (n : Int) (m k : Nat) (w : World) (h : Cl n m k) :
    Calls Tryd.prog 35 #[.int .i64 n] w fun e w' => e = .returned (.string (strOfNums (puts n m k))) ∧ Below w.heap.size w w' := by
  obtain ⟨x, r, hd, h0, h1⟩ := first_digit h
  have e : puts n m k = (x + 64 * m) :: r := by simp only [puts, hd]
  rw [e]
  exact rput_gen n m k x r w h hd h0 h1
set_option maxHeartbeats 400000 in
theorem rput_no (n : Int) (w : World) (h : No n) :
    Calls Tryd.prog 35 #[.int .i64 n] w fun e w' => e = .returned (.string (strOfNums [])) ∧ Below w.heap.size w w' := by
  go_enter Tryd.func35, Tryd.ntmps35
  go_wp2_with (go_at_call 57; refine (rsize_no n _ h).mono ?_; rintro e w' ⟨rfl, rfl⟩)
  go_ret
  exact ⟨rfl, Below.refl _ _⟩
end Go.Proofs.YtihkbakbciejiaaDoor
