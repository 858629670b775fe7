/-
  What the program's isPort, two, and cut answer: cut of four, and of ten, numbers that stand in a block. No other condition.
-/
import Derived.Test.YtaloccmfpehhcabIpHead
import Derived.BigQuiet
namespace Go.Proofs.Ytaloccmfpehhcab
open Go.RowKit

/-- Numbers of sixteen bits as bytes. -/
def ws : List Int → List Int
  | [] => []
  | n :: l => n / 256 % 256 :: n % 256 :: ws l
theorem ws_length : ∀ l : List Int, (ws l).length = 2 * l.length
  | [] => rfl
  | n :: l => by simp only [ws, List.length_cons, ws_length l]; omega
theorem ws_even : ∀ (l : List Int) (k : Nat), (ws l).getD (2 * k) 0 = l.getD k 0 / 256 % 256
  | [], k => by simp [ws]
  | n :: l, 0 => rfl
  | n :: l, k + 1 => by
    have := ws_even l k
    simp only [ws, Nat.mul_add, Nat.mul_one, List.getD_cons_succ] at this ⊢
    exact this
theorem ws_odd : ∀ (l : List Int) (k : Nat), (ws l).getD (2 * k + 1) 0 = l.getD k 0 % 256
  | [], k => by simp [ws]
  | n :: l, 0 => rfl
  | n :: l, k + 1 => by
    have := ws_odd l k
    simp only [ws, Nat.mul_add, Nat.mul_one, List.getD_cons_succ] at this ⊢
    exact this
theorem ws_bd : ∀ (l : List Int), ∀ y ∈ ws l, 0 ≤ y ∧ y < 256
  | [], y, h => by simp [ws] at h
  | n :: l, y, h => by
    simp only [ws, List.mem_cons] at h
    rcases h with rfl | rfl | h
    · omega
    · omega
    · exact ws_bd l y h

/-- So many bytes in a block. -/
structure BufN (w : World) (B m : Nat) (f : Nat → Int) : Prop where
  lt : B < w.heap.size
  at' : ∀ i, i < m → w.cell? ⟨B, i, none⟩ = some (.int .u8 (f i)) ∧ w.frozen? ⟨B, i, none⟩ = false
theorem BufN.alloc {w : World} {B m : Nat} {f : Nat → Int} (h : BufN w B m f) (o : Obj) : BufN (w.alloc o) B m f := by
  refine ⟨by have := h.lt; simp; omega, fun i hi => ?_⟩
  rw [World.cell?_alloc_past _ _ _ h.lt, World.frozen?_alloc_past _ _ _ h.lt]
  exact h.at' i hi
theorem BufN.set {w : World} {B m : Nat} {f : Nat → Int} (h : BufN w B m f) (k : Nat) (v : Int) : BufN (w.setCell ⟨B, k, none⟩ (.int .u8 v)) B m (upd f k v) := by
  refine ⟨by simpa [World.setCell] using h.lt, fun i hi => ?_⟩
  rw [World.frozen?_setCell]
  refine ⟨?_, (h.at' i hi).2⟩
  unfold upd
  by_cases e : i = k
  · subst e
    rw [if_pos rfl, World.cell?_setCell_same (h := (h.at' i hi).1)]
  · rw [if_neg e, World.cell?_setCell_other (h := by simp)]
    exact (h.at' i hi).1
theorem bufn_conv {w : World} {B m c : Nat} {f : Nat → Int} (h : BufN w B m f) (l : List Int) (hl : l.length = m) (hf : ∀ i, i < m → f i = l.getD i 0) :
    (convert 43 9 (.slice (some ⟨B, 0, none⟩) m c)).run Try.prog w = .ok (.string (strOfNums l)) w :=
  run_convert_bytes_arg (P := Try.prog) _ 43 5 Try.underlying43 Try.underlying5 B 0 m c l hl (fun i hi => by
    rw [Nat.zero_add, (h.at' i hi).1, hf i hi]) 9 Try.underlying9
/-- So many numbers in a block. -/
def Nums (w : World) (B : Nat) (l : List Int) : Prop := B < w.heap.size ∧ ∀ i, i < l.length → w.cell? ⟨B, i, none⟩ = some (.int .i64 (l.getD i 0))
theorem Nums.keep {w w' : World} {B A : Nat} {l : List Int} (h : Nums w B l) (hA : B < A) (k : Below A w w') : Nums w' B l :=
  ⟨Nat.lt_of_lt_of_le h.1 k.size, fun i hi => (k.cell hA).trans (h.2 i hi)⟩

set_option maxHeartbeats 400000 in
theorem isPort_ok (n : Int) (w : World) :
    Calls Try.prog 9 #[.int .i64 n] w fun e w' => e = .returned (.bool (decide (0 ≤ n ∧ n ≤ 65535))) ∧ w = w' := by
  by_cases h : 0 ≤ n
  · by_cases h' : n ≤ 65535
    · have d : decide (0 ≤ n ∧ n ≤ 65535) = true := decide_eq_true ⟨h, h'⟩
      rw [d]
      go_enter Try.func9, Try.ntmps9
      go_wp2
      go_ret
      exact ⟨rfl, rfl⟩
    · have d : decide (0 ≤ n ∧ n ≤ 65535) = false := decide_eq_false (fun x => h' x.2)
      rw [d]
      go_enter Try.func9, Try.ntmps9
      go_wp2
      go_ret
      exact ⟨rfl, rfl⟩
  · have d : decide (0 ≤ n ∧ n ≤ 65535) = false := decide_eq_false (fun x => h x.1)
    rw [d]
    go_enter Try.func9, Try.ntmps9
    go_wp2
    go_ret
    exact ⟨rfl, rfl⟩

set_option maxHeartbeats 2000000 in
theorem cut4 (l : List Int) (hl : l.length = 4) (w : World) (B : Nat) (h : Nums w B l) :
    Calls Try.prog 11 #[.slice (some ⟨B, 0, none⟩) 4 4] w fun e w' => e = .returned (.string (strOfNums (ws l))) ∧ Below w.heap.size w w' := by
  have hmk : ∀ w, (Instr.makeSlice 43 (.int .i64 0) (.int .i64 8)).run Try.prog w = .ok (.slice (some ⟨w.heap.size, 0, none⟩) 0 8) (w.alloc (.cells #[.int .u8 0, .int .u8 0, .int .u8 0, .int .u8 0, .int .u8 0, .int .u8 0, .int .u8 0, .int .u8 0] 5)) := fun _ => by kernel_rfl
  have hle := ws_length l
  go_enter Try.func11, Try.ntmps11
  go_wp2
  clear hmk
  go_loopw [3, 12] (fun o i w' => ∃ k : Nat, k ≤ 4 ∧ i = .int .i64 k ∧ o = .slice (some ⟨w.heap.size, 0, none⟩) (2 * k) 8 ∧ ∃ f, BufN w' w.heap.size 8 f ∧ (∀ j, j < 2 * k → f j = (ws l).getD j 0) ∧ Below w.heap.size w w') (fun _ i _ => 4 - (intOf i).toNat)
  case atStart =>
    refine ⟨0, Nat.zero_le _, rfl, rfl, fun _ => 0, ⟨by simp, fun i hi => ⟨?_, by simp⟩⟩, fun j hj => absurd hj (by omega), (Below.refl _ _).alloc (Nat.le_refl _) _⟩
    rw [World.cell?_alloc_new]
    rcases i with _|_|_|_|_|_|_|_|i
    all_goals first | rfl | omega
  case round =>
    obtain ⟨k, hk, rfl, rfl, f, bf, hf, bel⟩ := hrel
    by_cases hlt : k < 4
    · have N := h.keep (A := w.heap.size) h.1 bel
      have c0 := N.2 k (by omega)
      have hb := bf.lt
      obtain ⟨c1, z1⟩ := bf.at' (2 * k) (by omega)
      obtain ⟨c2, z2⟩ := bf.at' (2 * k + 1) (by omega)
      have e1 := ws_even l k
      have e2 := ws_odd l k
      have hlt' : decide ((k : Int) < 4) = true := decide_eq_true (by omega)
      generalize l.getD k 0 = x at *
      go_wp2
      go_roundw
      case rel =>
        refine ⟨k + 1, by omega, by go_num, rfl, _, ((bf.set (2 * k) (x / 256 % 256)).set (2 * k + 1) (x % 256)).alloc _, fun j hj => ?_, bel.trans (below_set2 _ _ _ _ _ _ _ hb)⟩
        unfold upd
        by_cases j1 : j = 2 * k + 1
        · rw [if_pos j1, j1, e2]
        · rw [if_neg j1]
          by_cases j2 : j = 2 * k
          · rw [if_pos j2, j2, e1]
          · rw [if_neg j2]
            exact hf j (by omega)
      case measure => simp [intOf]; omega
    · obtain rfl : k = 4 := by omega
      have cv := bufn_conv (c := 8) bf (ws l) (by omega) hf
      go_wp2
      go_ret
      exact ⟨rfl, bel⟩

set_option maxHeartbeats 2000000 in
theorem cut10 (l : List Int) (hl : l.length = 10) (w : World) (B : Nat) (h : Nums w B l) :
    Calls Try.prog 11 #[.slice (some ⟨B, 0, none⟩) 10 10] w fun e w' => e = .returned (.string (strOfNums (ws l))) ∧ Below w.heap.size w w' := by
  have hmk : ∀ w, (Instr.makeSlice 43 (.int .i64 0) (.int .i64 20)).run Try.prog w = .ok (.slice (some ⟨w.heap.size, 0, none⟩) 0 20) (w.alloc (.cells #[.int .u8 0, .int .u8 0, .int .u8 0, .int .u8 0, .int .u8 0, .int .u8 0, .int .u8 0, .int .u8 0, .int .u8 0, .int .u8 0, .int .u8 0, .int .u8 0, .int .u8 0, .int .u8 0, .int .u8 0, .int .u8 0, .int .u8 0, .int .u8 0, .int .u8 0, .int .u8 0] 5)) := fun _ => by kernel_rfl
  have hle := ws_length l
  go_enter Try.func11, Try.ntmps11
  go_wp2
  clear hmk
  go_loopw [3, 12] (fun o i w' => ∃ k : Nat, k ≤ 10 ∧ i = .int .i64 k ∧ o = .slice (some ⟨w.heap.size, 0, none⟩) (2 * k) 20 ∧ ∃ f, BufN w' w.heap.size 20 f ∧ (∀ j, j < 2 * k → f j = (ws l).getD j 0) ∧ Below w.heap.size w w') (fun _ i _ => 10 - (intOf i).toNat)
  case atStart =>
    refine ⟨0, Nat.zero_le _, rfl, rfl, fun _ => 0, ⟨by simp, fun i hi => ⟨?_, by simp⟩⟩, fun j hj => absurd hj (by omega), (Below.refl _ _).alloc (Nat.le_refl _) _⟩
    rw [World.cell?_alloc_new]
    rcases i with _|_|_|_|_|_|_|_|_|_|_|_|_|_|_|_|_|_|_|_|i
    all_goals first | rfl | omega
  case round =>
    obtain ⟨k, hk, rfl, rfl, f, bf, hf, bel⟩ := hrel
    by_cases hlt : k < 10
    · have N := h.keep (A := w.heap.size) h.1 bel
      have c0 := N.2 k (by omega)
      have hb := bf.lt
      obtain ⟨c1, z1⟩ := bf.at' (2 * k) (by omega)
      obtain ⟨c2, z2⟩ := bf.at' (2 * k + 1) (by omega)
      have e1 := ws_even l k
      have e2 := ws_odd l k
      have hlt' : decide ((k : Int) < 10) = true := decide_eq_true (by omega)
      generalize l.getD k 0 = x at *
      go_wp2
      go_roundw
      case rel =>
        refine ⟨k + 1, by omega, by go_num, rfl, _, ((bf.set (2 * k) (x / 256 % 256)).set (2 * k + 1) (x % 256)).alloc _, fun j hj => ?_, bel.trans (below_set2 _ _ _ _ _ _ _ hb)⟩
        unfold upd
        by_cases j1 : j = 2 * k + 1
        · rw [if_pos j1, j1, e2]
        · rw [if_neg j1]
          by_cases j2 : j = 2 * k
          · rw [if_pos j2, j2, e1]
          · rw [if_neg j2]
            exact hf j (by omega)
      case measure => simp [intOf]; omega
    · obtain rfl : k = 10 := by omega
      have cv := bufn_conv (c := 20) bf (ws l) (by omega) hf
      go_wp2
      go_ret
      exact ⟨rfl, bel⟩
end Go.Proofs.Ytaloccmfpehhcab
