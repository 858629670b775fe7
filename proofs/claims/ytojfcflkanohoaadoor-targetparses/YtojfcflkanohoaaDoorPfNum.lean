/-
  What the document's own Number answers, for numbers from 0 to 999. No other condition.
-/
import Derived.Test.YtojfcflkanohoaaDoorPfWr
namespace Go.Proofs.YtojfcflkanohoaaDoor
open Go.RowKit

/-- 'string(b)' of one byte that was made just ahead. -/
theorem pfconv1 (w : World) (x : Int) :
    (convert 65 9 (.slice (some ⟨w.heap.size, 0, none⟩) 1 1)).run Tryd.prog (w.alloc (.cells #[.int .u8 x] 5)) = .ok (.string (strOfNums [x])) (w.alloc (.cells #[.int .u8 x] 5)) :=
  run_convert_bytes_arg (P := Tryd.prog) _ 65 5 Tryd.underlying65 Tryd.underlying5 w.heap.size 0 1 1 [x] rfl (fun i hi => by
    obtain rfl : i = 0 := by omega
    exact World.cell?_alloc_new _ _ _ 0) 9 Tryd.underlying9
theorem pfconv2 (w : World) (o : Obj) (x : Int) :
    (convert 65 9 (.slice (some ⟨w.heap.size + 1, 0, none⟩) 1 1)).run Tryd.prog ((w.alloc o).alloc (.cells #[.int .u8 x] 5)) = .ok (.string (strOfNums [x])) ((w.alloc o).alloc (.cells #[.int .u8 x] 5)) := by
  have := pfconv1 (w.alloc o) x
  simpa using this
theorem pfconv3 (w : World) (o o' : Obj) (x : Int) :
    (convert 65 9 (.slice (some ⟨w.heap.size + 1 + 1, 0, none⟩) 1 1)).run Tryd.prog (((w.alloc o).alloc o').alloc (.cells #[.int .u8 x] 5)) = .ok (.string (strOfNums [x])) (((w.alloc o).alloc o').alloc (.cells #[.int .u8 x] 5)) := by
  have := pfconv1 ((w.alloc o).alloc o') x
  simpa using this
set_option maxHeartbeats 1000000 in
theorem pfnum1 (n : Int) (w : World) (h0 : 0 ≤ n) (h : n < 10) :
    Calls Tryd.prog 26 #[.int .i64 n] w fun e w' => e = .returned (.string (strOfNums [48 + n])) ∧ Below w.heap.size w w' := by
  have hcv := pfconv1
  have e1 : n % 10 = n := by omega
  have e2 : n / 10 = 0 := by omega
  go_enter Tryd.func26, Tryd.ntmps26
  go_wp2
  go_rounds 1
  go_ret
  exact ⟨rfl, (Below.refl _ _).alloc (Nat.le_refl _) _⟩
set_option maxHeartbeats 1000000 in
theorem pfnum2 (n : Int) (w : World) (h0 : 10 ≤ n) (h : n < 100) :
    Calls Tryd.prog 26 #[.int .i64 n] w fun e w' => e = .returned (.string (strOfNums [48 + n / 10, 48 + n % 10])) ∧ Below w.heap.size w w' := by
  have hcv := pfconv1
  have hcw := pfconv2
  have hcx := pfconv3
  have e1 : n / 10 % 10 = n / 10 := by omega
  have e2 : n / 10 / 10 = 0 := by omega
  have z1 : ∀ x, (strOfNums [x]).size = 1 := fun x => strOfNums_size _
  have j : strOfNums [48 + n / 10] ++ strOfNums [48 + n % 10] = strOfNums [48 + n / 10, 48 + n % 10] := pf_append _ _
  rw [← j]
  clear j
  go_enter Tryd.func26, Tryd.ntmps26
  go_wp2
  go_rounds 2
  go_ret
  exact ⟨rfl, ((Below.refl _ _).alloc (Nat.le_refl _) _).alloc (by simp) _⟩
set_option maxHeartbeats 1000000 in
theorem pfnum3 (n : Int) (w : World) (h0 : 100 ≤ n) (h : n < 1000) :
    Calls Tryd.prog 26 #[.int .i64 n] w fun e w' => e = .returned (.string (strOfNums [48 + n / 100, 48 + n / 10 % 10, 48 + n % 10])) ∧ Below w.heap.size w w' := by
  have hcv := pfconv1
  have hcw := pfconv2
  have hcx := pfconv3
  have e1 : n / 10 / 10 % 10 = n / 100 := by omega
  have e2 : n / 10 / 10 / 10 = 0 := by omega
  have z1 : ∀ x, (strOfNums [x]).size = 1 := fun x => strOfNums_size _
  have j : strOfNums [48 + n / 100] ++ (strOfNums [48 + n / 10 % 10] ++ strOfNums [48 + n % 10]) = strOfNums [48 + n / 100, 48 + n / 10 % 10, 48 + n % 10] := by rw [pf_append, pf_append]; rfl
  rw [← j]
  clear j
  go_enter Tryd.func26, Tryd.ntmps26
  go_wp2
  go_rounds 3
  go_ret
  exact ⟨rfl, (((Below.refl _ _).alloc (Nat.le_refl _) _).alloc (by simp) _).alloc (by simp; omega) _⟩
theorem number_ok (n : Int) (w : World) (h0 : 0 ≤ n) (h : n < 1000) :
    Calls Tryd.prog 26 #[.int .i64 n] w fun e w' => e = .returned (.string (strOfNums (dd n))) ∧ Below w.heap.size w w' := by
  unfold dd
  by_cases h1 : n < 10
  · rw [if_pos h1]; exact pfnum1 n w h0 h1
  · rw [if_neg h1]
    by_cases h2 : n < 100
    · rw [if_pos h2]; exact pfnum2 n w (by omega) h2
    · rw [if_neg h2]; exact pfnum3 n w (by omega) h
end Go.Proofs.YtojfcflkanohoaaDoor
