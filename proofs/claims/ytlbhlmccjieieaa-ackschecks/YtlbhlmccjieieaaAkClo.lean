/-
  The four closures that place is handed, and what place answers with each: the first range that begins at a number or below, or ends below it. Right ranges, at most sixteen; no other condition.
-/
import Derived.Test.YtlbhlmccjieieaaAkPlace
import Derived.Test.YtlbhlmccjieieaaAkFind
namespace Go.Proofs.Ytlbhlmccjieieaa
set_option maxRecDepth 100000
open Go.RowKit Go.Sort

set_option maxHeartbeats 400000 in
theorem has1_ok (x y a : Int) (K : Nat) (w : World) (hK : w.cell? ⟨K, 0, none⟩ = some (.int .i64 a)) :
    Calls Try.prog 27 (#[.agg #[.int .i64 x, .int .i64 y]] ++ #[.pointer (some ⟨K, 0, none⟩)]) w fun e w' => e = .returned (.bool (decide (x ≤ a))) ∧ Below w.heap.size w w' := by
  rw [show (#[.agg #[.int .i64 x, .int .i64 y]] ++ #[.pointer (some ⟨K, 0, none⟩)] : Array Value) = #[.agg #[.int .i64 x, .int .i64 y], .pointer (some ⟨K, 0, none⟩)] from rfl]
  have hlt := World.block_lt_of_cell? w _ hK
  have b := (Below.refl w.heap.size w).alloc (Nat.le_refl _) (.cells #[.int .i64 x, .int .i64 y] 38)
  have cK := (b.cell hlt).trans hK
  go_enter Try.func27, Try.ntmps27
  go_wp2
  go_ret
  exact ⟨rfl, b⟩
set_option maxHeartbeats 400000 in
theorem drop1_ok (x y a : Int) (K : Nat) (w : World) (hK : w.cell? ⟨K, 0, none⟩ = some (.int .i64 a)) :
    Calls Try.prog 21 (#[.agg #[.int .i64 x, .int .i64 y]] ++ #[.pointer (some ⟨K, 0, none⟩)]) w fun e w' => e = .returned (.bool (decide (y < a))) ∧ Below w.heap.size w w' := by
  rw [show (#[.agg #[.int .i64 x, .int .i64 y]] ++ #[.pointer (some ⟨K, 0, none⟩)] : Array Value) = #[.agg #[.int .i64 x, .int .i64 y], .pointer (some ⟨K, 0, none⟩)] from rfl]
  have hlt := World.block_lt_of_cell? w _ hK
  have b := (Below.refl w.heap.size w).alloc (Nat.le_refl _) (.cells #[.int .i64 x, .int .i64 y] 38)
  have cK := (b.cell hlt).trans hK
  go_enter Try.func21, Try.ntmps21
  go_wp2
  go_ret
  exact ⟨rfl, b⟩
set_option maxHeartbeats 400000 in
theorem add1_ok (x y a : Int) (K : Nat) (w : World) (hK : w.cell? ⟨K, 0, none⟩ = some (.int .i64 a)) (ha : 0 ≤ a ∧ a ≤ 4611686018427387903) :
    Calls Try.prog 22 (#[.agg #[.int .i64 x, .int .i64 y]] ++ #[.pointer (some ⟨K, 0, none⟩)]) w fun e w' => e = .returned (.bool (decide (x ≤ a + 1))) ∧ Below w.heap.size w w' := by
  rw [show (#[.agg #[.int .i64 x, .int .i64 y]] ++ #[.pointer (some ⟨K, 0, none⟩)] : Array Value) = #[.agg #[.int .i64 x, .int .i64 y], .pointer (some ⟨K, 0, none⟩)] from rfl]
  have hlt := World.block_lt_of_cell? w _ hK
  have b := (Below.refl w.heap.size w).alloc (Nat.le_refl _) (.cells #[.int .i64 x, .int .i64 y] 38)
  have cK := (b.cell hlt).trans hK
  go_enter Try.func22, Try.ntmps22
  go_wp2
  go_ret
  exact ⟨rfl, b⟩
set_option maxHeartbeats 400000 in
theorem add2_ok (x y a : Int) (K : Nat) (w : World) (hK : w.cell? ⟨K, 0, none⟩ = some (.int .i64 a)) (ha : 0 ≤ a ∧ a ≤ 4611686018427387903) :
    Calls Try.prog 23 (#[.agg #[.int .i64 x, .int .i64 y]] ++ #[.pointer (some ⟨K, 0, none⟩)]) w fun e w' => e = .returned (.bool (decide (y < a - 1))) ∧ Below w.heap.size w w' := by
  rw [show (#[.agg #[.int .i64 x, .int .i64 y]] ++ #[.pointer (some ⟨K, 0, none⟩)] : Array Value) = #[.agg #[.int .i64 x, .int .i64 y], .pointer (some ⟨K, 0, none⟩)] from rfl]
  have hlt := World.block_lt_of_cell? w _ hK
  have b := (Below.refl w.heap.size w).alloc (Nat.le_refl _) (.cells #[.int .i64 x, .int .i64 y] 38)
  have cK := (b.cell hlt).trans hK
  go_enter Try.func23, Try.ntmps23
  go_wp2
  go_ret
  exact ⟨rfl, b⟩
theorem fhas_ok (B K : Nat) (sv : Value) (l : List Rg) (a : Int) (w : World) (ok : Ok l) (h0 : w.cell? ⟨B, 0, none⟩ = some sv) (ho : w.ownsRow 0 38 2 sv l.length (rgs l)) (hK : w.cell? ⟨K, 0, none⟩ = some (.int .i64 a)) :
    Calls Try.prog 20 #[.pointer (some ⟨B, 0, none⟩), .func (.func 27) #[] #[.pointer (some ⟨K, 0, none⟩)]] w fun e w' => e = .returned (.int .i64 (lowAt l a : Nat)) ∧ Below w.heap.size w w' := by
  refine (place_ok B K sv l 27 (fun r => decide (r.1 ≤ a)) a w h0 ho ok.2 hK (by intro x w; simp [go_sem]) ?_ (fun x y w' h => has1_ok x y a K w' h)).mono ?_
  · intro i j hij hj h
    have := right_rise ok.1 i j hij hj
    simp only [decide_eq_true_eq] at h ⊢
    omega
  · rintro e w' ⟨k, rfl, hk, k1, k2, b⟩
    rw [lowAt_is a k hk (fun i hi => by have := k1 i hi; simpa using this) (fun q => by have := k2 q; simpa using this)]
    exact ⟨rfl, b⟩
theorem fdrop_ok (B K : Nat) (sv : Value) (l : List Rg) (a : Int) (w : World) (ok : Ok l) (h0 : w.cell? ⟨B, 0, none⟩ = some sv) (ho : w.ownsRow 0 38 2 sv l.length (rgs l)) (hK : w.cell? ⟨K, 0, none⟩ = some (.int .i64 a)) :
    Calls Try.prog 20 #[.pointer (some ⟨B, 0, none⟩), .func (.func 21) #[] #[.pointer (some ⟨K, 0, none⟩)]] w fun e w' => e = .returned (.int .i64 (highAt l a : Nat)) ∧ Below w.heap.size w w' := by
  refine (place_ok B K sv l 21 (fun r => decide (r.2 < a)) a w h0 ho ok.2 hK (by intro x w; simp [go_sem]) ?_ (fun x y w' h => drop1_ok x y a K w' h)).mono ?_
  · intro i j hij hj h
    have := right_rise ok.1 i j hij hj
    simp only [decide_eq_true_eq] at h ⊢
    omega
  · rintro e w' ⟨k, rfl, hk, k1, k2, b⟩
    rw [highAt_is a k hk (fun i hi => by have := k1 i hi; simpa using this) (fun q => by have := k2 q; simpa using this)]
    exact ⟨rfl, b⟩
theorem fadd1_ok (B K : Nat) (sv : Value) (l : List Rg) (a : Int) (w : World) (ok : Ok l) (h0 : w.cell? ⟨B, 0, none⟩ = some sv) (ho : w.ownsRow 0 38 2 sv l.length (rgs l)) (hK : w.cell? ⟨K, 0, none⟩ = some (.int .i64 a)) (ha : 0 ≤ a ∧ a ≤ 4611686018427387903) :
    Calls Try.prog 20 #[.pointer (some ⟨B, 0, none⟩), .func (.func 22) #[] #[.pointer (some ⟨K, 0, none⟩)]] w fun e w' => e = .returned (.int .i64 (lowAt l (a + 1) : Nat)) ∧ Below w.heap.size w w' := by
  refine (place_ok B K sv l 22 (fun r => decide (r.1 ≤ a + 1)) a w h0 ho ok.2 hK (by intro x w; simp [go_sem]) ?_ (fun x y w' h => add1_ok x y a K w' h ha)).mono ?_
  · intro i j hij hj h
    have := right_rise ok.1 i j hij hj
    simp only [decide_eq_true_eq] at h ⊢
    omega
  · rintro e w' ⟨k, rfl, hk, k1, k2, b⟩
    rw [lowAt_is (a + 1) k hk (fun i hi => by have := k1 i hi; simpa using this) (fun q => by have := k2 q; simpa using this)]
    exact ⟨rfl, b⟩
theorem fadd2_ok (B K : Nat) (sv : Value) (l : List Rg) (a : Int) (w : World) (ok : Ok l) (h0 : w.cell? ⟨B, 0, none⟩ = some sv) (ho : w.ownsRow 0 38 2 sv l.length (rgs l)) (hK : w.cell? ⟨K, 0, none⟩ = some (.int .i64 a)) (ha : 0 ≤ a ∧ a ≤ 4611686018427387903) :
    Calls Try.prog 20 #[.pointer (some ⟨B, 0, none⟩), .func (.func 23) #[] #[.pointer (some ⟨K, 0, none⟩)]] w fun e w' => e = .returned (.int .i64 (highAt l (a - 1) : Nat)) ∧ Below w.heap.size w w' := by
  refine (place_ok B K sv l 23 (fun r => decide (r.2 < a - 1)) a w h0 ho ok.2 hK (by intro x w; simp [go_sem]) ?_ (fun x y w' h => add2_ok x y a K w' h ha)).mono ?_
  · intro i j hij hj h
    have := right_rise ok.1 i j hij hj
    simp only [decide_eq_true_eq] at h ⊢
    omega
  · rintro e w' ⟨k, rfl, hk, k1, k2, b⟩
    rw [highAt_is (a - 1) k hk (fun i hi => by have := k1 i hi; simpa using this) (fun q => by have := k2 q; simpa using this)]
    exact ⟨rfl, b⟩
end Go.Proofs.Ytlbhlmccjieieaa
