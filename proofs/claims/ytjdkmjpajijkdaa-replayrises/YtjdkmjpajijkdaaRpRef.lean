/-
  What the document's own Top, Check and See of a window answer, and what they leave: the numbers that were seen, in a row of its own. Fewer than 2^40 numbers; no other condition.
-/
import Derived.Test.YtjdkmjpajijkdaaRpMath
import Derived.Test.YtjdkmjpajijkdaaObCells
import Derived.Deep.LoopGhost
import Derived.Lib.QuietBelow
import Derived.BigQuiet
import Derived.RegionTactic
import Derived.Laws.OwnMore
namespace Go.Proofs.Ytjdkmjpajijkdaa
set_option maxRecDepth 100000
open Go.RowKit Go.Sort

/-- Numbers as cells. -/
def i64s (l : List Int) : List Value := l.map (Value.int .i64)
theorem i64s_length (l : List Int) : (i64s l).length = l.length := List.length_map ..
theorem i64s_get (l : List Int) (k : Nat) (h : k < l.length) : (i64s l)[k]? = some (.int .i64 (l.getD k 0)) := by
  unfold i64s
  simp [List.getD, List.getElem?_eq_getElem h]
theorem at_i64s (B o N cap i : Nat) (w : World) (h : i < N) (z : Int) (hz : z = i) (p : Nat) (hp : p = o + i) :
    (Instr.indexAt 22 (.slice (some ⟨B, o, none⟩) N cap) (.int .i64 z)).run Try.prog w = .ok (.pointer (some ⟨B, p, none⟩)) w := by
  subst hz hp
  have e : Try.prog.elem 22 = 2 := by kernel_rfl
  rw [run_indexAt_slice (P := Try.prog) w 22 ⟨B, o, none⟩ N cap .i64 i (by rw [e]; exact Try.underlying22), if_pos (by omega), e]
  have s : (sizeOf 2).run Try.prog w = .ok 1 w := Try.sizeOf2 w
  rw [s]
  simp [Addr.add_mid]
theorem owns_block {w w' : World} {base size n : Nat} {e : TypeId} {v : Value} {xs : List Value} (h : w.ownsRow base e size v n xs) (b : ∀ k, v.ownBlock = some k → w'.heap[k]? = w.heap[k]?) : w'.ownsRow base e size v n xs := by
  refine ⟨h.1, ?_⟩
  rcases h.2 with h | ⟨g, cap, cur, h1, h2, h3, h4⟩
  · exact .inl h
  · exact .inr ⟨g, cap, cur, h1, h2, (b g (by rw [h1]; rfl)).trans h3, h4⟩
theorem own_cell {w : World} {b g n cap : Nat} {l : List Int} (h : w.ownsRow b 2 1 (.slice (some ⟨g, 0, none⟩) n cap) n (i64s l)) (k : Nat) (hk : k < n) (hl : l.length = n) : w.cell? ⟨g, k, none⟩ = some (.int .i64 (l.getD k 0)) := by
  rw [h.cellAt k (by omega), i64s_get l k (by omega)]
set_option maxHeartbeats 4000000 in
theorem rtop_b (R : Nat) (sv : Value) (l : List Int) (w : World) (h : Lies w R [sv]) (ho : w.ownsRow (R + 1) 2 1 sv l.length (i64s l)) (hl : l.length < 1099511627776) :
    Calls Try.prog 13 #[.pointer (some ⟨R, 0, none⟩)] w fun e w' => e = .returned (.tuple #[.int .i64 (top l), .bool (decide (0 < l.length))]) ∧ Below w.heap.size w w' := by
  have c0 := h.cell 0 (v := sv) rfl
  obtain ⟨M, hM⟩ : ∃ M, M = l.length := ⟨_, rfl⟩
  rcases ho.2 with ⟨rfl, h0⟩ | ⟨g, cap, cur, rfl, -, -, -⟩
  · have e : l = [] := List.eq_nil_of_length_eq_zero h0
    subst e
    clear h ho hl
    have et : top [] = 0 := rfl
    rw [et]
    go_enter Try.func13, Try.ntmps13
    go_wp2
    go_rounds 1
    go_region
    go_wp2
    go_ret2
    exact ⟨rfl, drewB _ _⟩
  · have hc : Hid (∀ k, k < M → w.cell? ⟨g, k, none⟩ = some (.int .i64 (l.getD k 0))) := fun k hk => own_cell ho k (by omega) rfl
    rw [← hM] at c0 hl ⊢
    obtain ⟨T, hT⟩ : ∃ T, T = top l := ⟨_, rfl⟩
    rw [← hT]
    replace hT : Hid _ := hT
    replace hM : Hid _ := hM
    clear h ho
    go_enter Try.func13, Try.ntmps13
    go_wp2
    go_loopg [4, 5] M (fun g tv iv wr => ∃ (k : Nat) (t : Int), k + g = M ∧ iv = .int .i64 k ∧ tv = .int .i64 t ∧ Hid (t = top (l.take k)) ∧ w = wr)
    case atStart => exact ⟨0, 0, by omega, rfl, rfl, rfl, rfl⟩
    case round =>
      obtain ⟨k, t, hk, rfl, rfl, ht, rfl⟩ := hrel
      by_cases hlt : k < M
      · have g1 : decide ((k : Int) < (M : Int)) = true := decide_eq_true (by omega)
        have c1 := hc.out k hlt
        have ia := fun w' => at_i64s g 0 M cap k w' hlt (k : Int) rfl k (by omega)
        have e := top_take_succ l k (by have := hM.out; omega)
        rw [← ht.out] at e
        replace e : Hid _ := e
        clear ht hc
        generalize l.getD k 0 = x at *
        by_cases q : x ≤ t
        · have em : Hid (t = top (l.take (k + 1))) := by unfold Hid; rw [e.out]; omega
          have nq : ¬ t < x := by omega
          go_wp2
          go_roundg (M - (k + 1))
          case measure => omega
          case rel => exact ⟨k + 1, t, by omega, by go_num, rfl, em, rfl⟩
        · have em : Hid (x = top (l.take (k + 1))) := by unfold Hid; rw [e.out]; omega
          have nq : t < x := by omega
          go_wp2
          go_roundg (M - (k + 1))
          case measure => omega
          case rel => exact ⟨k + 1, x, by omega, by go_num, rfl, em, rfl⟩
      · have g1 : decide ((k : Int) < (M : Int)) = false := decide_eq_false (by omega)
        obtain rfl : k = M := by omega
        have e : t = T := by rw [ht.out, hT.out, hM.out, List.take_length]
        subst e
        clear hc ht hT hM
        go_wp2
        go_region
        go_wp2
        go_ret2
        exact ⟨rfl, drewB _ _⟩
end Go.Proofs.Ytjdkmjpajijkdaa
