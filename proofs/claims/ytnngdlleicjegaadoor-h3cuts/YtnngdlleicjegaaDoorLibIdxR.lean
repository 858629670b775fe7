/-
  Tests of ranges that are handed in as closures; what slices.IndexFunc and ContainsFunc over ranges answer. No condition.
-/
import Derived.Test.YtnngdlleicjegaaDoorAkRow
import Derived.Test.YtnngdlleicjegaaDoorObCells
import Derived.Deep.LoopGhost
import Derived.Lib.QuietBelow
import Derived.Laws.CopyRow
namespace Go.Proofs.YtnngdlleicjegaaDoor
set_option maxRecDepth 100000
open Go.RowKit Go.Sort

/-- A test of ranges as a closure: in every world that keeps I it answers by t, and lays only new blocks. -/
def TstR (f : FuncId) (caps : Array Value) (t : Rg → Bool) (I : World → Prop) : Prop :=
  (∀ x w, (callFunc f (#[x] ++ caps)).run Tryd.prog w = .ok (.enter f (#[x] ++ caps)) w) ∧ (∀ p w, I w → Calls Tryd.prog f (#[.agg #[.int .i64 p.1, .int .i64 p.2]] ++ caps) w fun e w' => e = .returned (.bool (t p)) ∧ Below w.heap.size w w')
set_option maxHeartbeats 4000000 in
theorem idxR_ok (s : Value) (l : List Rg) (f : FuncId) (caps : Array Value) (t : Rg → Bool) (I : World → Prop) (w : World) (hs : RgAt w s l) (hl : l.length < 9223372036854775807) (hk : ∀ w', Below w.heap.size w w' → I w') (ht : TstR f caps t I) :
    Calls Tryd.prog 51 #[s, .func (.func f) #[] caps] w fun e w' => ∃ k : Nat, k ≤ l.length ∧ e = .returned (.int .i64 (if k < l.length then (k : Int) else -1)) ∧ (∀ i, i < k → t (l.getD i (0, 0)) = false) ∧ (k < l.length → t (l.getD k (0, 0)) = true) ∧ Below w.heap.size w w' := by
  obtain ⟨hcf, hC⟩ := ht
  obtain ⟨a, cap, rfl, hc⟩ := hs
  replace hc : Hid _ := hc
  replace hC : Hid _ := hC
  replace hk : Hid _ := hk

  go_enter Tryd.func51, Tryd.ntmps51
  go_wp2
  go_loopg [8] l.length (fun g' iv wr => ∃ k : Nat, k + g' = l.length ∧ iv = .int .i64 k ∧ Hid (∀ i, i < k → t (l.getD i (0, 0)) = false) ∧ Hid (Below w.heap.size w wr))
  case atStart => exact ⟨0, by omega, rfl, fun i hi => by omega, Below.refl _ _⟩
  case round =>
    obtain ⟨k, hkk, rfl, hno, bel⟩ := hrel
    by_cases hlt : k < l.length
    · have g1 : decide ((k : Int) < (l.length : Int)) = true := decide_eq_true (by omega)
      rcases hc.out with hc0 | ⟨g, po, rfl, hc1⟩
      · rw [hc0] at hlt; simp at hlt
      · obtain ⟨d0, d1⟩ := hc1 k hlt
        replace d0 := (bel.out.cell (World.block_lt_of_cell? w _ d0)).trans d0
        replace d1 := (bel.out.cell (World.block_lt_of_cell? w _ d1)).trans d1
        have ia := fun w' => at_rgs g po l.length cap k w' hlt (k : Int) rfl (po + 2 * k) rfl
        have C := hC.out (l.getD k (0, 0)) wr (hk.out wr bel.out)
        replace C : Hid _ := C
        cases htk : t (l.getD k (0, 0))
        · rw [htk] at C
          have hno2 : Hid (∀ i, i < k + 1 → t (l.getD i (0, 0)) = false) := fun i hi => by
            by_cases e : i = k
            · rw [e]; exact htk
            · exact hno.out i (by omega)
          replace htk : Hid _ := htk
          clear hc1 hno
          generalize (l.getD k (0, 0)).1 = x at *
          generalize (l.getD k (0, 0)).2 = y at *
          go_wp2_with fail
          refine Calls.mono C.out ?_
          rintro e w1 ⟨rfl, b1⟩
          have bel2 : Hid (Below w.heap.size w w1) := bel.out.trans (b1.mono bel.out.size)
          clear b1 C bel
          go_wp2_with fail
          go_roundg (l.length - (k + 1))
          case measure => omega
          case rel => exact ⟨k + 1, by omega, by go_num, hno2, bel2⟩
        · rw [htk] at C
          have fin : Hid (∃ k', k' ≤ l.length ∧ Ending.returned (.int .i64 (k : Int)) = .returned (.int .i64 (if k' < l.length then (k' : Int) else -1)) ∧ (∀ i, i < k' → t (l.getD i (0, 0)) = false) ∧ (k' < l.length → t (l.getD k' (0, 0)) = true)) := ⟨k, by omega, by rw [if_pos hlt], hno.out, fun _ => htk⟩
          replace htk : Hid _ := htk
          clear hc1 hno
          generalize (l.getD k (0, 0)).1 = x at *
          generalize (l.getD k (0, 0)).2 = y at *
          go_wp2_with fail
          refine Calls.mono C.out ?_
          rintro e w1 ⟨rfl, b1⟩
          have bel2 : Hid (Below w.heap.size w w1) := bel.out.trans (b1.mono bel.out.size)
          clear b1 C bel
          go_wp2_with fail
          go_ret
          obtain ⟨k', q1, q2, q3, q4⟩ := fin.out
          exact ⟨k', q1, q2, q3, q4, bel2.out⟩
    · have g1 : decide ((k : Int) < (l.length : Int)) = false := decide_eq_false (by omega)
      obtain rfl : k = l.length := by omega
      clear hc
      go_wp2_with fail
      go_ret
      exact ⟨l.length, Nat.le_refl _, by rw [if_neg (by omega)]; rfl, hno.out, fun q => absurd q (by omega), bel.out⟩
theorem conR_any (l : List Rg) (t : Rg → Bool) (k : Nat) (hk : k ≤ l.length) (h1 : ∀ i, i < k → t (l.getD i (0, 0)) = false) (h2 : k < l.length → t (l.getD k (0, 0)) = true) : l.any t = decide (0 ≤ (if k < l.length then (k : Int) else -1)) := by
  by_cases q : k < l.length
  · rw [if_pos q, decide_eq_true (by omega)]
    exact List.any_eq_true.2 ⟨l.getD k (0, 0), by simp [List.getD, List.getElem?_eq_getElem q], h2 q⟩
  · rw [if_neg q, decide_eq_false (by omega), List.any_eq_false]
    intro x hx
    obtain ⟨i, hi, e⟩ := List.getElem_of_mem hx
    have := h1 i (by omega)
    simp [List.getD, List.getElem?_eq_getElem hi, e] at this
    simp [this]
set_option maxHeartbeats 1000000 in
theorem conR_ok (s : Value) (l : List Rg) (f : FuncId) (caps : Array Value) (t : Rg → Bool) (I : World → Prop) (w : World) (hs : RgAt w s l) (hl : l.length < 9223372036854775807) (hk : ∀ w', Below w.heap.size w w' → I w') (ht : TstR f caps t I) :
    Calls Tryd.prog 40 #[s, .func (.func f) #[] caps] w fun e w' => e = .returned (.bool (l.any t)) ∧ Below w.heap.size w w' := by
  have C : Hid _ := idxR_ok s l f caps t I w hs hl hk ht
  clear hs hk ht
  go_enter Tryd.func40, Tryd.ntmps40
  go_wp2_with fail
  refine Calls.mono C.out ?_
  rintro e w1 ⟨k, h1, rfl, h2, h3, b⟩
  have e := conR_any l t k h1 h2 h3
  replace e : Hid _ := e
  generalize (if k < l.length then (k : Int) else -1) = z at *
  clear h1 h2 h3
  replace b : Hid _ := b
  go_wp2_with fail
  go_ret
  exact ⟨by rw [e.out]; rfl, b.out⟩
end Go.Proofs.YtnngdlleicjegaaDoor
