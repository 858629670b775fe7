/-
  Packets as a slice tells them; tests that are handed in as closures; what slices.IndexFunc answers. No condition.
-/
import Derived.Test.YtfjampommgkfeaaLgRefB
import Derived.Laws.CopyRow
namespace Go.Proofs.Ytfjampommgkfeaa
set_option maxRecDepth 100000
open Go.RowKit Go.Sort

theorem info_ppk : ∃ i, Try.prog.info? 58 = some i ∧ i.zero = some (.agg #[.int .i64 0, .int .i64 0, .int .i64 0]) ∧ i.size = 3 ∧ i.bytes = 24 := by
  have h : (Try.prog.info? 58).map (fun i => (i.zero, i.size, i.bytes)) = some (some (.agg #[.int .i64 0, .int .i64 0, .int .i64 0]), 3, 24) := by kernel_rfl
  obtain ⟨i, hi, e⟩ := Option.map_eq_some_iff.1 h
  injection e with e1 e2
  injection e2 with e2 e3
  exact ⟨i, hi, e1, e2, e3⟩
theorem at_ppk (B o N cap i : Nat) (w : World) (h : i < N) (z : Int) (hz : z = i) (p : Nat) (hp : p = o + 3 * i) :
    (Instr.indexAt 54 (.slice (some ⟨B, o, none⟩) N cap) (.int .i64 z)).run Try.prog w = .ok (.pointer (some ⟨B, p, none⟩)) w := by
  subst hz hp
  have e : Try.prog.elem 54 = 58 := by kernel_rfl
  rw [run_indexAt_slice (P := Try.prog) w 54 ⟨B, o, none⟩ N cap .i64 i (by rw [e]; exact Try.underlying54), if_pos (by omega), e]
  have s : (sizeOf 58).run Try.prog w = .ok 3 w := Try.sizeOf58 w
  rw [s]
  simp [Addr.add_mid, Nat.mul_comm]
/-- Packets as a slice tells them. -/
def PkAt (w : World) (v : Value) (l : List Pk) : Prop :=
  ∃ a cap, v = .slice a l.length cap ∧ (l = [] ∨ ∃ g o, a = some ⟨g, o, none⟩ ∧ ∀ k, k < l.length → w.cell? ⟨g, o + 3 * k, none⟩ = some (.int .i64 (l.getD k (0, 0, 0)).1) ∧ w.cell? ⟨g, o + 3 * k + 1, none⟩ = some (.int .i64 (l.getD k (0, 0, 0)).2.1) ∧ w.cell? ⟨g, o + 3 * k + 2, none⟩ = some (.int .i64 (l.getD k (0, 0, 0)).2.2))
theorem own_pkAt {w : World} {b : Nat} {t : TypeId} {sv : Value} {l : List Pk} (h : w.ownsRow b t 3 sv l.length (pks l)) : PkAt w sv l := by
  rcases h.2 with ⟨rfl, h0⟩ | ⟨g, cap, cur, rfl, hr⟩
  · have e : l = [] := List.eq_nil_of_length_eq_zero h0
    subst e
    exact ⟨none, 0, rfl, .inl rfl⟩
  · refine ⟨_, cap, rfl, .inr ⟨g, 0, rfl, fun k hk => ?_⟩⟩
    have := (row_cells h k hk).2
    rw [Nat.zero_add]
    exact this
theorem PkAt.keep {w w' : World} {v : Value} {l : List Pk} (h : PkAt w v l) (b : Below w.heap.size w w') : PkAt w' v l := by
  obtain ⟨a, cap, rfl, hc⟩ := h
  refine ⟨a, cap, rfl, ?_⟩
  rcases hc with h | ⟨g, o, rfl, hc⟩
  · exact .inl h
  · refine .inr ⟨g, o, rfl, fun k hk => ?_⟩
    obtain ⟨c1, c2, c3⟩ := hc k hk
    exact ⟨(b.cell (World.block_lt_of_cell? w _ c1)).trans c1, (b.cell (World.block_lt_of_cell? w _ c2)).trans c2, (b.cell (World.block_lt_of_cell? w _ c3)).trans c3⟩

/-- A test of packets as a closure: in every world that keeps I it answers by t, and lays only new blocks. -/
def TstP (f : FuncId) (caps : Array Value) (t : Pk → Bool) (I : World → Prop) : Prop :=
  (∀ x w, (callFunc f (#[x] ++ caps)).run Try.prog w = .ok (.enter f (#[x] ++ caps)) w) ∧ (∀ p w, I w → Calls Try.prog f (#[.agg #[.int .i64 p.1, .int .i64 p.2.1, .int .i64 p.2.2]] ++ caps) w fun e w' => e = .returned (.bool (t p)) ∧ Below w.heap.size w w')
set_option maxHeartbeats 4000000 in
theorem idxP_ok (s : Value) (l : List Pk) (f : FuncId) (caps : Array Value) (t : Pk → Bool) (I : World → Prop) (w : World) (hs : PkAt w s l) (hl : l.length < 9223372036854775807) (hk : ∀ w', Below w.heap.size w w' → I w') (ht : TstP f caps t I) :
    Calls Try.prog 42 #[s, .func (.func f) #[] caps] w fun e w' => ∃ k : Nat, k ≤ l.length ∧ e = .returned (.int .i64 (if k < l.length then (k : Int) else -1)) ∧ (∀ i, i < k → t (l.getD i (0, 0, 0)) = false) ∧ (k < l.length → t (l.getD k (0, 0, 0)) = true) ∧ Below w.heap.size w w' := by
  obtain ⟨hcf, hC⟩ := ht
  obtain ⟨a, cap, rfl, hc⟩ := hs
  replace hc : Hid _ := hc
  replace hC : Hid _ := hC
  replace hk : Hid _ := hk

  go_enter Try.func42, Try.ntmps42
  go_wp2
  go_loopg [8] l.length (fun g' iv wr => ∃ k : Nat, k + g' = l.length ∧ iv = .int .i64 k ∧ Hid (∀ i, i < k → t (l.getD i (0, 0, 0)) = false) ∧ Hid (Below w.heap.size w wr))
  case atStart => exact ⟨0, by omega, rfl, fun i hi => by omega, Below.refl _ _⟩
  case round =>
    obtain ⟨k, hkk, rfl, hno, bel⟩ := hrel
    by_cases hlt : k < l.length
    · have g1 : decide ((k : Int) < (l.length : Int)) = true := decide_eq_true (by omega)
      rcases hc.out with hc0 | ⟨g, po, rfl, hc1⟩
      · rw [hc0] at hlt; simp at hlt
      · obtain ⟨d0, d1, d2⟩ := hc1 k hlt
        replace d0 := (bel.out.cell (World.block_lt_of_cell? w _ d0)).trans d0
        replace d1 := (bel.out.cell (World.block_lt_of_cell? w _ d1)).trans d1
        replace d2 := (bel.out.cell (World.block_lt_of_cell? w _ d2)).trans d2
        have ia := fun w' => at_ppk g po l.length cap k w' hlt (k : Int) rfl (po + 3 * k) rfl
        have C := hC.out (l.getD k (0, 0, 0)) wr (hk.out wr bel.out)
        replace C : Hid _ := C
        cases htk : t (l.getD k (0, 0, 0))
        · rw [htk] at C
          have hno2 : Hid (∀ i, i < k + 1 → t (l.getD i (0, 0, 0)) = false) := fun i hi => by
            by_cases e : i = k
            · rw [e]; exact htk
            · exact hno.out i (by omega)
          replace htk : Hid _ := htk
          clear hc1 hno
          generalize (l.getD k (0, 0, 0)).1 = x at *
          generalize (l.getD k (0, 0, 0)).2.1 = y at *
          generalize (l.getD k (0, 0, 0)).2.2 = z at *
          go_wp2_with fail
          refine Calls.mono C.out ?_
          rintro e w1 ⟨rfl, b1⟩
          have bel2 : Hid (Below w.heap.size w w1) := bel.out.trans (b1.mono bel.out.size)
          clear b1 C bel
          go_wp2_with fail
          go_roundg (l.length - (k + 1))
          case measure => omega
          case rel => exact ⟨k + 1, by omega, by go_num, hno2, bel2⟩
        · rw [htk] at C
          have fin : Hid (∃ k', k' ≤ l.length ∧ Ending.returned (.int .i64 (k : Int)) = .returned (.int .i64 (if k' < l.length then (k' : Int) else -1)) ∧ (∀ i, i < k' → t (l.getD i (0, 0, 0)) = false) ∧ (k' < l.length → t (l.getD k' (0, 0, 0)) = true)) := ⟨k, by omega, by rw [if_pos hlt], hno.out, fun _ => htk⟩
          replace htk : Hid _ := htk
          clear hc1 hno
          generalize (l.getD k (0, 0, 0)).1 = x at *
          generalize (l.getD k (0, 0, 0)).2.1 = y at *
          generalize (l.getD k (0, 0, 0)).2.2 = z at *
          go_wp2_with fail
          refine Calls.mono C.out ?_
          rintro e w1 ⟨rfl, b1⟩
          have bel2 : Hid (Below w.heap.size w w1) := bel.out.trans (b1.mono bel.out.size)
          clear b1 C bel
          go_wp2_with fail
          go_ret
          obtain ⟨k', q1, q2, q3, q4⟩ := fin.out
          exact ⟨k', q1, q2, q3, q4, bel2.out⟩
    · have g1 : decide ((k : Int) < (l.length : Int)) = false := decide_eq_false (by omega)
      obtain rfl : k = l.length := by omega
      clear hc
      go_wp2_with fail
      go_ret
      exact ⟨l.length, Nat.le_refl _, by rw [if_neg (by omega)]; rfl, hno.out, fun q => absurd q (by omega), bel.out⟩
theorem conP_any (l : List Pk) (t : Pk → Bool) (k : Nat) (hk : k ≤ l.length) (h1 : ∀ i, i < k → t (l.getD i (0, 0, 0)) = false) (h2 : k < l.length → t (l.getD k (0, 0, 0)) = true) : l.any t = decide (0 ≤ (if k < l.length then (k : Int) else -1)) := by
  by_cases q : k < l.length
  · rw [if_pos q, decide_eq_true (by omega)]
    exact List.any_eq_true.2 ⟨l.getD k (0, 0, 0), by simp [List.getD, List.getElem?_eq_getElem q], h2 q⟩
  · rw [if_neg q, decide_eq_false (by omega), List.any_eq_false]
    intro x hx
    obtain ⟨i, hi, e⟩ := List.getElem_of_mem hx
    have := h1 i (by omega)
    simp [List.getD, List.getElem?_eq_getElem hi, e] at this
    simp [this]
set_option maxHeartbeats 1000000 in
theorem conP_ok (s : Value) (l : List Pk) (f : FuncId) (caps : Array Value) (t : Pk → Bool) (I : World → Prop) (w : World) (hs : PkAt w s l) (hl : l.length < 9223372036854775807) (hk : ∀ w', Below w.heap.size w w' → I w') (ht : TstP f caps t I) :
    Calls Try.prog 34 #[s, .func (.func f) #[] caps] w fun e w' => e = .returned (.bool (l.any t)) ∧ Below w.heap.size w w' := by
  have C : Hid _ := idxP_ok s l f caps t I w hs hl hk ht
  clear hs hk ht
  go_enter Try.func34, Try.ntmps34
  go_wp2_with fail
  refine Calls.mono C.out ?_
  rintro e w1 ⟨k, h1, rfl, h2, h3, b⟩
  have e := conP_any l t k h1 h2 h3
  replace e : Hid _ := e
  generalize (if k < l.length then (k : Int) else -1) = z at *
  clear h1 h2 h3
  replace b : Hid _ := b
  go_wp2_with fail
  go_ret
  exact ⟨by rw [e.out]; rfl, b.out⟩

/-- A test of ranges as a closure: in every world that keeps I it answers by t, and lays only new blocks. -/
def TstR (f : FuncId) (caps : Array Value) (t : Rg → Bool) (I : World → Prop) : Prop :=
  (∀ x w, (callFunc f (#[x] ++ caps)).run Try.prog w = .ok (.enter f (#[x] ++ caps)) w) ∧ (∀ p w, I w → Calls Try.prog f (#[.agg #[.int .i64 p.1, .int .i64 p.2]] ++ caps) w fun e w' => e = .returned (.bool (t p)) ∧ Below w.heap.size w w')
set_option maxHeartbeats 4000000 in
theorem idxR_ok (s : Value) (l : List Rg) (f : FuncId) (caps : Array Value) (t : Rg → Bool) (I : World → Prop) (w : World) (hs : RgAt w s l) (hl : l.length < 9223372036854775807) (hk : ∀ w', Below w.heap.size w w' → I w') (ht : TstR f caps t I) :
    Calls Try.prog 43 #[s, .func (.func f) #[] caps] w fun e w' => ∃ k : Nat, k ≤ l.length ∧ e = .returned (.int .i64 (if k < l.length then (k : Int) else -1)) ∧ (∀ i, i < k → t (l.getD i (0, 0)) = false) ∧ (k < l.length → t (l.getD k (0, 0)) = true) ∧ Below w.heap.size w w' := by
  obtain ⟨hcf, hC⟩ := ht
  obtain ⟨a, cap, rfl, hc⟩ := hs
  replace hc : Hid _ := hc
  replace hC : Hid _ := hC
  replace hk : Hid _ := hk

  go_enter Try.func43, Try.ntmps43
  go_wp2
  go_loopg [8] l.length (fun g' iv wr => ∃ k : Nat, k + g' = l.length ∧ iv = .int .i64 k ∧ Hid (∀ i, i < k → t (l.getD i (0, 0)) = false) ∧ Hid (Below w.heap.size w wr))
  case atStart => exact ⟨0, by omega, rfl, fun i hi => by omega, Below.refl _ _⟩
  case round =>
    obtain ⟨k, hkk, rfl, hno, bel⟩ := hrel
    by_cases hlt : k < l.length
    · have g1 : decide ((k : Int) < (l.length : Int)) = true := decide_eq_true (by omega)
      rcases hc.out with hc0 | ⟨g, po, rfl, hc1⟩
      · rw [hc0] at hlt; simp at hlt
      · obtain ⟨d0, d1⟩ := hc1 k hlt
        replace d0 := (bel.out.cell (World.block_lt_of_cell? w _ d0)).trans d0
        replace d1 := (bel.out.cell (World.block_lt_of_cell? w _ d1)).trans d1
        have ia := fun w' => at_rgs g po l.length cap k w' hlt (k : Int) rfl (po + 2 * k) rfl
        have C := hC.out (l.getD k (0, 0)) wr (hk.out wr bel.out)
        replace C : Hid _ := C
        cases htk : t (l.getD k (0, 0))
        · rw [htk] at C
          have hno2 : Hid (∀ i, i < k + 1 → t (l.getD i (0, 0)) = false) := fun i hi => by
            by_cases e : i = k
            · rw [e]; exact htk
            · exact hno.out i (by omega)
          replace htk : Hid _ := htk
          clear hc1 hno
          generalize (l.getD k (0, 0)).1 = x at *
          generalize (l.getD k (0, 0)).2 = y at *
          go_wp2_with fail
          refine Calls.mono C.out ?_
          rintro e w1 ⟨rfl, b1⟩
          have bel2 : Hid (Below w.heap.size w w1) := bel.out.trans (b1.mono bel.out.size)
          clear b1 C bel
          go_wp2_with fail
          go_roundg (l.length - (k + 1))
          case measure => omega
          case rel => exact ⟨k + 1, by omega, by go_num, hno2, bel2⟩
        · rw [htk] at C
          have fin : Hid (∃ k', k' ≤ l.length ∧ Ending.returned (.int .i64 (k : Int)) = .returned (.int .i64 (if k' < l.length then (k' : Int) else -1)) ∧ (∀ i, i < k' → t (l.getD i (0, 0)) = false) ∧ (k' < l.length → t (l.getD k' (0, 0)) = true)) := ⟨k, by omega, by rw [if_pos hlt], hno.out, fun _ => htk⟩
          replace htk : Hid _ := htk
          clear hc1 hno
          generalize (l.getD k (0, 0)).1 = x at *
          generalize (l.getD k (0, 0)).2 = y at *
          go_wp2_with fail
          refine Calls.mono C.out ?_
          rintro e w1 ⟨rfl, b1⟩
          have bel2 : Hid (Below w.heap.size w w1) := bel.out.trans (b1.mono bel.out.size)
          clear b1 C bel
          go_wp2_with fail
          go_ret
          obtain ⟨k', q1, q2, q3, q4⟩ := fin.out
          exact ⟨k', q1, q2, q3, q4, bel2.out⟩
    · have g1 : decide ((k : Int) < (l.length : Int)) = false := decide_eq_false (by omega)
      obtain rfl : k = l.length := by omega
      clear hc
      go_wp2_with fail
      go_ret
      exact ⟨l.length, Nat.le_refl _, by rw [if_neg (by omega)]; rfl, hno.out, fun q => absurd q (by omega), bel.out⟩
theorem conR_any (l : List Rg) (t : Rg → Bool) (k : Nat) (hk : k ≤ l.length) (h1 : ∀ i, i < k → t (l.getD i (0, 0)) = false) (h2 : k < l.length → t (l.getD k (0, 0)) = true) : l.any t = decide (0 ≤ (if k < l.length then (k : Int) else -1)) := by
  by_cases q : k < l.length
  · rw [if_pos q, decide_eq_true (by omega)]
    exact List.any_eq_true.2 ⟨l.getD k (0, 0), by simp [List.getD, List.getElem?_eq_getElem q], h2 q⟩
  · rw [if_neg q, decide_eq_false (by omega), List.any_eq_false]
    intro x hx
    obtain ⟨i, hi, e⟩ := List.getElem_of_mem hx
    have := h1 i (by omega)
    simp [List.getD, List.getElem?_eq_getElem hi, e] at this
    simp [this]
set_option maxHeartbeats 1000000 in
theorem conR_ok (s : Value) (l : List Rg) (f : FuncId) (caps : Array Value) (t : Rg → Bool) (I : World → Prop) (w : World) (hs : RgAt w s l) (hl : l.length < 9223372036854775807) (hk : ∀ w', Below w.heap.size w w' → I w') (ht : TstR f caps t I) :
    Calls Try.prog 39 #[s, .func (.func f) #[] caps] w fun e w' => e = .returned (.bool (l.any t)) ∧ Below w.heap.size w w' := by
  have C : Hid _ := idxR_ok s l f caps t I w hs hl hk ht
  clear hs hk ht
  go_enter Try.func39, Try.ntmps39
  go_wp2_with fail
  refine Calls.mono C.out ?_
  rintro e w1 ⟨k, h1, rfl, h2, h3, b⟩
  have e := conR_any l t k h1 h2 h3
  replace e : Hid _ := e
  generalize (if k < l.length then (k : Int) else -1) = z at *
  clear h1 h2 h3
  replace b : Hid _ := b
  go_wp2_with fail
  go_ret
  exact ⟨by rw [e.out]; rfl, b.out⟩
end Go.Proofs.Ytfjampommgkfeaa
