/-
  What the program's own Check answers. No condition.
-/
import Derived.Test.YtfjampommgkfeaaAkRow
namespace Go.Proofs.Ytfjampommgkfeaa
set_option maxRecDepth 100000
open Go.RowKit Go.Sort

/-- The highest number that the range at a place may have. -/
def hof (l : List Rg) (k : Nat) : Int := if k = 0 then 4611686018427387903 else (l.getD (k - 1) (0, 0)).1 - 2
theorem hof_ok (l : List Rg) (k : Nat) (h : ∀ i, i < k → okAt l i = true) : okAt l k = true ↔ 0 ≤ (l.getD k (0, 0)).1 ∧ (l.getD k (0, 0)).1 ≤ (l.getD k (0, 0)).2 ∧ (l.getD k (0, 0)).2 ≤ hof l k := by
  unfold okAt hof
  rw [Bool.and_eq_true, fine_iff]
  cases k with
  | zero => simp; omega
  | succ k =>
    have h1 := h k (by omega)
    unfold okAt at h1
    rw [Bool.and_eq_true, fine_iff] at h1
    have h2 := h1.1
    rw [Nat.add_sub_cancel]
    clear h h1
    generalize l.getD k (0, 0) = q at *
    generalize l.getD (k + 1) (0, 0) = p at *
    simp
    omega
theorem hof_all (l : List Rg) (h : ∀ i, i < l.length → okAt l i = true) : (List.range l.length).all (okAt l) = true := by
  rw [List.all_eq_true]
  intro i hi
  exact h i (by simpa using hi)
theorem hof_not (l : List Rg) (k : Nat) (hk : k < l.length) (h : ¬ okAt l k = true) : (List.range l.length).all (okAt l) = false := by
  rw [Bool.eq_false_iff]
  intro e
  rw [List.all_eq_true] at e
  exact h (e k (by simpa using hk))
set_option maxHeartbeats 4000000 in
theorem pchk_ok (v : Value) (l : List Rg) (w : World) (hv : RgAt w v l) (hm : l.length < 9223372036854775807) (hb : ∀ x ∈ l, (-9223372036854775808 ≤ x.1 ∧ x.1 ≤ 9223372036854775807) ∧ (-9223372036854775808 ≤ x.2 ∧ x.2 ≤ 9223372036854775807)) :
    Calls Try.prog 23 #[v] w fun e w' => e = .returned (.int .i64 (chkR l)) ∧ Below w.heap.size w w' := by
  obtain ⟨a, cap, rfl, hc⟩ := hv
  unfold chkR
  by_cases hbig : 16 < l.length
  · rw [if_pos hbig]
    have g1 : decide ((16 : Int) < (l.length : Int)) = true := decide_eq_true (by omega)
    clear hc hb
    go_enter Try.func23, Try.ntmps23
    go_wp2
    go_ret
    exact ⟨rfl, Below.refl _ _⟩
  · rw [if_neg hbig]
    have g0 : decide ((16 : Int) < (l.length : Int)) = false := decide_eq_false (by omega)
    obtain ⟨M, hM⟩ : ∃ M, M = l.length := ⟨_, rfl⟩
    obtain ⟨A, hA⟩ : ∃ A, A = (if (List.range l.length).all (okAt l) then (0 : Int) else 2) := ⟨_, rfl⟩
    rw [← hA]
    replace hA : Hid _ := hA
    rcases hc with rfl | ⟨g, o, rfl, hc⟩
    · obtain rfl : A = 0 := hA.out
      clear hA hb hM
      go_enter Try.func23, Try.ntmps23
      go_wp2
      go_rounds 1
      go_ret
      exact ⟨rfl, Below.refl _ _⟩
    · replace hc : Hid _ := hc
      rw [← hM] at hc g0 hm hbig ⊢
      replace hM : Hid _ := hM
      replace hb : Hid _ := hb
      have hh0 : Hid (hof l 0 = 4611686018427387903) := rfl
      go_enter Try.func23, Try.ntmps23
      go_wp2
      go_loopg [3, 11] M (fun g hv iv wr => ∃ k : Nat, k + g = M ∧ iv = .int .i64 k ∧ hv = .int .i64 (hof l k) ∧ Hid (∀ i, i < k → okAt l i = true) ∧ Hid (Below w.heap.size w wr))
      case atStart => exact ⟨0, by omega, rfl, by rw [hh0.out], fun i hi => by omega, Below.refl _ _⟩
      case round =>
        obtain ⟨k, hk, rfl, rfl, hall, bel⟩ := hrel
        by_cases hlt : k < M
        · have g1 : decide ((k : Int) < (M : Int)) = true := decide_eq_true (by omega)
          have hkl : k < l.length := by have := hM.out; omega
          obtain ⟨d1, d2⟩ := hc.out k hlt
          have c1 := (bel.out.cell (World.block_lt_of_cell? w _ d1)).trans d1
          have c2 := (bel.out.cell (World.block_lt_of_cell? w _ d2)).trans d2
          have ia := fun w' => at_rgs g o M cap k w' hlt (k : Int) rfl (o + 2 * k) rfl
          have ht : Hid _ := hof_ok l k hall.out
          have hn : Hid _ := hof_not l k hkl
          have hs : hof l (k + 1) = (l.getD k (0, 0)).1 - 2 := by unfold hof; rw [if_neg (by omega), Nat.add_sub_cancel]
          have hbx := (hb.out _ (show l.getD k (0, 0) ∈ l by simp [List.getD, List.getElem?_eq_getElem hkl])).1
          clear d1 d2 hkl
          generalize (l.getD k (0, 0)).1 = x at *
          generalize (l.getD k (0, 0)).2 = y at *
          generalize hof l k = H at *
          have bel2 := bel.out.alloc bel.out.size (.cells #[.int .i64 x, .int .i64 y] 50)
          replace bel2 : Hid _ := bel2
          by_cases q : 0 ≤ x ∧ x ≤ y ∧ y ≤ H
          · obtain ⟨q1, q2, q3⟩ := q
            have hall2 : Hid (∀ i, i < k + 1 → okAt l i = true) := fun i hi => by
              by_cases e : i = k
              · rw [e]; exact ht.out.2 ⟨q1, q2, q3⟩
              · exact hall.out i (by omega)
            have p1 : decide (x < 0) = false := decide_eq_false (by omega)
            have p2 : decide (y < x) = false := decide_eq_false (by omega)
            have p3 : decide (H < y) = false := decide_eq_false (by omega)
            have hw : IntKind.i64.wrap (x - 2) = x - 2 := by rw [IntKind.wrap_i64]; omega
            replace hs : Hid _ := hs
            clear ht hn hall bel
            go_wp2
            go_roundg (M - (k + 1))
            case measure => omega
            case rel => exact ⟨k + 1, by omega, by go_num, by rw [hs.out], hall2, bel2⟩
          · have eA : A = 2 := by
              rw [hA.out, hn.out (fun e => q (ht.out.1 e))]
              rfl
            subst eA
            clear ht hn hall bel hs hA
            by_cases q1 : x < 0
            · have p1 : decide (x < 0) = true := decide_eq_true q1
              go_wp2
              go_ret
              exact ⟨rfl, bel2.out⟩
            · have p1 : decide (x < 0) = false := decide_eq_false q1
              by_cases q2 : y < x
              · have p2 : decide (y < x) = true := decide_eq_true q2
                go_wp2
                go_ret
                exact ⟨rfl, bel2.out⟩
              · have p2 : decide (y < x) = false := decide_eq_false q2
                have p3 : decide (H < y) = true := decide_eq_true (by omega)
                go_wp2
                go_ret
                exact ⟨rfl, bel2.out⟩
        · have g1 : decide ((k : Int) < (M : Int)) = false := decide_eq_false (by omega)
          obtain rfl : k = M := by omega
          have eA : A = 0 := by
            rw [hA.out, hof_all l (by rw [← hM.out]; exact hall.out)]
            rfl
          subst eA
          clear hA hall hc
          go_wp2
          go_ret
          exact ⟨rfl, bel.out⟩
end Go.Proofs.Ytfjampommgkfeaa
