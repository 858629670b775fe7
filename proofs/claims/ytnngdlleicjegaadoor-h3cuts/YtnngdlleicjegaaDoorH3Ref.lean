/-
  The document's own reader in memory, and what its wrong and End answer. No condition.
-/
import Derived.Test.YtnngdlleicjegaaDoorH3Laws
import Derived.Test.YtnngdlleicjegaaDoorObCells
namespace Go.Proofs.YtnngdlleicjegaaDoor
set_option maxRecDepth 100000
open Go.RowKit

/-- The document's reader. -/
def rdV (s : ByteArray) (r : Hr) : List Value := [.bool r.ctl, .string s, .bool r.beg, .bool r.fst, .int .i64 (r.left : Int), .bool r.pas, .int .i64 r.code]
def RH (w : World) (R : Nat) (r : Hr) : Prop := ∃ s, toL s = r.s ∧ Lies w R (rdV s r)
theorem RH.keep {w w' : World} {R : Nat} {r : Hr} (h : RH w R r) (b : Below w.heap.size w w') : RH w' R r := by
  obtain ⟨s, hs, h⟩ := h
  exact ⟨s, hs, h.keep (by show 0 < 7; decide) b⟩
set_option maxHeartbeats 4000000 in
theorem rwrong15_ok (w : World) (R : Nat) (r : Hr) (h : RH w R r) (k : Nat) (hk : k < 4611686018427387904) :
    Calls Tryd.prog 26 #[.pointer (some ⟨R, 0, none⟩), .int .i64 (k : Int)] w fun e w' => e = .returned (.int .i64 (wrongC r.ctl r.fst k)) ∧ Below w.heap.size w w' := by
  obtain ⟨s, hs, h⟩ := h
  obtain ⟨c, rs, b, f, l, p, cd⟩ := r
  have c0 := h.cell 0 (v := .bool c) rfl
  have c3 := h.cell 3 (v := .bool f) rfl
  clear h hs
  obtain ⟨E, hE⟩ : ∃ E, E = wrongC c f k := ⟨_, rfl⟩
  change Calls Tryd.prog 26 #[.pointer (some ⟨R, 0, none⟩), .int .i64 (k : Int)] w fun e w' => e = .returned (.int .i64 (wrongC c f k)) ∧ Below w.heap.size w w'
  rw [← hE]
  unfold wrongC hUnexp hMissing at hE
  by_cases k0 : k = 0
  · subst k0
    cases c <;> cases f <;> simp at hE <;> subst hE <;> (
      go_enter Tryd.func26, Tryd.ntmps26
      go_wp2
      go_ret
      exact ⟨rfl, Below.refl _ _⟩)
  by_cases k1 : k = 1
  · subst k1
    cases c <;> cases f <;> simp at hE <;> subst hE <;> (
      go_enter Tryd.func26, Tryd.ntmps26
      go_wp2
      go_ret
      exact ⟨rfl, Below.refl _ _⟩)
  by_cases k4 : k = 4
  · subst k4
    cases c <;> cases f <;> simp at hE <;> subst hE <;> (
      go_enter Tryd.func26, Tryd.ntmps26
      go_wp2
      go_ret
      exact ⟨rfl, Below.refl _ _⟩)
  by_cases k7 : k = 7
  · subst k7
    cases c <;> cases f <;> simp at hE <;> subst hE <;> (
      go_enter Tryd.func26, Tryd.ntmps26
      go_wp2
      go_ret
      exact ⟨rfl, Below.refl _ _⟩)
  have y0 : ((k : Int) != 0) = true := bne_iff_ne.2 (by omega)
  have y1 : ((k : Int) != 1) = true := bne_iff_ne.2 (by omega)
  have y4 : ((k : Int) != 4) = true := bne_iff_ne.2 (by omega)
  have y7 : ((k : Int) != 7) = true := bne_iff_ne.2 (by omega)
  rw [if_pos ⟨k0, k1, k4, k7⟩] at hE
  subst hE
  clear k0 k1 k4 k7
  go_enter Tryd.func26, Tryd.ntmps26
  go_wp2
  go_ret
  exact ⟨rfl, Below.refl _ _⟩
theorem toL_nil {s : ByteArray} (h : toL s = []) : s = ⟨#[]⟩ := toL_inj h
theorem toL_emp (s : ByteArray) : s.toList.isEmpty = (toL s).isEmpty := by
  rw [ByteArray.toList_eq]
  rfl
set_option maxHeartbeats 4000000 in
theorem rend15_ok (w : World) (R : Nat) (r : Hr) (h : RH w R r) :
    Calls Tryd.prog 14 #[.pointer (some ⟨R, 0, none⟩)] w fun e w' => e = .returned (.int .i64 r.fin) ∧ Below w.heap.size w w' := by
  obtain ⟨s, hs, h⟩ := h
  obtain ⟨E, hE⟩ : ∃ E, E = r.fin := ⟨_, rfl⟩
  rw [← hE]
  obtain ⟨c, rs, b, f, l, p, cd⟩ := r
  change toL s = rs at hs
  have c0 := h.cell 0 (v := .bool c) rfl
  have c1 := h.cell 1 (v := .string s) rfl
  have c2 := h.cell 2 (v := .bool b) rfl
  have c3 := h.cell 3 (v := .bool f) rfl
  have c4 := h.cell 4 (v := .int .i64 (l : Int)) rfl
  have c6 := h.cell 6 (v := .int .i64 cd) rfl
  unfold Hr.fin hFrame hMessage at hE
  simp only at hE
  clear h
  have em := toL_emp s
  rw [hs] at em
  by_cases z : cd = 0
  · subst z
    rw [if_neg (by simp)] at hE
    cases rs with
    | cons x rs =>
      rw [if_pos (.inl (by simp))] at hE
      subst hE
      have em2 : s.toList.isEmpty = false := em
      clear em hs
      go_enter Tryd.func14, Tryd.ntmps14
      go_wp2_with fail
      go_ret
      exact ⟨rfl, Below.refl _ _⟩
    | nil =>
      have em2 : s.toList.isEmpty = true := em
      clear em hs
      by_cases y : 0 < l
      · rw [if_pos (.inr (.inl y))] at hE
        subst hE
        have y1 : decide ((0 : Int) < (l : Int)) = true := decide_eq_true (by omega)
        have y2 : decide (0 < l) = true := decide_eq_true y
        go_enter Tryd.func14, Tryd.ntmps14
        go_wp2_with fail
        go_ret
        exact ⟨rfl, Below.refl _ _⟩
      · obtain rfl : l = 0 := by omega
        cases c <;> cases b <;> cases f <;> simp at hE <;> subst hE <;> (
          go_enter Tryd.func14, Tryd.ntmps14
          go_wp2_with fail
          go_ret
          exact ⟨rfl, Below.refl _ _⟩)
  · rw [if_pos z] at hE
    subst hE
    have z1 : (E != 0) = true := bne_iff_ne.2 z
    clear em hs
    go_enter Tryd.func14, Tryd.ntmps14
    go_wp2_with fail
    go_ret
    exact ⟨rfl, Below.refl _ _⟩
end Go.Proofs.YtnngdlleicjegaaDoor
