/-
  Plain facts: one range, and packets that all lie in it. No condition.
-/
import Derived.Test.YtfjampommgkfeaaLgFace
namespace Go.Proofs.Ytfjampommgkfeaa
set_option maxRecDepth 100000
open Go.RowKit Go.Sort

theorem one_ok {lo hi : Int} (h0 : 0 ≤ lo) (h1 : lo ≤ hi) (h2 : hi ≤ 4611686018427387903) : chkR [(lo, hi)] = 0 :=
  Ok.chk ⟨⟨h0, h1, h2, fun y hy => (by cases hy), trivial⟩, by show 1 ≤ 16; decide⟩
/-- All that is on its way is told. -/
theorem ack_all {d : Ld} {lo hi : Int} (hp : ∀ p ∈ d.l, lo ≤ p.1 ∧ p.1 ≤ hi) (ht : hi ≤ d.top) (h0 : 0 ≤ lo) (h1 : lo ≤ hi) (h2 : hi ≤ 4611686018427387903) :
    ackE d [(lo, hi)] = 0 ∧ toldN d [(lo, hi)] = nosP d.l ∧ lostN d [(lo, hi)] = [] ∧ acked d [(lo, hi)] = { d with l := [], win := growAll d.thr d.l d.win, bo := if d.l = [] then d.bo else 0 } := by
  have hh : ∀ p ∈ d.l, hasR [(lo, hi)] p.1 = true := fun p q => (hasR_iff _ _).2 ⟨(lo, hi), List.mem_singleton.2 rfl, hp p q⟩
  have e1 : toldP d [(lo, hi)] = d.l := List.filter_eq_self.2 hh
  have e2 : restP d [(lo, hi)] = [] := List.filter_eq_nil_iff.2 fun p q => by simp [hh p q]
  have e3 : lostP d [(lo, hi)] = [] := by unfold lostP; rw [e2]; rfl
  have e4 : leftP d [(lo, hi)] = [] := by unfold leftP; rw [e2]; rfl
  have e0 : ackE d [(lo, hi)] = 0 := by
    unfold ackE
    refine if_neg ?_
    rintro (q | ⟨-, q⟩)
    · exact q (one_ok h0 h1 h2)
    · have : hiR [(lo, hi)] = hi := rfl
      omega
  refine ⟨e0, ?_, ?_, ?_⟩
  · unfold toldN; rw [if_pos e0, e1]
  · unfold lostN; rw [if_pos e0, e3]; rfl
  · unfold acked; rw [if_pos e0]; unfold ack lose; rw [e3, e4, e1]; rfl
theorem ack_far {d : Ld} {lo hi : Int} (ht : d.top < hi) : ackE d [(lo, hi)] = 2 ∧ acked d [(lo, hi)] = d := by
  have e0 : ackE d [(lo, hi)] = 2 := if_pos (.inr ⟨by simp, ht⟩)
  exact ⟨e0, by unfold acked; rw [e0]; rfl⟩
/-- k packets of a size, sent at tick 0. -/
def sendsA : Nat → Ld
  | 0 => ld0
  | k + 1 => sent (sendsA k) k 0 100
theorem sendsA_is (k : Nat) (hk : k ≤ 1000) : (sendsA k).l.length = k ∧ (sendsA k).top = (k : Int) - 1 ∧ ∀ p ∈ (sendsA k).l, 0 ≤ p.1 ∧ p.1 ≤ (k : Int) - 1 := by
  induction k with
  | zero => exact ⟨rfl, rfl, fun p hp => by cases hp⟩
  | succ k ih =>
    obtain ⟨h1, h2, h3⟩ := ih (by omega)
    have e0 : sentE (sendsA k) k 100 = 0 := sentE_zero.2 ⟨by omega, by omega, by omega, by decide, by decide⟩
    have e : sendsA (k + 1) = { sendsA k with l := (sendsA k).l ++ [((k : Int), 0, 100)], top := (k : Int) } := by show sent _ _ _ _ = _; unfold sent; rw [if_pos e0]
    rw [e]
    refine ⟨by simp [h1], by simp, fun p hp => ?_⟩
    rcases List.mem_append.1 hp with q | q
    · have := h3 p q
      push_cast
      omega
    · rw [List.mem_singleton.1 q]
      push_cast
      show 0 ≤ (k : Int) ∧ (k : Int) ≤ _
      omega
end Go.Proofs.Ytfjampommgkfeaa
