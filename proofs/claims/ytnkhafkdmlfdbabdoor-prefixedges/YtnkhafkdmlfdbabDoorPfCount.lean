/-
  Plain facts: addresses from one to another are covered by at most 62 prefixes, and each is in just one of them. No condition but those that are named.
-/
import Derived.Test.YtnkhafkdmlfdbabDoorPfCov
namespace Go.Proofs.YtnkhafkdmlfdbabDoor
open Go.RowKit

theorem p2_succ (e : Nat) : (2 : Int) ^ (e + 1) = 2 * 2 ^ e := by rw [Int.pow_succ, Int.mul_comm]
theorem p2_pos (e : Nat) : (0 : Int) < 2 ^ e := Int.pow_pos (by decide)
theorem p2_le (d e : Nat) (h : d ≤ e) : (2 : Int) ^ d ≤ 2 ^ e := by
  obtain ⟨k, rfl⟩ := Nat.exists_eq_add_of_le h
  induction k with
  | zero => exact Int.le_refl _
  | succ k ih =>
    have := ih (by omega)
    have := p2_pos (d + k)
    rw [← Nat.add_assoc, p2_succ]
    omega
theorem p2_lt (d e : Nat) (h : (2 : Int) ^ d < 2 ^ e) : d < e := by
  rcases Nat.lt_or_ge d e with q | q
  · exact q
  · have := p2_le e d q; omega
theorem p2_dvd (d e : Nat) (h : d ≤ e) (x : Int) (hx : x % 2 ^ e = 0) : x % 2 ^ d = 0 := by
  obtain ⟨k, rfl⟩ := Nat.exists_eq_add_of_le h
  have hd := Int.dvd_of_emod_eq_zero hx
  rw [Int.pow_add] at hd
  exact Int.emod_eq_zero_of_dvd (Int.dvd_trans (Int.dvd_mul_right _ _) hd)
/-- A step's exponent: the greatest that fits. -/
theorem lb_exp {at_ high b : Int} (h : Lb at_ high b) : ∃ e : Nat, e ≤ 32 ∧ sz b = 2 ^ e ∧ at_ % 2 ^ e = 0 ∧ at_ + 2 ^ e - 1 ≤ high ∧ ∀ f : Nat, e < f → f ≤ 32 → ¬ (at_ % 2 ^ f = 0 ∧ at_ + 2 ^ f - 1 ≤ high) := by
  obtain ⟨⟨b0, b1⟩, ⟨f1, f2⟩, hn⟩ := h
  refine ⟨32 - b.toNat, by omega, rfl, f1, f2, fun f h1 h2 hf => hn (32 - f) (by omega) (by omega) ?_⟩
  unfold Fit sz
  have e : 32 - ((32 : Int) - f).toNat = f := by omega
  rw [e]
  exact hf
theorem cov_fall (high : Int) (hh : high < 4294967296) : ∀ (n : Nat) (at_ : Int) (l : List (Int × Int)), n ≤ 32 → at_ % 2 ^ n = 0 → high + 1 - at_ < 2 ^ n → Cov high at_ l → l.length ≤ n
  | n, _, [], _, _, _, _ => Nat.zero_le _
  | 0, at_, (a, b) :: l, _, _, h, ⟨_, h1, _, _⟩ => by
    simp at h
    omega
  | n + 1, at_, (a, b) :: l, hn, hm, h, ⟨_, h1, hb, hc⟩ => by
    obtain ⟨e, he, es, e1, e2, e3⟩ := lb_exp hb
    have hlt : e < n + 1 := p2_lt e (n + 1) (by omega)
    have hx := p2_dvd (e + 1) (n + 1) (by omega) at_ hm
    have hy : ¬ (at_ + 2 ^ (e + 1) - 1 ≤ high) := fun q => e3 (e + 1) (by omega) (by omega) ⟨hx, q⟩
    have hs := p2_succ e
    have hp := p2_pos e
    rw [es] at hc
    have ih := cov_fall high hh e (at_ + 2 ^ e) l (by omega) (by rw [Int.add_emod_right]; exact e1) (by omega) hc
    simp only [List.length_cons]
    omega
theorem odd_next (p x : Int) (hp : 0 < p) (h : x % p = 0) (h2 : x % (2 * p) ≠ 0) : (x + p) % (2 * p) = 0 := by
  obtain ⟨q, rfl⟩ := Int.dvd_of_emod_eq_zero h
  have e : p * q % (2 * p) = p * (q % 2) := by rw [Int.mul_comm 2 p, Int.mul_emod_mul_of_pos _ _ hp]
  have hq : q % 2 = 1 := by
    rcases Int.emod_two_eq q with k | k
    · rw [e, k] at h2; simp at h2
    · exact k
  have e2 : p * q + p = p * (q + 1) := by rw [Int.mul_add, Int.mul_one]
  rw [e2, Int.mul_comm 2 p, Int.mul_emod_mul_of_pos _ _ hp, show (q + 1) % 2 = 0 by omega, Int.mul_zero]
theorem cov_rise (high : Int) (hh : high < 4294967296) : ∀ (j k : Nat) (at_ : Int) (l : List (Int × Int)), k + j = 32 → 0 < at_ → at_ % 2 ^ k = 0 → Cov high at_ l → l.length ≤ 62 - k ∨ (k = 32 ∧ l = [])
  | _, _, _, [], _, _, _, _ => .inl (by simp)
  | 0, k, at_, (a, b) :: l, hk, h0, hm, ⟨_, h1, _, _⟩ => by
    obtain rfl : k = 32 := by omega
    have : (2 : Int) ^ 32 = 4294967296 := by decide
    rw [this] at hm
    omega
  | j + 1, k, at_, (a, b) :: l, hk, h0, hm, ⟨e0, h1, hb, hc⟩ => by
    obtain ⟨e, he, es, e1, e2, e3⟩ := lb_exp hb
    have hp := p2_pos e
    have hs := p2_succ e
    by_cases hL : high + 1 - at_ < 2 ^ k
    · exact .inl (by have := cov_fall high hh k at_ ((a, b) :: l) (by omega) hm hL ⟨e0, h1, hb, hc⟩; omega)
    · have hke : k ≤ e := by
        rcases Nat.lt_or_ge e k with q | q
        · exact absurd ⟨hm, by omega⟩ (e3 k q (by omega))
        · exact q
      have he32 : e < 32 := by
        rcases Nat.lt_or_ge e 32 with q | q
        · exact q
        · obtain rfl : e = 32 := by omega
          have : (2 : Int) ^ 32 = 4294967296 := by decide
          rw [this] at e1
          omega
      rw [es] at hc
      simp only [List.length_cons]
      by_cases hx : at_ % 2 ^ (e + 1) = 0
      · have hy : ¬ (at_ + 2 ^ (e + 1) - 1 ≤ high) := fun q => e3 (e + 1) (by omega) (by omega) ⟨hx, q⟩
        have ih := cov_fall high hh e (at_ + 2 ^ e) l (by omega) (by rw [Int.add_emod_right]; exact e1) (by omega) hc
        have he30 : e ≤ 30 := by
          rcases Nat.lt_or_ge e 31 with q | q
          · omega
          · obtain rfl : e = 31 := by omega
            have : (2 : Int) ^ (31 + 1) = 4294967296 := by decide
            rw [this] at hx
            omega
        exact .inl (by omega)
      · have ih := cov_rise high hh (31 - e) (e + 1) (at_ + 2 ^ e) l (by omega) (by omega) (by rw [hs]; exact odd_next _ _ hp e1 (by rw [← hs]; exact hx)) hc
        rcases ih with ih | ⟨_, rfl⟩
        · exact .inl (by omega)
        · exact .inl (by simp; omega)
theorem cov_62 (low high : Int) (hh : high < 4294967296) (h0 : 0 ≤ low) (l : List (Int × Int)) (hc : Cov high low l) : l.length ≤ 62 := by
  by_cases hl : low = 0
  · subst hl
    match l, hc with
    | [], _ => simp
    | (a, b) :: l, ⟨_, h1, hb, hc⟩ =>
      obtain ⟨e, he, es, e1, e2, e3⟩ := lb_exp hb
      have hs := p2_succ e
      have hp := p2_pos e
      rw [es] at hc
      have hL : high + 1 - (0 + 2 ^ e) < 2 ^ e := by
        rcases Nat.lt_or_ge e 32 with q | q
        · have hy : ¬ ((0 : Int) + 2 ^ (e + 1) - 1 ≤ high) := fun k => e3 (e + 1) (by omega) (by omega) ⟨by simp, k⟩
          omega
        · obtain rfl : e = 32 := by omega
          have : (2 : Int) ^ 32 = 4294967296 := by decide
          omega
      have := cov_fall high hh e (0 + 2 ^ e) l he (by rw [Int.add_emod_right]; exact e1) hL hc
      simp only [List.length_cons]
      omega
  · rcases cov_rise high hh 32 0 low l rfl (by omega) (by simp) hc with q | ⟨q, _⟩
    · exact q
    · omega
/-- How many of some prefixes an address is in. -/
def cnt (a : Int) (l : List (Int × Int)) : Nat := (l.filter fun p => inP p.1 p.2 a).length
theorem cov_right (high : Int) : ∀ (l : List (Int × Int)) (at_ : Int), Cov high at_ l → ∀ p ∈ l, rt p.1 p.2 = true ∧ at_ ≤ p.1 ∧ p.1 + sz p.2 ≤ high + 1
  | [], _, _, p, hp => by simp at hp
  | (a, b) :: l, at_, ⟨e, h1, hb, hc⟩, p, hp => by
    have hz := sz_pos b
    rcases List.mem_cons.1 hp with rfl | hp
    · have r : rt a b = true := by unfold rt; rw [e]; exact decide_eq_true ⟨hb.1.1, hb.1.2, hb.2.1.1⟩
      have f2 : at_ + sz b - 1 ≤ high := hb.2.1.2
      exact ⟨r, by simp only; omega, by simp only; omega⟩
    · have := cov_right high l _ hc p hp
      exact ⟨this.1, by omega, this.2.2⟩
theorem cnt_none (high a : Int) : ∀ (l : List (Int × Int)) (at_ : Int), Cov high at_ l → a < at_ ∨ high < a → cnt a l = 0
  | [], _, _, _ => rfl
  | (a', b) :: l, at_, ⟨e, h1, hb, hc⟩, h => by
    have hz := sz_pos b
    have f2 : at_ + sz b - 1 ≤ high := hb.2.1.2
    have hi : inP a' b a = false := by
      unfold inP
      by_cases q : a' ≤ a
      · rw [decide_eq_false (show ¬ a < a' + sz b by omega), Bool.and_false]
      · rw [decide_eq_false q, Bool.and_false, Bool.false_and]
    have ih := cnt_none high a l _ hc (by omega)
    unfold cnt at ih ⊢
    rw [List.filter_cons_of_neg (by simp [hi])]
    exact ih
theorem cnt_one (high a : Int) : ∀ (l : List (Int × Int)) (at_ : Int), Cov high at_ l → at_ ≤ a → a ≤ high → cnt a l = 1
  | [], at_, h, h1, h2 => by
    have : high < at_ := h
    omega
  | (a', b) :: l, at_, ⟨e, h1, hb, hc⟩, h2, h3 => by
    have hz := sz_pos b
    have r : rt a' b = true := by unfold rt; rw [e]; exact decide_eq_true ⟨hb.1.1, hb.1.2, hb.2.1.1⟩
    by_cases q : a < at_ + sz b
    · have hi : inP a' b a = true := by
        unfold inP
        rw [r, decide_eq_true (show a' ≤ a by omega), decide_eq_true (show a < a' + sz b by omega)]
        rfl
      have ih := cnt_none high a l _ hc (by omega)
      unfold cnt at ih ⊢
      rw [List.filter_cons_of_pos (by simp [hi]), List.length_cons, ih]
    · have hi : inP a' b a = false := by
        unfold inP
        rw [decide_eq_false (show ¬ a < a' + sz b by omega), Bool.and_false]
      have ih := cnt_one high a l _ hc (by omega) h3
      unfold cnt at ih ⊢
      rw [List.filter_cons_of_neg (by simp [hi])]
      exact ih
end Go.Proofs.YtnkhafkdmlfdbabDoor
