/-
  Plain facts: a right prefix ends within the addresses, is its two halves, and covers alone what lies between its ends. No condition but those that are named.
-/
import Derived.Test.YtnkhafkdmlfdbabDoorPfCount
namespace Go.Proofs.YtnkhafkdmlfdbabDoor
open Go.RowKit

theorem sz_exp (b : Int) (h0 : 0 ≤ b) (h : b ≤ 32) : ∃ e : Nat, e ≤ 32 ∧ b = 32 - e ∧ sz b = 2 ^ e := ⟨32 - b.toNat, by omega, by omega, rfl⟩
theorem sz_half (b : Int) (h0 : 0 ≤ b) (h : b < 32) : sz b = 2 * sz (b + 1) := by
  unfold sz
  rw [show 32 - b.toNat = (32 - (b + 1).toNat) + 1 by omega, p2_succ]
theorem sz_lt (c b : Int) (h0 : 0 ≤ c) (h : c < b) (h1 : b ≤ 32) : sz b < sz c := by
  have h2 := sz_half c h0 (by omega)
  have h3 : sz b ≤ sz (c + 1) := by
    unfold sz
    exact p2_le _ _ (by omega)
  have := sz_pos (c + 1)
  omega
theorem rt_room {addr bits : Int} (h : rt addr bits = true) (a1 : addr < 4294967296) : addr + sz bits ≤ 4294967296 := by
  obtain ⟨h0, h1, hm⟩ := rt_bits h
  obtain ⟨q, hq⟩ := Int.dvd_of_emod_eq_zero hm
  obtain ⟨e, he, _, es⟩ := sz_exp bits h0 h1
  have hp := sz_pos bits
  obtain ⟨k, hk⟩ := Nat.exists_eq_add_of_le he
  have hw : (4294967296 : Int) = sz bits * 2 ^ k := by rw [es, ← Int.pow_add, ← hk]; decide
  rw [hq] at a1 ⊢
  rw [hw] at a1 ⊢
  have hlt : q < 2 ^ k := Int.lt_of_mul_lt_mul_left a1 (Int.le_of_lt hp)
  have : sz bits * (q + 1) ≤ sz bits * 2 ^ k := Int.mul_le_mul_of_nonneg_left (by omega) (Int.le_of_lt hp)
  rw [Int.mul_add, Int.mul_one] at this
  exact this
theorem half_right {addr bits : Int} (h : rt addr bits = true) (hb : bits < 32) : rt addr (bits + 1) = true ∧ rt (addr + sz (bits + 1)) (bits + 1) = true := by
  obtain ⟨h0, h1, hm⟩ := rt_bits h
  rw [sz_half bits h0 hb] at hm
  have hd : addr % sz (bits + 1) = 0 := Int.emod_eq_zero_of_dvd (Int.dvd_trans (Int.dvd_mul_left _ _) (Int.dvd_of_emod_eq_zero hm))
  unfold rt
  exact ⟨decide_eq_true ⟨by omega, by omega, hd⟩, decide_eq_true ⟨by omega, by omega, by rw [Int.add_emod_right]; exact hd⟩⟩
theorem half_in {addr bits : Int} (h : rt addr bits = true) (hb : bits < 32) (a : Int) :
    inP addr bits a = (inP addr (bits + 1) a != inP (addr + sz (bits + 1)) (bits + 1) a) ∧ (inP addr (bits + 1) a && inP (addr + sz (bits + 1)) (bits + 1) a) = false := by
  have hr := half_right h hb
  have hz := sz_half bits (rt_bits h).1 hb
  have hp := sz_pos (bits + 1)
  unfold inP
  rw [h, hr.1, hr.2, hz]
  simp only [Bool.true_and]
  generalize sz (bits + 1) = z at *
  by_cases q1 : addr ≤ a
  · by_cases q2 : a < addr + z
    · rw [decide_eq_true q1, decide_eq_true q2, decide_eq_true (show a < addr + 2 * z by omega), decide_eq_false (show ¬ addr + z ≤ a by omega)]
      exact ⟨rfl, rfl⟩
    · rw [decide_eq_true q1, decide_eq_false q2, decide_eq_true (show addr + z ≤ a by omega)]
      by_cases q3 : a < addr + 2 * z
      · rw [decide_eq_true q3, decide_eq_true (show a < addr + z + z by omega)]
        exact ⟨rfl, rfl⟩
      · rw [decide_eq_false q3, decide_eq_false (show ¬ a < addr + z + z by omega)]
        exact ⟨rfl, rfl⟩
  · rw [decide_eq_false q1, decide_eq_false (show ¬ addr + z ≤ a by omega)]
    exact ⟨rfl, rfl⟩
theorem edge_cov {addr bits : Int} (h : rt addr bits = true) : Cov (addr + sz bits - 1) addr [(addr, bits)] := by
  obtain ⟨h0, h1, hm⟩ := rt_bits h
  have hp := sz_pos bits
  refine ⟨rfl, by omega, ⟨⟨h0, h1⟩, ⟨hm, by omega⟩, fun c c0 c1 hf => ?_⟩, by show addr + sz bits - 1 < addr + sz bits; omega⟩
  have := sz_lt c bits c0 c1 h1
  have f2 : addr + sz c - 1 ≤ addr + sz bits - 1 := hf.2
  omega
theorem edge_in {addr bits : Int} (h : rt addr bits = true) : inP addr bits addr = true ∧ inP addr bits (addr + sz bits - 1) = true ∧ inP addr bits (addr - 1) = false ∧ inP addr bits (addr + sz bits) = false := by
  have hp := sz_pos bits
  unfold inP
  rw [h]
  simp only [Bool.true_and]
  generalize sz bits = z at *
  refine ⟨?_, ?_, ?_, ?_⟩
  · rw [decide_eq_true (show addr ≤ addr by omega), decide_eq_true (show addr < addr + z by omega)]; rfl
  · rw [decide_eq_true (show addr ≤ addr + z - 1 by omega), decide_eq_true (show addr + z - 1 < addr + z by omega)]; rfl
  · rw [decide_eq_false (show ¬ addr ≤ addr - 1 by omega)]; rfl
  · rw [decide_eq_false (show ¬ addr + z < addr + z by omega), Bool.and_false]
end Go.Proofs.YtnkhafkdmlfdbabDoor
