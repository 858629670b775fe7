/-
  Plain facts: numbers that were seen, kept in the bits of one number below the greatest. No condition.
-/
import Derived.Test.YtjdkmjpajijkdaaRpMath
namespace Go.Proofs.Ytjdkmjpajijkdaa

/-- The numbers l as bits: the greatest is t; bit d of b tells of the one d below. -/
structure Bits (l : List Int) (t : Int) (b : Nat) : Prop where
  inr : InR l
  lt : b < 18446744073709551616
  nil : l = [] → b = 0
  tp : t = top l
  bit : l ≠ [] → ∀ d : Nat, d < 64 → (b.testBit d = true ↔ (top l - d) ∈ l)
theorem Bits.none : Bits [] 0 0 := ⟨fun _ h => (by cases h), by decide, fun _ => rfl, rfl, fun h => absurd rfl h⟩
theorem Bits.pos {l : List Int} {t : Int} {b : Nat} (h : Bits l t b) : b = 0 ↔ l = [] := by
  refine ⟨fun e => ?_, h.nil⟩
  by_cases q : l = []
  · exact q
  · have := (h.bit q 0 (by decide)).2 (by simpa using top_mem h.inr q)
    rw [e] at this
    simp at this
/-- A number of the range that may come, or not. -/
theorem Bits.free {l : List Int} {t : Int} {b : Nat} (h : Bits l t b) {n : Int} (h0 : 0 ≤ n) (h1 : n ≤ 4611686018427387903) (q : b = 0 ∨ t < n) : chk l n = 0 := by
  rw [chk_in h0 h1, if_neg]
  rintro (⟨hl, g⟩ | g)
  · rcases q with q | q
    · exact hl (h.pos.1 q)
    · rw [h.tp] at q; omega
  · rcases q with q | q
    · rw [h.pos.1 q] at g; cases g
    · have := le_top g; rw [h.tp] at q; omega
theorem Bits.old {l : List Int} {t : Int} {b : Nat} (h : Bits l t b) {n : Int} (h0 : 0 ≤ n) (h1 : n ≤ 4611686018427387903) (hb : b ≠ 0) (q : 64 ≤ t - n) : chk l n = 11 := by
  rw [chk_in h0 h1, if_pos]
  refine .inl ⟨fun e => hb (h.nil e), ?_⟩
  rw [← h.tp]; omega
theorem Bits.seen {l : List Int} {t : Int} {b : Nat} (h : Bits l t b) {n : Int} (h0 : 0 ≤ n) (h1 : n ≤ 4611686018427387903) (hb : b ≠ 0) (d : Nat) (hd : (d : Int) = t - n) (q : d < 64) : chk l n = if b.testBit d then 11 else 0 := by
  have hl : l ≠ [] := fun e => hb (h.nil e)
  have hn : top l - d = n := by rw [← h.tp]; omega
  have := h.bit hl d q
  rw [hn] at this
  rw [chk_in h0 h1]
  by_cases g : n ∈ l
  · rw [if_pos (.inr g), if_pos (this.2 g)]
  · rw [if_neg, if_neg (fun e => g (this.1 e))]
    rintro (⟨_, e⟩ | e)
    · rw [← h.tp] at e; omega
    · exact g e
/-- The first one comes. -/
theorem Bits.first {l : List Int} {t : Int} {b : Nat} (h : Bits l t b) {n : Int} (h0 : 0 ≤ n) (h1 : n ≤ 4611686018427387903) (q : b = 0) : Bits (l ++ [n]) n 1 := by
  have e : l = [] := h.pos.1 q
  subst e
  have et : top ([] ++ [n]) = n := by rw [top_snoc]; show max 0 n = n; omega
  refine ⟨fun x hx => ?_, by decide, fun e => by simp at e, et.symm, fun _ d hd => ?_⟩
  · simp at hx; subst hx; exact ⟨h0, h1⟩
  · rw [et]
    simp only [List.nil_append, List.mem_singleton]
    rw [Nat.testBit_one_eq_true_iff_self_eq_zero]
    omega
/-- A greater one comes. -/
theorem Bits.great {l : List Int} {t : Int} {b : Nat} (h : Bits l t b) {n : Int} (h0 : 0 ≤ n) (h1 : n ≤ 4611686018427387903) (hb : b ≠ 0) (s : Nat) (hs : (s : Int) = n - t) (q : 0 < s) : Bits (l ++ [n]) n ((b * 2 ^ s) % 18446744073709551616 ||| 1) := by
  have hl : l ≠ [] := fun e => hb (h.nil e)
  have et : top (l ++ [n]) = n := by rw [top_snoc, ← h.tp]; omega
  refine ⟨fun x hx => ?_, Nat.or_lt_two_pow (n := 64) (Nat.mod_lt _ (by decide)) (by decide), fun e => by simp at e, et.symm, fun _ d hd => ?_⟩
  · rcases List.mem_append.1 hx with hx | hx
    · exact h.inr x hx
    · simp at hx; subst hx; exact ⟨h0, h1⟩
  · rw [et, Nat.testBit_or, show (18446744073709551616 : Nat) = 2 ^ 64 from rfl, Nat.testBit_mod_two_pow, Nat.testBit_mul_two_pow]
    simp only [hd, decide_true, Bool.true_and, Bool.or_eq_true, Nat.testBit_one_eq_true_iff_self_eq_zero, List.mem_append, List.mem_singleton, Bool.and_eq_true, decide_eq_true_eq]
    constructor
    · rintro (⟨g1, g2⟩ | g)
      · left
        have := (h.bit hl (d - s) (by omega)).1 g2
        rw [← h.tp] at this
        rwa [show t - ((d - s : Nat) : Int) = n - d by omega] at this
      · right; omega
    · rintro (g | g)
      · left
        have hle := le_top g
        rw [← h.tp] at hle
        refine ⟨by omega, (h.bit hl (d - s) (by omega)).2 ?_⟩
        rwa [← h.tp, show t - ((d - s : Nat) : Int) = n - d by omega]
      · right; omega
/-- One below the greatest comes. -/
theorem Bits.less {l : List Int} {t : Int} {b : Nat} (h : Bits l t b) {n : Int} (h0 : 0 ≤ n) (h1 : n ≤ 4611686018427387903) (hb : b ≠ 0) (s : Nat) (hs : (s : Int) = t - n) (q : s < 64) : Bits (l ++ [n]) t (b ||| 2 ^ s) := by
  have hl : l ≠ [] := fun e => hb (h.nil e)
  have et : top (l ++ [n]) = t := by rw [top_snoc, ← h.tp]; omega
  refine ⟨fun x hx => ?_, Nat.or_lt_two_pow (n := 64) h.lt (Nat.pow_lt_pow_right (by decide) q), fun e => by simp at e, et.symm, fun _ d hd => ?_⟩
  · rcases List.mem_append.1 hx with hx | hx
    · exact h.inr x hx
    · simp at hx; subst hx; exact ⟨h0, h1⟩
  · rw [et, Nat.testBit_or, Nat.testBit_two_pow]
    have hb' := h.bit hl d hd
    rw [← h.tp] at hb'
    simp only [Bool.or_eq_true, hb', decide_eq_true_eq, List.mem_append, List.mem_singleton]
    constructor
    · rintro (g | g)
      · exact .inl g
      · right; omega
    · rintro (g | g)
      · exact .inl g
      · right; omega
end Go.Proofs.Ytjdkmjpajijkdaa
