/-
  Rules in plain sums: which are right, which fit a packet, what the first that fits says. No condition.
-/
import Derived.Test.YtndaohiecpdmlaaPfMath
namespace Go.Proofs.Ytndaohiecpdmlaa

/-- A rule. -/
structure Ru where
  al : Bool
  pro : Int
  ad : Int
  bits : Int
  fr : Int
  up : Int
def ru0 : Ru := ⟨false, 0, 0, 0, 0, 0⟩
/-- A rule as the program holds it. -/
def ruC (r : Ru) : List Value := [.bool r.al, .int .i64 r.pro, .int .u32 r.ad, .int .i64 r.bits, .int .i64 r.fr, .int .i64 r.up]
def ruV (r : Ru) : Value := .agg #[.bool r.al, .int .i64 r.pro, .int .u32 r.ad, .int .i64 r.bits, .int .i64 r.fr, .int .i64 r.up]
/-- What the types allow. -/
structure RuB (r : Ru) : Prop where
  p0 : -9223372036854775808 ≤ r.pro
  p1 : r.pro ≤ 9223372036854775807
  a0 : 0 ≤ r.ad
  a1 : r.ad < 4294967296
  b0 : -9223372036854775808 ≤ r.bits
  b1 : r.bits ≤ 9223372036854775807
  f0 : -9223372036854775808 ≤ r.fr
  f1 : r.fr ≤ 9223372036854775807
  u0 : -9223372036854775808 ≤ r.up
  u1 : r.up ≤ 9223372036854775807
/-- A right rule. -/
def ruR (r : Ru) : Bool := decide (0 ≤ r.pro) && decide (r.pro ≤ 255) && rt r.ad r.bits && decide (0 ≤ r.fr) && decide (r.fr ≤ r.up) && decide (r.up ≤ 65535)
/-- What is wrong with rules. -/
def ruK (l : List Ru) : Int := if 32 < l.length then 8 else if l.all ruR then 0 else 2
/-- Whether a rule concerns packets of a protocol to an address. -/
def con (r : Ru) (p a : Int) : Bool := (r.pro == 0 || r.pro == p) && inP r.ad r.bits a
/-- Whether it fits a packet. -/
def fit (r : Ru) (p a q : Int) : Bool := con r p a && decide (r.fr ≤ q) && decide (q ≤ r.up)
/-- What the first that fits says. -/
def sayL : List Ru → Int → Int → Int → Bool
  | [], _, _, _ => false
  | r :: l, p, a, q => if fit r p a q then r.al else sayL l p a q
/-- Whether a packet may go. -/
def alw (l : List Ru) (p a q : Int) : Bool := ruK l == 0 && sayL l p a q
theorem ruK_right {l : List Ru} : ruK l = 0 ↔ l.length ≤ 32 ∧ ∀ r ∈ l, ruR r = true := by
  unfold ruK
  constructor
  · intro h
    split at h
    · omega
    · split at h
      · rename_i h1 h2
        exact ⟨by omega, fun r hr => List.all_eq_true.1 h2 r hr⟩
      · omega
  · intro ⟨h1, h2⟩
    rw [if_neg (by omega), if_pos (List.all_eq_true.2 h2)]
structure RuW (r : Ru) : Prop where
  p0 : 0 ≤ r.pro
  p1 : r.pro ≤ 255
  t : rt r.ad r.bits = true
  f0 : 0 ≤ r.fr
  fu : r.fr ≤ r.up
  u1 : r.up ≤ 65535
theorem ruR_w {r : Ru} (h : ruR r = true) : RuW r := by
  unfold ruR at h
  simp only [Bool.and_eq_true, decide_eq_true_eq] at h
  exact ⟨h.1.1.1.1.1, h.1.1.1.1.2, h.1.1.1.2, h.1.1.2, h.1.2, h.2⟩
theorem sayL_drop (l : List Ru) (p a q : Int) (k : Nat) (hk : k < l.length) : sayL (l.drop k) p a q = if fit (l.getD k ru0) p a q then (l.getD k ru0).al else sayL (l.drop (k + 1)) p a q := by
  rw [List.drop_eq_getElem_cons hk, sayL, List.getD_eq_getElem?_getD, List.getElem?_eq_getElem hk]
  rfl
theorem sayL_end (l : List Ru) (p a q : Int) : sayL (l.drop l.length) p a q = false := by rw [List.drop_length]; rfl
end Go.Proofs.Ytndaohiecpdmlaa
