/-
  Plain facts on the order of writings: of two numbers of one size the greater one has the greater bytes. No condition.
-/
import Derived.Test.YtbfbfghajdhopaaDoorVarNum
namespace Go.Proofs.YtbfbfghajdhopaaDoor

def toB (l : List Int) : List UInt8 := l.map fun n => UInt8.ofNat n.toNat
theorem less_snoc : ∀ (x y : List UInt8) (c d : UInt8), x.length = y.length → (Op.bytesLess x y = true ∨ (x = y ∧ c < d)) → Op.bytesLess (x ++ [c]) (y ++ [d]) = true
  | [], [], c, d, _, h => by
    rcases h with h | ⟨_, h⟩
    · simp [Op.bytesLess] at h
    · simp [Op.bytesLess, h]
  | [], _ :: _, _, _, hl, _ => by simp at hl
  | _ :: _, [], _, _, hl, _ => by simp at hl
  | a :: x, b :: y, c, d, hl, h => by
    have hl' : x.length = y.length := by simpa using hl
    simp only [List.cons_append, Op.bytesLess, Bool.or_eq_true, Bool.and_eq_true, decide_eq_true_eq, beq_iff_eq]
    rcases h with h | ⟨h, hcd⟩
    · simp only [Op.bytesLess, Bool.or_eq_true, Bool.and_eq_true, decide_eq_true_eq, beq_iff_eq] at h
      rcases h with h | ⟨h1, h2⟩
      · exact .inl h
      · exact .inr ⟨h1, less_snoc x y c d hl' (.inl h2)⟩
    · simp only [List.cons.injEq] at h
      exact .inr ⟨h.1, less_snoc x y c d hl' (.inr ⟨h.2, hcd⟩)⟩
theorem byte_lt (a b : Int) (h0 : 0 ≤ a) (h : a < b) (hb : b < 256) : UInt8.ofNat a.toNat < UInt8.ofNat b.toNat := by
  rw [UInt8.lt_iff_toNat_lt]
  simp
  omega
theorem digs_less : ∀ (k : Nat) (a b : Int), 0 ≤ a → a < b → b < 256 ^ k → Op.bytesLess (toB (digs a k)) (toB (digs b k)) = true
  | 0, a, b, h0, h, hb => by simp at hb; omega
  | k + 1, a, b, h0, h, hb => by
    simp only [digs, toB, List.map_append, List.map_cons, List.map_nil]
    refine less_snoc _ _ _ _ (by simp [digs_length]) ?_
    have hp : (256 : Int) ^ (k + 1) = 256 ^ k * 256 := Int.pow_succ 256 k
    by_cases he : a / 256 < b / 256
    · exact .inl (digs_less k (a / 256) (b / 256) (by omega) he (by rw [hp] at hb; omega))
    · have e : a / 256 = b / 256 := by omega
      exact .inr ⟨by rw [e], byte_lt _ _ (by omega) (by omega) (by omega)⟩
/-- What the mark adds to the number that all the bytes make. -/
def off (m : Nat) : Int := match m with | 0 => 0 | 1 => 16384 | 2 => 2147483648 | _ => 13835058055282163712
theorem puts_digs (n : Int) (m k : Nat) (h : Cl n m k) : puts n m k = digs (n + off m) k := by
  rcases h with ⟨rfl, rfl, a, b⟩ | ⟨rfl, rfl, a, b⟩ | ⟨rfl, rfl, a, b⟩ | ⟨rfl, rfl, a, b⟩
  all_goals
    simp only [puts, digs, off, List.nil_append, List.cons_append, List.cons.injEq, and_true]
  · omega
  · refine ⟨?_, ?_⟩ <;> omega
  · refine ⟨?_, ?_, ?_, ?_⟩ <;> omega
  · refine ⟨?_, ?_, ?_, ?_, ?_, ?_, ?_, ?_⟩ <;> omega
theorem puts_less (a b : Int) (m k : Nat) (ha : Cl a m k) (hb : Cl b m k) (h : a < b) : Op.bytesLess (toB (puts a m k)) (toB (puts b m k)) = true := by
  rw [puts_digs a m k ha, puts_digs b m k hb]
  have h0 := ha.lo
  refine digs_less k _ _ ?_ (by omega) ?_
  · unfold off; split <;> omega
  · rcases hb with ⟨rfl, rfl, c, d⟩ | ⟨rfl, rfl, c, d⟩ | ⟨rfl, rfl, c, d⟩ | ⟨rfl, rfl, c, d⟩ <;> simp only [off] <;> omega
end Go.Proofs.YtbfbfghajdhopaaDoor
