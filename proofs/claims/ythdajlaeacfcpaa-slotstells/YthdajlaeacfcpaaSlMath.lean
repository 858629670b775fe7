/-
  Whose turn it is, plain: a property of numbers that comes again every n; the first that has it from a number on; the greatest distance between two that have it; how many have it within n. No condition.
-/
import Derived.Test.YthdajlaeacfcpaaObCells
namespace Go.Proofs.Ythdajlaeacfcpaa
set_option maxRecDepth 100000

/-- The first of k from t on. -/
def fstP (p : Nat → Bool) : Nat → Nat → Option Nat
  | _, 0 => none
  | t, k + 1 => if p t then some t else fstP p (t + 1) k
theorem fst_some {p : Nat → Bool} : ∀ {k t u : Nat}, fstP p t k = some u → t ≤ u ∧ u < t + k ∧ p u = true ∧ ∀ v, t ≤ v → v < u → p v = false
  | 0, t, u, h => by cases h
  | k + 1, t, u, h => by
    rw [fstP] at h
    by_cases q : p t = true
    · rw [if_pos q] at h
      injection h with h
      subst h
      exact ⟨Nat.le_refl _, by omega, q, fun v h1 h2 => by omega⟩
    · rw [if_neg q] at h
      obtain ⟨h1, h2, h3, h4⟩ := fst_some h
      refine ⟨by omega, by omega, h3, fun v v1 v2 => ?_⟩
      by_cases z : v = t
      · rw [z]; simpa using q
      · exact h4 v (by omega) v2
theorem fst_none {p : Nat → Bool} : ∀ {k t : Nat}, fstP p t k = none → ∀ v, t ≤ v → v < t + k → p v = false
  | 0, t, h, v, h1, h2 => by omega
  | k + 1, t, h, v, h1, h2 => by
    rw [fstP] at h
    by_cases q : p t = true
    · rw [if_pos q] at h; cases h
    · rw [if_neg q] at h
      by_cases z : v = t
      · rw [z]; simpa using q
      · exact fst_none h v (by omega) (by omega)
theorem fst_of {p : Nat → Bool} {k t u : Nat} (h1 : t ≤ u) (h2 : u < t + k) (hp : p u = true) (hb : ∀ v, t ≤ v → v < u → p v = false) : fstP p t k = some u := by
  cases h : fstP p t k with
  | none => have := fst_none h u h1 h2; rw [hp] at this; cases this
  | some w =>
    obtain ⟨w1, w2, w3, w4⟩ := fst_some h
    rcases Nat.lt_trichotomy w u with q | q | q
    · have := hb w w1 q; rw [w3] at this; cases this
    · rw [q]
    · have := w4 u h1 q; rw [hp] at this; cases this
theorem fst_ex {p : Nat → Bool} {k t v : Nat} (h1 : t ≤ v) (h2 : v < t + k) (hp : p v = true) : ∃ u, fstP p t k = some u ∧ u ≤ v := by
  cases h : fstP p t k with
  | none => have := fst_none h v h1 h2; rw [hp] at this; cases this
  | some w =>
    obtain ⟨w1, w2, w3, w4⟩ := fst_some h
    refine ⟨w, rfl, ?_⟩
    rcases Nat.lt_or_ge v w with q | q
    · have := w4 v h1 q; rw [hp] at this; cases this
    · exact q
/-- What comes again every n. -/
def Per (p : Nat → Bool) (n : Nat) : Prop := ∀ i, p (i + n) = p i
theorem Per.mul {p : Nat → Bool} {n : Nat} (h : Per p n) (i : Nat) : ∀ k, p (i + k * n) = p i
  | 0 => by rw [Nat.zero_mul, Nat.add_zero]
  | k + 1 => by
    have : i + (k + 1) * n = i + k * n + n := by rw [Nat.add_mul, Nat.one_mul]; omega
    rw [this, h, h.mul i k]
theorem Per.mod {p : Nat → Bool} {n : Nat} (h : Per p n) (i : Nat) : p i = p (i % n) := by
  have := h.mul (i % n) (i / n)
  rw [Nat.mul_comm, Nat.mod_add_div] at this
  exact this
/-- Where one has it, there is one among each n. -/
theorem Per.some {p : Nat → Bool} {n : Nat} (h : Per p n) (hn : 0 < n) {i : Nat} (hi : p i = true) (t : Nat) : ∃ u, fstP p t n = some u := by
  have h0 : p (i % n) = true := by rw [← h.mod]; exact hi
  have hl := Nat.mod_lt i hn
  have ht := Nat.mod_lt t hn
  have e := Nat.mod_add_div t n
  by_cases q : t % n ≤ i % n
  · have := h.mul (i % n) (t / n)
    rw [h0, Nat.mul_comm] at this
    obtain ⟨u, hu, -⟩ := fst_ex (p := p) (k := n) (t := t) (v := i % n + n * (t / n)) (by omega) (by omega) this
    exact ⟨u, hu⟩
  · have := h.mul (i % n) (t / n + 1)
    rw [h0, Nat.add_mul, Nat.one_mul, Nat.mul_comm] at this
    obtain ⟨u, hu, -⟩ := fst_ex (p := p) (k := n) (t := t) (v := i % n + (n * (t / n) + n)) (by omega) (by omega) this
    exact ⟨u, hu⟩
theorem Per.fst {p : Nat → Bool} {n : Nat} (h : Per p n) : ∀ (k t : Nat), fstP p (t + n) k = (fstP p t k).map (· + n)
  | 0, t => rfl
  | k + 1, t => by
    rw [fstP, fstP, h]
    by_cases q : p t = true
    · rw [if_pos q, if_pos q]; rfl
    · rw [if_neg q, if_neg q]
      have : t + n + 1 = t + 1 + n := by omega
      rw [this]
      exact h.fst k (t + 1)
/-- The greatest distance, as it is looked for: from one that has it to the next, as long as it lies within the table. -/
def gapL (p : Nat → Bool) (n : Nat) : Nat → Nat → Nat → Nat
  | 0, _, m => m
  | k + 1, a, m => if a < n then match fstP p (a + 1) n with | some b => gapL p n k b (max m (b - a)) | none => m else m
def gapP (p : Nat → Bool) (n : Nat) : Nat := match fstP p 0 n with | some a => gapL p n (n + 1) a 0 | none => 0
theorem gap_ge (p : Nat → Bool) (n : Nat) : ∀ (k a m : Nat), m ≤ gapL p n k a m
  | 0, _, m => Nat.le_refl _
  | k + 1, a, m => by
    rw [gapL]
    split
    · split
      · rename_i b _
        have := gap_ge p n k b (max m (b - a))
        omega
      · exact Nat.le_refl _
    · exact Nat.le_refl _
theorem gap_le (p : Nat → Bool) (n : Nat) : ∀ (k a m : Nat), gapL p n k a m ≤ max m n
  | 0, _, m => Nat.le_max_left _ _
  | k + 1, a, m => by
    rw [gapL]
    split
    · split
      · rename_i b hb
        have := gap_le p n k b (max m (b - a))
        have := (fst_some hb).2.1
        omega
      · exact Nat.le_max_left _ _
    · exact Nat.le_max_left _ _
/-- Each distance from one within the table is told. -/
theorem gap_all {p : Nat → Bool} {n : Nat} : ∀ (k a m : Nat), n + 1 ≤ a + k → ∀ x y, a ≤ x → x < n → p a = true → p x = true → fstP p (x + 1) n = some y → y - x ≤ gapL p n k a m
  | 0, a, m, hk, x, y, h1, h2, _, _, _ => by omega
  | k + 1, a, m, hk, x, y, h1, h2, ha, hx, hy => by
    rw [gapL, if_pos (by omega)]
    by_cases q : x = a
    · subst q
      rw [hy]
      have := gap_ge p n k y (max m (y - x))
      show y - x ≤ gapL p n k y (max m (y - x))
      omega
    · obtain ⟨b, hb, hbx⟩ := fst_ex (p := p) (k := n) (t := a + 1) (v := x) (by omega) (by omega) hx
      rw [hb]
      obtain ⟨b1, b2, b3, b4⟩ := fst_some hb
      show y - x ≤ gapL p n k b (max m (b - a))
      exact gap_all k b _ (by omega) x y hbx h2 b3 hx hy
theorem gap_told {p : Nat → Bool} {n : Nat} {x y : Nat} (hx : p x = true) (h : x < n) (hy : fstP p (x + 1) n = some y) : y - x ≤ gapP p n := by
  obtain ⟨a, ha, hax⟩ := fst_ex (p := p) (k := n) (t := 0) (v := x) (Nat.zero_le _) (by omega) hx
  unfold gapP
  rw [ha]
  exact gap_all (n + 1) a 0 (by omega) x y hax h (fst_some ha).2.2.1 hx hy
theorem gap_most (p : Nat → Bool) (n : Nat) : gapP p n ≤ n := by
  unfold gapP
  split
  · have := gap_le p n (n + 1) (by assumption) 0
    omega
  · exact Nat.zero_le _
/-- From any number on the first that has it is nearer than the greatest distance. -/
theorem wait_lt {p : Nat → Bool} {n : Nat} (h : Per p n) (hn : 0 < n) {t u : Nat} (hu : fstP p t n = some u) : u - t < gapP p n := by
  -- the same, a table's length later
  have hu2 : fstP p (t % n + n) n = some (u - n * (t / n) + n) := by
    have e := Nat.mod_add_div t n
    obtain ⟨u1, u2, u3, u4⟩ := fst_some hu
    have sh : ∀ v, p (v + n * (t / n)) = p v := fun v => by rw [Nat.mul_comm]; exact h.mul v _
    refine fst_of (by omega) (by omega) ?_ fun v v1 v2 => ?_
    · rw [h, ← sh]
      have : u - n * (t / n) + n * (t / n) = u := by omega
      rw [this]
      exact u3
    · have hv : p v = p (v - n) := by
        have := h (v - n)
        rw [Nat.sub_add_cancel (by omega)] at this
        exact this
      rw [hv, ← sh]
      exact u4 _ (by omega) (by omega)
  obtain ⟨u1, u2, u3, u4⟩ := fst_some hu
  have e := Nat.mod_add_div t n
  have ht := Nat.mod_lt t hn
  generalize hT : t % n + n = T at *
  generalize hU : u - n * (t / n) + n = U at *
  have hd : u - t = U - T := by omega
  rw [hd]
  obtain ⟨q1, q2, q3, q4⟩ := fst_some hu2
  -- the last ahead of T
  have last : ∀ k, k ≤ n → (∃ x, T - k ≤ x ∧ x < T ∧ p x = true ∧ ∀ v, x < v → v < T → p v = false) ∨ (∀ v, T - k ≤ v → v < T → p v = false) := fun k => by
    induction k with
    | zero => exact fun _ => .inr fun v h1 h2 => by omega
    | succ k ih =>
      intro hk
      rcases ih (by omega) with ⟨x, x1, x2, x3, x4⟩ | z
      · exact .inl ⟨x, by omega, x2, x3, x4⟩
      · by_cases c : p (T - (k + 1)) = true
        · exact .inl ⟨T - (k + 1), Nat.le_refl _, by omega, c, fun v v1 v2 => z v (by omega) v2⟩
        · refine .inr fun v v1 v2 => ?_
          by_cases w : v = T - (k + 1)
          · rw [w]; simpa using c
          · exact z v (by omega) v2
  rcases last n (Nat.le_refl _) with ⟨x, x1, x2, x3, x4⟩ | z
  · have hy : fstP p (x + 1) n = some U := fst_of (by omega) (by
      -- x + n has it, too
      have := h x
      rw [x3] at this
      rcases Nat.lt_or_ge (x + n) U with c | c
      · have := q4 (x + n) (by omega) c
        rw [h, x3] at this
        cases this
      · omega) q3 fun v v1 v2 => by
        rcases Nat.lt_or_ge v T with c | c
        · exact x4 v (by omega) c
        · exact q4 v c v2
    rcases Nat.lt_or_ge x n with c | c
    · have := gap_told x3 c hy
      omega
    · have hx' : p (x - n) = true := by
        have := h (x - n)
        rw [Nat.sub_add_cancel c] at this
        rw [← this]; exact x3
      have hy' : fstP p (x - n + 1) n = some (U - n) := by
        have := h.fst n (x - n + 1)
        have e2 : x - n + 1 + n = x + 1 := by omega
        rw [e2, hy] at this
        cases hf : fstP p (x - n + 1) n with
        | none => rw [hf] at this; cases this
        | some w =>
          rw [hf] at this
          have this : U = w + n := Option.some.inj this
          rw [this, Nat.add_sub_cancel]
      have := gap_told hx' (by omega) hy'
      omega
  · -- none within a whole table: none at all
    have := z (U - n) (by omega) (by omega)
    have e3 := h (U - n)
    rw [Nat.sub_add_cancel (by omega), this] at e3
    rw [q3] at e3
    cases e3
/-- How many have it, of k from t on. -/
def cntP (p : Nat → Bool) : Nat → Nat → Nat
  | _, 0 => 0
  | t, k + 1 => (if p t then 1 else 0) + cntP p (t + 1) k
theorem cnt_last (p : Nat → Bool) : ∀ k t, cntP p t (k + 1) = cntP p t k + if p (t + k) then 1 else 0
  | 0, t => by simp [cntP]
  | k + 1, t => by
    rw [cntP, cnt_last p k (t + 1), cntP]
    have : t + 1 + k = t + (k + 1) := by omega
    rw [this]
    omega
theorem cnt_turn {p : Nat → Bool} {n : Nat} (h : Per p n) : ∀ t, cntP p t n = cntP p 0 n
  | 0 => rfl
  | t + 1 => by
    rw [← cnt_turn h t]
    cases n with
    | zero => rfl
    | succ n =>
      rw [cnt_last]
      conv => rhs; rw [cntP]
      have := h t
      have e : t + 1 + n = t + (n + 1) := by omega
      rw [e, this]
      omega
end Go.Proofs.Ythdajlaeacfcpaa
