/-
  What is added, dropped and asked of right ranges, told by the first place at which a test says yes. Plain facts; no condition.
-/
import Derived.Test.YtlbhlmccjieieaaAkMath
namespace Go.Proofs.Ytlbhlmccjieieaa
set_option maxRecDepth 100000

/-- The first range that begins at n or below. -/
def lowAt (l : List Rg) (n : Int) : Nat := l.findIdx fun r => decide (r.1 ≤ n)
/-- The first range that ends below n. -/
def highAt (l : List Rg) (n : Int) : Nat := l.findIdx fun r => decide (r.2 < n)
theorem lowAt_cons (x : Rg) (l : List Rg) (n : Int) : lowAt (x :: l) n = if x.1 ≤ n then 0 else lowAt l n + 1 := by
  unfold lowAt
  rw [List.findIdx_cons]
  by_cases h : x.1 ≤ n <;> simp [h]
theorem highAt_cons (x : Rg) (l : List Rg) (n : Int) : highAt (x :: l) n = if x.2 < n then 0 else highAt l n + 1 := by
  unfold highAt
  rw [List.findIdx_cons]
  by_cases h : x.2 < n <;> simp [h]
theorem lowAt_le (l : List Rg) (n : Int) : lowAt l n ≤ l.length := List.findIdx_le_length
theorem highAt_le (l : List Rg) (n : Int) : highAt l n ≤ l.length := List.findIdx_le_length
theorem gd_zero (x : Rg) (l : List Rg) : (x :: l).getD 0 (0, 0) = x := rfl
theorem gd_succ (x : Rg) (l : List Rg) (k : Nat) : (x :: l).getD (k + 1) (0, 0) = l.getD k (0, 0) := rfl
theorem gd_mem (l : List Rg) (k : Nat) (h : k < l.length) : l.getD k (0, 0) ∈ l := by simp [List.getD, List.getElem?_eq_getElem h]
/-- Where the numbers of a right row fall: a place is the first one, if all ahead of it are not so and it is. -/
theorem lowAt_is {l : List Rg} (n : Int) (k : Nat) (hk : k ≤ l.length) (h1 : ∀ i, i < k → ¬ (l.getD i (0, 0)).1 ≤ n) (h2 : k < l.length → (l.getD k (0, 0)).1 ≤ n) : lowAt l n = k := by
  induction l generalizing k with
  | nil => simp at hk; simp [lowAt, hk]
  | cons x l ih =>
    rw [lowAt_cons]
    cases k with
    | zero => rw [if_pos (show x.1 ≤ n from h2 (by simp))]
    | succ k =>
      rw [if_neg (show ¬ x.1 ≤ n from h1 0 (by omega)), ih k (by simpa using hk) (fun i hi => h1 (i + 1) (by omega)) (fun q => h2 (by simpa using q))]
theorem highAt_is {l : List Rg} (n : Int) (k : Nat) (hk : k ≤ l.length) (h1 : ∀ i, i < k → ¬ (l.getD i (0, 0)).2 < n) (h2 : k < l.length → (l.getD k (0, 0)).2 < n) : highAt l n = k := by
  induction l generalizing k with
  | nil => simp at hk; simp [highAt, hk]
  | cons x l ih =>
    rw [highAt_cons]
    cases k with
    | zero => rw [if_pos (show x.2 < n from h2 (by simp))]
    | succ k =>
      rw [if_neg (show ¬ x.2 < n from h1 0 (by omega)), ih k (by simpa using hk) (fun i hi => h1 (i + 1) (by omega)) (fun q => h2 (by simpa using q))]
/-- In a right row both tests rise. -/
theorem right_rise {l : List Rg} (h : Right l) : ∀ i j, i ≤ j → j < l.length → (l.getD j (0, 0)).1 ≤ (l.getD i (0, 0)).1 ∧ (l.getD j (0, 0)).2 ≤ (l.getD i (0, 0)).2 := by
  induction l with
  | nil => intro i j _ hj; simp at hj
  | cons x l ih =>
    obtain ⟨g1, g2, g3, g4, g5⟩ := h
    intro i j hij hj
    cases j with
    | zero => obtain rfl : i = 0 := by omega
              exact ⟨Int.le_refl _, Int.le_refl _⟩
    | succ j =>
      cases i with
      | zero =>
        rw [gd_succ, gd_zero]
        have hm := gd_mem l j (by simpa using hj)
        have := g4 _ hm
        have := (g5.mem _ hm).2.1
        omega
      | succ i => exact ih g5 i j (by omega) (by simpa using hj)
theorem has_find {l : List Rg} (h : Right l) (n : Int) : hasR l n = (decide (lowAt l n < l.length) && decide (n ≤ (l.getD (lowAt l n) (0, 0)).2)) := by
  induction l with
  | nil => simp [hasR, lowAt]
  | cons x l ih =>
    obtain ⟨g1, g2, g3, g4, g5⟩ := h
    rw [hasR_cons, lowAt_cons]
    by_cases q : x.1 ≤ n
    · rw [if_pos q, gd_zero]
      by_cases r : n ≤ x.2
      · simp [q, r]
      · have hf : hasR l n = false := by
          rw [Bool.eq_false_iff]
          intro e
          obtain ⟨y, hy, h1, h2⟩ := (hasR_iff l n).1 e
          have := g4 y hy
          omega
        simp [q, r, hf]
    · rw [if_neg q, gd_succ, ih g5]
      simp [q]
theorem drp_nil_of {l : List Rg} {b : Int} (h : ∀ y ∈ l, y.2 < b) : drp l b = [] := by
  induction l with
  | nil => rfl
  | cons x l ih =>
    unfold drp
    rw [if_neg (by have := h x (List.mem_cons_self ..); omega)]
    exact ih fun y hy => h y (List.mem_cons_of_mem _ hy)
theorem drp_find {l : List Rg} (h : Right l) (b : Int) : drp l b = if highAt l b = 0 then [] else l.take (highAt l b - 1) ++ [(max (l.getD (highAt l b - 1) (0, 0)).1 b, (l.getD (highAt l b - 1) (0, 0)).2)] := by
  induction l with
  | nil => simp [drp, highAt]
  | cons x l ih =>
    obtain ⟨g1, g2, g3, g4, g5⟩ := h
    rw [highAt_cons]
    by_cases q : x.2 < b
    · rw [if_pos q, if_pos rfl]
      exact drp_nil_of fun y hy => by
        rcases List.mem_cons.1 hy with rfl | hy
        · exact q
        · have := g4 y hy
          omega
    · rw [if_neg q, if_neg (by omega)]
      have e : drp (x :: l) b = (max x.1 b, x.2) :: drp l b := by
        show (if b ≤ x.2 then (max x.1 b, x.2) :: drp l b else drp l b) = _
        rw [if_pos (by omega)]
      rw [e, ih g5]
      by_cases z : highAt l b = 0
      · rw [if_pos z, z]
        rfl
      · rw [if_neg z]
        obtain ⟨k, hk⟩ : ∃ k, highAt l b = k + 1 := ⟨highAt l b - 1, by omega⟩
        have hkl := highAt_le l b
        rw [hk]
        have hx : max x.1 b = x.1 := by
          have hm := gd_mem l k (by omega)
          have h1 := g4 _ hm
          have h2 : ¬ (l.getD k (0, 0)).2 < b := by
            have hkk : k < l.length := by omega
            have hkf : k < l.findIdx (fun r : Rg => decide (r.2 < b)) := by show k < highAt l b; omega
            have := List.not_of_lt_findIdx hkf
            rw [show l.getD k (0, 0) = l[k] by simp [List.getD, List.getElem?_eq_getElem hkk]]
            simpa using this
          omega
        rw [hx]
        simp
theorem high_same {l : List Rg} (lo c : Int) (h : ∀ y ∈ l, y.2 + 1 < c) : highAt l (min lo c - 1) = highAt l (lo - 1) := by
  induction l with
  | nil => rfl
  | cons x l ih =>
    rw [highAt_cons, highAt_cons, ih fun y hy => h y (List.mem_cons_of_mem _ hy)]
    have := h x (List.mem_cons_self ..)
    by_cases q : x.2 < lo - 1
    · rw [if_pos q, if_pos (by omega)]
    · rw [if_neg q, if_neg (by omega)]
theorem low_zero {l : List Rg} (n : Int) (h : ∀ y ∈ l, y.1 ≤ n) : lowAt l n = 0 := by
  cases l with
  | nil => rfl
  | cons x l => rw [lowAt_cons, if_pos (h x (List.mem_cons_self ..))]
theorem find_le {l : List Rg} (h : Right l) {lo hi : Int} (hlh : lo ≤ hi) : lowAt l (hi + 1) ≤ highAt l (lo - 1) := by
  induction l with
  | nil => exact Nat.le_refl _
  | cons x l ih =>
    obtain ⟨g1, g2, g3, g4, g5⟩ := h
    rw [lowAt_cons, highAt_cons]
    by_cases q : x.1 ≤ hi + 1
    · rw [if_pos q]; exact Nat.zero_le _
    · rw [if_neg q, if_neg (by omega)]
      have := ih g5
      omega
/-- What is added stands where those that touch it stood. -/
theorem add_find (l : List Rg) : ∀ lo hi : Int, Right l → lo ≤ hi → add l lo hi = l.take (lowAt l (hi + 1)) ++ (if lowAt l (hi + 1) < highAt l (lo - 1) then (min lo (l.getD (highAt l (lo - 1) - 1) (0, 0)).1, max hi (l.getD (lowAt l (hi + 1)) (0, 0)).2) else (lo, hi)) :: l.drop (highAt l (lo - 1)) := by
  induction l with
  | nil => intro lo hi _ _; rfl
  | cons x l ih =>
    intro lo hi h hlh
    obtain ⟨g1, g2, g3, g4, g5⟩ := h
    have e : add (x :: l) lo hi = if hi + 1 < x.1 then x :: add l lo hi else if x.2 + 1 < lo then (lo, hi) :: x :: l else add l (min lo x.1) (max hi x.2) := rfl
    rw [e, lowAt_cons, highAt_cons]
    by_cases q1 : hi + 1 < x.1
    · rw [if_pos q1, if_neg (show ¬ x.1 ≤ hi + 1 by omega), if_neg (show ¬ x.2 < lo - 1 by omega), ih lo hi g5 hlh]
      have hle := find_le g5 hlh
      by_cases q : lowAt l (hi + 1) < highAt l (lo - 1)
      · rw [if_pos q, if_pos (by omega)]
        obtain ⟨k, hk⟩ : ∃ k, highAt l (lo - 1) = k + 1 := ⟨highAt l (lo - 1) - 1, by omega⟩
        rw [hk]
        simp
      · rw [if_neg q, if_neg (by omega)]
        simp
    · rw [if_neg q1, if_pos (show x.1 ≤ hi + 1 by omega)]
      by_cases q2 : x.2 + 1 < lo
      · rw [if_pos q2, if_pos (show x.2 < lo - 1 by omega)]
        rfl
      · rw [if_neg q2, if_neg (show ¬ x.2 < lo - 1 by omega), if_pos (by omega), ih _ _ g5 (by omega)]
        have z : lowAt l (max hi x.2 + 1) = 0 := low_zero _ fun y hy => by
          have := g4 y hy
          have := (g5.mem y hy).2.1
          omega
        rw [z, high_same lo x.1 g4]
        simp only [List.take_zero, List.nil_append, gd_zero, List.drop_succ_cons, Nat.add_sub_cancel]
        cases hj : highAt l (lo - 1) with
        | zero => simp
        | succ k =>
          rw [if_pos (by omega), Nat.add_sub_cancel, gd_succ]
          have hkl := highAt_le l (lo - 1)
          have hm := gd_mem l k (by omega)
          have h1 := g4 _ hm
          have h2 := (g5.mem _ hm).2.1
          have hm0 := gd_mem l 0 (by omega)
          have h3 := g4 _ hm0
          congr 1
          refine Prod.ext ?_ ?_ <;> simp only <;> omega
end Go.Proofs.Ytlbhlmccjieieaa
