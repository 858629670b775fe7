/-
  Plain facts: numbers that were seen, the greatest of them, and what a check of one more answers. No condition.
-/
import Derived.Test.YtjdkmjpajijkdaaChecked
namespace Go.Proofs.Ytjdkmjpajijkdaa

/-- The greatest of the numbers; 0, if there is none. -/
def top (l : List Int) : Int := l.foldl max 0
theorem top_snoc (l : List Int) (n : Int) : top (l ++ [n]) = max (top l) n := by simp [top, List.foldl_append]
theorem foldl_le (l : List Int) : ∀ a : Int, a ≤ l.foldl max a ∧ ∀ x ∈ l, x ≤ l.foldl max a := by
  induction l with
  | nil => intro a; simp
  | cons y l ih =>
    intro a
    obtain ⟨h1, h2⟩ := ih (max a y)
    refine ⟨by rw [List.foldl_cons]; omega, fun x hx => ?_⟩
    rw [List.foldl_cons]
    rcases List.mem_cons.1 hx with rfl | hx
    · omega
    · exact h2 x hx
theorem top_nonneg (l : List Int) : 0 ≤ top l := (foldl_le l 0).1
theorem le_top {l : List Int} {x : Int} (h : x ∈ l) : x ≤ top l := (foldl_le l 0).2 x h
/-- Numbers from 0 to 2^62 - 1. -/
def InR (l : List Int) : Prop := ∀ x ∈ l, 0 ≤ x ∧ x ≤ 4611686018427387903
theorem foldl_ub (l : List Int) (c : Int) : ∀ a : Int, a ≤ c → (∀ x ∈ l, x ≤ c) → l.foldl max a ≤ c := by
  induction l with
  | nil => intro a h _; simpa using h
  | cons y l ih =>
    intro a h hl
    rw [List.foldl_cons]
    exact ih _ (by have := hl y (List.mem_cons_self ..); omega) fun x hx => hl x (List.mem_cons_of_mem _ hx)
theorem top_le {l : List Int} (h : InR l) : top l ≤ 4611686018427387903 := foldl_ub l _ 0 (by omega) fun x hx => (h x hx).2
theorem foldl_mem (l : List Int) : ∀ a : Int, l.foldl max a = a ∨ l.foldl max a ∈ l := by
  induction l with
  | nil => intro a; exact .inl rfl
  | cons y l ih =>
    intro a
    rw [List.foldl_cons]
    rcases ih (max a y) with h | h
    · rw [h]
      rcases Int.le_total a y with q | q
      · right; rw [show max a y = y by omega]; exact List.mem_cons_self ..
      · left; omega
    · exact .inr (List.mem_cons_of_mem _ h)
theorem top_mem {l : List Int} (h : InR l) (hl : l ≠ []) : top l ∈ l := by
  rcases foldl_mem l 0 with e | e
  · cases l with
    | nil => exact absurd rfl hl
    | cons y l =>
      have h1 := le_top (l := y :: l) (List.mem_cons_self ..)
      have h2 := (h y (List.mem_cons_self ..)).1
      have h3 : top (y :: l) = 0 := e
      have : y = top (y :: l) := by omega
      rw [← this]
      exact List.mem_cons_self ..
  · exact e
theorem top_take_succ (l : List Int) (k : Nat) (h : k < l.length) : top (l.take (k + 1)) = max (top (l.take k)) (l.getD k 0) := by
  rw [List.take_succ_eq_append_getElem h, top_snoc]
  simp [List.getD, List.getElem?_eq_getElem h]
/-- What a check of a number answers: 2, 11 or 0. -/
def chk (l : List Int) (n : Int) : Int := if n < 0 ∨ 4611686018427387903 < n then 2 else if (l ≠ [] ∧ n ≤ top l - 64) ∨ n ∈ l then 11 else 0
/-- What was seen behind it. -/
def nxt (l : List Int) (n : Int) : List Int := if chk l n = 0 then l ++ [n] else l
theorem chk_range {l : List Int} {n : Int} (h : n < 0 ∨ 4611686018427387903 < n) : chk l n = 2 := if_pos h
theorem chk_in {l : List Int} {n : Int} (h : 0 ≤ n) (h2 : n ≤ 4611686018427387903) : chk l n = if (l ≠ [] ∧ n ≤ top l - 64) ∨ n ∈ l then 11 else 0 := if_neg (by omega)
theorem chk_zero {l : List Int} {n : Int} : chk l n = 0 ↔ (0 ≤ n ∧ n ≤ 4611686018427387903) ∧ (l ≠ [] → top l - 64 < n) ∧ n ∉ l := by
  unfold chk
  by_cases h : n < 0 ∨ 4611686018427387903 < n
  · rw [if_pos h]
    constructor
    · intro q; omega
    · intro q; omega
  · rw [if_neg h]
    by_cases g : (l ≠ [] ∧ n ≤ top l - 64) ∨ n ∈ l
    · rw [if_pos g]
      constructor
      · intro q; omega
      · intro q
        rcases g with g | g
        · have := q.2.1 g.1; omega
        · exact absurd g q.2.2
    · rw [if_neg g]
      refine ⟨fun _ => ⟨by omega, fun hl => ?_, fun hm => g (.inr hm)⟩, fun _ => rfl⟩
      have : ¬ n ≤ top l - 64 := fun q => g (.inl ⟨hl, q⟩)
      omega
theorem chk_cases (l : List Int) (n : Int) : chk l n = 0 ∨ chk l n = 2 ∨ chk l n = 11 := by
  unfold chk
  split
  · exact .inr (.inl rfl)
  · split
    · exact .inr (.inr rfl)
    · exact .inl rfl
theorem nxt_in {l : List Int} (h : InR l) (n : Int) : InR (nxt l n) := by
  unfold nxt
  split
  · next q =>
    intro x hx
    rcases List.mem_append.1 hx with hx | hx
    · exact h x hx
    · rw [List.mem_singleton.1 hx]; exact (chk_zero.1 q).1
  · exact h
theorem nxt_len (l : List Int) (n : Int) : (nxt l n).length ≤ l.length + 1 := by
  unfold nxt
  split
  · simp
  · omega
end Go.Proofs.Ytjdkmjpajijkdaa
