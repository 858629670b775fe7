/-
  Plain facts: the prefixes that cover the addresses from one to another, always the greatest that begins at the next address. No condition.
-/
import Derived.Test.YtnkhafkdmlfdbabDoorPfMath
import Derived.OwnWalk
import Derived.Laws.OwnMore
namespace Go.Proofs.YtnkhafkdmlfdbabDoor
open Go.RowKit

/-- A prefix of so many bits that begins here fits. -/
def Fit (at_ high b : Int) : Prop := at_ % sz b = 0 ∧ at_ + sz b - 1 ≤ high
/-- The fewest bits that fit. -/
def Lb (at_ high b : Int) : Prop := (0 ≤ b ∧ b ≤ 32) ∧ Fit at_ high b ∧ ∀ c, 0 ≤ c → c < b → ¬ Fit at_ high c
theorem fit32 (at_ high : Int) (h : at_ ≤ high) : Fit at_ high 32 := by
  have : sz 32 = 1 := by decide
  unfold Fit
  rw [this]
  omega
theorem lb_from (at_ high : Int) (h : at_ ≤ high) : ∀ n : Nat, n ≤ 32 → (∀ c : Int, 0 ≤ c → c < 32 - n → ¬ Fit at_ high c) → ∃ b, Lb at_ high b
  | 0, _, hn => ⟨32, ⟨by omega, by omega⟩, fit32 at_ high h, fun c c0 c1 => hn c c0 (by omega)⟩
  | n + 1, hl, hn => by
    by_cases q : Fit at_ high (32 - (n + 1))
    · exact ⟨32 - (n + 1), ⟨by omega, by omega⟩, q, fun c c0 c1 => hn c c0 (by omega)⟩
    · refine lb_from at_ high h n (by omega) fun c c0 c1 => ?_
      by_cases e : c = 32 - (n + 1)
      · rw [e]; exact q
      · exact hn c c0 (by omega)
theorem lb_some (at_ high : Int) (h : at_ ≤ high) : ∃ b, Lb at_ high b := lb_from at_ high h 32 (Nat.le_refl _) fun c c0 c1 => by omega
theorem lb_one {at_ high b c : Int} (h : Lb at_ high b) (h' : Lb at_ high c) : b = c := by
  rcases (show b < c ∨ b = c ∨ c < b by omega) with q | q | q
  · exact absurd h.2.1 (h'.2.2 b h.1.1 q)
  · exact q
  · exact absurd h'.2.1 (h.2.2 c h'.1.1 q)
/-- The prefixes that cover the addresses from here on. -/
def Cov (high : Int) : Int → List (Int × Int) → Prop
  | at_, [] => high < at_
  | at_, (a, b) :: l => a = at_ ∧ at_ ≤ high ∧ Lb at_ high b ∧ Cov high (at_ + sz b) l
theorem cov_len (high : Int) : ∀ (l : List (Int × Int)) (at_ : Int), Cov high at_ l → (l.length : Int) ≤ 0 ∨ (l.length : Int) ≤ high + 1 - at_
  | [], _, _ => .inl (by simp)
  | (a, b) :: l, at_, ⟨_, h1, _, h2⟩ => by
    have := cov_len high l _ h2
    have hp := sz_pos b
    simp only [List.length_cons]
    omega
theorem cov_one (high : Int) : ∀ (l l' : List (Int × Int)) (at_ : Int), Cov high at_ l → Cov high at_ l' → l = l'
  | [], [], _, _, _ => rfl
  | [], (a, b) :: l', at_, h, ⟨_, h1, _⟩ => by
    have : high < at_ := h
    omega
  | (a, b) :: l, [], at_, ⟨_, h1, _⟩, h => by
    have : high < at_ := h
    omega
  | (a, b) :: l, (a', b') :: l', at_, ⟨e, _, q, k⟩, ⟨e', _, q', k'⟩ => by
    obtain rfl := lb_one q q'
    rw [e, e', cov_one high l l' _ k k']
theorem cov_some (high : Int) : ∀ (n : Nat) (at_ : Int), high + 1 - at_ ≤ n → ∃ l, Cov high at_ l
  | 0, at_, h => ⟨[], by show high < at_; omega⟩
  | n + 1, at_, h => by
    by_cases q : at_ ≤ high
    · obtain ⟨b, hb⟩ := lb_some at_ high q
      have hp := sz_pos b
      obtain ⟨l, hl⟩ := cov_some high n (at_ + sz b) (by omega)
      exact ⟨(at_, b) :: l, rfl, q, hb, hl⟩
    · exact ⟨[], by show high < at_; omega⟩
/-- Prefixes as cells. -/
def pc (l : List (Int × Int)) : List Value := l.flatMap fun p => [.int .u32 p.1, .int .i64 p.2]
theorem pc_length (l : List (Int × Int)) : (pc l).length = l.length * 2 := by
  induction l with
  | nil => rfl
  | cons p l ih => simp only [pc, List.flatMap_cons, List.length_append, List.length_cons, List.length_nil] at ih ⊢; omega
theorem pc_snoc (l : List (Int × Int)) (a b : Int) : pc (l ++ [(a, b)]) = pc l ++ [.int .u32 a, .int .i64 b] := by
  unfold pc
  rw [List.flatMap_append]
  rfl
theorem info_pfx : ∃ i, Tryd.prog.info? 24 = some i ∧ i.zero = some (.agg #[.int .u32 0, .int .i64 0]) ∧ i.size = 2 ∧ i.bytes = 16 := by
  have h : (Tryd.prog.info? 24).map (fun i => (i.zero, i.size, i.bytes)) = some (some (.agg #[.int .u32 0, .int .i64 0]), 2, 16) := by kernel_rfl
  obtain ⟨i, hi, e⟩ := Option.map_eq_some_iff.1 h
  simp only [Prod.mk.injEq] at e
  exact ⟨i, hi, e.1, e.2.1, e.2.2⟩
/-- A slice of its own, and what its cells hold. -/
theorem own_slice {w : World} {B n : Nat} {v : Value} {l : List (Int × Int)} (h : w.ownsRow B 24 2 v n (pc l)) :
    ∃ (p : Option Addr) (cap : Nat), v = .slice p n cap ∧ Hid (0 < n → ∃ g, p = some ⟨g, 0, none⟩ ∧ g < w.heap.size ∧ B ≤ g ∧ n ≤ cap ∧ ∀ j, j < n * 2 → w.cell? ⟨g, j, none⟩ = (pc l)[j]?) := by
  rcases h.2 with ⟨rfl, rfl⟩ | ⟨g, cap, cur, rfl, hb, hg, h1, h2, h3, h4⟩
  · exact ⟨none, 0, rfl, fun x => absurd x (by decide)⟩
  · refine ⟨_, cap, rfl, fun _ => ⟨g, rfl, (Array.getElem?_eq_some_iff.1 hg).1, hb, h1, fun j hj => ?_⟩⟩
    exact World.ownsRow.cellAt h j hj
theorem pc_get (l : List (Int × Int)) (k : Nat) (a b : Int) (h : l[k]? = some (a, b)) : (pc l)[k * 2]? = some (.int .u32 a) ∧ (pc l)[k * 2 + 1]? = some (.int .i64 b) := by
  induction l generalizing k with
  | nil => simp at h
  | cons p l ih =>
    have e : pc (p :: l) = .int .u32 p.1 :: .int .i64 p.2 :: pc l := rfl
    rw [e]
    cases k with
    | zero => simp at h; subst h; exact ⟨rfl, rfl⟩
    | succ k =>
      have := ih k (by simpa using h)
      rw [show (k + 1) * 2 = k * 2 + 1 + 1 by omega]
      exact this
end Go.Proofs.YtnkhafkdmlfdbabDoor
