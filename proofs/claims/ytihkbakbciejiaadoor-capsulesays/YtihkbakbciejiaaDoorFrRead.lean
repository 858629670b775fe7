/-
  Frames as values, written and read: what is written is read again, what goes on behind changes nothing, what is cut off is too short. Plain facts; no condition.
-/
import Derived.Test.YtihkbakbciejiaaDoorFrGet
import Derived.Test.YtihkbakbciejiaaDoorAkMath
namespace Go.Proofs.YtihkbakbciejiaaDoor
set_option maxRecDepth 100000

/-- A reader: what was read and what is left, or what is wrong. -/
abbrev Rd (α : Type) := L → Except Int (α × L)
def Rd.bind {α β : Type} (p : Rd α) (q : α → Rd β) : Rd β := fun s => match p s with
  | .ok (a, r) => q a r
  | .error e => .error e
/-- A reader that reads from the front: what goes on behind changes nothing but that it is too short; what is cut off is too short. -/
structure Good {α : Type} (p : Rd α) : Prop where
  ok : ∀ s a r, p s = .ok (a, r) → ∃ u, s = u ++ r ∧ (∀ t, p (u ++ t) = .ok (a, t)) ∧ ∀ j, j < u.length → p (u.take j) = .error 1
  err : ∀ s e, p s = .error e → e ≠ 1 → ∀ t, p (s ++ t) = .error e
theorem Good.bind {α β : Type} {p : Rd α} {q : α → Rd β} (hp : Good p) (hq : ∀ a, Good (q a)) : Good (p.bind q) := by
  refine ⟨fun s b r h => ?_, fun s e h he t => ?_⟩
  · unfold Rd.bind at h
    cases hs : p s with
    | error e => rw [hs] at h; cases h
    | ok x =>
      obtain ⟨a, r1⟩ := x
      rw [hs] at h
      obtain ⟨u1, e1, m1, c1⟩ := hp.ok s a r1 hs
      obtain ⟨u2, e2, m2, c2⟩ := (hq a).ok r1 b r h
      refine ⟨u1 ++ u2, by rw [e1, e2, List.append_assoc], fun t => ?_, fun j hj => ?_⟩
      · unfold Rd.bind
        rw [List.append_assoc, m1]
        exact m2 t
      · unfold Rd.bind
        rcases Nat.lt_or_ge j u1.length with q1 | q1
        · rw [List.take_append_of_le_length (by omega), c1 j q1]
        · have e3 : (u1 ++ u2).take j = u1 ++ u2.take (j - u1.length) := by
            rw [List.take_append, List.take_of_length_le q1]
          rw [e3, m1]
          exact c2 _ (by rw [List.length_append] at hj; omega)
  · unfold Rd.bind at h ⊢
    cases hs : p s with
    | error e' =>
      rw [hs] at h
      injection h with h
      subst h
      rw [hp.err s e' hs he t]
    | ok x =>
      obtain ⟨a, r1⟩ := x
      rw [hs] at h
      obtain ⟨u1, e1, m1, _⟩ := hp.ok s a r1 hs
      rw [e1, List.append_assoc, m1]
      exact (hq a).err r1 e h he t
def Rd.pure {α : Type} (a : α) : Rd α := fun s => .ok (a, s)
theorem Good.pure {α : Type} (a : α) : Good (Rd.pure a) :=
  ⟨fun s b r h => by injection h with h; injection h with h1 h2; subst h1 h2; exact ⟨[], rfl, fun t => rfl, fun j hj => by simp at hj⟩, fun s e h => by cases h⟩
/-- A test behind what was read. -/
def Rd.test (e : Int) : Rd Unit := fun s => if e = 0 then .ok ((), s) else .error e
theorem Good.test (e : Int) : Good (Rd.test e) := by
  refine ⟨fun s a r h => ?_, fun s e' h _ t => ?_⟩
  · unfold Rd.test at h
    split at h
    · rename_i q
      injection h with h
      injection h with _ h
      subst h
      exact ⟨[], rfl, fun t => by unfold Rd.test; rw [if_pos q]; rfl, fun j hj => by simp at hj⟩
    · cases h
  · unfold Rd.test at h ⊢
    split at h
    · cases h
    · rename_i q
      rw [if_neg q]
      exact h
def rNum : Rd Nat := fun s => match getL s with
  | some (n, k) => .ok (n, s.drop k)
  | none => .error 1
theorem good_num : Good rNum := by
  refine ⟨fun s a r h => ?_, fun s e h he => ?_⟩
  · unfold rNum at h
    cases hs : getL s with
    | none => rw [hs] at h; cases h
    | some x =>
      obtain ⟨n, k⟩ := x
      rw [hs] at h
      injection h with h
      injection h with h1 h2
      subst h1 h2
      have hl := getL_len hs
      have hx : getL (s.take k) = some (n, k) := by
        have := getL_cut hs
        cases ht : getL (s.take k) with
        | none =>
          exfalso
          cases s with
          | nil => cases hs
          | cons b t =>
            rw [getL_cons] at hs
            split at hs
            · cases hs
            · injection hs with hs
              injection hs with _ hs
              have hk : k = (k - 1) + 1 := by omega
              rw [hk, List.take_succ_cons, getL_cons] at ht
              split at ht
              · rename_i q
                rw [List.length_take] at q
                simp at hl
                omega
              · cases ht
        | some y =>
          obtain ⟨n', k'⟩ := y
          have := getL_more ht (s.drop k)
          rw [List.take_append_drop, hs] at this
          exact this.symm
      refine ⟨s.take k, (List.take_append_drop k s).symm, fun t => ?_, fun j hj => ?_⟩
      · unfold rNum
        rw [getL_more hx t]
        simp only
        rw [List.drop_append, List.drop_of_length_le (by simp [List.length_take]; omega)]
        simp [List.length_take, Nat.min_eq_left hl.2]
      · unfold rNum
        rw [List.take_take, Nat.min_eq_left (by rw [List.length_take] at hj; omega), getL_cut hs j (by rw [List.length_take] at hj; omega)]
  · unfold rNum at h
    split at h
    · cases h
    · injection h with h
      exact absurd h.symm he
/-- So many bytes. -/
def rTake (n : Nat) : Rd L := fun s => if s.length < n then .error 1 else .ok (s.take n, s.drop n)
theorem good_take (n : Nat) : Good (rTake n) := by
  refine ⟨fun s a r h => ?_, fun s e h he => ?_⟩
  · unfold rTake at h
    split at h
    · cases h
    · rename_i q
      injection h with h
      injection h with h1 h2
      subst h1 h2
      have hl : (s.take n).length = n := by rw [List.length_take]; omega
      refine ⟨s.take n, (List.take_append_drop n s).symm, fun t => ?_, fun j hj => ?_⟩
      · unfold rTake
        rw [if_neg (by rw [List.length_append, hl]; omega), List.take_append_of_le_length (by omega), List.take_of_length_le (by omega), List.drop_append, List.drop_of_length_le (by omega), hl]
        simp
      · unfold rTake
        rw [if_pos (by rw [List.length_take]; omega)]
  · unfold rTake at h
    split at h
    · injection h with h
      exact absurd h.symm he
    · cases h
def rText : Rd L := rNum.bind rTake
theorem good_text : Good rText := good_num.bind good_take
def rFin : Rd Bool := fun s => match s with
  | [] => .error 1
  | c :: r => if 1 < c.toNat then .error 3 else .ok (c == 1, r)
theorem good_fin : Good rFin := by
  refine ⟨fun s a r h => ?_, fun s e h he t => ?_⟩
  · cases s with
    | nil => cases h
    | cons c s =>
      unfold rFin at h
      simp only at h
      split at h
      · cases h
      · rename_i q
        injection h with h
        injection h with h1 h2
        subst h1 h2
        refine ⟨[c], rfl, fun t => ?_, fun j hj => ?_⟩
        · unfold rFin
          simp [q]
        · obtain rfl : j = 0 := by simp at hj; exact hj
          rfl
  · cases s with
    | nil => injection h with h; exact absurd h.symm he
    | cons c s =>
      unfold rFin at h ⊢
      simp only [List.cons_append] at h ⊢
      split at h
      · rename_i q
        rw [if_pos q]
        exact h
      · cases h
end Go.Proofs.YtihkbakbciejiaaDoor
