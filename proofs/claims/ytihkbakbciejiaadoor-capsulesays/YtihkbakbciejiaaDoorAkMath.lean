/-
  Plain facts: sets of numbers as ranges, the greatest first: what is added, dropped, found; that right ranges with the same numbers are the same. No condition.
-/
import Derived.Test.YtihkbakbciejiaaDoorChecked
namespace Go.Proofs.YtihkbakbciejiaaDoor

/-- A range: its lowest number and its highest. -/
abbrev Rg := Int × Int
/-- Ranges are right, but for how many there are. -/
def Right : List Rg → Prop
  | [] => True
  | x :: l => 0 ≤ x.1 ∧ x.1 ≤ x.2 ∧ x.2 ≤ 4611686018427387903 ∧ (∀ y ∈ l, y.2 + 1 < x.1) ∧ Right l
/-- Is a number in the set? -/
def hasR (l : List Rg) (n : Int) : Bool := l.any fun x => decide (x.1 ≤ n) && decide (n ≤ x.2)
theorem hasR_iff (l : List Rg) (n : Int) : hasR l n = true ↔ ∃ x ∈ l, x.1 ≤ n ∧ n ≤ x.2 := by simp [hasR]
theorem hasR_cons (x : Rg) (l : List Rg) (n : Int) : hasR (x :: l) n = ((decide (x.1 ≤ n) && decide (n ≤ x.2)) || hasR l n) := rfl
theorem Right.mem {l : List Rg} (h : Right l) : ∀ x ∈ l, 0 ≤ x.1 ∧ x.1 ≤ x.2 ∧ x.2 ≤ 4611686018427387903 := by
  induction l with
  | nil => intro x hx; cases hx
  | cons y l ih =>
    obtain ⟨h1, h2, h3, _, h5⟩ := h
    intro x hx
    rcases List.mem_cons.1 hx with rfl | hx
    · exact ⟨h1, h2, h3⟩
    · exact ih h5 x hx
/-- Numbers that are added to right ranges. -/
def add : List Rg → Int → Int → List Rg
  | [], lo, hi => [(lo, hi)]
  | x :: l, lo, hi => if hi + 1 < x.1 then x :: add l lo hi else if x.2 + 1 < lo then (lo, hi) :: x :: l else add l (min lo x.1) (max hi x.2)
theorem add_le (l : List Rg) : ∀ lo hi c : Int, hi ≤ c → (∀ y ∈ l, y.2 ≤ c) → ∀ y ∈ add l lo hi, y.2 ≤ c := by
  induction l with
  | nil => intro lo hi c h _ y hy; simp [add] at hy; subst hy; exact h
  | cons x l ih =>
    intro lo hi c h hl y hy
    have hx := hl x (List.mem_cons_self ..)
    have hl' : ∀ y ∈ l, y.2 ≤ c := fun y hy => hl y (List.mem_cons_of_mem _ hy)
    unfold add at hy
    split at hy
    · rcases List.mem_cons.1 hy with rfl | hy
      · exact hx
      · exact ih lo hi c h hl' y hy
    · split at hy
      · rcases List.mem_cons.1 hy with rfl | hy
        · exact h
        · exact hl y hy
      · exact ih _ _ c (by omega) hl' y hy
theorem add_right (l : List Rg) : ∀ lo hi : Int, Right l → 0 ≤ lo → lo ≤ hi → hi ≤ 4611686018427387903 → Right (add l lo hi) := by
  induction l with
  | nil => intro lo hi _ h1 h2 h3; exact ⟨h1, h2, h3, fun _ h => (by cases h), trivial⟩
  | cons x l ih =>
    intro lo hi hR h1 h2 h3
    have hR' := hR
    obtain ⟨g1, g2, g3, g4, g5⟩ := hR
    unfold add
    split
    · next q =>
      refine ⟨g1, g2, g3, fun y hy => ?_, ih lo hi g5 h1 h2 h3⟩
      have := add_le l lo hi (x.1 - 2) (by omega) (fun y hy => by have := g4 y hy; omega) y hy
      omega
    · split
      · next q =>
        refine ⟨h1, h2, h3, fun y hy => ?_, hR'⟩
        rcases List.mem_cons.1 hy with rfl | hy
        · exact q
        · have := g4 y hy
          show y.2 + 1 < lo
          omega
      · exact ih _ _ g5 (by omega) (by omega) (by omega)
theorem add_has (l : List Rg) : ∀ lo hi n : Int, Right l → lo ≤ hi → (hasR (add l lo hi) n = true ↔ hasR l n = true ∨ (lo ≤ n ∧ n ≤ hi)) := by
  induction l with
  | nil => intro lo hi n _ _; simp [add, hasR]
  | cons x l ih =>
    intro lo hi n hR h2
    obtain ⟨g1, g2, g3, g4, g5⟩ := hR
    unfold add
    split
    · rw [hasR_cons, hasR_cons, Bool.or_eq_true, Bool.or_eq_true, ih lo hi n g5 h2, or_assoc]
    · split
      · rw [hasR_cons, Bool.or_eq_true]
        simp only [Bool.and_eq_true, decide_eq_true_eq]
        exact ⟨fun h => h.symm, fun h => h.symm⟩
      · next q1 q2 =>
        rw [ih _ _ n g5 (by omega), hasR_cons, Bool.or_eq_true]
        simp only [Bool.and_eq_true, decide_eq_true_eq]
        constructor
        · rintro (h | h)
          · exact .inl (.inr h)
          · by_cases q : lo ≤ n ∧ n ≤ hi
            · exact .inr q
            · exact .inl (.inl (by omega))
        · rintro ((h | h) | h)
          · right; omega
          · exact .inl h
          · right; omega
theorem add_len (l : List Rg) : ∀ lo hi : Int, (add l lo hi).length ≤ l.length + 1 := by
  induction l with
  | nil => intro lo hi; simp [add]
  | cons x l ih =>
    intro lo hi
    unfold add
    split
    · have := ih lo hi; simp; omega
    · split
      · simp
      · have := ih (min lo x.1) (max hi x.2); simp; omega
/-- Right ranges with the same numbers are the same. -/
theorem right_ext (l : List Rg) : ∀ m : List Rg, Right l → Right m → (∀ n, hasR l n = true ↔ hasR m n = true) → l = m := by
  induction l with
  | nil =>
    intro m _ hm h
    cases m with
    | nil => rfl
    | cons y m =>
      have := (h y.1).2 ((hasR_iff _ _).2 ⟨y, List.mem_cons_self .., Int.le_refl _, hm.2.1⟩)
      simp [hasR] at this
  | cons x l ih =>
    intro m hl hm h
    cases m with
    | nil =>
      have := (h x.1).1 ((hasR_iff _ _).2 ⟨x, List.mem_cons_self .., Int.le_refl _, hl.2.1⟩)
      simp [hasR] at this
    | cons y m =>
      obtain ⟨a1, a2, a3, a4, a5⟩ := hl
      obtain ⟨b1, b2, b3, b4, b5⟩ := hm
      have low : ∀ (z : Rg) (k : List Rg) (n : Int), (∀ w ∈ k, w.2 + 1 < z.1) → hasR k n = true → n + 1 < z.1 := fun z k n hk hn => by
        obtain ⟨w, hw, _, h2⟩ := (hasR_iff _ _).1 hn
        have := hk w hw
        omega
      have inx : ∀ n, hasR (x :: l) n = true ↔ (x.1 ≤ n ∧ n ≤ x.2) ∨ hasR l n = true := fun n => by rw [hasR_cons, Bool.or_eq_true]; simp
      have iny : ∀ n, hasR (y :: m) n = true ↔ (y.1 ≤ n ∧ n ≤ y.2) ∨ hasR m n = true := fun n => by rw [hasR_cons, Bool.or_eq_true]; simp
      have e2 : x.2 = y.2 := by
        have h1 := (iny _).1 ((h x.2).1 ((inx _).2 (.inl ⟨a2, Int.le_refl _⟩)))
        have h2 := (inx _).1 ((h y.2).2 ((iny _).2 (.inl ⟨b2, Int.le_refl _⟩)))
        have u1 : x.2 ≤ y.2 := by
          rcases h1 with q | q
          · exact q.2
          · have := low y m _ b4 q; omega
        have u2 : y.2 ≤ x.2 := by
          rcases h2 with q | q
          · exact q.2
          · have := low x l _ a4 q; omega
        omega
      have e1 : x.1 = y.1 := by
        rcases Int.lt_trichotomy x.1 y.1 with q | q | q
        · have := (iny _).1 ((h (y.1 - 1)).1 ((inx _).2 (.inl ⟨by omega, by omega⟩)))
          rcases this with p | p
          · omega
          · have := low y m _ b4 p; omega
        · exact q
        · have := (inx _).1 ((h (x.1 - 1)).2 ((iny _).2 (.inl ⟨by omega, by omega⟩)))
          rcases this with p | p
          · omega
          · have := low x l _ a4 p; omega
      have exy : x = y := Prod.ext e1 e2
      subst exy
      congr 1
      refine ih m a5 b5 fun n => ?_
      constructor
      · intro hn
        have u := low x l n a4 hn
        rcases (iny _).1 ((h n).1 ((inx n).2 (.inr hn))) with p | p
        · omega
        · exact p
      · intro hn
        have u := low x m n b4 hn
        rcases (inx _).1 ((h n).2 ((iny n).2 (.inr hn))) with p | p
        · omega
        · exact p
/-- What is kept from a number on. -/
def drp : List Rg → Int → List Rg
  | [], _ => []
  | x :: l, b => if b ≤ x.2 then (max x.1 b, x.2) :: drp l b else drp l b
theorem drp_le (l : List Rg) (b : Int) : ∀ c : Int, (∀ y ∈ l, y.2 ≤ c) → ∀ y ∈ drp l b, y.2 ≤ c := by
  induction l with
  | nil => intro c _ y hy; cases hy
  | cons x l ih =>
    intro c hl y hy
    unfold drp at hy
    split at hy
    · rcases List.mem_cons.1 hy with rfl | hy
      · exact hl x (List.mem_cons_self ..)
      · exact ih c (fun y hy => hl y (List.mem_cons_of_mem _ hy)) y hy
    · exact ih c (fun y hy => hl y (List.mem_cons_of_mem _ hy)) y hy
theorem drp_right (l : List Rg) (b : Int) (h : Right l) : Right (drp l b) := by
  induction l with
  | nil => trivial
  | cons x l ih =>
    obtain ⟨g1, g2, g3, g4, g5⟩ := h
    unfold drp
    split
    · refine ⟨?_, ?_, g3, fun y hy => ?_, ih g5⟩
      · show 0 ≤ max x.1 b; omega
      · show max x.1 b ≤ x.2; omega
      · have := drp_le l b (x.1 - 2) (fun y hy => by have := g4 y hy; omega) y hy
        show y.2 + 1 < max x.1 b
        omega
    · exact ih g5
theorem drp_has (l : List Rg) (b n : Int) : hasR (drp l b) n = true ↔ hasR l n = true ∧ b ≤ n := by
  induction l with
  | nil => simp [drp, hasR]
  | cons x l ih =>
    unfold drp
    split
    · rw [hasR_cons, hasR_cons, Bool.or_eq_true, Bool.or_eq_true, ih]
      simp only [Bool.and_eq_true, decide_eq_true_eq]
      constructor
      · rintro (q | q)
        · exact ⟨.inl (by omega), by omega⟩
        · exact ⟨.inr q.1, q.2⟩
      · rintro ⟨q | q, r⟩
        · left; omega
        · exact .inr ⟨q, r⟩
    · next g =>
      rw [ih, hasR_cons, Bool.or_eq_true]
      simp only [Bool.and_eq_true, decide_eq_true_eq]
      constructor
      · exact fun q => ⟨.inr q.1, q.2⟩
      · rintro ⟨q | q, r⟩
        · omega
        · exact ⟨q, r⟩
theorem drp_len (l : List Rg) (b : Int) : (drp l b).length ≤ l.length := by
  induction l with
  | nil => simp [drp]
  | cons x l ih =>
    unfold drp
    split
    · simp; omega
    · simp; omega
theorem take_right (l : List Rg) : ∀ k, Right l → Right (l.take k) := by
  induction l with
  | nil => intro k _; simp [Right]
  | cons x l ih =>
    intro k h
    cases k with
    | zero => trivial
    | succ k =>
      obtain ⟨g1, g2, g3, g4, g5⟩ := h
      exact ⟨g1, g2, g3, fun y hy => g4 y (List.mem_of_mem_take hy), ih k g5⟩
/-- May these be added? -/
def fineB (lo hi : Int) : Bool := decide (0 ≤ lo) && decide (hi ≤ 4611686018427387903) && decide (lo ≤ hi)
/-- What Add answers, and what it leaves. -/
def addE (lo hi : Int) : Int := if fineB lo hi then 0 else 2
def addS (l : List Rg) (lo hi : Int) : List Rg := if fineB lo hi then (add l lo hi).take 16 else l
theorem fine_iff {lo hi : Int} : fineB lo hi = true ↔ 0 ≤ lo ∧ hi ≤ 4611686018427387903 ∧ lo ≤ hi := by unfold fineB; simp [and_assoc]
/-- Right, and not too many. -/
def Ok (l : List Rg) : Prop := Right l ∧ l.length ≤ 16
theorem Ok.add {l : List Rg} (h : Ok l) (lo hi : Int) : Ok (addS l lo hi) := by
  unfold addS
  split
  · next q =>
    obtain ⟨q1, q2, q3⟩ := fine_iff.1 q
    exact ⟨take_right _ _ (add_right l lo hi h.1 q1 q3 q2), by rw [List.length_take]; omega⟩
  · exact h
theorem Ok.drop {l : List Rg} (h : Ok l) (b : Int) : Ok (drp l b) := ⟨drp_right l b h.1, Nat.le_trans (drp_len l b) h.2⟩
theorem Ok.nil : Ok [] := ⟨trivial, by decide⟩
/-- Is the range at a place right, and far enough below the one ahead? -/
def okAt (l : List Rg) (k : Nat) : Bool := fineB (l.getD k (0, 0)).1 (l.getD k (0, 0)).2 && (decide (k = 0) || decide ((l.getD k (0, 0)).2 + 1 < (l.getD (k - 1) (0, 0)).1))
/-- What Check answers. -/
def chkR (l : List Rg) : Int := if 16 < l.length then 8 else if (List.range l.length).all (okAt l) then 0 else 2
theorem right_at (l : List Rg) (h : Right l) : ∀ k, k < l.length → okAt l k = true := by
  induction l with
  | nil => intro k hk; simp at hk
  | cons x l ih =>
    obtain ⟨g1, g2, g3, g4, g5⟩ := h
    intro k hk
    cases k with
    | zero => unfold okAt; simp; exact fine_iff.2 ⟨g1, g3, g2⟩
    | succ k =>
      have hk' : k < l.length := by simpa using hk
      have := ih g5 k hk'
      unfold okAt at this ⊢
      simp only [Bool.and_eq_true] at this ⊢
      refine ⟨by simpa using this.1, ?_⟩
      cases k with
      | zero =>
        have hm : l.getD 0 (0, 0) ∈ l := by simp [List.getD, List.getElem?_eq_getElem hk']
        have := g4 _ hm
        simpa using this
      | succ k => simpa using this.2
theorem Ok.chk {l : List Rg} (h : Ok l) : chkR l = 0 := by
  unfold chkR
  rw [if_neg (by have := h.2; omega), if_pos]
  rw [List.all_eq_true]
  intro k hk
  exact right_at l h.1 k (List.mem_range.1 hk)
theorem chkR_all {l : List Rg} (h : l.length ≤ 16) (hk : ∀ k, k < l.length → okAt l k = true) : chkR l = 0 := by
  unfold chkR
  rw [if_neg (by omega), if_pos]
  rw [List.all_eq_true]
  exact fun k q => hk k (List.mem_range.1 q)
theorem chkR_not {l : List Rg} (h : l.length ≤ 16) (k : Nat) (hk : k < l.length) (q : okAt l k = false) : chkR l = 2 := by
  unfold chkR
  rw [if_neg (by omega), if_neg]
  rw [List.all_eq_true]
  intro e
  have := e k (List.mem_range.2 hk)
  rw [q] at this
  cases this
/-- Over numbers that lie in it one range is made. -/
theorem add_whole (l : List Rg) (c : Int) (h : ∀ x ∈ l, 0 ≤ x.1 ∧ x.2 ≤ c ∧ x.1 ≤ x.2) : add l 0 c = [(0, c)] := by
  induction l with
  | nil => rfl
  | cons x l ih =>
    obtain ⟨h1, h2, h3⟩ := h x (List.mem_cons_self ..)
    unfold add
    rw [if_neg (by omega), if_neg (by omega), show min 0 x.1 = 0 by omega, show max c x.2 = c by omega]
    exact ih fun y hy => h y (List.mem_cons_of_mem _ hy)
end Go.Proofs.YtihkbakbciejiaaDoor
