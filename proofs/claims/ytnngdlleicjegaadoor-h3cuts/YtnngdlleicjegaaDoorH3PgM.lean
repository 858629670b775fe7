/-
  The program's reader of frames as plain sums: what is read next, one call of it, all of Feed; and that it answers as chapter 15's reader does. No condition.
-/
import Derived.Test.YtnngdlleicjegaaDoorH3Pure
namespace Go.Proofs.YtnngdlleicjegaaDoor
set_option maxRecDepth 100000
open Go.RowKit

/-- The program's reader: of control; what is read next (0 the first byte, 1 a kind, 2 a count, 3 data, 4 whole data, 5 strange data, 6 nothing); bytes that are kept; the kind, how many bytes are left; within a frame; the first frame came; the code. -/
structure Pm where
  ctl : Bool
  m : Nat
  kept : L
  kind : Nat
  left : Nat
  wi : Bool
  op : Bool
  code : Int
def Pm.stop (q : Pm) (c : Int) : Pm := { q with code := c, m := 6 }
def Pm.over (q : Pm) : Pm := { q with wi := false, m := 1 }
def Pm.cut (q : Pm) (n : Nat) : Pm := if q.left - min q.left n = 0 then { q with left := 0, wi := false, m := 1 } else { q with left := q.left - min q.left n }
def Pm.piece (q : Pm) (s : L) : Pm × L × List Ev := (q.cut s.length, s.drop (min q.left s.length), if s.take (min q.left s.length) = [] then [] else [(q.kind, s.take (min q.left s.length))])
def Pm.pass (q : Pm) (s : L) : Pm × L × List Ev := (q.cut s.length, s.drop (min q.left s.length), [])
def Pm.whole (q : Pm) (s : L) : Pm × L × List Ev :=
  if 0 < (q.cut s.length).left then ({ q.cut s.length with kept := q.kept ++ s.take (min q.left s.length) }, s.drop (min q.left s.length), [])
  else if contC q.kind (q.kept ++ s.take (min q.left s.length)) ≠ 0 then (({ q.cut s.length with kept := [] } : Pm).stop (contC q.kind (q.kept ++ s.take (min q.left s.length))), [], [])
  else ({ q.cut s.length with kept := [], op := true }, s.drop (min q.left s.length), [(q.kind, q.kept ++ s.take (min q.left s.length))])
/-- A number that goes on. -/
def numP (kept s : L) : Option (Nat × Nat) := getL (kept ++ s.take (min s.length (8 - kept.length)))
def headC (q : Pm) (n : Nat) : Int := if wrongC q.ctl q.op q.kind ≠ 0 then wrongC q.ctl q.op q.kind else if wholeK q.kind = true ∧ 4096 < n then hFrame else 0
def modeK (k : Nat) : Nat := if k = 0 then 3 else if wholeK k = true then 4 else 5
def Pm.count (q : Pm) (s : L) : Pm × L × List Ev := match numP q.kept s with
  | none => ({ q with kept := q.kept ++ s.take (min s.length (8 - q.kept.length)) }, [], [])
  | some (n, z) => if headC q n ≠ 0 then (({ q with kept := [] } : Pm).stop (headC q n), [], [])
    else if q.kind = 0 then Pm.piece { q with kept := [], left := n, m := 3 } (s.drop (z - q.kept.length))
    else if wholeK q.kind = true then Pm.whole { q with kept := [], left := n, m := 4 } (s.drop (z - q.kept.length))
    else Pm.pass { q with kept := [], left := n, m := 5 } (s.drop (z - q.kept.length))
def Pm.knd (q : Pm) (s : L) : Pm × L × List Ev := match numP q.kept s with
  | none => ({ q with wi := true, kept := q.kept ++ s.take (min s.length (8 - q.kept.length)) }, [], [])
  | some (n, z) => ({ q with wi := true, kept := [], kind := n, m := 2 }, s.drop (z - q.kept.length), [])
def Pm.first (q : Pm) (s : L) : Pm × L × List Ev := if s.head? = some 0 then (q.over, s.drop 1, []) else (q.stop hUnexp, [], [])
def Pm.call (q : Pm) (s : L) : Pm × L × List Ev :=
  if q.m = 0 then q.first s else if q.m = 1 then q.knd s else if q.m = 2 then q.count s else if q.m = 3 then q.piece s else if q.m = 4 then q.whole s else if q.m = 5 then q.pass s else (q, [], [])
/-- Feed. -/
def Pm.loop : Nat → Pm → L → Pm × List Ev
  | 0, q, _ => (q, [])
  | k + 1, q, s => if s = [] then (q, []) else ((Pm.loop k (q.call s).1 (q.call s).2.1).1, (q.call s).2.2 ++ (Pm.loop k (q.call s).1 (q.call s).2.1).2)

/-- The program's reader against the document's, with bytes that are still to be read. -/
structure RelC (q : Pm) (r : Hr) : Prop where
  ctl : r.ctl = q.ctl
  code : r.code = q.code
  zero : q.code = 0
  op : r.fst = q.op
structure RelB (q : Pm) (r : Hr) : Prop extends RelC q r where
  beg : ¬ (r.ctl = true ∧ r.beg = false)
def Rel (q : Pm) (r : Hr) (s : L) : Prop :=
  (q.m = 6 ∧ r.ctl = q.ctl ∧ r.code = q.code ∧ q.code ≠ 0) ∨
  (q.m = 0 ∧ RelC q r ∧ r.ctl = true ∧ r.beg = false ∧ r.left = 0 ∧ r.s = s ∧ q.kept = [] ∧ q.wi = true) ∨
  (q.m = 1 ∧ RelB q r ∧ r.left = 0 ∧ r.s = q.kept ++ s ∧ getL q.kept = none ∧ q.wi = !(decide (q.kept = []))) ∨
  (q.m = 2 ∧ RelB q r ∧ r.left = 0 ∧ q.wi = true ∧ getL q.kept = none ∧ ∃ p, r.s = p ++ (q.kept ++ s) ∧ getL p = some (q.kind, p.length)) ∨
  (q.m = 3 ∧ RelB q r ∧ r.left = q.left ∧ 0 < q.left ∧ q.wi = true ∧ q.kept = [] ∧ r.s = s ∧ q.kind = 0 ∧ r.pas = false) ∨
  (q.m = 4 ∧ RelB q r ∧ r.left = 0 ∧ 0 < q.left ∧ q.wi = true ∧ wholeK q.kind = true ∧ wrongC q.ctl q.op q.kind = 0 ∧ q.kept.length + q.left ≤ 4096 ∧ ∃ p, r.s = p ++ (q.kept ++ s) ∧ headL p = some (q.kind, q.kept.length + q.left, p.length)) ∨
  (q.m = 5 ∧ RelB q r ∧ r.left = q.left ∧ 0 < q.left ∧ q.wi = true ∧ q.kept = [] ∧ r.s = s ∧ r.pas = true)

theorem getL_nil : getL [] = none := rfl
theorem getL_short {s : L} (h : getL s = none) : s.length < 8 := by
  cases s with
  | nil => simp
  | cons b t =>
    rw [getL_cons] at h
    split at h
    · have := (many_pos b).2
      simp only [List.length_cons]
      omega
    · cases h
theorem getL_front {a b : L} {n k : Nat} (h : getL (a ++ b) = some (n, k)) (hk : k ≤ a.length) : getL a = some (n, k) := by
  cases a with
  | nil =>
    have := getL_len h
    simp at hk
    omega
  | cons c t =>
    rw [List.cons_append, getL_cons] at h
    split at h
    · cases h
    · injection h with h
      injection h with h1 h2
      subst h2
      simp only [List.length_cons] at hk
      rw [getL_cons, if_neg (by omega), ← h1, List.take_append_of_le_length (by omega)]
theorem getL_eight (t : L) : getL (t.take 8) = getL t := by
  cases h : getL t with
  | some v =>
    obtain ⟨n, k⟩ := v
    have hl := getL_len h
    have h8 : k ≤ 8 := by
      cases t with
      | nil => simp at hl; omega
      | cons b t =>
        rw [getL_cons] at h
        split at h
        · cases h
        · injection h with h
          injection h with _ h
          rw [← h]
          exact (many_pos b).2
    refine getL_front (b := t.drop 8) (by rw [List.take_append_drop]; exact h) ?_
    rw [List.length_take]
    omega
  | none =>
    rw [List.take_of_length_le (Nat.le_of_lt (getL_short h)), h]
theorem num_is {kept : L} (hk : getL kept = none) (s : L) : numP kept s = getL (kept ++ s) := by
  have := getL_short hk
  unfold numP
  rw [← getL_eight (kept ++ s), List.take_append]
  congr 2
  · rw [List.take_of_length_le (by omega)]
  · by_cases h : s.length ≤ 8 - kept.length
    · rw [Nat.min_eq_left h, List.take_of_length_le (Nat.le_refl _), List.take_of_length_le h]
    · rw [Nat.min_eq_right (by omega)]
theorem num_none {kept : L} (hk : getL kept = none) {s : L} (h : numP kept s = none) : s.take (min s.length (8 - kept.length)) = s ∧ getL (kept ++ s) = none := by
  rw [num_is hk] at h
  have := getL_short h
  rw [List.length_append] at this
  exact ⟨List.take_of_length_le (by omega), h⟩
theorem num_some {kept : L} (hk : getL kept = none) {s : L} {n z : Nat} (h : numP kept s = some (n, z)) :
    kept.length < z ∧ z - kept.length ≤ s.length ∧ getL (kept ++ s.take (z - kept.length)) = some (n, z) ∧ kept ++ s = (kept ++ s.take (z - kept.length)) ++ s.drop (z - kept.length) ∧ (kept ++ s.take (z - kept.length)).length = z := by
  rw [num_is hk] at h
  have hl := getL_len h
  rw [List.length_append] at hl
  have h1 : kept.length < z := by
    refine Nat.lt_of_not_le fun c => ?_
    rw [getL_front h c] at hk
    cases hk
  have e : kept ++ s = (kept ++ s.take (z - kept.length)) ++ s.drop (z - kept.length) := by rw [List.append_assoc, List.take_append_drop]
  have l : (kept ++ s.take (z - kept.length)).length = z := by
    rw [List.length_append, List.length_take]
    omega
  refine ⟨h1, by omega, ?_, e, l⟩
  rw [e] at h
  exact getL_front h (by omega)
/-- What one call leaves. -/
def Fits (q : Pm × L × List Ev) (r : Hr) : Prop := ∃ r', r.go = (r'.go.1, q.2.2 ++ r'.go.2) ∧ Rel q.1 r' q.2.1
theorem Fits.same {q : Pm × L × List Ev} {r : Hr} (e : q.2.2 = []) (h : Rel q.1 r q.2.1) : Fits q r := ⟨r, by rw [e]; rfl, h⟩
theorem Fits.step {q : Pm × L × List Ev} {r r' : Hr} (h0 : ¬ (r.s = [] ∨ r.code ≠ 0)) (hs : r.step = some (r', q.2.2)) (h : Rel q.1 r' q.2.1) : Fits q r := ⟨r', Hr.go_some h0 hs, h⟩
theorem cut_ctl (q : Pm) (n : Nat) : (q.cut n).ctl = q.ctl := by unfold Pm.cut; split <;> rfl
theorem cut_code (q : Pm) (n : Nat) : (q.cut n).code = q.code := by unfold Pm.cut; split <;> rfl
theorem cut_op (q : Pm) (n : Nat) : (q.cut n).op = q.op := by unfold Pm.cut; split <;> rfl
theorem cut_kind (q : Pm) (n : Nat) : (q.cut n).kind = q.kind := by unfold Pm.cut; split <;> rfl
theorem cut_kept (q : Pm) (n : Nat) : (q.cut n).kept = q.kept := by unfold Pm.cut; split <;> rfl
theorem cut_done {q : Pm} {n : Nat} (h : q.left ≤ n) : q.cut n = { q with left := 0, wi := false, m := 1 } := by
  unfold Pm.cut
  rw [if_pos (by omega)]
theorem cut_more {q : Pm} {n : Nat} (h : n < q.left) : q.cut n = { q with left := q.left - n } := by
  unfold Pm.cut
  rw [if_neg (by omega), Nat.min_eq_right (by omega)]
theorem ends_rel {q : Pm} {r : Hr} {s : L} (b : RelB q r) (h0 : r.left = 0) (hs : r.s = s) (hk : q.kept = []) (hm : q.m = 1) (hw : q.wi = false) : Rel q r s :=
  .inr (.inr (.inl ⟨hm, b, h0, by rw [hk]; exact hs, by rw [hk]; rfl, by rw [hk, hw]; rfl⟩))
theorem piece_rel {q : Pm} {r : Hr} {s : L} (b : RelB q r) (hm : q.m = 3) (hl : r.left = q.left) (hw : q.wi = true) (hk : q.kept = []) (hs : r.s = s) (h0 : q.kind = 0) (hp : r.pas = false) : Fits (q.piece s) r := by
  by_cases h1 : q.left = 0
  · have e : q.piece s = ({ q with left := 0, wi := false, m := 1 }, s, []) := by
      unfold Pm.piece
      rw [cut_done (by omega), h1, Nat.zero_min]
      rfl
    rw [e]
    exact .same rfl (ends_rel ⟨⟨b.ctl, b.code, b.zero, b.op⟩, b.beg⟩ (hl.trans h1) hs hk rfl rfl)
  · by_cases h2 : s = []
    · have e : q.piece s = (q, [], []) := by
        unfold Pm.piece
        rw [h2, cut_more (q := q) (n := ([] : L).length) (by show 0 < q.left; omega)]
        simp
      rw [e]
      exact .same rfl (.inr (.inr (.inr (.inr (.inl ⟨hm, b, hl, Nat.pos_of_ne_zero h1, hw, hk, by rw [hs, h2], h0, hp⟩)))))
    · have hn := List.length_pos_iff.2 h2
      have st := Hr.step_pass (r := r) b.beg (by omega)
      rw [hp] at st
      simp only [Bool.false_eq_true, if_false] at st
      rw [hl, hs] at st
      have ne : s.take (min q.left s.length) ≠ [] := fun c => by
        have := congrArg List.length c
        rw [List.length_take] at this
        simp only [List.length_nil] at this
        omega
      have e : (q.piece s).2.2 = [(0, s.take (min q.left s.length))] := by
        unfold Pm.piece
        simp only [if_neg ne, h0]
      refine .step (by rw [hs, b.code, b.zero]; simpa using h2) (by rw [e]; exact st) ?_
      unfold Pm.piece
      by_cases h3 : q.left ≤ s.length
      · rw [cut_done h3]
        exact ends_rel ⟨⟨b.ctl, b.code, b.zero, b.op⟩, b.beg⟩ (by show q.left - min q.left s.length = 0; omega) rfl hk rfl rfl
      · rw [cut_more (by omega)]
        exact .inr (.inr (.inr (.inr (.inl ⟨hm, ⟨⟨b.ctl, b.code, b.zero, b.op⟩, b.beg⟩, by show q.left - min q.left s.length = q.left - s.length; omega, by show 0 < q.left - s.length; omega, hw, hk, rfl, h0, rfl⟩))))
theorem pass_rel {q : Pm} {r : Hr} {s : L} (b : RelB q r) (hm : q.m = 5) (hl : r.left = q.left) (hw : q.wi = true) (hk : q.kept = []) (hs : r.s = s) (hp : r.pas = true) : Fits (q.pass s) r := by
  by_cases h1 : q.left = 0
  · have e : q.pass s = ({ q with left := 0, wi := false, m := 1 }, s, []) := by
      unfold Pm.pass
      rw [cut_done (by omega), h1, Nat.zero_min]
      rfl
    rw [e]
    exact .same rfl (ends_rel ⟨⟨b.ctl, b.code, b.zero, b.op⟩, b.beg⟩ (hl.trans h1) hs hk rfl rfl)
  · by_cases h2 : s = []
    · have e : q.pass s = (q, [], []) := by
        unfold Pm.pass
        rw [h2, cut_more (q := q) (n := ([] : L).length) (by show 0 < q.left; omega)]
        simp
      rw [e]
      exact .same rfl (.inr (.inr (.inr (.inr (.inr (.inr ⟨hm, b, hl, Nat.pos_of_ne_zero h1, hw, hk, by rw [hs, h2], hp⟩))))))
    · have hn := List.length_pos_iff.2 h2
      have st := Hr.step_pass (r := r) b.beg (by omega)
      rw [hp] at st
      simp only [if_true] at st
      rw [hl, hs] at st
      refine .step (by rw [hs, b.code, b.zero]; simpa using h2) st ?_
      unfold Pm.pass
      by_cases h3 : q.left ≤ s.length
      · rw [cut_done h3]
        exact ends_rel ⟨⟨b.ctl, b.code, b.zero, b.op⟩, b.beg⟩ (by show q.left - min q.left s.length = 0; omega) rfl hk rfl rfl
      · rw [cut_more (by omega)]
        exact .inr (.inr (.inr (.inr (.inr (.inr ⟨hm, ⟨⟨b.ctl, b.code, b.zero, b.op⟩, b.beg⟩, by show q.left - min q.left s.length = q.left - s.length; omega, by show 0 < q.left - s.length; omega, hw, hk, rfl, rfl⟩)))))
theorem whole_rel {q : Pm} {r : Hr} {s p : L} (b : RelB q r) (hm : q.m = 4) (h0 : r.left = 0) (hw : q.wi = true) (hW : wholeK q.kind = true) (hC : wrongC q.ctl q.op q.kind = 0) (hz : q.kept.length + q.left ≤ 4096) (hs : r.s = p ++ (q.kept ++ s)) (hp : headL p = some (q.kind, q.kept.length + q.left, p.length)) : Fits (q.whole s) r := by
  have hd := head_more hp (q.kept ++ s)
  rw [← hs] at hd
  have hpl := head_len hp
  have hne : ¬ (r.s = [] ∨ r.code ≠ 0) := by
    rw [hs, b.code, b.zero]
    intro c
    rcases c with c | c
    · have := congrArg List.length c
      simp at this
      simp [this.1] at hpl
    · exact c rfl
  have hlen : r.s.length - p.length = q.kept.length + s.length := by rw [hs]; simp
  have st : r.step = if r.s.length - p.length < q.kept.length + q.left then none
      else if contC q.kind ((r.s.drop p.length).take (q.kept.length + q.left)) ≠ 0 then some ({ r with code := contC q.kind ((r.s.drop p.length).take (q.kept.length + q.left)) }, [])
      else some ({ r with fst := true, s := r.s.drop (p.length + (q.kept.length + q.left)) }, [(q.kind, (r.s.drop p.length).take (q.kept.length + q.left))]) := by
    unfold Hr.step
    rw [if_neg b.beg, if_neg (by omega), hd]
    simp only
    rw [if_neg (by rw [b.ctl, b.op]; simpa using hC), if_pos hW, if_neg (by omega)]
  have e1 : (r.s.drop p.length).take (q.kept.length + q.left) = q.kept ++ s.take q.left := by
    rw [hs, List.drop_append_of_le_length (Nat.le_refl _), List.drop_length, List.nil_append, List.take_append, List.take_of_length_le (by omega)]
    congr 2
    omega
  have e2 : r.s.drop (p.length + (q.kept.length + q.left)) = s.drop q.left := by
    rw [hs, ← List.drop_drop, List.drop_append_of_le_length (Nat.le_refl _), List.drop_length, List.nil_append, ← List.drop_drop, List.drop_append_of_le_length (Nat.le_refl _), List.drop_length, List.nil_append]
  rw [e1, e2, hlen] at st
  by_cases h1 : q.left ≤ s.length
  · rw [if_neg (by omega)] at st
    unfold Pm.whole
    rw [cut_done h1, Nat.min_eq_left h1, if_neg (by simp)]
    by_cases h2 : contC q.kind (q.kept ++ s.take q.left) = 0
    · rw [if_neg (by simpa using h2)] at st
      rw [if_neg (by simpa using h2)]
      exact .step hne st (ends_rel ⟨⟨b.ctl, b.code, b.zero, rfl⟩, b.beg⟩ h0 rfl rfl rfl rfl)
    · rw [if_pos h2] at st
      rw [if_pos h2]
      exact .step hne st (.inl ⟨rfl, b.ctl, rfl, h2⟩)
  · rw [if_pos (by omega)] at st
    unfold Pm.whole
    rw [cut_more (by omega), Nat.min_eq_right (by omega), if_pos (by show 0 < q.left - s.length; omega), List.take_of_length_le (Nat.le_refl _), List.drop_length]
    refine .same rfl (.inr (.inr (.inr (.inr (.inr (.inl ⟨hm, ⟨⟨b.ctl, b.code, b.zero, b.op⟩, b.beg⟩, h0, by show 0 < q.left - s.length; omega, hw, hW, hC, ?_, p, ?_, ?_⟩))))))
    · show (q.kept ++ s).length + (q.left - s.length) ≤ 4096
      rw [List.length_append]
      omega
    · show r.s = p ++ ((q.kept ++ s) ++ [])
      rw [List.append_nil]
      exact hs
    · show headL p = some (q.kind, (q.kept ++ s).length + (q.left - s.length), p.length)
      rw [List.length_append, hp]
      congr 3
      omega
theorem count_rel {q : Pm} {r : Hr} {s p : L} (b : RelB q r) (hm : q.m = 2) (h0 : r.left = 0) (hw : q.wi = true) (hk : getL q.kept = none) (hs : r.s = p ++ (q.kept ++ s)) (hp : getL p = some (q.kind, p.length)) : Fits (q.count s) r := by
  unfold Pm.count
  cases hn : numP q.kept s with
  | none =>
    obtain ⟨e, g⟩ := num_none hk hn
    refine .same rfl (.inr (.inr (.inr (.inl ⟨hm, ⟨⟨b.ctl, b.code, b.zero, b.op⟩, b.beg⟩, h0, hw, ?_, p, ?_, hp⟩))))
    · show getL (q.kept ++ s.take _) = none
      rw [e]
      exact g
    · show r.s = p ++ ((q.kept ++ s.take _) ++ [])
      rw [e, List.append_nil]
      exact hs
  | some v =>
    obtain ⟨n, z⟩ := v
    obtain ⟨g1, g2, g3, g4, g5⟩ := num_some hk hn
    dsimp only
    generalize hT : s.drop (z - q.kept.length) = t at *
    generalize hU : q.kept ++ s.take (z - q.kept.length) = u at *
    have hh : headL (p ++ u) = some (q.kind, n, (p ++ u).length) := by
      unfold headL
      rw [getL_more hp]
      simp only
      rw [List.drop_append_of_le_length (Nat.le_refl _), List.drop_length, List.nil_append, g3]
      simp only
      rw [List.length_append, g5]
    have hs' : r.s = (p ++ u) ++ t := by rw [hs, g4, List.append_assoc]
    have hd := head_more hh t
    rw [← hs'] at hd
    have hpl := head_len hh
    have hne : ¬ (r.s = [] ∨ r.code ≠ 0) := by
      rw [hs', b.code, b.zero]
      intro c
      rcases c with c | c
      · have := congrArg List.length c
        rw [List.length_append] at this
        simp only [List.length_nil] at this
        omega
      · exact c rfl
    have dr : r.s.drop (p ++ u).length = t := by rw [hs', List.drop_append_of_le_length (Nat.le_refl _), List.drop_length, List.nil_append]
    by_cases h1 : wrongC q.ctl q.op q.kind = 0
    · by_cases h2 : q.kind = 0
      · have hW : wholeK q.kind = false := by rw [h2]; rfl
        have hC : headC q n = 0 := by
          unfold headC
          rw [if_neg (by simpa using h1), if_neg (by rw [hW]; simp)]
        rw [if_neg (by simpa using hC), if_pos h2]
        have st : r.step = some ({ r with left := n, pas := false, s := t }, []) := by
          unfold Hr.step
          rw [if_neg b.beg, if_neg (by omega), hd]
          simp only
          rw [if_neg (by rw [b.ctl, b.op]; simpa using h1), if_neg (by rw [hW]; simp), dr, h2]
          rfl
        obtain ⟨r', a1, a2⟩ := piece_rel (q := { q with kept := [], left := n, m := 3 }) (r := { r with left := n, pas := false, s := t }) (s := t) ⟨⟨b.ctl, b.code, b.zero, b.op⟩, b.beg⟩ rfl rfl hw rfl rfl h2 rfl
        exact ⟨r', by rw [Hr.go_some hne st, a1]; rfl, a2⟩
      · by_cases hW : wholeK q.kind = true
        · by_cases h3 : 4096 < n
          · have hC : headC q n = hFrame := by
              unfold headC
              rw [if_neg (by simpa using h1), if_pos ⟨hW, h3⟩]
            rw [hC, if_pos (by decide)]
            have st : r.step = some ({ r with code := hFrame }, []) := by
              unfold Hr.step
              rw [if_neg b.beg, if_neg (by omega), hd]
              simp only
              rw [if_neg (by rw [b.ctl, b.op]; simpa using h1), if_pos hW, if_pos h3]
            exact .step hne st (.inl ⟨rfl, b.ctl, rfl, by show hFrame ≠ 0; decide⟩)
          · have hC : headC q n = 0 := by
              unfold headC
              rw [if_neg (by simpa using h1), if_neg (fun c => h3 c.2)]
            rw [if_neg (by simpa using hC), if_neg h2, if_pos hW]
            exact whole_rel (q := { q with kept := [], left := n, m := 4 }) (p := p ++ u) (s := t) ⟨⟨b.ctl, b.code, b.zero, b.op⟩, b.beg⟩ rfl h0 hw hW h1 (by show 0 + n ≤ 4096; omega) hs' (by rw [hh]; show _ = some (q.kind, 0 + n, _); rw [Nat.zero_add])
        · have hC : headC q n = 0 := by
            unfold headC
            rw [if_neg (by simpa using h1), if_neg (fun c => hW c.1)]
          rw [if_neg (by simpa using hC), if_neg h2, if_neg hW]
          have st : r.step = some ({ r with left := n, pas := true, s := t }, []) := by
            unfold Hr.step
            rw [if_neg b.beg, if_neg (by omega), hd]
            simp only
            rw [if_neg (by rw [b.ctl, b.op]; simpa using h1), if_neg hW, dr, decide_eq_true h2]
          obtain ⟨r', a1, a2⟩ := pass_rel (q := { q with kept := [], left := n, m := 5 }) (r := { r with left := n, pas := true, s := t }) (s := t) ⟨⟨b.ctl, b.code, b.zero, b.op⟩, b.beg⟩ rfl rfl hw rfl rfl rfl
          exact ⟨r', by rw [Hr.go_some hne st, a1]; rfl, a2⟩
    · have hC : headC q n = wrongC q.ctl q.op q.kind := by
        unfold headC
        rw [if_pos h1]
      rw [hC, if_pos h1]
      have st : r.step = some ({ r with code := wrongC q.ctl q.op q.kind }, []) := by
        unfold Hr.step
        rw [if_neg b.beg, if_neg (by omega), hd]
        simp only
        rw [b.ctl, b.op, if_pos h1]
      exact .step hne st (.inl ⟨rfl, b.ctl, rfl, h1⟩)
theorem call_rel {q : Pm} {r : Hr} {s : L} (h : Rel q r s) (hs : s ≠ []) : Fits (q.call s) r := by
  unfold Pm.call
  rcases h with ⟨hm, h1, h2, h3⟩ | ⟨hm, b, h1, h2, h3, h4, h5, h6⟩ | ⟨hm, b, h1, h2, h3, h4⟩ | ⟨hm, b, h1, h2, h3, p, h4, h5⟩ | ⟨hm, b, h1, h2, h3, h4, h5, h6, h7⟩ | ⟨hm, b, h1, h2, h3, h4, h5, h6, p, h7, h8⟩ | ⟨hm, b, h1, h2, h3, h4, h5, h6⟩
  · rw [if_neg (by omega), if_neg (by omega), if_neg (by omega), if_neg (by omega), if_neg (by omega), if_neg (by omega)]
    exact .same rfl (.inl ⟨hm, h1, h2, h3⟩)
  · rw [if_pos hm]
    unfold Pm.first
    have hne : ¬ (r.s = [] ∨ r.code ≠ 0) := by
      rw [h4, b.code, b.zero]
      simpa using hs
    by_cases h0 : s.head? = some 0
    · rw [if_pos h0]
      have st : r.step = some ({ r with beg := true, s := s.drop 1 }, []) := by
        unfold Hr.step
        rw [if_pos ⟨h1, h2⟩, h4, if_pos h0]
      exact .step hne st (ends_rel ⟨⟨b.ctl, b.code, b.zero, b.op⟩, fun c => by cases c.2⟩ h3 rfl h5 rfl rfl)
    · rw [if_neg h0]
      have st : r.step = some ({ r with code := hUnexp }, []) := by
        unfold Hr.step
        rw [if_pos ⟨h1, h2⟩, h4, if_neg h0]
      exact .step hne st (.inl ⟨rfl, b.ctl, rfl, by show hUnexp ≠ 0; decide⟩)
  · rw [if_neg (by omega), if_pos hm]
    unfold Pm.knd
    cases hn : numP q.kept s with
    | none =>
      obtain ⟨e, g⟩ := num_none h3 hn
      refine .same rfl (.inr (.inr (.inl ⟨hm, ⟨⟨b.ctl, b.code, b.zero, b.op⟩, b.beg⟩, h1, ?_, ?_, ?_⟩)))
      · show r.s = (q.kept ++ s.take _) ++ []
        rw [e, List.append_nil]
        exact h2
      · show getL (q.kept ++ s.take _) = none
        rw [e]
        exact g
      · show true = !(decide (q.kept ++ s.take _ = []))
        rw [e, decide_eq_false (by simp [hs])]
        rfl
    | some v =>
      obtain ⟨n, z⟩ := v
      obtain ⟨g1, g2, g3, g4, g5⟩ := num_some h3 hn
      refine .same rfl (.inr (.inr (.inr (.inl ⟨rfl, ⟨⟨b.ctl, b.code, b.zero, b.op⟩, b.beg⟩, h1, rfl, rfl, q.kept ++ s.take (z - q.kept.length), ?_, ?_⟩))))
      · show r.s = _ ++ ([] ++ s.drop (z - q.kept.length))
        rw [List.nil_append, ← g4]
        exact h2
      · rw [g3, g5]
  · rw [if_neg (by omega), if_neg (by omega), if_pos hm]
    exact count_rel b hm h1 h2 h3 h4 h5
  · rw [if_neg (by omega), if_neg (by omega), if_neg (by omega), if_pos hm]
    exact piece_rel b hm h1 h3 h4 h5 h6 h7
  · rw [if_neg (by omega), if_neg (by omega), if_neg (by omega), if_neg (by omega), if_pos hm]
    exact whole_rel b hm h1 h3 h4 h5 h6 h7 h8
  · rw [if_neg (by omega), if_neg (by omega), if_neg (by omega), if_neg (by omega), if_neg (by omega), if_pos hm]
    exact pass_rel b hm h1 h3 h4 h5 h6
theorem cut_drop {n : Nat} {s : L} (h : s ≠ []) (hn : 0 < n) : (s.drop (min n s.length)).length < s.length := by
  have := List.length_pos_iff.2 h
  rw [List.length_drop]
  omega
theorem whole_le (q : Pm) (s : L) : (q.whole s).2.1.length ≤ s.length := by
  unfold Pm.whole
  split
  · simp
  · split
    · simp
    · simp
theorem call_less {q : Pm} {r : Hr} {s : L} (h : Rel q r s) (hs : s ≠ []) : (q.call s).2.1.length < s.length := by
  have hp := List.length_pos_iff.2 hs
  unfold Pm.call
  rcases h with ⟨hm, h1, h2, h3⟩ | ⟨hm, b, h1, h2, h3, h4, h5, h6⟩ | ⟨hm, b, h1, h2, h3, h4⟩ | ⟨hm, b, h1, h2, h3, p, h4, h5⟩ | ⟨hm, b, h1, h2, h3, h4, h5, h6, h7⟩ | ⟨hm, b, h1, h2, h3, h4, h5, h6, p, h7, h8⟩ | ⟨hm, b, h1, h2, h3, h4, h5, h6⟩
  · rw [if_neg (by omega), if_neg (by omega), if_neg (by omega), if_neg (by omega), if_neg (by omega), if_neg (by omega)]
    exact hp
  · rw [if_pos hm]
    unfold Pm.first
    split
    · show (s.drop 1).length < _
      rw [List.length_drop]
      omega
    · exact hp
  · rw [if_neg (by omega), if_pos hm]
    unfold Pm.knd
    cases hn : numP q.kept s with
    | none => exact hp
    | some v =>
      obtain ⟨n, z⟩ := v
      obtain ⟨g1, g2, g3, g4, g5⟩ := num_some h3 hn
      show (s.drop (z - q.kept.length)).length < _
      rw [List.length_drop]
      omega
  · rw [if_neg (by omega), if_neg (by omega), if_pos hm]
    unfold Pm.count
    cases hn : numP q.kept s with
    | none => exact hp
    | some v =>
      obtain ⟨n, z⟩ := v
      obtain ⟨g1, g2, g3, g4, g5⟩ := num_some h3 hn
      have lt : (s.drop (z - q.kept.length)).length < s.length := by
        rw [List.length_drop]
        omega
      simp only
      split
      · exact hp
      · split
        · refine Nat.lt_of_le_of_lt ?_ lt
          unfold Pm.piece
          simp only [List.length_drop]
          omega
        · split
          · exact Nat.lt_of_le_of_lt (whole_le _ _) lt
          · refine Nat.lt_of_le_of_lt ?_ lt
            unfold Pm.pass
            simp only [List.length_drop]
            omega
  · rw [if_neg (by omega), if_neg (by omega), if_neg (by omega), if_pos hm]
    exact cut_drop hs h2
  · rw [if_neg (by omega), if_neg (by omega), if_neg (by omega), if_neg (by omega), if_pos hm]
    unfold Pm.whole
    split
    · exact cut_drop hs h2
    · split
      · exact hp
      · exact cut_drop hs h2
  · rw [if_neg (by omega), if_neg (by omega), if_neg (by omega), if_neg (by omega), if_neg (by omega), if_pos hm]
    exact cut_drop hs h2
/-- Where nothing is to be read, the document's reader stands still. -/
theorem rel_still {q : Pm} {r : Hr} (h : Rel q r []) : r.go = (r, []) := by
  rcases h with ⟨hm, h1, h2, h3⟩ | ⟨hm, b, h1, h2, h3, h4, h5, h6⟩ | ⟨hm, b, h1, h2, h3, h4⟩ | ⟨hm, b, h1, h2, h3, p, h4, h5⟩ | ⟨hm, b, h1, h2, h3, h4, h5, h6, h7⟩ | ⟨hm, b, h1, h2, h3, h4, h5, h6, p, h7, h8⟩ | ⟨hm, b, h1, h2, h3, h4, h5, h6⟩
  · exact Hr.go_stop (.inr (by rw [h2]; exact h3))
  · exact Hr.go_stop (.inl h4)
  · by_cases e : r.s = []
    · exact Hr.go_stop (.inl e)
    · refine Hr.go_none (by rw [b.code, b.zero]; simpa using e) ?_
      unfold Hr.step
      rw [if_neg b.beg, if_neg (by omega), h2, List.append_nil]
      unfold headL
      rw [h3]
  · by_cases e : r.s = []
    · exact Hr.go_stop (.inl e)
    · refine Hr.go_none (by rw [b.code, b.zero]; simpa using e) ?_
      unfold Hr.step
      rw [if_neg b.beg, if_neg (by omega), h4, List.append_nil]
      unfold headL
      rw [getL_more h5]
      simp only
      rw [List.drop_append_of_le_length (Nat.le_refl _), List.drop_length, List.nil_append, h3]
  · exact Hr.go_stop (.inl h5)
  · by_cases e : r.s = []
    · exact Hr.go_stop (.inl e)
    · refine Hr.go_none (by rw [b.code, b.zero]; simpa using e) ?_
      unfold Hr.step
      rw [if_neg b.beg, if_neg (by omega), h7, head_more h8]
      simp only
      rw [if_neg (by rw [b.ctl, b.op]; simpa using h5), if_pos h4, if_neg (by omega), if_pos (by simp; omega)]
  · exact Hr.go_stop (.inl h5)
theorem loop_rel : ∀ (k : Nat) (q : Pm) (r : Hr) (s : L), s.length < k → Rel q r s → (Pm.loop k q s).2 = r.go.2 ∧ Rel (Pm.loop k q s).1 r.go.1 []
  | 0, _, _, _, h, _ => absurd h (Nat.not_lt_zero _)
  | k + 1, q, r, s, h, hr => by
    unfold Pm.loop
    by_cases hs : s = []
    · rw [if_pos hs]
      subst hs
      rw [rel_still hr]
      exact ⟨rfl, hr⟩
    · rw [if_neg hs]
      obtain ⟨r', g, hr'⟩ := call_rel hr hs
      obtain ⟨e, i⟩ := loop_rel k _ r' _ (by have := call_less hr hs; omega) hr'
      rw [g]
      exact ⟨by rw [← e], i⟩
theorem rel_more {q : Pm} {r : Hr} (h : Rel q r []) (t : L) : Rel q (r.more t) t := by
  rcases h with ⟨hm, h1, h2, h3⟩ | ⟨hm, b, h1, h2, h3, h4, h5, h6⟩ | ⟨hm, b, h1, h2, h3, h4⟩ | ⟨hm, b, h1, h2, h3, p, h4, h5⟩ | ⟨hm, b, h1, h2, h3, h4, h5, h6, h7⟩ | ⟨hm, b, h1, h2, h3, h4, h5, h6, p, h7, h8⟩ | ⟨hm, b, h1, h2, h3, h4, h5, h6⟩
  · exact .inl ⟨hm, h1, h2, h3⟩
  · exact .inr (.inl ⟨hm, ⟨b.ctl, b.code, b.zero, b.op⟩, h1, h2, h3, by show r.s ++ t = t; rw [h4]; rfl, h5, h6⟩)
  · exact .inr (.inr (.inl ⟨hm, ⟨⟨b.ctl, b.code, b.zero, b.op⟩, b.beg⟩, h1, by show r.s ++ t = _; rw [h2, List.append_nil], h3, h4⟩))
  · exact .inr (.inr (.inr (.inl ⟨hm, ⟨⟨b.ctl, b.code, b.zero, b.op⟩, b.beg⟩, h1, h2, h3, p, by show r.s ++ t = _; rw [h4]; simp, h5⟩)))
  · exact .inr (.inr (.inr (.inr (.inl ⟨hm, ⟨⟨b.ctl, b.code, b.zero, b.op⟩, b.beg⟩, h1, h2, h3, h4, by show r.s ++ t = t; rw [h5]; rfl, h6, h7⟩))))
  · exact .inr (.inr (.inr (.inr (.inr (.inl ⟨hm, ⟨⟨b.ctl, b.code, b.zero, b.op⟩, b.beg⟩, h1, h2, h3, h4, h5, h6, p, by show r.s ++ t = _; rw [h7]; simp, h8⟩)))))
  · exact .inr (.inr (.inr (.inr (.inr (.inr ⟨hm, ⟨⟨b.ctl, b.code, b.zero, b.op⟩, b.beg⟩, h1, h2, h3, h4, by show r.s ++ t = t; rw [h5]; rfl, h6⟩)))))
/-- Feed of the program is Feed of the document. -/
def Pm.feed (q : Pm) (t : L) : Pm × List Ev := Pm.loop (t.length + 1) q t
theorem rel_nothing {k : Nat} {q : Pm} {r : Hr} {t : L} (h : Rel q r []) (hc : r.code ≠ 0) : Pm.loop (k + 1) q t = (q, []) := by
  rcases h with ⟨hm, h1, h2, h3⟩ | ⟨hm, b, _⟩ | ⟨hm, b, _⟩ | ⟨hm, b, _⟩ | ⟨hm, b, _⟩ | ⟨hm, b, _⟩ | ⟨hm, b, _⟩
  · have e : q.call t = (q, [], []) := by
      unfold Pm.call
      rw [if_neg (by omega), if_neg (by omega), if_neg (by omega), if_neg (by omega), if_neg (by omega), if_neg (by omega)]
    unfold Pm.loop
    rw [e]
    split
    · rfl
    · cases k with
      | zero => rfl
      | succ k =>
        unfold Pm.loop
        rw [if_pos rfl]
        rfl
  · exact absurd (b.code.trans b.zero) hc
  all_goals exact absurd (b.toRelC.code.trans b.toRelC.zero) hc
theorem feed_rel {q : Pm} {r : Hr} (h : Rel q r []) (t : L) : (q.feed t).2 = (r.feed t).2 ∧ Rel (q.feed t).1 (r.feed t).1 [] := by
  unfold Hr.feed Pm.feed
  by_cases hc : r.code = 0
  · rw [if_neg (by simpa using hc)]
    exact loop_rel _ _ _ _ (Nat.lt_succ_self _) (rel_more h t)
  · rw [if_pos hc, rel_nothing h hc]
    exact ⟨rfl, h⟩
theorem rel_code {q : Pm} {r : Hr} {s : L} (h : Rel q r s) : r.code = q.code := by
  rcases h with ⟨_, _, h, _⟩ | ⟨_, b, _⟩ | ⟨_, b, _⟩ | ⟨_, b, _⟩ | ⟨_, b, _⟩ | ⟨_, b, _⟩ | ⟨_, b, _⟩
  · exact h
  · exact b.code
  all_goals exact b.toRelC.code
def Pm.fin (q : Pm) : Int := if q.code ≠ 0 then q.code else if q.wi = true then hFrame else if q.ctl = false ∧ q.op = false then hMessage else 0
theorem nz {a b : Int} (h : a = b) (h0 : b = 0) : ¬ a ≠ 0 := by rw [h, h0]; simp
theorem fin_rel {q : Pm} {r : Hr} (h : Rel q r []) : r.fin = q.fin := by
  unfold Hr.fin Pm.fin
  rcases h with ⟨hm, h1, h2, h3⟩ | ⟨hm, b, h1, h2, h3, h4, h5, h6⟩ | ⟨hm, b, h1, h2, h3, h4⟩ | ⟨hm, b, h1, h2, h3, p, h4, h5⟩ | ⟨hm, b, h1, h2, h3, h4, h5, h6, h7⟩ | ⟨hm, b, h1, h2, h3, h4, h5, h6, p, h7, h8⟩ | ⟨hm, b, h1, h2, h3, h4, h5, h6⟩
  · rw [if_pos (by rw [h2]; exact h3), if_pos h3, h2]
  · rw [if_neg (nz b.code b.zero), if_neg (nz rfl b.zero), if_pos (.inr (.inr ⟨h1, h2⟩)), if_pos h6]
  · rw [if_neg (nz b.code b.zero), if_neg (nz rfl b.zero), b.ctl, b.op, h4]
    by_cases e : q.kept = []
    · rw [if_neg (by rw [h2, e, h1]; have := b.beg; rw [b.ctl] at this; simpa using this), decide_eq_true e]
      simp
    · rw [if_pos (.inl (by rw [h2]; simpa using e)), decide_eq_false e]
      rfl
  · have ne : r.s ≠ [] := fun c => by
      have := (getL_len h5).1
      have := congrArg List.length (h4.symm.trans c)
      rw [List.length_append] at this
      simp only [List.length_nil] at this
      omega
    rw [if_neg (nz b.code b.zero), if_neg (nz rfl b.zero), if_pos (.inl ne), if_pos h2]
  · rw [if_neg (nz b.code b.zero), if_neg (nz rfl b.zero), if_pos (.inr (.inl (by omega))), if_pos h3]
  · have ne : r.s ≠ [] := fun c => by
      have := (head_len h8).1
      have := congrArg List.length (h7.symm.trans c)
      rw [List.length_append] at this
      simp only [List.length_nil] at this
      omega
    rw [if_neg (nz b.code b.zero), if_neg (nz rfl b.zero), if_pos (.inl ne), if_pos h3]
  · rw [if_neg (nz b.code b.zero), if_neg (nz rfl b.zero), if_pos (.inr (.inl (by omega))), if_pos h3]
def Pm.new (c : Bool) : Pm := ⟨c, if c = true then 0 else 1, [], 0, 0, c, false, 0⟩
theorem new_rel (c : Bool) : Rel (Pm.new c) (Hr.new c) [] := by
  cases c
  · exact .inr (.inr (.inl ⟨rfl, ⟨⟨rfl, rfl, rfl, rfl⟩, fun c => by cases c.1⟩, rfl, rfl, rfl, rfl⟩))
  · exact .inr (.inl ⟨rfl, ⟨rfl, rfl, rfl, rfl⟩, rfl, rfl, rfl, rfl, rfl, rfl⟩)
/-- What a reader is, that was fed these pieces. -/
def pfed : Pm → List L → Pm
  | q, [] => q
  | q, t :: ts => pfed (q.feed t).1 ts
theorem pfed_snoc : ∀ (ts : List L) (q : Pm) (t : L), pfed q (ts ++ [t]) = ((pfed q ts).feed t).1
  | [], _, _ => rfl
  | a :: ts, q, t => pfed_snoc ts (q.feed a).1 t
theorem pfed_rel : ∀ (ts : List L) (q : Pm) (r : Hr), Rel q r [] → Rel (pfed q ts) (r.feeds ts).1 []
  | [], _, _, h => h
  | t :: ts, _, _, h => pfed_rel ts _ _ (feed_rel h t).2
def pm (c : Bool) (ts : List L) : Pm := pfed (Pm.new c) ts
theorem pm_rel (c : Bool) (ts : List L) : Rel (pm c ts) (fed c ts) [] := pfed_rel ts _ _ (new_rel c)
theorem pm_snoc (c : Bool) (ts : List L) (t : L) : pm c (ts ++ [t]) = ((pm c ts).feed t).1 := pfed_snoc ts _ t
end Go.Proofs.YtnngdlleicjegaaDoor
