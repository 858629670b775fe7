/-
  What chapter 15 says of a stream's bytes, as plain sums: a step of the reader, all its steps, and that how the bytes are cut does not matter. No condition.
-/
import Derived.Test.YtihkbakbciejiaaDoorFrGet
namespace Go.Proofs.YtihkbakbciejiaaDoor
set_option maxRecDepth 100000

abbrev Ev := Nat × L
/-- The reader: of control, what is not read, the first byte was read, the first frame was read, bytes that are passed, they are strange, the code. -/
structure Hr where
  ctl : Bool
  s : L
  beg : Bool
  fst : Bool
  left : Nat
  pas : Bool
  code : Int
def hUnexp : Int := 261
def hMissing : Int := 266
def hFrame : Int := 262
def hSettings : Int := 265
def wholeK (k : Nat) : Bool := decide (k = 1) || decide (k = 4) || decide (k = 7)
def wrongC (ctl fst : Bool) (k : Nat) : Int :=
  if k ≠ 0 ∧ k ≠ 1 ∧ k ≠ 4 ∧ k ≠ 7 then 0
  else if ctl = true then (if k = 0 ∨ k = 1 ∨ k = 4 ∧ fst = true then hUnexp else if k = 7 ∧ fst = false then hMissing else 0)
  else if k = 4 ∨ k = 7 ∨ k = 0 ∧ fst = false ∨ k = 1 ∧ fst = true then hUnexp else 0
/-- Pairs: what is wrong with them; 0: nothing. -/
def pairsN : Nat → List Nat → L → Except Int (List (Nat × Nat))
  | 0, _, _ => .error 1
  | k + 1, had, s => if s = [] then .ok [] else match getL s with
    | none => .error 1
    | some (a, n) => match getL (s.drop n) with
      | none => .error 1
      | some (b, m) => if 2 ≤ a ∧ a ≤ 5 then .error 5 else if a ∈ had then .error 3 else if had.length = 16 then .error 8 else match pairsN k (a :: had) (s.drop (n + m)) with
        | .ok l => .ok ((a, b) :: l)
        | .error e => .error e
def pairsL (s : L) : Except Int (List (Nat × Nat)) := pairsN (s.length + 1) [] s
def contC (k : Nat) (d : L) : Int :=
  if k = 7 then (match getL d with
    | none => hFrame
    | some (_, n) => if n ≠ d.length then hFrame else 0)
  else if k = 4 then (match pairsL d with
    | .ok _ => 0
    | .error _ => hSettings)
  else 0
def headL (s : L) : Option (Nat × Nat × Nat) := match getL s with
  | none => none
  | some (k, n) => match getL (s.drop n) with
    | none => none
    | some (z, m) => some (k, z, n + m)
theorem head_len {s : L} {k z n : Nat} (h : headL s = some (k, z, n)) : 1 ≤ n ∧ n ≤ s.length := by
  unfold headL at h
  split at h
  · cases h
  · rename_i k' n' h1
    split at h
    · cases h
    · rename_i z' m h2
      injection h with h
      injection h with _ h
      injection h with _ h
      have := getL_len h1
      have := getL_len h2
      rw [List.length_drop] at this
      omega
theorem head_more {s : L} {k z n : Nat} (h : headL s = some (k, z, n)) (t : L) : headL (s ++ t) = some (k, z, n) := by
  unfold headL at h ⊢
  split at h
  · cases h
  · rename_i k' n' h1
    rw [getL_more h1 t]
    split at h
    · cases h
    · rename_i z' m h2
      rw [getL_drop h1, getL_more h2 t]
      exact h
/-- One step; none: more bytes are wanted. -/
def Hr.step (r : Hr) : Option (Hr × List Ev) :=
  if r.ctl = true ∧ r.beg = false then (if r.s.head? = some 0 then some ({ r with beg := true, s := r.s.drop 1 }, []) else some ({ r with code := hUnexp }, []))
  else if 0 < r.left then some ({ r with s := r.s.drop (min r.left r.s.length), left := r.left - min r.left r.s.length }, if r.pas = true then [] else [(0, r.s.take (min r.left r.s.length))])
  else match headL r.s with
    | none => none
    | some (k, z, n) =>
      if wrongC r.ctl r.fst k ≠ 0 then some ({ r with code := wrongC r.ctl r.fst k }, [])
      else if wholeK k = true then (if 4096 < z then some ({ r with code := hFrame }, [])
        else if r.s.length - n < z then none
        else if contC k ((r.s.drop n).take z) ≠ 0 then some ({ r with code := contC k ((r.s.drop n).take z) }, [])
        else some ({ r with fst := true, s := r.s.drop (n + z) }, [(k, (r.s.drop n).take z)]))
      else some ({ r with left := z, pas := decide (k ≠ 0), s := r.s.drop n }, [])
def Hr.run : Nat → Hr → Hr × List Ev
  | 0, r => (r, [])
  | k + 1, r => if r.s = [] ∨ r.code ≠ 0 then (r, []) else match r.step with
    | none => (r, [])
    | some (q, e) => ((Hr.run k q).1, e ++ (Hr.run k q).2)
theorem Hr.run_succ (k : Nat) (r : Hr) : Hr.run (k + 1) r = if r.s = [] ∨ r.code ≠ 0 then (r, []) else match r.step with
    | none => (r, [])
    | some (q, e) => ((Hr.run k q).1, e ++ (Hr.run k q).2) := rfl
theorem Hr.run_coded (k : Nat) (r : Hr) (h : r.s = [] ∨ r.code ≠ 0) : Hr.run k r = (r, []) := by
  cases k with
  | zero => rfl
  | succ k => rw [Hr.run_succ, if_pos h]
theorem Hr.step_less {r q : Hr} {e : List Ev} (hs : r.s ≠ []) (h : r.step = some (q, e)) : q.code ≠ 0 ∨ q.s.length < r.s.length := by
  have hp := List.length_pos_iff.2 hs
  unfold Hr.step at h
  split at h
  · split at h
    · injection h with h
      injection h with h _
      subst h
      right
      simp only [List.length_drop]
      omega
    · injection h with h
      injection h with h _
      subst h
      left
      show hUnexp ≠ 0
      decide
  · split at h
    · injection h with h
      injection h with h _
      subst h
      right
      simp only [List.length_drop]
      omega
    · split at h
      · cases h
      · rename_i k z n hh
        have := head_len hh
        split at h
        · rename_i hw
          injection h with h
          injection h with h _
          subst h
          exact .inl hw
        · split at h
          · split at h
            · injection h with h
              injection h with h _
              subst h
              left
              show hFrame ≠ 0
              decide
            · split at h
              · cases h
              · split at h
                · rename_i hc
                  injection h with h
                  injection h with h _
                  subst h
                  exact .inl hc
                · injection h with h
                  injection h with h _
                  subst h
                  right
                  simp only [List.length_drop]
                  omega
          · injection h with h
            injection h with h _
            subst h
            right
            simp only [List.length_drop]
            omega
theorem Hr.run_enough : ∀ (k j : Nat) (r : Hr), r.s.length < k → r.s.length < j → Hr.run k r = Hr.run j r
  | 0, _, _, h, _ => by omega
  | _, 0, _, _, h => by omega
  | k + 1, j + 1, r, hk, hj => by
    rw [Hr.run_succ, Hr.run_succ]
    by_cases q : r.s = [] ∨ r.code ≠ 0
    · rw [if_pos q, if_pos q]
    · rw [if_neg q, if_neg q]
      cases hs : r.step with
      | none => rfl
      | some p =>
        obtain ⟨p, e⟩ := p
        simp only
        rcases Hr.step_less (fun c => q (.inl c)) hs with c | c
        · rw [Hr.run_coded k p (.inr c), Hr.run_coded j p (.inr c)]
        · rw [Hr.run_enough k j p (by omega) (by omega)]
def Hr.go (r : Hr) : Hr × List Ev := Hr.run (r.s.length + 1) r
theorem Hr.go_stop {r : Hr} (h : r.s = [] ∨ r.code ≠ 0) : r.go = (r, []) := Hr.run_coded _ _ h
theorem Hr.go_none {r : Hr} (h : ¬ (r.s = [] ∨ r.code ≠ 0)) (hs : r.step = none) : r.go = (r, []) := by
  unfold Hr.go
  rw [Hr.run_succ, if_neg h, hs]
theorem Hr.go_some {r q : Hr} {e : List Ev} (h : ¬ (r.s = [] ∨ r.code ≠ 0)) (hs : r.step = some (q, e)) : r.go = (q.go.1, e ++ q.go.2) := by
  unfold Hr.go
  rw [Hr.run_succ, if_neg h, hs]
  simp only
  rcases Hr.step_less (fun c => h (.inl c)) hs with c | c
  · rw [Hr.run_coded _ q (.inr c), Hr.run_coded _ q (.inr c)]
  · rw [Hr.run_enough r.s.length (q.s.length + 1) q c (by omega)]
def Hr.more (r : Hr) (t : L) : Hr := { r with s := r.s ++ t }
/-- Feed. -/
def Hr.feed (r : Hr) (t : L) : Hr × List Ev := if r.code ≠ 0 then (r, []) else (r.more t).go
/-- Events, with those of data one behind the other put together. -/
def evAdd (out : List Ev) (e : Ev) : List Ev := match out.getLast? with
  | some (k, d) => if e.1 = 0 ∧ k = 0 then out.dropLast ++ [(0, d ++ e.2)] else out ++ [e]
  | none => out ++ [e]
def joinE (out l : List Ev) : List Ev := l.foldl evAdd out
theorem join_app (out a b : List Ev) : joinE out (a ++ b) = joinE (joinE out a) b := List.foldl_append
theorem join_two (out : List Ev) (a b : L) : joinE out [(0, a), (0, b)] = joinE out [(0, a ++ b)] := by
  show evAdd (evAdd out (0, a)) (0, b) = evAdd out (0, a ++ b)
  unfold evAdd
  cases h : out.getLast? with
  | none => simp
  | some p =>
    obtain ⟨k, d⟩ := p
    by_cases q : k = 0
    · simp [q]
    · simp [q]
/-- The bytes that came all belong to a frame that is passed. -/
def Hr.short (r : Hr) : Prop := ¬ (r.ctl = true ∧ r.beg = false) ∧ r.s.length < r.left
theorem Hr.step_more {r q : Hr} {e : List Ev} (hs : r.s ≠ []) (h : r.step = some (q, e)) (hn : ¬ r.short) (t : L) : (r.more t).step = some (q.more t, e) := by
  have hp := List.length_pos_iff.2 hs
  obtain ⟨c, u, hcu⟩ : ∃ c u, r.s = c :: u := by
    cases q : r.s with
    | nil => exact absurd q hs
    | cons c u => exact ⟨c, u, rfl⟩
  unfold Hr.step at h ⊢
  by_cases a1 : r.ctl = true ∧ r.beg = false
  · rw [if_pos a1] at h
    rw [if_pos (show (r.more t).ctl = true ∧ (r.more t).beg = false from a1)]
    have hh : (r.more t).s.head? = r.s.head? := by show (r.s ++ t).head? = _; rw [hcu]; rfl
    rw [hh]
    by_cases a2 : r.s.head? = some 0
    · rw [if_pos a2] at h ⊢
      injection h with h
      injection h with h h2
      subst h h2
      unfold Hr.more
      simp only [hcu]
      rfl
    · rw [if_neg a2] at h ⊢
      injection h with h
      injection h with h h2
      subst h h2
      rfl
  · rw [if_neg a1] at h
    rw [if_neg (show ¬ ((r.more t).ctl = true ∧ (r.more t).beg = false) from a1)]
    have hl : (r.more t).s.length = r.s.length + t.length := List.length_append
    by_cases a2 : 0 < r.left
    · rw [if_pos a2] at h
      rw [if_pos (show 0 < (r.more t).left from a2)]
      have hle : r.left ≤ r.s.length := by
        rcases Nat.lt_or_ge r.s.length r.left with c | c
        · exact absurd ⟨a1, c⟩ hn
        · exact c
      have m1 : min r.left r.s.length = r.left := by omega
      have m2 : min (r.more t).left (r.more t).s.length = r.left := by rw [hl]; show min r.left _ = _; omega
      rw [m1] at h
      rw [m2]
      injection h with h
      injection h with h h2
      subst h h2
      have e1 : (r.s ++ t).drop r.left = r.s.drop r.left ++ t := List.drop_append_of_le_length hle
      have e2 : (r.s ++ t).take r.left = r.s.take r.left := List.take_append_of_le_length hle
      unfold Hr.more
      simp only [e1, e2]
    · rw [if_neg a2] at h
      rw [if_neg (show ¬ 0 < (r.more t).left from a2)]
      cases hh : headL r.s with
      | none => rw [hh] at h; cases h
      | some p =>
        obtain ⟨k, z, n⟩ := p
        rw [hh] at h
        have hn2 := head_len hh
        rw [show headL (r.more t).s = some (k, z, n) from head_more hh t]
        simp only at h ⊢
        rw [show wrongC (r.more t).ctl (r.more t).fst k = wrongC r.ctl r.fst k from rfl]
        by_cases a3 : wrongC r.ctl r.fst k ≠ 0
        · rw [if_pos a3] at h ⊢
          injection h with h
          injection h with h h2
          subst h h2
          rfl
        · rw [if_neg a3] at h ⊢
          by_cases a4 : wholeK k = true
          · rw [if_pos a4] at h ⊢
            by_cases a5 : 4096 < z
            · rw [if_pos a5] at h ⊢
              injection h with h
              injection h with h h2
              subst h h2
              rfl
            · rw [if_neg a5] at h ⊢
              by_cases a6 : r.s.length - n < z
              · rw [if_pos a6] at h
                cases h
              · rw [if_neg a6] at h
                rw [if_neg (show ¬ (r.more t).s.length - n < z by rw [hl]; omega)]
                have e1 : ((r.s ++ t).drop n).take z = (r.s.drop n).take z := by
                  rw [List.drop_append_of_le_length hn2.2, List.take_append_of_le_length (by rw [List.length_drop]; omega)]
                have e2 : (r.s ++ t).drop (n + z) = r.s.drop (n + z) ++ t := List.drop_append_of_le_length (by omega)
                rw [show ((r.more t).s.drop n).take z = (r.s.drop n).take z from e1]
                by_cases a7 : contC k ((r.s.drop n).take z) ≠ 0
                · rw [if_pos a7] at h ⊢
                  injection h with h
                  injection h with h h2
                  subst h h2
                  rfl
                · rw [if_neg a7] at h ⊢
                  injection h with h
                  injection h with h h2
                  subst h h2
                  unfold Hr.more
                  simp only [e2]
          · rw [if_neg a4] at h ⊢
            injection h with h
            injection h with h h2
            subst h h2
            have e2 : (r.s ++ t).drop n = r.s.drop n ++ t := List.drop_append_of_le_length hn2.2
            unfold Hr.more
            simp only [e2]
/-- Bytes of a frame that is passed, in two pieces. -/
theorem Hr.step_short {r : Hr} (hn : r.short) : r.step = some ({ r with s := [], left := r.left - r.s.length }, if r.pas = true then [] else [(0, r.s)]) := by
  obtain ⟨a1, a2⟩ := hn
  unfold Hr.step
  rw [if_neg a1, if_pos (by omega), show min r.left r.s.length = r.s.length by omega, List.drop_length, List.take_length]
theorem Hr.step_pass {r : Hr} (a1 : ¬ (r.ctl = true ∧ r.beg = false)) (a2 : 0 < r.left) : r.step = some ({ r with s := r.s.drop (min r.left r.s.length), left := r.left - min r.left r.s.length }, if r.pas = true then [] else [(0, r.s.take (min r.left r.s.length))]) := by
  unfold Hr.step
  rw [if_neg a1, if_pos a2]
/-- HOW BYTES ARE CUT DOES NOT MATTER. -/
theorem Hr.go_cut : ∀ (k : Nat) (r : Hr) (t : L), r.s.length < k → r.code = 0 → (r.go.1.code ≠ 0 → (r.more t).go.1.code = r.go.1.code ∧ (r.more t).go.2 = r.go.2) ∧ (r.go.1.code = 0 → (r.more t).go.1 = (r.go.1.more t).go.1 ∧ ∀ out, joinE out (r.more t).go.2 = joinE out (r.go.2 ++ (r.go.1.more t).go.2))
  | 0, _, _, h, _ => by omega
  | k + 1, r, t, hk, hc => by
    by_cases q0 : r.s = []
    · rw [Hr.go_stop (.inl q0)]
      exact ⟨fun c => absurd hc c, fun _ => ⟨rfl, fun _ => rfl⟩⟩
    · have q : ¬ (r.s = [] ∨ r.code ≠ 0) := fun c => c.elim q0 fun c => c hc
      have qm : ¬ ((r.more t).s = [] ∨ (r.more t).code ≠ 0) := fun c => c.elim (fun c => q0 (List.append_eq_nil_iff.1 c).1) fun c => c hc
      cases hs : r.step with
      | none =>
        rw [Hr.go_none q hs]
        exact ⟨fun c => absurd hc c, fun _ => ⟨rfl, fun _ => rfl⟩⟩
      | some p =>
        obtain ⟨p, e⟩ := p
        by_cases sh : r.short
        · have h2 := Hr.step_short sh
          rw [h2] at hs
          injection hs with hs
          injection hs with h3 h4
          have hp : r.go = (p, e) := by
            rw [Hr.go_some q h2, h3, h4, Hr.go_stop (.inl (by rw [← h3]))]
            simp
          rw [hp]
          refine ⟨fun c => absurd (by rw [← h3]; exact hc) c, fun _ => ?_⟩
          obtain ⟨a1, a2⟩ := sh
          by_cases t0 : t = []
          · subst t0
            have e1 : r.more [] = r := by unfold Hr.more; rw [List.append_nil]
            have e2 : p.more [] = p := by unfold Hr.more; rw [List.append_nil]
            rw [e1, e2, hp, Hr.go_stop (.inl (by rw [← h3]))]
            exact ⟨rfl, fun _ => by simp⟩
          · have g1 := Hr.step_pass (r := r.more t) a1 (show 0 < r.left by omega)
            have pn : ¬ ((p.more t).s = [] ∨ (p.more t).code ≠ 0) := by
              rw [← h3]
              exact fun c => c.elim (fun c => t0 c) fun c => c hc
            have g2 := Hr.step_pass (r := p.more t) (by rw [← h3]; exact a1) (by rw [← h3]; show 0 < r.left - r.s.length; omega)
            rw [Hr.go_some qm g1, Hr.go_some pn g2]
            have hl : (r.more t).s.length = r.s.length + t.length := List.length_append
            obtain ⟨n, hn⟩ : ∃ n, n = min (r.left - r.s.length) t.length := ⟨_, rfl⟩
            have m1 : min (r.more t).left (r.more t).s.length = r.s.length + n := by rw [hl]; show min r.left _ = _; omega
            have m2 : min (p.more t).left (p.more t).s.length = n := by rw [← h3]; exact hn.symm
            rw [m1, m2]
            have e1 : (r.more t).s.drop (r.s.length + n) = t.drop n := by show (r.s ++ t).drop _ = _; rw [List.drop_append]; simp
            have e2 : (r.more t).s.take (r.s.length + n) = r.s ++ t.take n := by show (r.s ++ t).take _ = _; rw [List.take_append, List.take_of_length_le (by omega)]; simp
            have e3 : (p.more t).s = t := by rw [← h3]; rfl
            rw [e1, e2, e3]
            have hpas : p.pas = r.pas := by rw [← h3]
            have ee : (⟨r.ctl, t.drop n, r.beg, r.fst, r.left - (r.s.length + n), r.pas, r.code⟩ : Hr) = ⟨p.ctl, t.drop n, p.beg, p.fst, p.left - n, p.pas, p.code⟩ := by
              rw [← h3]
              simp only [Hr.mk.injEq, true_and, and_true]
              omega
            obtain ⟨X, hX⟩ : ∃ X, X = (⟨p.ctl, t.drop n, p.beg, p.fst, p.left - n, p.pas, p.code⟩ : Hr).go := ⟨_, rfl⟩
            have l1 : (⟨r.ctl, t.drop n, r.beg, r.fst, r.left - (r.s.length + n), r.pas, r.code⟩ : Hr).go = X := by rw [hX, ee]
            change (⟨r.ctl, t.drop n, r.beg, r.fst, r.left - (r.s.length + n), r.pas, r.code⟩ : Hr).go.1 = (⟨p.ctl, t.drop n, p.beg, p.fst, p.left - n, p.pas, p.code⟩ : Hr).go.1 ∧ ∀ out, joinE out ((if r.pas = true then [] else [(0, r.s ++ t.take n)]) ++ (⟨r.ctl, t.drop n, r.beg, r.fst, r.left - (r.s.length + n), r.pas, r.code⟩ : Hr).go.2) = joinE out (e ++ ((if p.pas = true then [] else [(0, t.take n)]) ++ (⟨p.ctl, t.drop n, p.beg, p.fst, p.left - n, p.pas, p.code⟩ : Hr).go.2))
            rw [l1, ← hX]
            refine ⟨rfl, fun out => ?_⟩
            rw [← h4, hpas]
            by_cases pz : r.pas = true
            · rw [if_pos pz, if_pos pz, if_pos pz]
              rfl
            · rw [if_neg pz, if_neg pz, if_neg pz]
              rw [← List.append_assoc, join_app, join_app out ([(0, r.s)] ++ [(0, t.take n)])]
              rw [show ([(0, r.s)] ++ [(0, t.take n)] : List Ev) = [(0, r.s), (0, t.take n)] from rfl, join_two]
        · have hm := Hr.step_more q0 hs sh t
          rw [Hr.go_some q hs, Hr.go_some qm hm]
          by_cases pc : p.code = 0
          · have hlt : p.s.length < r.s.length := (Hr.step_less q0 hs).resolve_left fun c => c pc
            obtain ⟨i1, i2⟩ := Hr.go_cut k p t (by omega) pc
            refine ⟨fun c => ?_, fun c => ?_⟩
            · obtain ⟨j1, j2⟩ := i1 c
              exact ⟨j1, by rw [j2]⟩
            · obtain ⟨j1, j2⟩ := i2 c
              refine ⟨j1, fun out => ?_⟩
              rw [List.append_assoc, join_app, join_app out e, j2]
          · rw [Hr.go_stop (.inr pc), Hr.go_stop (r := p.more t) (.inr pc)]
            exact ⟨fun _ => ⟨rfl, rfl⟩, fun c => absurd c pc⟩
end Go.Proofs.YtihkbakbciejiaaDoor
