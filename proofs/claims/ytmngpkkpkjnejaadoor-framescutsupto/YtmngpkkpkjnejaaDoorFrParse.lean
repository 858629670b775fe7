/-
  Frames one behind the other: what is written is read again, but for padding; what is read is written in no more bytes; bytes behind others; what is cut off. Plain facts; no condition.
-/
import Derived.Test.YtmngpkkpkjnejaaDoorFrMath
namespace Go.Proofs.YtmngpkkpkjnejaaDoor
set_option maxRecDepth 100000

/-- One for a frame that is counted. -/
def one (f : Fr) : Nat := if f.kind = 0 then 0 else 1
/-- A frame that is kept. -/
def keep (f : Fr) (l : List Fr) : List Fr := if f.kind = 0 then l else f :: l
/-- Frames, if there are not too many; so many came; so many bytes at most are there. -/
def parseN : Nat → L → Nat → Except Int (List Fr)
  | 0, _, _ => .ok []
  | n + 1, s, c =>
    if s = [] then .ok []
    else match rFrame s with
      | .error e => .error e
      | .ok (f, r) => if 64 < c + one f then .error 8 else match parseN n r (c + one f) with
        | .ok l => .ok (keep f l)
        | .error e => .error e
def parse (s : L) (c : Nat) : Except Int (List Fr) := parseN s.length s c
theorem frame_nil : rFrame [] = .error 1 := rfl
theorem frame_less {s r : L} {f : Fr} (h : rFrame s = .ok (f, r)) : r.length < s.length := by
  have := (frame_back h).2
  have := put_pos f.kind.toNat
  rw [wrF_body, List.length_append] at *
  unfold putI at *
  omega
theorem parseN_any : ∀ (n m : Nat) (s : L) (c : Nat), s.length ≤ n → s.length ≤ m → parseN n s c = parseN m s c := by
  intro n
  induction n with
  | zero =>
    intro m s c hn _
    have e : s = [] := List.eq_nil_of_length_eq_zero (by omega)
    subst e
    cases m with
    | zero => rfl
    | succ m => rw [parseN, parseN, if_pos rfl]
  | succ n ih =>
    intro m s c hn hm
    by_cases e : s = []
    · subst e
      cases m with
      | zero => rw [parseN, parseN, if_pos rfl]
      | succ m => rw [parseN, parseN, if_pos rfl, if_pos rfl]
    · cases m with
      | zero => exact absurd (List.eq_nil_of_length_eq_zero (by omega)) e
      | succ m =>
        rw [parseN, parseN, if_neg e, if_neg e]
        cases h : rFrame s with
        | error x => rfl
        | ok y =>
          obtain ⟨f, r⟩ := y
          have := frame_less h
          show (if 64 < c + one f then _ else _) = (if 64 < c + one f then _ else _)
          rw [ih m r (c + one f) (by omega) (by omega)]
theorem parse_nil (c : Nat) : parse [] c = .ok [] := rfl
theorem parse_ok {s r : L} {f : Fr} (h : rFrame s = .ok (f, r)) (c : Nat) : parse s c = if 64 < c + one f then .error 8 else match parse r (c + one f) with
    | .ok l => .ok (keep f l)
    | .error e => .error e := by
  have hne : s ≠ [] := fun e => by rw [e, frame_nil] at h; cases h
  have hl := frame_less h
  obtain ⟨n, hn⟩ : ∃ n, s.length = n + 1 := ⟨s.length - 1, by omega⟩
  unfold parse
  rw [hn, parseN, if_neg hne, h]
  show (if 64 < c + one f then _ else _) = _
  rw [parseN_any n r.length r (c + one f) (by omega) (Nat.le_refl _)]
theorem parse_err {s : L} {e : Int} (hs : s ≠ []) (h : rFrame s = .error e) (c : Nat) : parse s c = .error e := by
  obtain ⟨n, hn⟩ : ∃ n, s.length = n + 1 := ⟨s.length - 1, by have := List.length_pos_iff.2 hs; omega⟩
  unfold parse
  rw [hn, parseN, if_neg hs, h]
/-- Frames as they are written. -/
def wrAll (l : List Fr) : L := l.flatMap wrF
def kept (l : List Fr) : List Fr := l.filter fun f => f.kind ≠ 0
theorem kept_cons (f : Fr) (l : List Fr) : kept (f :: l) = keep f (kept l) := by
  unfold kept keep
  by_cases h : f.kind = 0 <;> simp [h]
theorem keep_len (f : Fr) (l : List Fr) : (keep f l).length = one f + l.length := by
  unfold keep one
  split <;> simp
  omega
theorem parse_put (l : List Fr) : ∀ (c : Nat) (t : L), (∀ f ∈ l, Rt f) → c + (kept l).length ≤ 64 → parse (wrAll l ++ t) c = match parse t (c + (kept l).length) with
    | .ok m => .ok (kept l ++ m)
    | .error e => .error e := by
  induction l with
  | nil =>
    intro c t _ _
    show parse t c = _
    simp only [kept, List.filter_nil, List.length_nil, Nat.add_zero, List.nil_append]
    cases parse t c <;> rfl
  | cons f l ih =>
    intro c t h hc
    have e : wrAll (f :: l) ++ t = wrF f ++ (wrAll l ++ t) := by simp [wrAll]
    rw [kept_cons, keep_len] at hc
    rw [e, parse_ok (frame_put (h f (List.mem_cons_self ..)) _), if_neg (by omega), ih _ t (fun g hg => h g (List.mem_cons_of_mem _ hg)) (by omega), kept_cons, keep_len, Nat.add_assoc]
    cases parse t (c + (one f + (kept l).length)) with
    | error e => rfl
    | ok m =>
      simp only
      unfold keep
      split <;> simp
/-- What is written is read again, but for padding. -/
theorem parse_wrAll {l : List Fr} (h : ∀ f ∈ l, Rt f) (hc : (kept l).length ≤ 64) : parse (wrAll l) 0 = .ok (kept l) := by
  have := parse_put l 0 [] h (by omega)
  rw [List.append_nil, parse_nil] at this
  simpa using this
/-- What is read is right, is no padding, is not too much, and has no more bytes when it is written again. -/
theorem parse_back : ∀ (n : Nat) (s : L) (c : Nat) (l : List Fr), s.length ≤ n → c ≤ 64 → parse s c = .ok l → (∀ f ∈ l, Rt f ∧ f.kind ≠ 0) ∧ c + l.length ≤ 64 ∧ (wrAll l).length ≤ s.length := by
  intro n
  induction n with
  | zero =>
    intro s c l hn hc h
    obtain rfl : s = [] := List.eq_nil_of_length_eq_zero (by omega)
    rw [parse_nil] at h
    injection h with h
    subst h
    exact ⟨fun f hf => (by cases hf), by simpa using hc, Nat.le_refl _⟩
  | succ n ih =>
    intro s c l hn hc h
    by_cases hs : s = []
    · subst hs
      rw [parse_nil] at h
      injection h with h
      subst h
      exact ⟨fun f hf => (by cases hf), by simpa using hc, Nat.le_refl _⟩
    · cases hf : rFrame s with
      | error e => rw [parse_err hs hf] at h; cases h
      | ok x =>
        obtain ⟨f, r⟩ := x
        rw [parse_ok hf] at h
        split at h
        · cases h
        · rename_i hcc
          have hl := frame_less hf
          obtain ⟨rt, hb⟩ := frame_back hf
          cases hp : parse r (c + one f) with
          | error e => rw [hp] at h; cases h
          | ok m =>
            rw [hp] at h
            injection h with h
            subst h
            obtain ⟨h1, h2, h3⟩ := ih r (c + one f) m (by omega) (by omega) hp
            rw [keep_len]
            refine ⟨fun g hg => ?_, by omega, ?_⟩
            · unfold keep at hg
              split at hg
              · exact h1 g hg
              · rename_i hk
                rcases List.mem_cons.1 hg with rfl | hg
                · exact ⟨rt, hk⟩
                · exact h1 g hg
            · unfold keep
              split
              · omega
              · show (wrF f ++ wrAll m).length ≤ s.length
                rw [List.length_append]
                omega
theorem kept_all {l : List Fr} (h : ∀ f ∈ l, Rt f ∧ f.kind ≠ 0) : kept l = l := by
  unfold kept
  rw [List.filter_eq_self]
  intro f hf
  simpa using (h f hf).2
/-- Bytes behind others. -/
theorem parse_cat : ∀ (n : Nat) (a : L) (c : Nat) (x : List Fr), a.length ≤ n → parse a c = .ok x → ∀ b : L, parse (a ++ b) c = match parse b (c + x.length) with
    | .ok y => .ok (x ++ y)
    | .error e => .error e := by
  intro n
  induction n with
  | zero =>
    intro a c x hn h b
    obtain rfl : a = [] := List.eq_nil_of_length_eq_zero (by omega)
    rw [parse_nil] at h
    injection h with h
    subst h
    show parse b c = match parse b (c + 0) with
      | .ok y => .ok ([] ++ y)
      | .error e => .error e
    rw [Nat.add_zero]
    cases parse b c <;> rfl
  | succ n ih =>
    intro a c x hn h b
    by_cases hs : a = []
    · subst hs
      rw [parse_nil] at h
      injection h with h
      subst h
      show parse b c = match parse b (c + 0) with
        | .ok y => .ok ([] ++ y)
        | .error e => .error e
      rw [Nat.add_zero]
      cases parse b c <;> rfl
    · cases hf : rFrame a with
      | error e => rw [parse_err hs hf] at h; cases h
      | ok z =>
        obtain ⟨f, r⟩ := z
        rw [parse_ok hf] at h
        have hl := frame_less hf
        obtain ⟨u, e1, m1, _⟩ := good_frame.ok a f r hf
        have hf2 : rFrame (a ++ b) = .ok (f, r ++ b) := by rw [e1, List.append_assoc]; exact m1 _
        split at h
        · cases h
        · rename_i hcc
          rw [parse_ok hf2, if_neg hcc]
          cases hp : parse r (c + one f) with
          | error e => rw [hp] at h; cases h
          | ok m =>
            rw [hp] at h
            injection h with h
            subst h
            rw [ih r (c + one f) m (by omega) hp b, keep_len, Nat.add_assoc]
            cases parse b (c + (one f + m.length)) with
            | error e => rfl
            | ok y =>
              simp only
              unfold keep
              split <;> simp
theorem parse_catE : ∀ (n : Nat) (a : L) (c : Nat) (e : Int), a.length ≤ n → parse a c = .error e → e ≠ 1 → ∀ b : L, parse (a ++ b) c = .error e := by
  intro n
  induction n with
  | zero =>
    intro a c e hn h he b
    obtain rfl : a = [] := List.eq_nil_of_length_eq_zero (by omega)
    rw [parse_nil] at h
    cases h
  | succ n ih =>
    intro a c e hn h he b
    by_cases hs : a = []
    · subst hs
      rw [parse_nil] at h
      cases h
    · cases hf : rFrame a with
      | error e' =>
        rw [parse_err hs hf] at h
        injection h with h
        subst h
        exact parse_err (by simp [hs]) (good_frame.err a _ hf he b) c
      | ok z =>
        obtain ⟨f, r⟩ := z
        rw [parse_ok hf] at h
        have hl := frame_less hf
        obtain ⟨u, e1, m1, _⟩ := good_frame.ok a f r hf
        have hf2 : rFrame (a ++ b) = .ok (f, r ++ b) := by rw [e1, List.append_assoc]; exact m1 _
        rw [parse_ok hf2]
        split at h
        · rename_i hcc
          rw [if_pos hcc]
          exact h
        · rename_i hcc
          rw [if_neg hcc]
          cases hp : parse r (c + one f) with
          | ok m => rw [hp] at h; cases h
          | error e' =>
            rw [hp] at h
            injection h with h
            subst h
            rw [ih r (c + one f) _ (by omega) hp he b]
/-- How many came ahead matters for nothing but that there are too many. -/
theorem parse_count : ∀ (n : Nat) (s : L) (c c' : Nat) (l : List Fr), s.length ≤ n → parse s c = .ok l → c' + l.length ≤ 64 → parse s c' = .ok l := by
  intro n
  induction n with
  | zero =>
    intro s c c' l hn h _
    obtain rfl : s = [] := List.eq_nil_of_length_eq_zero (by omega)
    rw [parse_nil] at h ⊢
    exact h
  | succ n ih =>
    intro s c c' l hn h hc
    by_cases hs : s = []
    · subst hs
      rw [parse_nil] at h ⊢
      exact h
    · cases hf : rFrame s with
      | error e => rw [parse_err hs hf] at h; cases h
      | ok z =>
        obtain ⟨f, r⟩ := z
        have hl := frame_less hf
        rw [parse_ok hf] at h ⊢
        split at h
        · cases h
        · cases hp : parse r (c + one f) with
          | error e => rw [hp] at h; cases h
          | ok m =>
            rw [hp] at h
            injection h with h
            subst h
            rw [keep_len] at hc
            rw [if_neg (by omega), ih r (c + one f) (c' + one f) m (by omega) hp (by omega)]
theorem parse_countE : ∀ (n : Nat) (s : L) (c c' : Nat) (e : Int), s.length ≤ n → c ≤ c' → parse s c = .error e → parse s c' = .error e ∨ parse s c' = .error 8 := by
  intro n
  induction n with
  | zero =>
    intro s c c' e hn _ h
    obtain rfl : s = [] := List.eq_nil_of_length_eq_zero (by omega)
    rw [parse_nil] at h
    cases h
  | succ n ih =>
    intro s c c' e hn hc h
    by_cases hs : s = []
    · subst hs
      rw [parse_nil] at h
      cases h
    · cases hf : rFrame s with
      | error e' =>
        rw [parse_err hs hf] at h
        exact .inl (by rw [parse_err hs hf]; exact h)
      | ok z =>
        obtain ⟨f, r⟩ := z
        have hl := frame_less hf
        rw [parse_ok hf] at h ⊢
        by_cases hcc : 64 < c' + one f
        · rw [if_pos hcc]
          exact .inr rfl
        · rw [if_neg hcc]
          rw [if_neg (by omega)] at h
          cases hp : parse r (c + one f) with
          | ok m => rw [hp] at h; cases h
          | error e' =>
            rw [hp] at h
            injection h with h
            subst h
            rcases ih r (c + one f) (c' + one f) _ (by omega) (by omega) hp with q | q <;> rw [q]
            · exact .inl rfl
            · exact .inr rfl
/-- Padding changes nothing. -/
theorem frame_pad (t : L) : rFrame (0 :: t) = .ok (⟨0, 0, 0, false, 0, [], []⟩, t) := by
  have h : Rt ⟨0, 0, 0, false, 0, [], []⟩ := chkF_zero.1 (by decide)
  exact frame_put h t
theorem parse_pads (k : Nat) (b : L) (c : Nat) (hc : c ≤ 64) : parse (List.replicate k 0 ++ b) c = parse b c := by
  induction k with
  | zero => rfl
  | succ k ih =>
    rw [List.replicate_succ, List.cons_append, parse_ok (frame_pad _)]
    have e : one ⟨0, 0, 0, false, 0, [], []⟩ = 0 := rfl
    rw [e, Nat.add_zero, if_neg (by omega), ih]
    cases parse b c <;> rfl
/-- What is cut off within its last frame is too short. -/
theorem parse_cut {l : List Fr} {f : Fr} (h : ∀ g ∈ l, Rt g) (hc : (kept l).length ≤ 64) (hf : Rt f) (j : Nat) (h0 : 0 < j) (hj : j < (wrF f).length) : parse (wrAll l ++ (wrF f).take j) 0 = .error 1 := by
  have h1 : rFrame ((wrF f).take j) = .error 1 := by
    have := frame_put hf []
    obtain ⟨u, e1, _, c1⟩ := good_frame.ok _ _ _ this
    simp at e1
    subst e1
    exact c1 j hj
  have hne : (wrF f).take j ≠ [] := fun e => by
    have := congrArg List.length e
    rw [List.length_take, Nat.min_eq_left (by omega), List.length_nil] at this
    omega
  rw [parse_put l 0 _ h (by omega), parse_err hne h1]
end Go.Proofs.YtmngpkkpkjnejaaDoor
