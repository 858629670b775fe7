/-
  What chapter 16 says of a stream's capsules, as plain sums: a step of the reader, all its steps, that how the bytes are cut does not matter, and that capsules that are written are read. No condition but the sizes of a capsule's numbers.
-/
import Derived.Test.YtihkbakbciejiaaDoorH3More
namespace Go.Proofs.YtihkbakbciejiaaDoor
set_option maxRecDepth 100000

/-- The reader: what is not told, and that one was too great. -/
structure Cr where
  s : L
  bad : Bool
def Cr.step (r : Cr) : Option (Cr × List Ev) := match headL r.s with
  | none => none
  | some (k, z, n) => if 4096 < z then some ({ r with bad := true }, []) else if r.s.length - n < z then none else some ({ r with s := r.s.drop (n + z) }, [(k, (r.s.drop n).take z)])
def Cr.run : Nat → Cr → Cr × List Ev
  | 0, r => (r, [])
  | k + 1, r => if r.bad = true then (r, []) else match r.step with
    | none => (r, [])
    | some (q, e) => ((Cr.run k q).1, e ++ (Cr.run k q).2)
theorem Cr.run_succ (k : Nat) (r : Cr) : Cr.run (k + 1) r = if r.bad = true then (r, []) else match r.step with
    | none => (r, [])
    | some (q, e) => ((Cr.run k q).1, e ++ (Cr.run k q).2) := rfl
theorem Cr.run_bad (k : Nat) (r : Cr) (h : r.bad = true) : Cr.run k r = (r, []) := by
  cases k with
  | zero => rfl
  | succ k => rw [Cr.run_succ, if_pos h]
theorem Cr.step_less {r q : Cr} {e : List Ev} (h : r.step = some (q, e)) : q.bad = true ∨ q.s.length < r.s.length := by
  unfold Cr.step at h
  split at h
  · cases h
  · rename_i k z n hh
    have := head_len hh
    split at h
    · injection h with h
      injection h with h _
      subst h
      exact .inl rfl
    · split at h
      · cases h
      · injection h with h
        injection h with h _
        subst h
        right
        simp only [List.length_drop]
        omega
theorem Cr.run_enough : ∀ (k j : Nat) (r : Cr), r.s.length < k → r.s.length < j → Cr.run k r = Cr.run j r
  | 0, _, _, h, _ => by omega
  | _, 0, _, _, h => by omega
  | k + 1, j + 1, r, hk, hj => by
    rw [Cr.run_succ, Cr.run_succ]
    by_cases q : r.bad = true
    · rw [if_pos q, if_pos q]
    · rw [if_neg q, if_neg q]
      cases hs : r.step with
      | none => rfl
      | some p =>
        obtain ⟨p, e⟩ := p
        simp only
        rcases Cr.step_less hs with c | c
        · rw [Cr.run_bad k p c, Cr.run_bad j p c]
        · rw [Cr.run_enough k j p (by omega) (by omega)]
def Cr.go (r : Cr) : Cr × List Ev := Cr.run (r.s.length + 1) r
theorem Cr.go_bad {r : Cr} (h : r.bad = true) : r.go = (r, []) := Cr.run_bad _ _ h
theorem Cr.go_none {r : Cr} (h : r.bad = false) (hs : r.step = none) : r.go = (r, []) := by
  unfold Cr.go
  rw [Cr.run_succ, if_neg (by rw [h]; decide), hs]
theorem Cr.go_some {r q : Cr} {e : List Ev} (h : r.bad = false) (hs : r.step = some (q, e)) : r.go = (q.go.1, e ++ q.go.2) := by
  unfold Cr.go
  rw [Cr.run_succ, if_neg (by rw [h]; decide), hs]
  simp only
  rcases Cr.step_less hs with c | c
  · rw [Cr.run_bad _ q c, Cr.run_bad _ q c]
  · rw [Cr.run_enough r.s.length (q.s.length + 1) q c (by omega)]
def Cr.more (r : Cr) (t : L) : Cr := { r with s := r.s ++ t }
/-- Feed. -/
def Cr.feed (r : Cr) (t : L) : Cr × List Ev := if r.bad = true then (r, []) else (r.more t).go
theorem Cr.step_more {r q : Cr} {e : List Ev} (h : r.step = some (q, e)) (t : L) : (r.more t).step = some (q.more t, e) := by
  unfold Cr.step at h ⊢
  have hl : (r.more t).s.length = r.s.length + t.length := List.length_append
  cases hh : headL r.s with
  | none => rw [hh] at h; cases h
  | some p =>
    obtain ⟨k, z, n⟩ := p
    rw [hh] at h
    have hn := head_len hh
    rw [show headL (r.more t).s = some (k, z, n) from head_more hh t]
    simp only at h ⊢
    by_cases a5 : 4096 < z
    · rw [if_pos a5] at h ⊢
      injection h with h
      injection h with h h2
      subst h h2
      rfl
    · rw [if_neg a5] at h ⊢
      by_cases a6 : r.s.length - n < z
      · rw [if_pos a6] at h
        cases h
      · rw [if_neg a6] at h
        rw [if_neg (show ¬ (r.more t).s.length - n < z by rw [hl]; omega)]
        injection h with h
        injection h with h h2
        subst h h2
        have e1 : ((r.s ++ t).drop n).take z = (r.s.drop n).take z := by
          rw [List.drop_append_of_le_length hn.2, List.take_append_of_le_length (by rw [List.length_drop]; omega)]
        have e2 : (r.s ++ t).drop (n + z) = r.s.drop (n + z) ++ t := List.drop_append_of_le_length (by omega)
        unfold Cr.more
        simp only [e1, e2]
/-- HOW BYTES ARE CUT DOES NOT MATTER. -/
theorem Cr.go_cut : ∀ (k : Nat) (r : Cr) (t : L), r.s.length < k → r.bad = false → (r.go.1.bad = true → (r.more t).go.1.bad = true ∧ (r.more t).go.2 = r.go.2) ∧ (r.go.1.bad = false → (r.more t).go.1 = (r.go.1.more t).go.1 ∧ (r.more t).go.2 = r.go.2 ++ (r.go.1.more t).go.2)
  | 0, _, _, h, _ => by omega
  | k + 1, r, t, hk, hc => by
    cases hs : r.step with
    | none =>
      rw [Cr.go_none hc hs]
      exact ⟨fun c => (by rw [hc] at c; cases c), fun _ => ⟨rfl, rfl⟩⟩
    | some p =>
      obtain ⟨p, e⟩ := p
      have hm := Cr.step_more hs t
      rw [Cr.go_some hc hs, Cr.go_some (r := r.more t) hc hm]
      cases pc : p.bad with
      | false =>
        have hlt : p.s.length < r.s.length := (Cr.step_less hs).resolve_left fun c => by rw [pc] at c; cases c
        obtain ⟨i1, i2⟩ := Cr.go_cut k p t (by omega) pc
        refine ⟨fun c => ?_, fun c => ?_⟩
        · obtain ⟨j1, j2⟩ := i1 c
          exact ⟨j1, by rw [j2]⟩
        · obtain ⟨j1, j2⟩ := i2 c
          exact ⟨j1, by rw [j2, List.append_assoc]⟩
      | true =>
        rw [Cr.go_bad pc, Cr.go_bad (r := p.more t) pc]
        exact ⟨fun _ => ⟨pc, rfl⟩, fun c => (by rw [pc] at c; cases c)⟩
def Cr.feeds : Cr → List L → Cr × List Ev
  | r, [] => (r, [])
  | r, t :: ts => ((Cr.feeds (r.feed t).1 ts).1, (r.feed t).2 ++ (Cr.feeds (r.feed t).1 ts).2)
theorem Cr.feeds_bad : ∀ (ts : List L) (r : Cr), r.bad = true → r.feeds ts = (r, [])
  | [], _, _ => rfl
  | t :: ts, r, h => by
    have e : r.feed t = (r, []) := if_pos h
    show ((Cr.feeds (r.feed t).1 ts).1, (r.feed t).2 ++ (Cr.feeds (r.feed t).1 ts).2) = _
    rw [e, Cr.feeds_bad ts r h]
    rfl
theorem Cr.more_more (r : Cr) (a b : L) : (r.more a).more b = r.more (a ++ b) := by
  unfold Cr.more
  simp only [List.append_assoc]
structure SameC (x y : Cr × List Ev) : Prop where
  bad : x.1.bad = y.1.bad
  all : x.1.bad = false → x.1 = y.1
  ev : x.2 = y.2
theorem Cr.feed_two (r : Cr) (h : r.bad = false) (a b : L) : SameC (r.feed (a ++ b)) (((r.feed a).1.feed b).1, (r.feed a).2 ++ ((r.feed a).1.feed b).2) := by
  have n : ¬ r.bad = true := by rw [h]; decide
  have e1 : r.feed (a ++ b) = ((r.more a).more b).go := by unfold Cr.feed; rw [if_neg n, Cr.more_more]
  have e2 : r.feed a = (r.more a).go := if_neg n
  obtain ⟨i1, i2⟩ := Cr.go_cut _ (r.more a) b (Nat.lt_succ_self _) h
  rw [e1, e2]
  cases c : (r.more a).go.1.bad with
  | false =>
    obtain ⟨j1, j2⟩ := i2 c
    have e3 : (r.more a).go.1.feed b = ((r.more a).go.1.more b).go := if_neg (by rw [c]; decide)
    rw [e3]
    exact ⟨by rw [j1], fun _ => j1, j2⟩
  | true =>
    obtain ⟨j1, j2⟩ := i1 c
    have e3 : (r.more a).go.1.feed b = ((r.more a).go.1, []) := if_pos c
    rw [e3]
    exact ⟨j1.trans c.symm, fun q => (by rw [j1] at q; cases q), by rw [j2, List.append_nil]⟩
/-- All bytes at once, or in any pieces (one at least). -/
theorem Cr.feeds_cut : ∀ (ts : List L) (t : L) (r : Cr), r.bad = false → SameC (r.feed (t ++ ts.flatten)) (r.feeds (t :: ts))
  | [], t, r, _ => by
    rw [List.flatten_nil, List.append_nil]
    refine ⟨rfl, fun _ => rfl, ?_⟩
    show _ = (r.feed t).2 ++ []
    rw [List.append_nil]
  | u :: ts, t, r, h => by
    rw [List.flatten_cons]
    have s := Cr.feed_two r h t (u ++ ts.flatten)
    show SameC _ ((Cr.feeds (r.feed t).1 (u :: ts)).1, (r.feed t).2 ++ (Cr.feeds (r.feed t).1 (u :: ts)).2)
    cases c : (r.feed t).1.bad with
    | false =>
      have i := Cr.feeds_cut ts u (r.feed t).1 c
      exact ⟨s.bad.trans i.bad, fun q => (s.all q).trans (i.all (s.bad.symm.trans q)), by rw [s.ev, i.ev]⟩
    | true =>
      have e3 : (r.feed t).1.feed (u ++ ts.flatten) = ((r.feed t).1, []) := if_pos c
      rw [e3] at s
      rw [Cr.feeds_bad _ _ c]
      exact s
theorem cgo_one {k : Nat} {d t : L} (hk : Lim k) (hd : d.length ≤ 4096) : (Cr.mk (frm k d ++ t) false).go = ((Cr.mk t false).go.1, (k, d) :: (Cr.mk t false).go.2) := by
  have e1 : ((d ++ t).take d.length) = d := by simp
  have s1 : (Cr.mk (frm k d ++ t) false).step = some (Cr.mk t false, [(k, d)]) := by
    have hl : (frm k d ++ t).length - ((putL k).length + (putL d.length).length) = d.length + t.length := by rw [← List.length_drop, frm_rest, List.length_append]
    have e2 : (frm k d ++ t).drop ((putL k).length + (putL d.length).length + d.length) = t := by rw [← List.drop_drop, frm_rest, List.drop_left]
    unfold Cr.step
    rw [frm_head hk (by unfold Lim; omega)]
    simp only
    rw [if_neg (by omega), hl, if_neg (by omega), e2, frm_rest, e1]
  rw [Cr.go_some rfl s1]
  rfl
/-- Capsules that are written are read as they were. -/
theorem cgo_all : ∀ l : List Ev, (∀ e ∈ l, Lim e.1 ∧ e.2.length ≤ 4096) → (Cr.mk (l.flatMap fun e => frm e.1 e.2) false).go = (Cr.mk [] false, l)
  | [], _ => Cr.go_none rfl rfl
  | e :: l, h => by
    obtain ⟨h1, h2⟩ := h e (List.mem_cons_self ..)
    show (Cr.mk (frm e.1 e.2 ++ l.flatMap fun e => frm e.1 e.2) false).go = _
    rw [cgo_one h1 h2, cgo_all l fun x hx => h x (List.mem_cons_of_mem _ hx)]
end Go.Proofs.YtihkbakbciejiaaDoor
