/-
  What chapter 15 says of a stream's bytes: pieces of them, and frames one behind the other. No condition but the sizes of a frame's numbers.
-/
import Derived.Test.YtihkbakbciejiaaDoorH3Math
namespace Go.Proofs.YtihkbakbciejiaaDoor
set_option maxRecDepth 100000

def Hr.feeds : Hr → List L → Hr × List Ev
  | r, [] => (r, [])
  | r, t :: ts => ((Hr.feeds (r.feed t).1 ts).1, (r.feed t).2 ++ (Hr.feeds (r.feed t).1 ts).2)
theorem Hr.feeds_coded : ∀ (ts : List L) (r : Hr), r.code ≠ 0 → r.feeds ts = (r, [])
  | [], _, _ => rfl
  | t :: ts, r, h => by
    have e : r.feed t = (r, []) := if_pos h
    show ((Hr.feeds (r.feed t).1 ts).1, (r.feed t).2 ++ (Hr.feeds (r.feed t).1 ts).2) = _
    rw [e, Hr.feeds_coded ts r h]
    rfl
theorem Hr.more_more (r : Hr) (a b : L) : (r.more a).more b = r.more (a ++ b) := by
  unfold Hr.more
  simp only [List.append_assoc]
/-- The same code; without one the same reader; the same events, put together. -/
structure SameH (x y : Hr × List Ev) : Prop where
  code : x.1.code = y.1.code
  all : x.1.code = 0 → x.1 = y.1
  ev : ∀ out, joinE out x.2 = joinE out y.2
theorem Hr.feed_two (r : Hr) (h : r.code = 0) (a b : L) : SameH (r.feed (a ++ b)) (((r.feed a).1.feed b).1, (r.feed a).2 ++ ((r.feed a).1.feed b).2) := by
  have n : ¬ r.code ≠ 0 := fun c => c h
  have e1 : r.feed (a ++ b) = ((r.more a).more b).go := by unfold Hr.feed; rw [if_neg n, Hr.more_more]
  have e2 : r.feed a = (r.more a).go := if_neg n
  obtain ⟨i1, i2⟩ := Hr.go_cut _ (r.more a) b (Nat.lt_succ_self _) h
  rw [e1, e2]
  by_cases c : (r.more a).go.1.code = 0
  · obtain ⟨j1, j2⟩ := i2 c
    have e3 : (r.more a).go.1.feed b = ((r.more a).go.1.more b).go := if_neg fun q => q c
    rw [e3]
    exact ⟨by rw [j1], fun _ => j1, j2⟩
  · obtain ⟨j1, j2⟩ := i1 c
    have e3 : (r.more a).go.1.feed b = ((r.more a).go.1, []) := if_pos c
    rw [e3]
    exact ⟨j1, fun q => absurd (j1.symm.trans q) c, fun out => by rw [j2, List.append_nil]⟩
/-- All bytes at once, or in any pieces (one at least). -/
theorem Hr.feeds_cut : ∀ (ts : List L) (t : L) (r : Hr), r.code = 0 → SameH (r.feed (t ++ ts.flatten)) (r.feeds (t :: ts))
  | [], t, r, _ => by
    rw [List.flatten_nil, List.append_nil]
    refine ⟨rfl, fun _ => rfl, fun out => ?_⟩
    show _ = joinE out ((r.feed t).2 ++ [])
    rw [List.append_nil]
  | u :: ts, t, r, h => by
    rw [List.flatten_cons]
    have s := Hr.feed_two r h t (u ++ ts.flatten)
    show SameH _ ((Hr.feeds (r.feed t).1 (u :: ts)).1, (r.feed t).2 ++ (Hr.feeds (r.feed t).1 (u :: ts)).2)
    by_cases c : (r.feed t).1.code = 0
    · have i := Hr.feeds_cut ts u (r.feed t).1 c
      exact ⟨s.code.trans i.code, fun q => (s.all q).trans (i.all (s.code.symm.trans q)), fun out => by rw [s.ev, join_app, join_app, i.ev]⟩
    · have e3 : (r.feed t).1.feed (u ++ ts.flatten) = ((r.feed t).1, []) := if_pos c
      rw [e3] at s
      rw [Hr.feeds_coded _ _ c]
      exact s
def frm (k : Nat) (d : L) : L := putL k ++ (putL d.length ++ d)
def Lim (n : Nat) : Prop := n < 4611686018427387904
theorem frm_head {k : Nat} {d : L} (hk : Lim k) (hd : Lim d.length) (t : L) : headL (frm k d ++ t) = some (k, d.length, (putL k).length + (putL d.length).length) := by
  unfold headL frm
  rw [List.append_assoc, getL_put k hk]
  simp only
  rw [List.drop_left, List.append_assoc, getL_put _ hd]
theorem frm_ne (k : Nat) (d t : L) : frm k d ++ t ≠ [] := fun c => by
  have e := congrArg List.length c
  have := put_pos k
  unfold frm at e
  rw [List.length_append, List.length_append, List.length_nil] at e
  omega
theorem frm_rest (k : Nat) (d t : L) : (frm k d ++ t).drop ((putL k).length + (putL d.length).length) = d ++ t := by
  unfold frm
  rw [← List.append_assoc, List.append_assoc (putL k ++ putL d.length), ← List.length_append, List.drop_left]
section
variable {c b f p : Bool} {d t : L}
theorem go_strange {k : Nat} (hb : ¬ (c = true ∧ b = false)) (hk : Lim k) (hd : Lim d.length) (h : k ≠ 0 ∧ k ≠ 1 ∧ k ≠ 4 ∧ k ≠ 7) : (Hr.mk c (frm k d ++ t) b f 0 p 0).go = (Hr.mk c t b f 0 true 0).go := by
  have s1 : (Hr.mk c (frm k d ++ t) b f 0 p 0).step = some (Hr.mk c (d ++ t) b f d.length true 0, []) := by
    unfold Hr.step
    rw [if_neg hb, if_neg (Nat.lt_irrefl 0), frm_head hk hd]
    simp only
    rw [frm_rest, show wrongC c f k = 0 from if_pos h, if_neg (by simp), if_neg (by simp [wholeK, h])]
    simp [h]
  have g1 := Hr.go_some (r := Hr.mk c (frm k d ++ t) b f 0 p 0) (fun q => q.elim (frm_ne k d t) fun q => q rfl) s1
  rw [g1, List.nil_append]
  show (Hr.mk c (d ++ t) b f d.length true 0).go = _
  by_cases z : d = []
  · subst z
    rfl
  · have zl := List.length_pos_iff.2 z
    have s2 := Hr.step_pass (r := Hr.mk c (d ++ t) b f d.length true 0) hb zl
    have g2 := Hr.go_some (r := Hr.mk c (d ++ t) b f d.length true 0) (fun q => q.elim (fun q => z (List.append_eq_nil_iff.1 q).1) fun q => q rfl) s2
    rw [g2]
    simp
theorem go_data (hd : Lim d.length) : (Hr.mk false (frm 0 d ++ t) b true 0 p 0).go = ((Hr.mk false t b true 0 false 0).go.1, (if d = [] then [] else [(0, d)]) ++ (Hr.mk false t b true 0 false 0).go.2) := by
  have hb : ¬ (false = true ∧ b = false) := fun q => Bool.noConfusion q.1
  have s1 : (Hr.mk false (frm 0 d ++ t) b true 0 p 0).step = some (Hr.mk false (d ++ t) b true d.length false 0, []) := by
    unfold Hr.step
    rw [if_neg hb, if_neg (Nat.lt_irrefl 0), frm_head (by unfold Lim; decide) hd]
    simp only
    rw [frm_rest]
    rfl
  have g1 := Hr.go_some (r := Hr.mk false (frm 0 d ++ t) b true 0 p 0) (fun q => q.elim (frm_ne 0 d t) fun q => q rfl) s1
  rw [g1, List.nil_append]
  show (Hr.mk false (d ++ t) b true d.length false 0).go = _
  by_cases z : d = []
  · subst z
    rfl
  · have zl := List.length_pos_iff.2 z
    have s2 := Hr.step_pass (r := Hr.mk false (d ++ t) b true d.length false 0) hb zl
    have g2 := Hr.go_some (r := Hr.mk false (d ++ t) b true d.length false 0) (fun q => q.elim (fun q => z (List.append_eq_nil_iff.1 q).1) fun q => q rfl) s2
    rw [g2, if_neg z]
    simp
theorem go_whole {k : Nat} (hb : ¬ (c = true ∧ b = false)) (hk : k = 1 ∨ k = 4 ∨ k = 7) (hd : d.length ≤ 4096) (hw : wrongC c f k = 0) (hc : contC k d = 0) : (Hr.mk c (frm k d ++ t) b f 0 p 0).go = ((Hr.mk c t b true 0 p 0).go.1, (k, d) :: (Hr.mk c t b true 0 p 0).go.2) := by
  have e1 : ((d ++ t).take d.length) = d := by simp
  have s1 : (Hr.mk c (frm k d ++ t) b f 0 p 0).step = some (Hr.mk c t b true 0 p 0, [(k, d)]) := by
    have hl : (frm k d ++ t).length - ((putL k).length + (putL d.length).length) = d.length + t.length := by rw [← List.length_drop, frm_rest, List.length_append]
    unfold Hr.step
    rw [if_neg hb, if_neg (Nat.lt_irrefl 0), frm_head (by unfold Lim; omega) (by unfold Lim; omega)]
    simp only
    have e2 : (frm k d ++ t).drop ((putL k).length + (putL d.length).length + d.length) = t := by rw [← List.drop_drop, frm_rest, List.drop_left]
    rw [e2, frm_rest, hw, if_neg (by simp), if_pos (by rcases hk with rfl | rfl | rfl <;> rfl), if_neg (by omega), hl, if_neg (by omega), e1, hc, if_neg (by simp)]
  rw [Hr.go_some (fun q => q.elim (frm_ne k d t) fun q => q rfl) s1]
  rfl
end
end Go.Proofs.YtihkbakbciejiaaDoor
