/-
  What the document's own Add answers, and what it leaves. Right ranges, at most sixteen; no other condition.
-/
import Derived.Test.YtlbhlmccjieieaaAkDrop
import Derived.Maps.AppendAt
import Derived.Laws.AppendOwnNone
namespace Go.Proofs.Ytlbhlmccjieieaa
set_option maxRecDepth 100000
open Go.RowKit Go.Sort

/-- What the loop of Add does with one range: it lies above, or below, or goes with what is added. -/
def stp (s : List Rg × Int × Int × List Rg) (x : Rg) : List Rg × Int × Int × List Rg :=
  if s.2.2.1 + 1 < x.1 then (s.1 ++ [x], s.2.1, s.2.2.1, s.2.2.2) else if x.2 + 1 < s.2.1 then (s.1, s.2.1, s.2.2.1, s.2.2.2 ++ [x]) else (s.1, min s.2.1 x.1, max s.2.2.1 x.2, s.2.2.2)
theorem fold_below (l : List Rg) : ∀ (ab be : List Rg) (lo hi : Int), (∀ y ∈ l, y.2 + 1 < lo ∧ y.1 ≤ y.2) → lo ≤ hi → l.foldl stp (ab, lo, hi, be) = (ab, lo, hi, be ++ l) := by
  induction l with
  | nil => intro ab be lo hi _ _; simp
  | cons x l ih =>
    intro ab be lo hi h hlh
    obtain ⟨h1, h2⟩ := h x (List.mem_cons_self ..)
    have e : stp (ab, lo, hi, be) x = (ab, lo, hi, be ++ [x]) := by
      unfold stp
      rw [if_neg (by show ¬ hi + 1 < x.1; omega), if_pos (by show x.2 + 1 < lo; omega)]
    rw [List.foldl_cons, e, ih _ _ _ _ (fun y hy => h y (List.mem_cons_of_mem _ hy)) hlh]
    simp
theorem add_cons (x : Rg) (l : List Rg) (lo hi : Int) : add (x :: l) lo hi = if hi + 1 < x.1 then x :: add l lo hi else if x.2 + 1 < lo then (lo, hi) :: x :: l else add l (min lo x.1) (max hi x.2) := rfl
theorem fold_add (l : List Rg) : ∀ (ab : List Rg) (lo hi : Int), Right l → lo ≤ hi → (l.foldl stp (ab, lo, hi, [])).1 ++ ((l.foldl stp (ab, lo, hi, [])).2.1, (l.foldl stp (ab, lo, hi, [])).2.2.1) :: (l.foldl stp (ab, lo, hi, [])).2.2.2 = ab ++ add l lo hi := by
  induction l with
  | nil => intro ab lo hi _ _; rfl
  | cons x l ih =>
    intro ab lo hi hR hlh
    obtain ⟨g1, g2, g3, g4, g5⟩ := hR
    rw [List.foldl_cons]
    by_cases q1 : hi + 1 < x.1
    · have e : stp (ab, lo, hi, []) x = (ab ++ [x], lo, hi, []) := if_pos q1
      rw [e, ih _ _ _ g5 hlh, add_cons, if_pos q1]
      simp
    · by_cases q2 : x.2 + 1 < lo
      · have e : stp (ab, lo, hi, []) x = (ab, lo, hi, [x]) := by unfold stp; rw [if_neg q1, if_pos q2]; rfl
        rw [e, fold_below l _ _ _ _ (fun y hy => ⟨by have := g4 y hy; omega, (g5.mem y hy).2.1⟩) hlh]
        rw [add_cons, if_neg q1, if_pos q2]
        rfl
      · have e : stp (ab, lo, hi, []) x = (ab, min lo x.1, max hi x.2, []) := by unfold stp; rw [if_neg q1, if_neg q2]
        rw [e, ih _ _ _ g5 (by omega)]
        rw [add_cons, if_neg q1, if_neg q2]
theorem fold_take (l : List Rg) (s : List Rg × Int × Int × List Rg) (k : Nat) (h : k < l.length) : (l.take (k + 1)).foldl stp s = stp ((l.take k).foldl stp s) (l.getD k (0, 0)) := by
  rw [List.take_succ_eq_append_getElem h, List.foldl_append]
  simp [List.getD, List.getElem?_eq_getElem h]
/-- Two slices that own no row together. -/
def Dis (u v : Value) : Prop := ∀ k, u.ownBlock = some k → v.ownBlock ≠ some k
theorem Dis.right {u v : Value} (h : Dis u v) : v.ownBlock = none ∨ v.ownBlock ≠ u.ownBlock := by
  cases e : v.ownBlock with
  | none => exact .inl rfl
  | some k => right; intro q; exact h k q.symm e
theorem Dis.left {u v : Value} (h : Dis u v) : u.ownBlock = none ∨ u.ownBlock ≠ v.ownBlock := by
  cases e : u.ownBlock with
  | none => exact .inl rfl
  | some k => right; intro q; exact h k e q.symm
theorem dis_l {u u' v : Value} {N : Nat} (h : Dis u v) (hloc : u'.ownBlock = u.ownBlock ∨ u'.ownBlock = some N) (hN : ∀ k, v.ownBlock = some k → k < N) : Dis u' v := fun k hk hv => by
  rcases hloc with e | e
  · exact h k (e ▸ hk) hv
  · rw [e] at hk
    injection hk with hk
    have := hN k hv
    omega
theorem dis_r {u v v' : Value} {N : Nat} (h : Dis u v) (hloc : v'.ownBlock = v.ownBlock ∨ v'.ownBlock = some N) (hN : ∀ k, u.ownBlock = some k → k < N) : Dis u v' := fun k hk hv => by
  rcases hloc with e | e
  · exact h k hk (e ▸ hv)
  · rw [e] at hv
    injection hv with hv
    have := hN k hk
    omega
/-- A row that was made last, behind another. -/
theorem cell_new2 (w : World) (o : Obj) (vs : List Value) (j : Nat) (v : Value) (hv : vs[j]? = some v) {t : TypeId} : ((w.alloc o).alloc (.cells vs.toArray t)).cell? ((⟨w.heap.size + 1, 0, none⟩ : Addr).add j) = some v := by
  have h := (Lies.new (w.alloc o) vs t).cell j hv
  rw [World.size_alloc] at h
  rw [Addr.add_mid, Nat.zero_add]
  exact h
end Go.Proofs.Ytlbhlmccjieieaa
