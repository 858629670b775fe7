/-
  Numbers that are added one by one, in whatever order: plain facts; two sets of the program's beside rows that nobody touches. No condition.
-/
import Derived.Test.YtlbhlmccjieieaaAkWorks
namespace Go.Proofs.Ytlbhlmccjieieaa
set_option maxRecDepth 100000
open Go.RowKit Go.Sort

/-- A number that a set takes. -/
def inN (n : Int) : Prop := 0 ≤ n ∧ n ≤ 4611686018427387903
/-- The set of numbers that were added one by one. -/
def all (xs : List Int) : List Rg := xs.foldl (fun l x => addS l x x) []
theorem all_snoc (xs : List Int) (x : Int) : all (xs ++ [x]) = addS (all xs) x x := by unfold all; rw [List.foldl_append]; rfl
theorem all_take (xs : List Int) (k : Nat) (h : k < xs.length) : all (xs.take (k + 1)) = addS (all (xs.take k)) (xs.getD k 0) (xs.getD k 0) := by
  rw [List.take_succ_eq_append_getElem h, all_snoc]
  simp [List.getD, List.getElem?_eq_getElem h]
theorem addS_has {l : List Rg} (ok : Ok l) (h : l.length < 16) (x n : Int) : (hasR (addS l x x) n = true ↔ hasR l n = true ∨ (n = x ∧ inN x)) ∧ (addS l x x).length ≤ l.length + 1 := by
  unfold addS inN
  cases hf : fineB x x
  · refine ⟨?_, by simp⟩
    have : ¬ (0 ≤ x ∧ x ≤ 4611686018427387903) := fun q => by
      have := fine_iff.2 ⟨q.1, q.2, Int.le_refl x⟩
      rw [hf] at this
      cases this
    simp [this]
  · obtain ⟨h1, h2, h3⟩ := fine_iff.1 hf
    have hl := add_len l x x
    simp only [if_true]
    rw [List.take_of_length_le (by omega)]
    refine ⟨?_, hl⟩
    rw [add_has l x x n ok.1 h3]
    constructor
    · rintro (q | q)
      · exact .inl q
      · exact .inr ⟨by omega, h1, h2⟩
    · rintro (q | q)
      · exact .inl q
      · exact .inr (by omega)
theorem all_from (xs : List Int) : ∀ l : List Rg, Ok l → l.length + xs.length ≤ 16 → Ok (xs.foldl (fun l x => addS l x x) l) ∧ (xs.foldl (fun l x => addS l x x) l).length ≤ l.length + xs.length ∧ ∀ n, hasR (xs.foldl (fun l x => addS l x x) l) n = true ↔ hasR l n = true ∨ (n ∈ xs ∧ inN n) := by
  induction xs with
  | nil => intro l ok _; exact ⟨ok, by simp, fun n => by simp⟩
  | cons x xs ih =>
    intro l ok hl
    simp only [List.length_cons] at hl
    have hs := fun n => addS_has ok (by omega) x n
    obtain ⟨h1, h2, h3⟩ := ih (addS l x x) (ok.add x x) (by have := (hs 0).2; omega)
    refine ⟨h1, by simp only [List.foldl_cons, List.length_cons]; have := (hs 0).2; omega, fun n => ?_⟩
    rw [List.foldl_cons, h3, (hs n).1]
    simp only [List.mem_cons]
    constructor
    · rintro ((a | ⟨rfl, b⟩) | ⟨a, b⟩)
      · exact .inl a
      · exact .inr ⟨.inl rfl, b⟩
      · exact .inr ⟨.inr a, b⟩
    · rintro (a | ⟨a | a, b⟩)
      · exact .inl (.inl a)
      · exact .inl (.inr ⟨a, a ▸ b⟩)
      · exact .inr ⟨a, b⟩
theorem all_facts (xs : List Int) (h : xs.length ≤ 16) : Ok (all xs) ∧ (all xs).length ≤ xs.length ∧ ∀ n, hasR (all xs) n = true ↔ n ∈ xs ∧ inN n := by
  obtain ⟨h1, h2, h3⟩ := all_from xs [] Ok.nil (by simpa using h)
  unfold all
  exact ⟨h1, by simpa using h2, fun n => by rw [h3 n]; simp [hasR]⟩
theorem all_perm {xs ys : List Int} (h : xs.Perm ys) (hl : xs.length ≤ 16) : all xs = all ys := by
  obtain ⟨o1, _, h1⟩ := all_facts xs hl
  obtain ⟨o2, _, h2⟩ := all_facts ys (h.length_eq ▸ hl)
  exact right_ext _ _ o1.1 o2.1 fun n => by rw [h1, h2, h.mem_iff]
theorem swap_perm (ps : List Int) (x y : Nat) (hx : x < ps.length) (hy : y < ps.length) : ((ps.set x (ps.getD y 0)).set y (ps.getD x 0)).Perm ps := by
  have e1 : ps.getD y 0 = ps[y] := by simp [List.getD, List.getElem?_eq_getElem hy]
  have e2 : ps.getD x 0 = ps[x] := by simp [List.getD, List.getElem?_eq_getElem hx]
  rw [e1, e2]
  have h := Array.swap_perm (xs := ps.toArray) (i := x) (j := y) (by simpa using hx) (by simpa using hy)
  have := Array.perm_iff_toList_perm.1 h
  simpa [Array.swap] using this
/-- Numbers as values. -/
def nums (l : List Int) : List Value := l.map (.int .i64)
theorem nums_len (l : List Int) : (nums l).length = l.length := by simp [nums]
theorem nums_get (l : List Int) (k : Nat) (h : k < l.length) : (nums l)[k]? = some (.int .i64 (l.getD k 0)) := by
  simp [nums, List.getD, List.getElem?_eq_getElem h]
theorem nums_one (l : List Int) : ∀ u ∈ nums l, u.oneCell' = true := fun u hu => by
  obtain ⟨x, _, rfl⟩ := List.mem_map.1 hu
  rfl
/-- Numbers in a block, that may be written. -/
def NB (w : World) (g : Nat) (l : List Int) : Prop := ∃ vs, Lies w g (nums l ++ vs)
theorem NB.cell {w : World} {g : Nat} {l : List Int} (h : NB w g l) (k : Nat) (hk : k < l.length) : w.cell? ⟨g, k, none⟩ = some (.int .i64 (l.getD k 0)) := by
  obtain ⟨vs, h⟩ := h
  exact h.cell k (by rw [List.getElem?_append_left (by rw [nums_len]; exact hk)]; exact nums_get l k hk)
theorem NB.free {w : World} {g : Nat} {l : List Int} (h : NB w g l) (k : Nat) (hk : k < l.length) : w.frozen? ⟨g, k, none⟩ = false := by
  obtain ⟨vs, h⟩ := h
  exact h.free k (by rw [List.length_append, nums_len]; omega)
theorem NB.of_block {w w' : World} {g : Nat} {l : List Int} (h : NB w g l) (e : w'.heap[g]? = w.heap[g]?) : NB w' g l := by
  obtain ⟨vs, h⟩ := h
  exact ⟨vs, h.of_block e⟩
theorem NB.put {w : World} {g : Nat} {l : List Int} (h : NB w g l) (k : Nat) (hk : k < l.length) (x : Int) : NB (w.setCell ⟨g, k, none⟩ (.int .i64 x)) g (l.set k x) := by
  obtain ⟨vs, h⟩ := h
  have := h.put k (by rw [List.length_append, nums_len]; omega) (.int .i64 x)
  rw [List.set_append_left _ _ (by rw [nums_len]; exact hk)] at this
  refine ⟨vs, ?_⟩
  have e : nums (l.set k x) = (nums l).set k (.int .i64 x) := by simp [nums, List.map_set]
  rw [e]
  exact this
theorem lies_heap {w : World} {g : Nat} {cur : Array Value} {e : TypeId} (h : w.heap[g]? = some (.cells cur e (0, 0))) : Lies w g cur.toList := by
  refine ⟨fun j v hv => ?_, fun j hj => ?_⟩
  · rw [Nat.zero_add]
    simp [World.cell?, h]
    simpa using hv
  · rw [Nat.zero_add]
    have hj' : j < cur.size := by simpa using hj
    simp [World.cell?, World.frozen?, h, hj']
theorem own_nb {w : World} {base g n cap : Nat} {e : TypeId} {l : List Int} (h : w.ownsRow base e 1 (.slice (some ⟨g, 0, none⟩) n cap) n (nums l)) : NB w g l ∧ base ≤ g ∧ n ≤ cap := by
  rcases h.2 with ⟨q, _⟩ | ⟨g', cap', cur, q, h1, h2, h3, h4, h5, h6⟩
  · cases q
  · injection q with q1 _ q3
    injection q1 with q1
    injection q1 with q1 _ _
    subst q1 q3
    refine ⟨⟨cur.toList.drop (n * 1), ?_⟩, h1, h3⟩
    rw [← h6, List.take_append_drop]
    exact lies_heap h2
/-- Two sets of the program's, and blocks X that are as they were in the world wX. -/
structure Tri (w0 wX w : World) (A : Nat) (F : Nat → Prop) (l : List Rg) (B : Nat) (G : Nat → Prop) (m : List Rg) (X : Nat → Prop) : Prop where
  two : Two w0 w A F l B G m
  out : ∀ k, X k → k < w.heap.size ∧ ¬ F k ∧ ¬ G k
  same : ∀ k, X k → w.heap[k]? = wX.heap[k]?
theorem Tri.keep {w0 wX w w' : World} {A B : Nat} {F G X : Nat → Prop} {l m : List Rg} (h : Tri w0 wX w A F l B G m X) (b : Below w.heap.size w w') : Tri w0 wX w' A F l B G m X :=
  ⟨h.two.keep b, fun k hk => ⟨Nat.lt_of_lt_of_le (h.out k hk).1 b.size, (h.out k hk).2⟩, fun k hk => (b.block k (h.out k hk).1).trans (h.same k hk)⟩
theorem Tri.swap {w0 wX w : World} {A B : Nat} {F G X : Nat → Prop} {l m : List Rg} (h : Tri w0 wX w A F l B G m X) : Tri w0 wX w B G m A F l X := ⟨h.two.swap, fun k hk => ⟨(h.out k hk).1, (h.out k hk).2.2, (h.out k hk).2.1⟩, h.same⟩
theorem tri_add {w0 wX w : World} {A B : Nat} {F G X : Nat → Prop} {l m : List Rg} {lo hi : Int} (h : Tri w0 wX w A F l B G m X) (b1 : I64 lo) (b2 : I64 hi) :
    Calls Try.prog 11 #[.pointer (some ⟨A, 0, none⟩), .int .i64 lo, .int .i64 hi] w fun e w' => e = .returned (.int .i64 (addE lo hi)) ∧ ∃ F', Tri w0 wX w' A F' (addS l lo hi) B G m X := by
  refine (pinv_add h.two.a b1 b2).mono ?_
  rintro e w' ⟨rfl, F', hs, hg, hk⟩
  refine ⟨rfl, F', ⟨hs, h.two.b.keepK hk (fun k q r => h.two.dis k r q) h.two.a.ge, fun k hk q => ?_⟩, fun k q => ⟨Nat.lt_of_lt_of_le (h.out k q).1 hk.size, fun r => ?_, (h.out k q).2.2⟩, fun k q => (hk.block k (h.out k q).1 (h.out k q).2.1).trans (h.same k q)⟩
  · rcases hg k hk with r | r
    · exact h.two.dis k r q
    · have := h.two.b.set.lt k q
      omega
  · rcases hg k r with r | r
    · exact (h.out k q).2.1 r
    · have := (h.out k q).1
      omega
theorem tri_addB {w0 wX w : World} {A B : Nat} {F G X : Nat → Prop} {l m : List Rg} {lo hi : Int} (h : Tri w0 wX w A F l B G m X) (b1 : I64 lo) (b2 : I64 hi) :
    Calls Try.prog 11 #[.pointer (some ⟨B, 0, none⟩), .int .i64 lo, .int .i64 hi] w fun e w' => e = .returned (.int .i64 (addE lo hi)) ∧ ∃ G', Tri w0 wX w' A F l B G' (addS m lo hi) X :=
  (tri_add h.swap b1 b2).mono fun _ _ ⟨e, F', h⟩ => ⟨e, F', h.swap⟩
theorem Tri.bel {w0 wX w : World} {A B : Nat} {F G X : Nat → Prop} {l m : List Rg} (h : Tri w0 wX w A F l B G m X) : Below w0.heap.size w0 w := h.two.a.bel
theorem tri_new {w0 w wX : World} {A B : Nat} {F G X : Nat → Prop} {l m : List Rg} (h : Two w0 w A F l B G m) (b : Below w.heap.size w wX) (hX : ∀ k, X k → w.heap.size ≤ k ∧ k < wX.heap.size) : Tri w0 wX wX A F l B G m X :=
  ⟨h.keep b, fun k hk => ⟨(hX k hk).2, fun q => by have := h.a.set.lt k q; have := (hX k hk).1; omega, fun q => by have := h.b.set.lt k q; have := (hX k hk).1; omega⟩, fun _ _ => rfl⟩
end Go.Proofs.Ytlbhlmccjieieaa
