/-
  Rows of entries of some cells each, whatever they are: where they stand; rows of one's own; append of a row, none too; an entry's cell turned. No condition but how many there are.
-/
import Derived.Test.YtndaohiecpdmlaaObCells
import Derived.Test.YtndaohiecpdmlaaObRun
import Derived.Deep.AppendSrc
import Derived.Maps.AppendAt
import Derived.Laws.OwnMore
import Derived.Laws.AppendOwnNone
namespace Go.Proofs.Ytndaohiecpdmlaa
set_option maxRecDepth 100000
open Go.RowKit

/-- Entries of n cells each, where they stand. -/
def RowAt {X : Type} (n : Nat) (cells : X → List Value) (x0 : X) (w : World) (v : Value) (l : List X) : Prop :=
  ∃ a cap, v = .slice a l.length cap ∧ l.length ≤ cap ∧ ∀ k, k < l.length → ∃ g o, a = some ⟨g, o, none⟩ ∧ g < w.heap.size ∧ ∀ j, j < n → w.cell? ⟨g, o + n * k + j, none⟩ = (cells (l.getD k x0))[j]?
theorem RowAt.keep {X : Type} {n : Nat} {cells : X → List Value} {x0 : X} {w w' : World} {v : Value} {l : List X} (h : RowAt n cells x0 w v l) (b : Below w.heap.size w w') : RowAt n cells x0 w' v l := by
  obtain ⟨a, cap, e, hc, h⟩ := h
  refine ⟨a, cap, e, hc, fun k hk => ?_⟩
  obtain ⟨g, o, ha, hg, c⟩ := h k hk
  exact ⟨g, o, ha, Nat.lt_of_lt_of_le hg b.size, fun j hj => (b.cell hg).trans (c j hj)⟩
theorem RowAt.nil {X : Type} {n : Nat} {cells : X → List Value} {x0 : X} (w : World) (a : Option Addr) (cap : Nat) : RowAt n cells x0 w (.slice a 0 cap) [] := ⟨a, cap, rfl, Nat.zero_le _, fun _ hk => absurd hk (Nat.not_lt_zero _)⟩
theorem flat_get {X : Type} {n : Nat} {cells : X → List Value} {x0 : X} (hlen : ∀ x, (cells x).length = n) : ∀ (l : List X) (k j : Nat), k < l.length → j < n → (l.flatMap cells)[n * k + j]? = (cells (l.getD k x0))[j]?
  | [], k, j, hk, _ => absurd hk (Nat.not_lt_zero _)
  | x :: l, 0, j, _, hj => by
    rw [List.flatMap_cons, Nat.mul_zero, Nat.zero_add, List.getElem?_append_left (by rw [hlen]; exact hj)]
    rfl
  | x :: l, k + 1, j, hk, hj => by
    rw [List.flatMap_cons, List.getElem?_append_right (by rw [hlen, Nat.mul_succ]; omega), hlen, show n * (k + 1) + j - n = n * k + j by rw [Nat.mul_succ]; omega, flat_get hlen l k j (by simpa using hk) hj]
    rfl
theorem flat_len {X : Type} {n : Nat} {cells : X → List Value} (hlen : ∀ x, (cells x).length = n) : ∀ (l : List X), (l.flatMap cells).length = l.length * n
  | [] => by simp
  | x :: l => by rw [List.flatMap_cons, List.length_append, hlen, flat_len hlen l, List.length_cons, Nat.succ_mul]; omega

/-- A kind of rows: its types, how many cells and bytes an entry has, and which. -/
structure RowK (X : Type) where
  st : TypeId
  e : TypeId
  n : Nat
  bytes : Nat
  cells : X → List Value
  x0 : X
structure RowK.Ok {X : Type} (K : RowK X) : Prop where
  ht : Try.prog.underlying K.st = some (.slice K.e)
  info : ∃ i z, Try.prog.info? K.e = some i ∧ i.zero = some z ∧ i.size = K.n ∧ i.bytes = K.bytes ∧ z.cells.size = K.n
  pos : 0 < K.n
  len : ∀ x, (K.cells x).length = K.n
  one : ∀ x u, u ∈ K.cells x → u.oneCell' = true
theorem info_of {e : TypeId} {z : Value} {n bytes : Nat} (h : (Try.prog.info? e).map (fun i => (i.zero, i.size, i.bytes)) = some (some z, n, bytes)) (hz : z.cells.size = n) : ∃ i z, Try.prog.info? e = some i ∧ i.zero = some z ∧ i.size = n ∧ i.bytes = bytes ∧ z.cells.size = n := by
  obtain ⟨i, hi, e⟩ := Option.map_eq_some_iff.1 h
  injection e with e1 e2
  injection e2 with e2 e3
  exact ⟨i, z, hi, e1, e2, e3, hz⟩
/-- Entries in a row of one's own. -/
def OwnK {X : Type} (K : RowK X) (w : World) (base : Nat) (v : Value) (d : List X) : Prop := w.ownsRow base K.e K.n v d.length (d.flatMap K.cells)
section
variable {X : Type} {K : RowK X}
theorem OwnK.nil (w : World) (base : Nat) : OwnK K w base (.slice none 0 0) [] := World.ownsRow_nil _ _ _ _
theorem OwnK.form {w : World} {base : Nat} {v : Value} {d : List X} (h : OwnK K w base v d) : (v = .slice none 0 0 ∧ d = []) ∨ ∃ g c, v = .slice (some ⟨g, 0, none⟩) d.length c ∧ d.length ≤ c ∧ base ≤ g ∧ g < w.heap.size := by
  rcases h.2 with ⟨rfl, h0⟩ | ⟨g, cap, cur, rfl, hb, hr, hc, _⟩
  · exact .inl ⟨rfl, List.eq_nil_of_length_eq_zero h0⟩
  · refine .inr ⟨_, _, rfl, hc, hb, ?_⟩
    rcases Nat.lt_or_ge g w.heap.size with hp | hp
    · exact hp
    · rw [Array.getElem?_eq_none hp] at hr
      cases hr
theorem OwnK.slice {w : World} {base : Nat} {v : Value} {d : List X} (h : OwnK K w base v d) : ∃ a c, v = .slice a d.length c := by
  rcases h.form with ⟨rfl, rfl⟩ | ⟨g, c, rfl, _⟩
  · exact ⟨_, _, rfl⟩
  · exact ⟨_, _, rfl⟩
theorem OwnK.lt {w : World} {base : Nat} {v : Value} {d : List X} (h : OwnK K w base v d) : ∀ k, v.ownBlock = some k → base ≤ k ∧ k < w.heap.size := fun k hk => World.ownsRow.lt h k hk
theorem OwnK.of {w w' : World} {base : Nat} {v : Value} {d : List X} (h : OwnK K w base v d) (b : ∀ k, v.ownBlock = some k → w'.heap[k]? = w.heap[k]?) : OwnK K w' base v d := by
  refine ⟨h.1, ?_⟩
  rcases h.2 with h | ⟨g, cap, cur, h1, h2, h3, h4⟩
  · exact .inl h
  · exact .inr ⟨g, cap, cur, h1, h2, (b g (by rw [h1]; rfl)).trans h3, h4⟩
theorem OwnK.keep {w w' : World} {base : Nat} {v : Value} {d : List X} (h : OwnK K w base v d) (b : Below w.heap.size w w') : OwnK K w' base v d := h.of fun k hk => b.block k (h.lt k hk).2
theorem OwnK.row (hK : K.Ok) {w : World} {base : Nat} {v : Value} {d : List X} (h : OwnK K w base v d) : RowAt K.n K.cells K.x0 w v d := by
  rcases h.form with ⟨rfl, rfl⟩ | ⟨g, c, rfl, hc, _, hg⟩
  · exact .nil w _ _
  · refine ⟨_, c, rfl, hc, fun k hk => ⟨g, 0, rfl, hg, fun j hj => ?_⟩⟩
    have hl : K.n * k + j < d.length * K.n := by
      have := Nat.mul_le_mul_left K.n (show k + 1 ≤ d.length by omega)
      rw [Nat.mul_succ] at this
      rw [Nat.mul_comm d.length]
      omega
    have h1 := World.ownsRow.cellAt h (K.n * k + j) hl
    rw [flat_get hK.len d k j hk hj] at h1
    rw [Nat.zero_add]
    exact h1
/-- Onto a row of one's own: the entries of another row. -/
theorem OwnK.cat (hK : K.Ok) {w : World} {base : Nat} {v u : Value} {d m : List X} (h : OwnK K w base v d) (hb : base ≤ w.heap.size) (hu : RowAt K.n K.cells K.x0 w u m) (hd : (d.length + m.length) * K.bytes ≤ 140737488355328) (hd2 : d.length + m.length ≤ maxLen) (ty : TypeId) :
    ∃ v' w', (∀ z, (builtin .append #[K.st, K.st] ty z #[v, u]).run Try.prog w = .ok (.value v') w') ∧ OwnK K w' base v' (d ++ m) ∧ w.grownBy w' v.ownBlock ∧ (v'.ownBlock = v.ownBlock ∨ v'.ownBlock = some w.heap.size) ∧ (v' = .slice none 0 0 → v = .slice none 0 0) := by
  obtain ⟨i, z, hi, hz, h2, h3, hzc⟩ := hK.info
  obtain ⟨a, cap, rfl, hcap, hc⟩ := hu
  rcases Nat.eq_zero_or_pos m.length with hm | hm
  · have e : m = [] := List.eq_nil_of_length_eq_zero hm
    subst e
    rw [List.append_nil]
    have hS : Src Try.prog i.size K.st (.slice a 0 cap) 0 [] w := by
      cases a with
      | none => exact Src.ofNil w hK.ht cap
      | some p => exact Src.ofSlice w hK.ht p 0 cap [] (by simp) (fun j u hj => by simp at hj) (fun u hu => by cases hu)
    rcases h.form with ⟨rfl, rfl⟩ | ⟨g, c, rfl, hcc, _⟩
    · refine ⟨.slice none 0 0, w, fun z' => ?_, h, ⟨rfl, rfl, rfl, Nat.le_refl _, fun _ _ _ => rfl⟩, .inl rfl, fun e => e⟩
      simp [builtin, Builtin.append_, run_underlying hK.ht, sizeOf, typeInfo, hi, hS.len, hS.cells]
    · have := run_append_room_src w K.st K.st ty K.e i hK.ht hi g 0 d.length c (.slice a 0 cap) 0 [] hS hcc (fun j hj => by cases hj) (fun j hj => by cases hj)
      refine ⟨_, w, fun z' => ?_, h, ⟨rfl, rfl, rfl, Nat.le_refl _, fun _ _ _ => rfl⟩, .inl rfl, fun e => by cases e⟩
      simp only [builtin, Sem.run_bind, Sem.run_pure, List.length_nil, this, Result.andThen_ok]
      rfl
  · obtain ⟨g0, o0, rfl, _, _⟩ := hc 0 hm
    have hnews : ∀ j u, (m.flatMap K.cells)[j]? = some u → w.cell? ((⟨g0, o0, none⟩ : Addr).add j) = some u := fun j u hj => by
      have hj2 : j < m.length * K.n := by rw [← flat_len hK.len]; exact (List.getElem?_eq_some_iff.1 hj).1
      have hp := hK.pos
      have hk : j / K.n < m.length := Nat.div_lt_of_lt_mul (by rw [Nat.mul_comm]; exact hj2)
      have hr := Nat.mod_lt j hp
      have hdm := Nat.div_add_mod j K.n
      obtain ⟨g1, o1, e1, _, c1⟩ := hc _ hk
      injection e1 with e1
      injection e1 with e2 e3
      subst e2 e3
      rw [Addr.add_lit, ← hj]
      have := c1 _ hr
      rw [← flat_get (x0 := K.x0) hK.len m _ _ hk hr, Nat.add_assoc, hdm] at this
      exact this
    obtain ⟨v', w', hr, q1, q2, q3, q4⟩ := run_append_own_at (P := Try.prog) w base K.st ty K.e i _ K.n K.bytes hK.ht hi hz h2 h3 hzc hK.pos v d.length (d.flatMap K.cells) h ⟨g0, o0, none⟩ m.length cap (m.flatMap K.cells) (flat_len hK.len m) hnews (fun u hu => by
      obtain ⟨x, _, hx⟩ := List.mem_flatMap.1 hu
      exact hK.one x u hx) hd2 hd hb
    refine ⟨v', w', fun z' => by simp only [builtin, Sem.run_bind, Sem.run_pure, hr, Result.andThen_ok], ?_, q2, q4, fun e => (q3.1 e).1⟩
    unfold OwnK
    rw [List.flatMap_append, List.length_append]
    exact q1
/-- A new row without entries. -/
theorem OwnK.new (w : World) (base : Nat) (hb : base ≤ w.heap.size) : OwnK K (w.alloc (.cells #[] K.e)) base (.slice (some ⟨w.heap.size, 0, none⟩) 0 0) [] :=
  ⟨by simp, .inr ⟨w.heap.size, 0, #[], rfl, hb, by show (w.heap.push _)[w.heap.size]? = _; simp, Nat.le_refl _, Nat.zero_le _, by simp, by simp⟩⟩
/-- A copy of a row. -/
theorem copy_row (hK : K.Ok) (w : World) {u : Value} {m : List X} (hu : RowAt K.n K.cells K.x0 w u m) (hd : m.length * K.bytes ≤ 140737488355328) (hd2 : m.length ≤ maxLen) (ty : TypeId) :
    ∃ v' w', (∀ z, (builtin .append #[K.st, K.st] ty z #[.slice (some ⟨w.heap.size, 0, none⟩) 0 0, u]).run Try.prog (w.alloc (.cells #[] K.e)) = .ok (.value v') w') ∧ OwnK K w' w.heap.size v' m ∧ v' ≠ .slice none 0 0 ∧ Below w.heap.size w w' := by
  have b : Below w.heap.size w (w.alloc (.cells #[] K.e)) := (Below.refl _ _).alloc (Nat.le_refl _) _
  obtain ⟨v', w', h1, h2, h4, _, h5⟩ := (OwnK.new (K := K) w w.heap.size (Nat.le_refl _)).cat hK (by simp) (hu.keep b) (by simpa using hd) (by simpa using hd2) ty
  exact ⟨v', w', h1, h2, fun e => (by cases h5 e), b.grown h4 b.size fun k hk => by injection hk with hk; exact Nat.le_of_eq hk⟩
/-- One entry, from a block that was made for it. -/
theorem row_one (w : World) (x : X) (t : TypeId) : RowAt K.n K.cells K.x0 (w.alloc (.cells (K.cells x).toArray t)) (.slice (some ⟨w.heap.size, 0, none⟩) 1 1) [x] := by
  refine ⟨_, 1, rfl, Nat.le_refl _, fun k hk => ⟨w.heap.size, 0, rfl, by simp, fun j hj => ?_⟩⟩
  have : k = 0 := by simpa using hk
  subst this
  rw [Nat.mul_zero, Nat.add_zero, Nat.zero_add, World.cell?_alloc_new]
  simp
theorem flat_set (hlen : ∀ x, (K.cells x).length = K.n) : ∀ (l : List X) (k j : Nat) (x : X) (u : Value), k < l.length → j < K.n → K.cells x = (K.cells (l.getD k K.x0)).set j u → (l.set k x).flatMap K.cells = (l.flatMap K.cells).set (K.n * k + j) u
  | [], k, _, _, _, hk, _, _ => absurd hk (Nat.not_lt_zero _)
  | y :: l, 0, j, x, u, _, hj, e => by
    rw [List.set_cons_zero, List.flatMap_cons, List.flatMap_cons, Nat.mul_zero, Nat.zero_add, List.set_append_left _ _ (by rw [hlen]; exact hj), e]
    rfl
  | y :: l, k + 1, j, x, u, hk, hj, e => by
    rw [List.set_cons_succ, List.flatMap_cons, List.flatMap_cons, flat_set hlen l k j x u (by simpa using hk) hj (by rw [e]; rfl), List.set_append_right _ _ (by rw [hlen, Nat.mul_succ]; omega), hlen, show K.n * (k + 1) + j - K.n = K.n * k + j by rw [Nat.mul_succ]; omega]
/-- A cell of an entry turned. -/
theorem OwnK.put (hK : K.Ok) {w : World} {base g n c : Nat} {d : List X} (h : OwnK K w base (.slice (some ⟨g, 0, none⟩) n c) d) {k j : Nat} (hk : k < d.length) (hj : j < K.n) {x : X} {u : Value} (e : K.cells x = (K.cells (d.getD k K.x0)).set j u) :
    OwnK K (w.setCell ⟨g, K.n * k + j, none⟩ u) base (.slice (some ⟨g, 0, none⟩) n c) (d.set k x) ∧ w.frozen? ⟨g, K.n * k + j, none⟩ = false := by
  have hl : K.n * k + j < d.length * K.n := by
    have := Nat.mul_le_mul_left K.n (show k + 1 ≤ d.length by omega)
    rw [Nat.mul_succ] at this
    rw [Nat.mul_comm d.length]
    omega
  obtain ⟨hlen, hr⟩ := h
  rcases hr with ⟨e0, _⟩ | ⟨g', cap, cur, e0, hb, hg, hc, hm, hs, ht⟩
  · cases e0
  · injection e0 with e1 e2 e3
    injection e1 with e1
    injection e1 with e1
    subst e1 e2 e3
    refine ⟨⟨by rw [flat_set hK.len d k j x u hk hj e]; simpa using hlen, .inr ⟨g, c, cur.setIfInBounds (K.n * k + j) u, by rw [List.length_set], hb, ?_, by rw [List.length_set]; exact hc, hm, by simpa using hs, ?_⟩⟩, by simp [World.frozen?, hg]⟩
    · rw [setCell_eq_setRow w g _ cur K.e (0, 0) u hg]
      exact setRow_heap w g cur _ K.e (0, 0) hg
    · rw [flat_set hK.len d k j x u hk hj e, List.length_set, ← ht, Array.toList_setIfInBounds, List.take_set]
end
end Go.Proofs.Ytndaohiecpdmlaa
