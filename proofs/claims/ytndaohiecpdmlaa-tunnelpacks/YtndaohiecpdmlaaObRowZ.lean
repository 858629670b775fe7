/-
  Rows of entries of some cells each, in a row of one's own from any place on: read, turned, cut, and others put behind them. No condition but how many there are.
-/
import Derived.Test.YtndaohiecpdmlaaObRow
namespace Go.Proofs.Ytndaohiecpdmlaa
set_option maxRecDepth 100000
open Go.RowKit

/-- Entries in a row of one's own, from a place on. -/
def RowZ {X : Type} (K : RowK X) (w : World) (v : Value) (d : List X) : Prop :=
  (v = .slice none 0 0 ∧ d = []) ∨ ∃ (g o cap : Nat) (cur : Array Value), v = .slice (some ⟨g, o, none⟩) d.length cap ∧ w.heap[g]? = some (.cells cur K.e (0, 0)) ∧ d.length ≤ cap ∧ cap ≤ maxLen ∧ o + cap * K.n ≤ cur.size ∧ ∀ j, j < d.length * K.n → cur[o + j]? = (d.flatMap K.cells)[j]?
section
variable {X : Type} {K : RowK X}
theorem RowZ.nil (w : World) : RowZ K w (.slice none 0 0) [] := .inl ⟨rfl, rfl⟩
theorem RowZ.lt {w : World} {v : Value} {d : List X} (h : RowZ K w v d) : ∀ k, v.ownBlock = some k → k < w.heap.size := fun k hk => by
  rcases h with ⟨rfl, -⟩ | ⟨g, o, cap, cur, rfl, hg, -⟩
  · cases hk
  · injection hk with hk
    subst hk
    exact (Array.getElem?_eq_some_iff.1 hg).1
theorem RowZ.of {w w' : World} {v : Value} {d : List X} (h : RowZ K w v d) (k : ∀ b, v.ownBlock = some b → w'.heap[b]? = w.heap[b]?) : RowZ K w' v d := by
  rcases h with h | ⟨g, o, cap, cur, rfl, hg, r⟩
  · exact .inl h
  · exact .inr ⟨g, o, cap, cur, rfl, (k g rfl).trans hg, r⟩
theorem RowZ.keep {w w' : World} {v : Value} {d : List X} (h : RowZ K w v d) (b : Below w.heap.size w w') : RowZ K w' v d := h.of fun k hk => b.block k (h.lt k hk)
theorem RowZ.slice {w : World} {v : Value} {d : List X} (h : RowZ K w v d) : ∃ a c, v = .slice a d.length c ∧ d.length ≤ c ∧ c ≤ maxLen ∧ (0 < d.length → ∃ g o, a = some ⟨g, o, none⟩ ∧ v.ownBlock = some g ∧ g < w.heap.size) := by
  rcases h with ⟨rfl, rfl⟩ | ⟨g, o, cap, cur, rfl, hg, h1, h2, -⟩
  · exact ⟨_, _, rfl, Nat.le_refl _, Nat.zero_le _, fun h => absurd h (Nat.lt_irrefl _)⟩
  · exact ⟨_, _, rfl, h1, h2, fun _ => ⟨g, o, rfl, rfl, (Array.getElem?_eq_some_iff.1 hg).1⟩⟩
theorem RowZ.get {w : World} {g o n cap : Nat} {d : List X} (h : RowZ K w (.slice (some ⟨g, o, none⟩) n cap) d) : n = d.length ∧ ∃ cur, w.heap[g]? = some (.cells cur K.e (0, 0)) ∧ d.length ≤ cap ∧ cap ≤ maxLen ∧ o + cap * K.n ≤ cur.size ∧ ∀ j, j < d.length * K.n → cur[o + j]? = (d.flatMap K.cells)[j]? := by
  rcases h with ⟨e, -⟩ | ⟨g', o', cap', cur, e, h1, h2⟩
  · cases e
  · injection e with e1 e3 e2
    injection e1 with e1
    injection e1 with e1 e4
    subst e1 e2 e4
    exact ⟨e3, cur, h1, h2⟩
theorem mul_in {n m k j : Nat} (hk : k < m) (hj : j < n) : n * k + j < m * n := by
  have := Nat.mul_le_mul_left n (show k + 1 ≤ m by omega)
  rw [Nat.mul_succ] at this
  rw [Nat.mul_comm m]
  omega
theorem RowZ.row (hK : K.Ok) {w : World} {v : Value} {d : List X} (h : RowZ K w v d) : RowAt K.n K.cells K.x0 w v d := by
  rcases h with ⟨rfl, rfl⟩ | ⟨g, o, cap, cur, rfl, hg, h1, h2, h3, h4⟩
  · exact .nil w _ _
  · refine ⟨_, cap, rfl, h1, fun k hk => ⟨g, o, rfl, (Array.getElem?_eq_some_iff.1 hg).1, fun j hj => ?_⟩⟩
    rw [← flat_get hK.len d k j hk hj, ← h4 _ (mul_in hk hj)]
    simp [World.cell?, hg, Nat.add_assoc]
/-- An entry's cell. -/
theorem RowZ.cell (hK : K.Ok) {w : World} {g o n cap : Nat} {d : List X} (h : RowZ K w (.slice (some ⟨g, o, none⟩) n cap) d) (k j : Nat) (hk : k < d.length) (hj : j < K.n) : w.cell? ⟨g, o + K.n * k + j, none⟩ = (K.cells (d.getD k K.x0))[j]? ∧ w.frozen? ⟨g, o + K.n * k + j, none⟩ = false := by
  obtain ⟨-, cur, h1, -, -, -, h2⟩ := h.get
  refine ⟨?_, by simp [World.frozen?, h1]⟩
  rw [← flat_get hK.len d k j hk hj, ← h2 _ (mul_in hk hj)]
  simp [World.cell?, h1, Nat.add_assoc]
/-- A cell of an entry turned. -/
theorem RowZ.set (hK : K.Ok) {w : World} {g o n cap : Nat} {d : List X} (h : RowZ K w (.slice (some ⟨g, o, none⟩) n cap) d) {k j : Nat} (hk : k < d.length) (hj : j < K.n) {x : X} {u : Value} (e : K.cells x = (K.cells (d.getD k K.x0)).set j u) :
    RowZ K (w.setCell ⟨g, o + K.n * k + j, none⟩ u) (.slice (some ⟨g, o, none⟩) n cap) (d.set k x) := by
  obtain ⟨rfl, cur, h1, h2, h3, h4, h5⟩ := h.get
  have hl : (d.set k x).length = d.length := List.length_set
  refine .inr ⟨g, o, cap, cur.setIfInBounds (o + K.n * k + j) u, by rw [hl], ?_, by omega, h3, by simpa using h4, fun i hi => ?_⟩
  · rw [setCell_eq_setRow w g _ cur K.e (0, 0) u h1]
    exact setRow_heap w g cur _ K.e (0, 0) h1
  · rw [hl] at hi
    rw [flat_set hK.len d k j x u hk hj e, Array.getElem?_setIfInBounds, List.getElem?_set, h5 i hi, flat_len hK.len]
    have := mul_in (n := K.n) hk hj
    have h6 : o + K.n * k + j < cur.size := by
      have := Nat.mul_le_mul_right K.n h2
      omega
    by_cases q : K.n * k + j = i
    · rw [if_pos (by omega), if_pos q, if_pos h6, if_pos (by omega)]
    · rw [if_neg (by omega), if_neg q]
/-- A slice's place n entries on. -/
def dropZ (s : Nat) (a : Option Addr) (c n : Nat) : Option Addr := if c = n then a else a.map (·.add (n * s))
theorem dropZ_block (s : Nat) (a : Option Addr) (l l' c c' n : Nat) : (Value.slice (dropZ s a c n) l c').ownBlock = (Value.slice a l' c).ownBlock := by
  unfold dropZ
  split
  · cases a <;> rfl
  · cases a with
    | none => rfl
    | some a =>
      show some (a.add (n * s)).block = some a.block
      unfold Addr.add
      split <;> rfl
theorem RowZ.cut (hK : K.Ok) {w : World} {a : Option Addr} {l c : Nat} {d : List X} (h : RowZ K w (.slice a l c) d) (n : Nat) (hn : n ≤ d.length) : RowZ K w (.slice (dropZ K.n a c n) (l - n) (c - n)) (d.drop n) := by
  rcases h with ⟨e, rfl⟩ | ⟨g, o, cap, cur, e, hg, h1, h2, h3, h4⟩
  · injection e with e1 e2 e3
    subst e1 e2 e3
    simp at hn
    subst hn
    left
    simp [dropZ]
  · injection e with e1 e2 e3
    subst e1 e2 e3
    have hl : (d.drop n).length = d.length - n := List.length_drop
    right
    by_cases q : c = n
    · refine ⟨g, o, 0, cur, ?_, hg, by omega, Nat.zero_le _, by omega, fun k hk => ?_⟩
      · rw [hl]
        simp [dropZ, q]
      · have h0 : d.length - n = 0 := by omega
        rw [hl, h0, Nat.zero_mul] at hk
        exact absurd hk (Nat.not_lt_zero _)
    · refine ⟨g, o + n * K.n, c - n, cur, ?_, hg, by omega, by omega, ?_, fun k hk => ?_⟩
      · rw [hl]
        simp [dropZ, q, Addr.add_mid]
      · rw [Nat.sub_mul]
        have := Nat.mul_le_mul_right K.n (show n ≤ c by omega)
        omega
      · rw [hl, Nat.sub_mul] at hk
        have hd : ∀ (m : List X) (n : Nat), n ≤ m.length → (m.drop n).flatMap K.cells = (m.flatMap K.cells).drop (n * K.n) := fun m => by
          induction m with
          | nil => intro n _; simp
          | cons x m ih =>
            intro n hn
            cases n with
            | zero => simp
            | succ n =>
              rw [List.drop_succ_cons, List.flatMap_cons, ih n (by simpa using hn), Nat.succ_mul, Nat.add_comm (n * K.n), ← List.drop_drop, List.drop_left' (hK.len x)]
        rw [hd d n hn, List.getElem?_drop, ← h4 (n * K.n + k) (by omega), Nat.add_assoc]
theorem RowZ.upto (hK : K.Ok) {w : World} {a : Option Addr} {l c : Nat} {d : List X} (h : RowZ K w (.slice a l c) d) (n : Nat) (hn : n ≤ d.length) : RowZ K w (.slice a n c) (d.take n) := by
  have hl : (d.take n).length = n := by rw [List.length_take]; omega
  rcases h with ⟨e, rfl⟩ | ⟨g, o, cap, cur, e, hg, h1, h2, h3, h4⟩
  · injection e with e1 e2 e3
    subst e1 e2 e3
    simp at hn
    subst hn
    exact .inl ⟨rfl, rfl⟩
  · injection e with e1 e2 e3
    subst e1 e2 e3
    refine .inr ⟨g, o, c, cur, by rw [hl], hg, by omega, h2, h3, fun k hk => ?_⟩
    rw [hl] at hk
    have hm := Nat.mul_le_mul_right K.n hn
    rw [h4 k (by omega)]
    have hd : d.flatMap K.cells = (d.take n).flatMap K.cells ++ (d.drop n).flatMap K.cells := by rw [← List.flatMap_append, List.take_append_drop]
    rw [hd, List.getElem?_append_left (by rw [flat_len hK.len, hl]; omega)]
theorem zero_size (z : Array Value) (k : Nat) : (Builtin.zeroCells z k).size = k * z.size := by simp [Builtin.zeroCells]
/-- append of entries, wherever they come from. -/
theorem RowZ.app (hK : K.Ok) {w : World} {v : Value} {d : List X} (h : RowZ K w v d) (ty : TypeId) (x : Value) (m : List X) (S : Src Try.prog K.n K.st x m.length (m.flatMap K.cells) w) (hk : (d.length + m.length) * K.bytes ≤ 140737488355328) (hk2 : d.length + m.length ≤ maxLen) :
    ∃ v' w', (∀ z, (builtin .append #[K.st, K.st] ty z #[v, x]).run Try.prog w = .ok (.value v') w') ∧ RowZ K w' v' (d ++ m) ∧ w.grownBy w' v.ownBlock ∧ (v'.ownBlock = v.ownBlock ∨ v'.ownBlock = some w.heap.size) := by
  obtain ⟨i, z, hi, hz, h2, h3, hzc⟩ := hK.info
  have hla : (d ++ m).length = d.length + m.length := List.length_append
  have hfa : (d ++ m).flatMap K.cells = d.flatMap K.cells ++ m.flatMap K.cells := List.flatMap_append
  have hld := flat_len hK.len d
  have hlm := flat_len hK.len m
  have grow : ∀ (b : Option Addr) (cap : Nat), v = .slice b d.length cap → (b = none → d = []) → (∀ p, b = some p → ∀ j u, (d.flatMap K.cells)[j]? = some u → w.cell? (p.add j) = some u) → cap < d.length + m.length → d.length ≤ cap →
      ∃ v' w', (∀ z, (builtin .append #[K.st, K.st] ty z #[v, x]).run Try.prog w = .ok (.value v') w') ∧ RowZ K w' v' (d ++ m) ∧ w.grownBy w' v.ownBlock ∧ (v'.ownBlock = v.ownBlock ∨ v'.ownBlock = some w.heap.size) := fun b cap ev hbn hold hroom hdc => by
    subst ev
    have hd : (Builtin.firstCells i.size d.length (.slice b d.length cap)).run Try.prog w.drew = .ok (d.flatMap K.cells).toArray w.drew := by
      rw [h2]
      cases b with
      | none =>
        have h0 := hbn rfl
        subst h0
        exact run_firstCells_none w.drew K.n 0 0 cap
      | some p => exact run_firstCells_some w.drew K.n d.length p d.length cap (d.flatMap K.cells) hld (fun j u hj => hold p rfl j u hj)
    have r := run_append_grow_src w K.st K.st ty K.e i _ hK.ht hi hz b d.length cap (d.flatMap K.cells) hd x m.length (m.flatMap K.cells) (by rw [h2]; exact S) hroom (by unfold maxLen at hk2; omega) (by rw [h3]; exact growslice_fits hroom hk)
    have hc := grownCap_ge w (d.length + m.length) cap K.e
    have hm := grownCap_le_maxLen w (d.length + m.length) cap K.e hk2
    refine ⟨.slice (some ⟨w.heap.size, 0, none⟩) (d.length + m.length) (grownCap w (d.length + m.length) cap K.e), w.drew.alloc (.cells ((d.flatMap K.cells ++ m.flatMap K.cells).toArray ++ Builtin.zeroCells z.cells (grownCap w (d.length + m.length) cap K.e - (d.length + m.length))) K.e), fun z => by simp only [builtin, Sem.run_bind, Sem.run_pure, r, Result.andThen_ok], ?_, ⟨rfl, rfl, rfl, by show w.heap.size ≤ (w.heap.push _).size; simp, fun b hb _ => by show (w.heap.push _)[b]? = _; simp [Array.getElem?_push, Nat.ne_of_lt hb]⟩, .inr rfl⟩
    generalize grownCap w (d.length + m.length) cap K.e = C at *
    have es : ((d.flatMap K.cells ++ m.flatMap K.cells).toArray ++ Builtin.zeroCells z.cells (C - (d.length + m.length))).size = C * K.n := by
      rw [Array.size_append, zero_size, hzc, List.size_toArray, List.length_append, hld, hlm, ← Nat.add_mul, ← Nat.add_mul]
      congr 1
      omega
    refine .inr ⟨w.heap.size, 0, C, (d.flatMap K.cells ++ m.flatMap K.cells).toArray ++ Builtin.zeroCells z.cells (C - (d.length + m.length)), by rw [hla], by show (w.heap.push _)[w.heap.size]? = _; simp, by omega, hm, by omega, fun j hj => ?_⟩
    rw [hla, Nat.add_mul] at hj
    rw [Nat.zero_add, Array.getElem?_append_left (by rw [List.size_toArray, List.length_append, hld, hlm]; exact hj), List.getElem?_toArray, hfa]
  rcases h with ⟨rfl, rfl⟩ | ⟨g, o, cap, cur, rfl, hg, q4, q5, q3, q6⟩
  · rcases Nat.eq_zero_or_pos m.length with h0 | h0
    · have hy := List.eq_nil_of_length_eq_zero h0
      subst hy
      refine ⟨.slice none 0 0, w, fun z => ?_, .inl ⟨rfl, rfl⟩, World.grownBy.refl w _, .inl rfl⟩
      have hL := S.len
      have hC : (Builtin.firstCells K.n 0 x).run Try.prog w = .ok (([] : List X).flatMap K.cells).toArray w := S.cells
      rcases S.kind with ⟨e', hk'⟩ | hk' <;> simp [builtin, Builtin.append_, run_underlying hK.ht, sizeOf, typeInfo, hi, h2, hL, hC]
    · exact grow none 0 rfl (fun _ => rfl) (fun p e => by cases e) (by simpa using h0) (Nat.le_refl _)
  · have hold : ∀ j u, (d.flatMap K.cells)[j]? = some u → w.cell? (Addr.add ⟨g, o, none⟩ j) = some u := fun j u hj => by
      have hlt : j < d.length * K.n := by have := (List.getElem?_eq_some_iff.1 hj).1; rw [hld] at this; exact this
      rw [Addr.add_mid, ← hj, ← q6 j hlt]
      simp [World.cell?, hg]
    by_cases hroom : d.length + m.length ≤ cap
    · have hfit : o + d.length * K.n + (m.flatMap K.cells).length ≤ cur.size := by
        rw [hlm]
        have := Nat.mul_le_mul_right K.n hroom
        rw [Nat.add_mul] at this
        omega
      have hst := run_storeCells_at Try.prog g (o + d.length * K.n) K.e (m.flatMap K.cells) 0 cur w hg (by omega) (fun u hu => by
        obtain ⟨y, _, hy⟩ := List.mem_flatMap.1 hu
        exact hK.one y u hy)
      simp only [Nat.add_zero] at hst
      have hsp : ((cur.toList.take (o + d.length * K.n) ++ m.flatMap K.cells ++ cur.toList.drop (o + d.length * K.n + (m.flatMap K.cells).length)).toArray) = spl cur (o + d.length * K.n) (m.flatMap K.cells) := rfl
      rw [hsp] at hst
      refine ⟨.slice (some ⟨g, o, none⟩) (d.length + m.length) cap, w.setRow g (spl cur (o + d.length * K.n) (m.flatMap K.cells)), fun z => ?_, ?_, ?_, .inl rfl⟩
      · have hL := S.len
        have hC := S.cells
        rcases S.kind with ⟨e', hk'⟩ | hk' <;> simp [builtin, Builtin.append_, run_underlying hK.ht, sizeOf, typeInfo, hi, h2, hL, hroom, hC, Addr.add_lit, hst]
      · refine .inr ⟨g, o, cap, spl cur (o + d.length * K.n) (m.flatMap K.cells), by rw [hla], setRow_heap w g cur _ K.e (0, 0) hg, by omega, q5, by rw [spl_size hfit]; exact q3, fun j hj => ?_⟩
        rw [hla, Nat.add_mul] at hj
        rw [spl_get hfit, hlm, hfa]
        by_cases e : j < d.length * K.n
        · rw [if_pos (by omega), q6 j e, List.getElem?_append_left (by rw [hld]; exact e)]
        · rw [if_neg (by omega), if_pos (by omega), List.getElem?_append_right (by rw [hld]; omega), hld]
          congr 1
          omega
      · exact ⟨rfl, rfl, rfl, by simp [World.setRow], fun b _ hb => setRow_other _ _ _ _ (fun e => hb (by rw [e]; rfl))⟩
    · exact grow (some ⟨g, o, none⟩) cap rfl (fun e => by cases e) (fun p e j u hj => by
        injection e with e
        subst e
        exact hold j u hj) (by omega) q4
theorem RowZ.src (hK : K.Ok) {w : World} {v : Value} {m : List X} (h : RowZ K w v m) : Src Try.prog K.n K.st v m.length (m.flatMap K.cells) w := by
  have hlm := flat_len hK.len m
  rcases h with ⟨rfl, rfl⟩ | ⟨g, o, cap, cur, rfl, hg, -, -, -, q6⟩
  · exact Src.ofNil w hK.ht 0
  · refine Src.ofSlice w hK.ht ⟨g, o, none⟩ m.length cap (m.flatMap K.cells) hlm (fun j u hj => ?_) (fun u hu => by
      obtain ⟨y, _, hy⟩ := List.mem_flatMap.1 hu
      exact hK.one y u hy)
    have hlt : j < m.length * K.n := by have := (List.getElem?_eq_some_iff.1 hj).1; rw [hlm] at this; exact this
    rw [Addr.add_mid, ← hj, ← q6 j hlt]
    simp [World.cell?, hg]
/-- Entries in a block that is made for them, as a source. -/
theorem src_lit (hK : K.Ok) (w : World) (m : List X) (t : TypeId) : Src Try.prog K.n K.st (.slice (some ⟨w.heap.size, 0, none⟩) m.length m.length) m.length (m.flatMap K.cells) (w.alloc (.cells (m.flatMap K.cells).toArray t)) := by
  have hlm := flat_len hK.len m
  refine Src.ofSlice _ hK.ht ⟨w.heap.size, 0, none⟩ m.length m.length (m.flatMap K.cells) hlm (fun j u hj => ?_) (fun u hu => by
    obtain ⟨y, _, hy⟩ := List.mem_flatMap.1 hu
    exact hK.one y u hy)
  rw [Addr.add_lit, World.cell?_alloc_new]
  simpa using hj
/-- A row in a block that is made for it. -/
theorem RowZ.lit (hK : K.Ok) (w : World) (m : List X) (hm : m.length ≤ maxLen) : RowZ K (w.alloc (.cells (m.flatMap K.cells).toArray K.e)) (.slice (some ⟨w.heap.size, 0, none⟩) m.length m.length) m := by
  have hlm := flat_len hK.len m
  refine .inr ⟨w.heap.size, 0, m.length, (m.flatMap K.cells).toArray, rfl, by show (w.heap.push _)[w.heap.size]? = _; simp, Nat.le_refl _, hm, by simp [hlm], fun j hj => by simp⟩
theorem run_cutZ (hK : K.Ok) (w : World) (a : Option Addr) (len c n : Nat) (z : Int) (hz : z = n) (h : n ≤ len) :
    (Instr.sliceAt K.st (.slice a len c) (some (.int .i64 z)) none none).run Try.prog w = .ok (.slice (dropZ K.n a c n) (len - n) (c - n)) w := by
  subst hz
  obtain ⟨i, zz, hi, hzz, h2, h3, hzc⟩ := hK.info
  have e : Try.prog.elem K.st = K.e := by simp [Program.elem, hK.ht]
  have u : Try.prog.underlying K.st = some (.slice (Try.prog.elem K.st)) := by rw [e]; exact hK.ht
  have s : (sizeOf K.e).run Try.prog w = .ok K.n w := by simp [sizeOf, typeInfo, hi, h2]
  rw [run_sliceAt_slice w K.st _ _ _ _ u, run_slice_l w K.st a len c u .i64 n (by omega) (by omega), e, s]
  simp [Result.andThen, sliced, dropZ]
theorem run_uptoZ (hK : K.Ok) (w : World) (a : Option Addr) (len c n : Nat) (z : Int) (hz : z = n) (h : n ≤ c) :
    (Instr.sliceAt K.st (.slice a len c) none (some (.int .i64 z)) none).run Try.prog w = .ok (.slice a n c) w := by
  subst hz
  obtain ⟨i, zz, hi, hzz, h2, h3, hzc⟩ := hK.info
  have e : Try.prog.elem K.st = K.e := by simp [Program.elem, hK.ht]
  have u : Try.prog.underlying K.st = some (.slice (Try.prog.elem K.st)) := by rw [e]; exact hK.ht
  have s : (sizeOf K.e).run Try.prog w = .ok K.n w := by simp [sizeOf, typeInfo, hi, h2]
  rw [run_sliceAt_slice w K.st _ _ _ _ u, run_slice_h w K.st a len c u .i64 n (by omega) (by omega), e, s]
  have q : a.map (fun x => x.add 0) = a := by cases a <;> simp [Addr.add]
  by_cases hc : c = 0
  · subst hc; simp [Result.andThen, sliced]
  · simp [Result.andThen, sliced, hc, q]
theorem run_midZ (hK : K.Ok) (w : World) (a : Option Addr) (len c n m : Nat) (z y : Int) (hz : z = n) (hy : y = m) (h1 : n ≤ m) (h : m ≤ c) :
    (Instr.sliceAt K.st (.slice a len c) (some (.int .i64 z)) (some (.int .i64 y)) none).run Try.prog w = .ok (.slice (dropZ K.n a c n) (m - n) (c - n)) w := by
  subst hz hy
  obtain ⟨i, zz, hi, hzz, h2, h3, hzc⟩ := hK.info
  have e : Try.prog.elem K.st = K.e := by simp [Program.elem, hK.ht]
  have u : Try.prog.underlying K.st = some (.slice (Try.prog.elem K.st)) := by rw [e]; exact hK.ht
  have s : (sizeOf K.e).run Try.prog w = .ok K.n w := by simp [sizeOf, typeInfo, hi, h2]
  rw [run_sliceAt_slice w K.st _ _ _ _ u, run_slice_lh w K.st a len c u .i64 .i64 n m (by omega) (by omega) (by omega), e, s]
  simp [Result.andThen, sliced, dropZ]
/-- The place of an entry. -/
theorem at_Z (hK : K.Ok) (B o N cap i : Nat) (w : World) (h : i < N) (z : Int) (hz : z = i) (p : Nat) (hp : p = o + K.n * i) :
    (Instr.indexAt K.st (.slice (some ⟨B, o, none⟩) N cap) (.int .i64 z)).run Try.prog w = .ok (.pointer (some ⟨B, p, none⟩)) w := by
  subst hz hp
  obtain ⟨i', zz, hi, hzz, h2, h3, hzc⟩ := hK.info
  have e : Try.prog.elem K.st = K.e := by simp [Program.elem, hK.ht]
  have s : (sizeOf K.e).run Try.prog w = .ok K.n w := by simp [sizeOf, typeInfo, hi, h2]
  rw [run_indexAt_slice (P := Try.prog) w K.st ⟨B, o, none⟩ N cap .i64 i (by rw [e]; exact hK.ht), if_pos (by omega), e, s]
  simp [Addr.add_mid, Nat.mul_comm]
/-- append where there is room: in place. -/
theorem RowZ.app_room (hK : K.Ok) {w : World} {g o n cap : Nat} {d : List X} (h : RowZ K w (.slice (some ⟨g, o, none⟩) n cap) d) (ty : TypeId) (x : Value) (m : List X) (S : Src Try.prog K.n K.st x m.length (m.flatMap K.cells) w) (hroom : d.length + m.length ≤ cap) :
    ∃ w', (∀ z, (builtin .append #[K.st, K.st] ty z #[.slice (some ⟨g, o, none⟩) n cap, x]).run Try.prog w = .ok (.value (.slice (some ⟨g, o, none⟩) (d.length + m.length) cap)) w') ∧ RowZ K w' (.slice (some ⟨g, o, none⟩) (d.length + m.length) cap) (d ++ m) ∧ Kept (fun k => k = g) w w' := by
  obtain ⟨i, z, hi, hz, h2, h3, hzc⟩ := hK.info
  have hla : (d ++ m).length = d.length + m.length := List.length_append
  have hfa : (d ++ m).flatMap K.cells = d.flatMap K.cells ++ m.flatMap K.cells := List.flatMap_append
  have hld := flat_len hK.len d
  have hlm := flat_len hK.len m
  obtain ⟨rfl, cur, hg, q4, q5, q3, q6⟩ := h.get
  have hfit : o + d.length * K.n + (m.flatMap K.cells).length ≤ cur.size := by
    rw [hlm]
    have := Nat.mul_le_mul_right K.n hroom
    rw [Nat.add_mul] at this
    omega
  have hst := run_storeCells_at Try.prog g (o + d.length * K.n) K.e (m.flatMap K.cells) 0 cur w hg (by omega) (fun u hu => by
    obtain ⟨y, _, hy⟩ := List.mem_flatMap.1 hu
    exact hK.one y u hy)
  simp only [Nat.add_zero] at hst
  have hsp : ((cur.toList.take (o + d.length * K.n) ++ m.flatMap K.cells ++ cur.toList.drop (o + d.length * K.n + (m.flatMap K.cells).length)).toArray) = spl cur (o + d.length * K.n) (m.flatMap K.cells) := rfl
  rw [hsp] at hst
  refine ⟨w.setRow g (spl cur (o + d.length * K.n) (m.flatMap K.cells)), fun z => ?_, ?_, ⟨rfl, rfl, rfl, by simp [World.setRow], fun b _ hb => setRow_other _ _ _ _ hb⟩⟩
  · have hL := S.len
    have hC := S.cells
    rcases S.kind with ⟨e', hk'⟩ | hk' <;> simp [builtin, Builtin.append_, run_underlying hK.ht, sizeOf, typeInfo, hi, h2, hL, hroom, hC, Addr.add_lit, hst]
  · refine .inr ⟨g, o, cap, spl cur (o + d.length * K.n) (m.flatMap K.cells), by rw [hla], setRow_heap w g cur _ K.e (0, 0) hg, by omega, q5, by rw [spl_size hfit]; exact q3, fun j hj => ?_⟩
    rw [hla, Nat.add_mul] at hj
    rw [spl_get hfit, hlm, hfa]
    by_cases e : j < d.length * K.n
    · rw [if_pos (by omega), q6 j e, List.getElem?_append_left (by rw [hld]; exact e)]
    · rw [if_neg (by omega), if_pos (by omega), List.getElem?_append_right (by rw [hld]; omega), hld]
      congr 1
      omega
/-- clear behind a row's own entries. -/
theorem RowZ.clr (hK : K.Ok) {w : World} {g o n cap : Nat} {d : List X} (h : RowZ K w (.slice (some ⟨g, o, none⟩) n cap) d) (m c2 : Nat) (hm : n + m ≤ cap) (hone : ∀ i z, Try.prog.info? K.e = some i → i.zero = some z → ∀ u ∈ z.cells.toList, u.oneCell' = true) :
    ∃ w', (∀ ty z, (builtin .clear #[K.st] ty z #[.slice (dropZ K.n (some ⟨g, o, none⟩) cap n) m c2]).run Try.prog w = .ok (.value (.tuple #[])) w') ∧ RowZ K w' (.slice (some ⟨g, o, none⟩) n cap) d ∧ Kept (fun k => k = g) w w' := by
  rcases Nat.eq_zero_or_pos m with rfl | hmp
  · refine ⟨w, fun ty z => ?_, h, .refl _ w⟩
    cases dropZ K.n (some ⟨g, o, none⟩) cap n <;> simp [builtin, Builtin.clear_, run_underlying hK.ht]
  · obtain ⟨i, z, hi, hz, h2, h3, hzc⟩ := hK.info
    have e1 : dropZ K.n (some ⟨g, o, none⟩) cap n = some ⟨g, o + n * K.n, none⟩ := by
      unfold dropZ
      rw [if_neg (by omega)]
      simp [Addr.add_mid]
    rw [e1]
    obtain ⟨rfl, cur, hg, q4, q5, q3, q6⟩ := h.get
    have hzl : (Builtin.zeroCells z.cells m).toList.length = m * K.n := by simp [zero_size, hzc]
    have hmul := Nat.mul_le_mul_right K.n hm
    rw [Nat.add_mul] at hmul
    have hfit : o + d.length * K.n + (Builtin.zeroCells z.cells m).toList.length ≤ cur.size := by rw [hzl]; omega
    have hst := run_storeCells_at Try.prog g (o + d.length * K.n) K.e (Builtin.zeroCells z.cells m).toList 0 cur w hg (by omega) (fun u hu => by
      refine hone i z hi hz u ?_
      unfold Builtin.zeroCells at hu
      simp only [Array.toList_map, List.mem_map] at hu
      obtain ⟨j, hj, rfl⟩ := hu
      have hp : 0 < z.cells.size := by rw [hzc]; exact hK.pos
      have hlt := Nat.mod_lt j hp
      rw [getElem!_pos z.cells _ hlt]
      simp)
    simp only [Nat.add_zero] at hst
    have hsp : ((cur.toList.take (o + d.length * K.n) ++ (Builtin.zeroCells z.cells m).toList ++ cur.toList.drop (o + d.length * K.n + (Builtin.zeroCells z.cells m).toList.length)).toArray) = spl cur (o + d.length * K.n) (Builtin.zeroCells z.cells m).toList := rfl
    rw [hsp] at hst
    refine ⟨w.setRow g (spl cur (o + d.length * K.n) (Builtin.zeroCells z.cells m).toList), fun ty zz => ?_, ?_, ⟨rfl, rfl, rfl, by simp [World.setRow], fun b _ hb => setRow_other _ _ _ _ hb⟩⟩
    · obtain ⟨m', rfl⟩ : ∃ m', m = m' + 1 := ⟨m - 1, by omega⟩
      have hv : (zeroValue K.e).run Try.prog w = .ok z w := by simp [zeroValue, typeInfo, hi, hz]
      simp [builtin, Builtin.clear_, run_underlying hK.ht, hv, hst]
    · refine .inr ⟨g, o, cap, spl cur (o + d.length * K.n) (Builtin.zeroCells z.cells m).toList, rfl, setRow_heap w g cur _ K.e (0, 0) hg, q4, q5, by rw [spl_size hfit]; exact q3, fun j hj => ?_⟩
      rw [spl_get hfit, if_pos (by omega)]
      exact q6 j hj
theorem run_lhmZ (hK : K.Ok) (w : World) (a : Option Addr) (len c n m y : Nat) (zn zm zy : Int) (hz : zn = n) (hm : zm = m) (hy : zy = y) (h1 : n ≤ m) (h2 : m ≤ y) (h3 : y ≤ c) :
    ∃ v, (Instr.sliceAt K.st (.slice a len c) (some (.int .i64 zn)) (some (.int .i64 zm)) (some (.int .i64 zy))).run Try.prog w = .ok v w := by
  subst hz hm hy
  obtain ⟨i, zz, hi, hzz, h2', h3', hzc⟩ := hK.info
  have e : Try.prog.elem K.st = K.e := by simp [Program.elem, hK.ht]
  have u : Try.prog.underlying K.st = some (.slice (Try.prog.elem K.st)) := by rw [e]; exact hK.ht
  have s : (sizeOf K.e).run Try.prog w = .ok K.n w := by simp [sizeOf, typeInfo, hi, h2']
  rw [run_sliceAt_slice w K.st _ _ _ _ u, run_slice_lhm w K.st a len c u .i64 .i64 .i64 n m y (by omega) (by omega) (by omega) (by omega), e, s]
  exact ⟨_, rfl⟩
end
end Go.Proofs.Ytndaohiecpdmlaa
