/-
  Bytes in a row of one's own, from a place on ([]byte): read, written, cut, and others put behind them. No condition.
-/
import Derived.Test.YtbicfhilehllnaaGreatDoorObRun
import Derived.Maps.AppendAt
import Derived.Lib.Bytes
namespace Go.Proofs.YtbicfhilehllnaaGreatDoor.ob
set_option maxRecDepth 100000
open Go.RowKit

def nY (xs : List Int) : List Value := xs.map (Value.int .u8)
theorem nY_len (xs : List Int) : (nY xs).length = xs.length := by simp [nY]
theorem nY_app (xs ys : List Int) : nY (xs ++ ys) = nY xs ++ nY ys := by simp [nY]
theorem nY_get (xs : List Int) (i : Nat) (h : i < xs.length) : (nY xs)[i]? = some (.int .u8 (xs.getD i 0)) := by
  unfold nY
  rw [List.getElem?_map, List.getElem?_eq_getElem h]
  simp [List.getD, List.getElem?_eq_getElem h]
theorem nY_one (xs : List Int) : ∀ v ∈ nY xs, v.oneCell' = true := fun v hv => by
  obtain ⟨y, _, rfl⟩ := List.mem_map.1 hv
  rfl
theorem info_u8 : ∃ i, Tryz.prog.info? 5 = some i ∧ i.zero = some (.int .u8 0) ∧ i.size = 1 ∧ i.bytes = 1 := by
  have h : (Tryz.prog.info? 5).map (fun i => (i.zero, i.size, i.bytes)) = some (some (.int .u8 0), 1, 1) := by kernel_rfl
  obtain ⟨i, hi, e⟩ := Option.map_eq_some_iff.1 h
  injection e with e1 e2
  injection e2 with e2 e3
  exact ⟨i, hi, e1, e2, e3⟩
/-- Bytes in a row, from a place on. -/
def RowY (w : World) (v : Value) (xs : List Int) : Prop :=
  (v = .slice none 0 0 ∧ xs = []) ∨ ∃ (g o cap : Nat) (cur : Array Value), v = .slice (some ⟨g, o, none⟩) xs.length cap ∧ w.heap[g]? = some (.cells cur 5 (0, 0)) ∧ xs.length ≤ cap ∧ cap ≤ maxLen ∧ o + cap ≤ cur.size ∧ ∀ k, k < xs.length → cur[o + k]? = some (.int .u8 (xs.getD k 0))
theorem RowY.nil (w : World) : RowY w (.slice none 0 0) [] := .inl ⟨rfl, rfl⟩
theorem RowY.lt {w : World} {v : Value} {xs : List Int} (h : RowY w v xs) : ∀ k, v.ownBlock = some k → k < w.heap.size := fun k hk => by
  rcases h with ⟨rfl, -⟩ | ⟨g, o, cap, cur, rfl, hg, -⟩
  · cases hk
  · injection hk with hk
    subst hk
    exact (Array.getElem?_eq_some_iff.1 hg).1
theorem RowY.of {w w' : World} {v : Value} {xs : List Int} (h : RowY w v xs) (k : ∀ b, v.ownBlock = some b → w'.heap[b]? = w.heap[b]?) : RowY w' v xs := by
  rcases h with h | ⟨g, o, cap, cur, rfl, hg, r⟩
  · exact .inl h
  · exact .inr ⟨g, o, cap, cur, rfl, (k g rfl).trans hg, r⟩
theorem RowY.keep {w w' : World} {v : Value} {xs : List Int} (h : RowY w v xs) (b : Below w.heap.size w w') : RowY w' v xs := h.of fun k hk => b.block k (h.lt k hk)
theorem RowY.slice {w : World} {v : Value} {xs : List Int} (h : RowY w v xs) : ∃ a c, v = .slice a xs.length c ∧ xs.length ≤ c ∧ c ≤ maxLen := by
  rcases h with ⟨rfl, rfl⟩ | ⟨g, o, cap, cur, rfl, -, h1, h2, -⟩
  · exact ⟨_, _, rfl, Nat.le_refl _, Nat.zero_le _⟩
  · exact ⟨_, _, rfl, h1, h2⟩
theorem RowY.at {w : World} {n c : Nat} {a : Option Addr} {xs : List Int} (h : RowY w (.slice a n c) xs) (hp : 0 < xs.length) : ∃ g o, a = some ⟨g, o, none⟩ := by
  rcases h with ⟨-, rfl⟩ | ⟨g, o, cap, cur, e, -⟩
  · simp at hp
  · injection e with e
    exact ⟨g, o, e⟩
theorem RowY.get {w : World} {g o n cap : Nat} {xs : List Int} (h : RowY w (.slice (some ⟨g, o, none⟩) n cap) xs) : n = xs.length ∧ ∃ cur, w.heap[g]? = some (.cells cur 5 (0, 0)) ∧ xs.length ≤ cap ∧ cap ≤ maxLen ∧ o + cap ≤ cur.size ∧ ∀ k, k < xs.length → cur[o + k]? = some (.int .u8 (xs.getD k 0)) := by
  rcases h with ⟨e, -⟩ | ⟨g', o', cap', cur, e, h1, h2⟩
  · cases e
  · injection e with e1 e3 e2
    injection e1 with e1
    injection e1 with e1 e4
    subst e1 e2 e4
    exact ⟨e3, cur, h1, h2⟩
theorem RowY.mk {w : World} {g o cap : Nat} {cur : Array Value} {xs : List Int} (hg : w.heap[g]? = some (.cells cur 5 (0, 0))) (hn : xs.length ≤ cap) (hm : cap ≤ maxLen) (hs : o + cap ≤ cur.size) (h : ∀ k, k < xs.length → cur[o + k]? = some (.int .u8 (xs.getD k 0))) : RowY w (.slice (some ⟨g, o, none⟩) xs.length cap) xs :=
  .inr ⟨g, o, cap, cur, rfl, hg, hn, hm, hs, h⟩
theorem RowY.cell {w : World} {g o n cap : Nat} {xs : List Int} (h : RowY w (.slice (some ⟨g, o, none⟩) n cap) xs) (i : Nat) (hi : i < xs.length) : w.cell? ⟨g, o + i, none⟩ = some (.int .u8 (xs.getD i 0)) ∧ w.frozen? ⟨g, o + i, none⟩ = false := by
  obtain ⟨-, cur, h1, -, -, -, h2⟩ := h.get
  refine ⟨?_, by simp [World.frozen?, h1]⟩
  rw [← h2 i hi]
  simp [World.cell?, h1]
theorem RowY.set {w : World} {g o n cap : Nat} {xs : List Int} (h : RowY w (.slice (some ⟨g, o, none⟩) n cap) xs) (i : Nat) (hi : i < xs.length) (x : Int) : RowY (w.setCell ⟨g, o + i, none⟩ (.int .u8 x)) (.slice (some ⟨g, o, none⟩) n cap) (xs.set i x) := by
  obtain ⟨rfl, cur, h1, h2, h3, h4, h5⟩ := h.get
  have q := setCell_eq_setRow w g (o + i) cur 5 (0, 0) (.int .u8 x) h1
  have k := setRow_heap w g cur (cur.setIfInBounds (o + i) (.int .u8 x)) 5 (0, 0) h1
  rw [← q] at k
  have hl : (xs.set i x).length = xs.length := List.length_set
  have := RowY.mk (xs := xs.set i x) (o := o) (cap := cap) k (by omega) h3 (by simpa using h4) fun j hj => by
    rw [hl] at hj
    rw [Array.getElem?_setIfInBounds]
    by_cases e : i = j
    · subst e
      rw [if_pos rfl, if_pos (by omega)]
      simp [List.getD, hi]
    · rw [if_neg (by omega), h5 j hj]
      simp [List.getD, e]
  rw [hl] at this
  exact this
theorem at_u8 (B o N cap i : Nat) (w : World) (h : i < N) (z : Int) (hz : z = i) (p : Nat) (hp : p = o + i) :
    (Instr.indexAt 129 (.slice (some ⟨B, o, none⟩) N cap) (.int .i64 z)).run Tryz.prog w = .ok (.pointer (some ⟨B, p, none⟩)) w := by
  subst hz hp
  have e : Tryz.prog.elem 129 = 5 := by kernel_rfl
  rw [run_indexAt_slice (P := Tryz.prog) w 129 ⟨B, o, none⟩ N cap .i64 i (by rw [e]; exact Tryz.underlying129), if_pos (by omega), e]
  have s : (sizeOf 5).run Tryz.prog w = .ok 1 w := Tryz.sizeOf5 w
  rw [s]
  simp [Addr.add_mid]
/-- A row without its first n. -/
def dropA (a : Option Addr) (c n : Nat) : Option Addr := if c = n then a else a.map (·.add n)
theorem dropA_block (a : Option Addr) (l l' c c' n : Nat) : (Value.slice (dropA a c n) l c').ownBlock = (Value.slice a l' c).ownBlock := by
  unfold dropA
  split
  · cases a <;> rfl
  · cases a with
    | none => rfl
    | some a =>
      show some (a.add n).block = some a.block
      unfold Addr.add
      split <;> rfl
theorem run_cut (w : World) (a : Option Addr) (len c n : Nat) (z : Int) (hz : z = n) (h : n ≤ len) :
    (Instr.sliceAt 129 (.slice a len c) (some (.int .i64 z)) none none).run Tryz.prog w = .ok (.slice (dropA a c n) (len - n) (c - n)) w := by
  subst hz
  have e : Tryz.prog.elem 129 = 5 := by kernel_rfl
  have u : Tryz.prog.underlying 129 = some (.slice (Tryz.prog.elem 129)) := by rw [e]; exact Tryz.underlying129
  have s : (sizeOf 5).run Tryz.prog w = .ok 1 w := Tryz.sizeOf5 w
  rw [run_sliceAt_slice w 129 _ _ _ _ u, run_slice_l w 129 a len c u .i64 n (by omega) (by omega), e, s]
  simp [Result.andThen, sliced, dropA]
theorem run_upto (w : World) (a : Option Addr) (len c n : Nat) (z : Int) (hz : z = n) (h : n ≤ c) :
    (Instr.sliceAt 129 (.slice a len c) none (some (.int .i64 z)) none).run Tryz.prog w = .ok (.slice a n c) w := by
  subst hz
  have e : Tryz.prog.elem 129 = 5 := by kernel_rfl
  have u : Tryz.prog.underlying 129 = some (.slice (Tryz.prog.elem 129)) := by rw [e]; exact Tryz.underlying129
  have s : (sizeOf 5).run Tryz.prog w = .ok 1 w := Tryz.sizeOf5 w
  rw [run_sliceAt_slice w 129 _ _ _ _ u, run_slice_h w 129 a len c u .i64 n (by omega) (by omega), e, s]
  have q : a.map (fun x => x.add 0) = a := by cases a <;> simp [Addr.add]
  by_cases hc : c = 0
  · subst hc; simp [Result.andThen, sliced]
  · simp [Result.andThen, sliced, hc, q]
theorem run_mid (w : World) (a : Option Addr) (len c n m : Nat) (z y : Int) (hz : z = n) (hy : y = m) (h1 : n ≤ m) (h : m ≤ c) :
    (Instr.sliceAt 129 (.slice a len c) (some (.int .i64 z)) (some (.int .i64 y)) none).run Tryz.prog w = .ok (.slice (dropA a c n) (m - n) (c - n)) w := by
  subst hz hy
  have e : Tryz.prog.elem 129 = 5 := by kernel_rfl
  have u : Tryz.prog.underlying 129 = some (.slice (Tryz.prog.elem 129)) := by rw [e]; exact Tryz.underlying129
  have s : (sizeOf 5).run Tryz.prog w = .ok 1 w := Tryz.sizeOf5 w
  rw [run_sliceAt_slice w 129 _ _ _ _ u, run_slice_lh w 129 a len c u .i64 .i64 n m (by omega) (by omega) (by omega), e, s]
  simp [Result.andThen, sliced, dropA]
theorem getD_drop (xs : List Int) (n k : Nat) : (xs.drop n).getD k 0 = xs.getD (n + k) 0 := by simp [List.getD]
theorem getD_take (xs : List Int) (n k : Nat) (h : k < n) : (xs.take n).getD k 0 = xs.getD k 0 := by simp [List.getD, h]
theorem RowY.cut {w : World} {a : Option Addr} {l c : Nat} {xs : List Int} (h : RowY w (.slice a l c) xs) (n : Nat) (hn : n ≤ xs.length) : RowY w (.slice (dropA a c n) (l - n) (c - n)) (xs.drop n) := by
  rcases h with ⟨e, rfl⟩ | ⟨g, o, cap, cur, e, hg, h1, h2, h3, h4⟩
  · injection e with e1 e2 e3
    subst e1 e2 e3
    simp at hn
    subst hn
    left
    simp [dropA]
  · injection e with e1 e2 e3
    subst e1 e2 e3
    have hl : (xs.drop n).length = xs.length - n := List.length_drop
    right
    by_cases q : c = n
    · refine ⟨g, o, 0, cur, ?_, hg, by omega, Nat.zero_le _, by omega, fun k hk => by omega⟩
      rw [hl]
      simp [dropA, q]
    · refine ⟨g, o + n, c - n, cur, ?_, hg, by omega, by omega, by omega, fun k hk => ?_⟩
      · rw [hl]
        simp [dropA, q, Addr.add_mid]
      · rw [getD_drop, ← h4 (n + k) (by omega)]
        congr 1
        omega
theorem RowY.upto {w : World} {a : Option Addr} {l c : Nat} {xs : List Int} (h : RowY w (.slice a l c) xs) (n : Nat) (hn : n ≤ xs.length) : RowY w (.slice a n c) (xs.take n) := by
  have hl : (xs.take n).length = n := by rw [List.length_take]; omega
  rcases h with ⟨e, rfl⟩ | ⟨g, o, cap, cur, e, hg, h1, h2, h3, h4⟩
  · injection e with e1 e2 e3
    subst e1 e2 e3
    simp at hn
    subst hn
    exact .inl ⟨rfl, rfl⟩
  · injection e with e1 e2 e3
    subst e1 e2 e3
    exact .inr ⟨g, o, c, cur, by rw [hl], hg, by omega, h2, h3, fun k hk => by rw [getD_take _ _ _ (by omega)]; exact h4 k (by omega)⟩
theorem zeroYb (k : Nat) : (Builtin.zeroCells (Value.int .u8 0).cells k).size = k := by simp [Builtin.zeroCells, Value.cells]
/-- append of bytes, wherever they come from. -/
theorem RowY.app {w : World} {v : Value} {xs : List Int} (h : RowY w v xs) (tx ty : TypeId) (x : Value) (ys : List Int) (S : Src Tryz.prog 1 tx x ys.length (nY ys) w) (hk : xs.length + ys.length < 1000000000) :
    ∃ v' w', (∀ z, (builtin .append #[129, tx] ty z #[v, x]).run Tryz.prog w = .ok (.value v') w') ∧ RowY w' v' (xs ++ ys) ∧ w.grownBy w' v.ownBlock ∧ (v'.ownBlock = v.ownBlock ∨ v'.ownBlock = some w.heap.size) := by
  obtain ⟨i, hi, hz, h2, h3⟩ := info_u8
  have hla : (xs ++ ys).length = xs.length + ys.length := List.length_append
  have grow : ∀ (b : Option Addr) (cap : Nat), v = .slice b xs.length cap → (b = none → xs = []) → (∀ p, b = some p → ∀ j u, (nY xs)[j]? = some u → w.cell? (p.add j) = some u) → cap < xs.length + ys.length →
      ∃ v' w', (∀ z, (builtin .append #[129, tx] ty z #[v, x]).run Tryz.prog w = .ok (.value v') w') ∧ RowY w' v' (xs ++ ys) ∧ w.grownBy w' v.ownBlock ∧ (v'.ownBlock = v.ownBlock ∨ v'.ownBlock = some w.heap.size) := fun b cap ev hbn hold hroom => by
    subst ev
    have hd : (Builtin.firstCells i.size xs.length (.slice b xs.length cap)).run Tryz.prog w.drew = .ok (nY xs).toArray w.drew := by
      rw [h2]
      cases b with
      | none =>
        have h0 := hbn rfl
        subst h0
        exact run_firstCells_none w.drew 1 0 0 cap
      | some p => exact run_firstCells_some w.drew 1 xs.length p xs.length cap (nY xs) (by rw [nY_len]; omega) (fun j u hj => hold p rfl j u hj)
    have r := run_append_grow_src w 129 tx ty 5 i _ Tryz.underlying129 hi hz b xs.length cap (nY xs) hd x ys.length (nY ys) (by rw [h2]; exact S) hroom (by omega) (by rw [h3]; exact growslice_fits hroom (by omega))
    have hc := grownCap_ge w (xs.length + ys.length) cap 5
    have hm := grownCap_le_maxLen w (xs.length + ys.length) cap 5 (by unfold maxLen; omega)
    refine ⟨.slice (some ⟨w.heap.size, 0, none⟩) (xs.length + ys.length) (grownCap w (xs.length + ys.length) cap 5), w.drew.alloc (.cells ((nY xs ++ nY ys).toArray ++ Builtin.zeroCells (Value.int .u8 0).cells (grownCap w (xs.length + ys.length) cap 5 - (xs.length + ys.length))) 5), fun z => by simp only [builtin, Sem.run_bind, Sem.run_pure, r, Result.andThen_ok], ?_, ⟨rfl, rfl, rfl, by show w.heap.size ≤ (w.heap.push _).size; simp, fun b hb _ => by show (w.heap.push _)[b]? = _; simp [Array.getElem?_push, Nat.ne_of_lt hb]⟩, .inr rfl⟩
    generalize grownCap w (xs.length + ys.length) cap 5 = C at *
    have es : ((nY xs ++ nY ys).toArray ++ Builtin.zeroCells (Value.int .u8 0).cells (C - (xs.length + ys.length))).size = C := by
      rw [Array.size_append, zeroYb, List.size_toArray, List.length_append, nY_len, nY_len]
      omega
    have := RowY.mk (w := w.drew.alloc (.cells ((nY xs ++ nY ys).toArray ++ Builtin.zeroCells (Value.int .u8 0).cells (C - (xs.length + ys.length))) 5)) (g := w.heap.size) (o := 0) (cap := C) (xs := xs ++ ys) (cur := (nY xs ++ nY ys).toArray ++ Builtin.zeroCells (Value.int .u8 0).cells (C - (xs.length + ys.length))) (by show (w.heap.push _)[w.heap.size]? = _; simp) (by omega) hm (by omega) (fun j hj => by
      rw [Nat.zero_add, Array.getElem?_append_left (by rw [List.size_toArray, List.length_append, nY_len, nY_len]; omega), List.getElem?_toArray, ← nY_app]
      exact nY_get _ j hj)
    rw [hla] at this
    exact this
  rcases h with ⟨rfl, rfl⟩ | ⟨g, o, cap, cur, rfl, hg, q4, q5, q3, q6⟩
  · rcases Nat.eq_zero_or_pos ys.length with h0 | h0
    · have hy := List.eq_nil_of_length_eq_zero h0
      subst hy
      refine ⟨.slice none 0 0, w, fun z => ?_, .inl ⟨rfl, rfl⟩, World.grownBy.refl w _, .inl rfl⟩
      have hL := S.len
      have hC : (Builtin.firstCells 1 0 x).run Tryz.prog w = .ok (nY []).toArray w := S.cells
      rcases S.kind with ⟨e', hk⟩ | hk <;> simp [builtin, Builtin.append_, run_underlying Tryz.underlying129, run_underlying hk, sizeOf, typeInfo, hi, h2, hL, hC]
    · exact grow none 0 rfl (fun _ => rfl) (fun p e => by cases e) (by simpa using h0)
  · have hold : ∀ j u, (nY xs)[j]? = some u → w.cell? (Addr.add ⟨g, o, none⟩ j) = some u := fun j u hj => by
      have hlt : j < xs.length := by have := (List.getElem?_eq_some_iff.1 hj).1; rw [nY_len] at this; exact this
      rw [nY_get xs j hlt] at hj
      rw [Addr.add_mid, ← hj, ← q6 j hlt]
      simp [World.cell?, hg]
    by_cases hroom : xs.length + ys.length ≤ cap
    · have hst := run_storeCells_at Tryz.prog g (o + xs.length) 5 (nY ys) 0 cur w hg (by rw [nY_len]; omega) (nY_one ys)
      simp only [Nat.add_zero] at hst
      have hsp : ((cur.toList.take (o + xs.length) ++ nY ys ++ cur.toList.drop (o + xs.length + (nY ys).length)).toArray) = spl cur (o + xs.length) (nY ys) := rfl
      rw [hsp] at hst
      have hfit : o + xs.length + (nY ys).length ≤ cur.size := by rw [nY_len]; omega
      refine ⟨.slice (some ⟨g, o, none⟩) (xs.length + ys.length) cap, w.setRow g (spl cur (o + xs.length) (nY ys)), fun z => ?_, ?_, ?_, .inl rfl⟩
      · have hL := S.len
        have hC := S.cells
        rcases S.kind with ⟨e', hk⟩ | hk <;> simp [builtin, Builtin.append_, run_underlying Tryz.underlying129, run_underlying hk, sizeOf, typeInfo, hi, h2, hL, hroom, hC, Addr.add_lit, hst]
      · have := RowY.mk (xs := xs ++ ys) (o := o) (cap := cap) (setRow_heap w g cur (spl cur (o + xs.length) (nY ys)) 5 (0, 0) hg) (by omega) q5 (by rw [spl_size hfit]; exact q3) fun j hj => by
          rw [hla] at hj
          rw [spl_get hfit, nY_len]
          by_cases e : j < xs.length
          · rw [if_pos (by omega), q6 j e]
            simp [List.getD, List.getElem?_append_left e]
          · rw [if_neg (by omega), if_pos (by omega), show o + j - (o + xs.length) = j - xs.length by omega, nY_get ys _ (by omega)]
            simp [List.getD, List.getElem?_append_right (Nat.le_of_not_lt e)]
        rw [hla] at this
        exact this
      · exact ⟨rfl, rfl, rfl, by simp [World.setRow], fun b _ hb => setRow_other _ _ _ _ (fun e => hb (by rw [e]; rfl))⟩
    · exact grow (some ⟨g, o, none⟩) cap rfl (fun e => by cases e) (fun p e j u hj => by
        injection e with e
        subst e
        exact hold j u hj) (by omega)
theorem RowY.src {w : World} {v : Value} {ys : List Int} (h : RowY w v ys) : Src Tryz.prog 1 129 v ys.length (nY ys) w := by
  rcases h with ⟨rfl, rfl⟩ | ⟨g, o, cap, cur, rfl, hg, -, -, -, q6⟩
  · exact Src.ofNil w Tryz.underlying129 0
  · refine Src.ofSlice w Tryz.underlying129 ⟨g, o, none⟩ ys.length cap (nY ys) (by rw [nY_len]; omega) (fun j u hj => ?_) (nY_one ys)
    have hlt : j < ys.length := by have := (List.getElem?_eq_some_iff.1 hj).1; rw [nY_len] at this; exact this
    rw [nY_get ys j hlt] at hj
    rw [Addr.add_mid, ← hj, ← q6 j hlt]
    simp [World.cell?, hg]
/-- A text's bytes, as numbers. -/
def ofB (s : ByteArray) : List Int := s.data.toList.map fun b => (b.toNat : Int)
theorem ofB_len (s : ByteArray) : (ofB s).length = s.size := by unfold ofB; rw [List.length_map, Array.length_toList]; rfl
theorem ofB_app (s t : ByteArray) : ofB (s ++ t) = ofB s ++ ofB t := by simp [ofB]
theorem srcB (w : World) (s : ByteArray) : Src Tryz.prog 1 9 (.string s) (ofB s).length (nY (ofB s)) w := by
  have e : nY (ofB s) = byteCells s := by unfold nY ofB byteCells; rw [List.map_map]; rfl
  rw [e, ofB_len]
  exact Src.ofString w Tryz.underlying9 s
theorem ofB_ext (t : ByteArray) (i j : Nat) : ofB (t.extract i j) = ((ofB t).drop i).take (j - i) := by
  unfold ofB
  rw [ByteArray.data_extract, Array.toList_extract, List.extract_eq_take_drop, List.map_take, List.map_drop]
/-- A row of bytes as a text. -/
theorem RowY.str {w : World} {a : Option Addr} {l c : Nat} {u : ByteArray} (h : RowY w (.slice a l c) (ofB u)) (hu : 0 < u.size) : (convert 129 9 (.slice a l c)).run Tryz.prog w = .ok (.string u) w := by
  obtain ⟨g, o, rfl⟩ := h.at (by rw [ofB_len]; exact hu)
  obtain ⟨hl, cur, hg, -, -, -, hc⟩ := h.get
  have hlen : u.data.toList.length = u.size := by rw [Array.length_toList]; rfl
  have := run_convert_bytes_back (P := Tryz.prog) w 129 9 5 ⟨g, o, none⟩ c u.data.toList Tryz.underlying129 Tryz.underlying5 Tryz.underlying9 (fun j hj => by
    rw [Addr.add_mid]
    have := hc j (by rw [ofB_len]; omega)
    have e : (ofB u).getD j 0 = (u.data.toList[j].toNat : Int) := by
      unfold ofB
      rw [List.getD, List.getElem?_map, List.getElem?_eq_getElem hj]
      rfl
    rw [e] at this
    rw [← this]
    simp [World.cell?, hg])
  rw [hlen] at this
  rw [hl, ofB_len, this]
end Go.Proofs.YtbicfhilehllnaaGreatDoor.ob
