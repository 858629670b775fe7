/-
  The program's reader of frames in memory; what endFrame, fail and cutData leave of it. No condition but the form's own reach.
-/
import Derived.Test.YtnngdlleicjegaaDoorH3PgM
import Derived.Deep.LoopGhost
import Derived.Lib.QuietBelow
import Derived.BigQuiet
import Derived.RegionTactic
import Derived.Deep.DeepCutAuto
namespace Go.Proofs.YtnngdlleicjegaaDoor
set_option maxRecDepth 100000
open Go.RowKit

theorem info_evp : ∃ i, Tryd.prog.info? 48 = some i ∧ i.zero = some (.agg #[.int .i64 0, .string ⟨#[]⟩]) ∧ i.size = 2 ∧ i.bytes = 24 := by
  have h : (Tryd.prog.info? 48).map (fun i => (i.zero, i.size, i.bytes)) = some (some (.agg #[.int .i64 0, .string ⟨#[]⟩]), 2, 24) := by kernel_rfl
  obtain ⟨i, hi, e⟩ := Option.map_eq_some_iff.1 h
  injection e with e1 e2
  injection e2 with e2 e3
  exact ⟨i, hi, e1, e2, e3⟩
/-- Events that the call itself has made. -/
structure EvP (base : Nat) (w : World) (v : Value) (l : List Ev) : Prop where
  row : w.ownsRow base 48 2 v l.length (evv l)
theorem EvP.nil (base : Nat) (w : World) : EvP base w (.slice none 0 0) [] := ⟨World.ownsRow_nil _ _ _ _⟩
theorem EvP.of {base : Nat} {w w' : World} {v : Value} {l : List Ev} (h : EvP base w v l) (b : ∀ k, v.ownBlock = some k → w'.heap[k]? = w.heap[k]?) : EvP base w' v l := ⟨rows_block h.row b⟩
theorem EvP.keep {base : Nat} {w w' : World} {v : Value} {l : List Ev} (h : EvP base w v l) (b : Below w.heap.size w w') : EvP base w' v l := h.of fun k hk => b.block k (h.row.lt k hk).2
theorem EvP.slice {base : Nat} {w : World} {v : Value} {l : List Ev} (h : EvP base w v l) : ∃ a c, v = .slice a l.length c := by
  rcases h.row.2 with ⟨rfl, e⟩ | ⟨g, cap, cur, rfl, -⟩
  · exact ⟨_, _, by rw [e]⟩
  · exact ⟨_, _, rfl⟩
/-- A store into a block that is not theirs. -/
theorem EvP.set {base R j : Nat} {w : World} {v x : Value} {l : List Ev} (h : EvP base w v l) (hR : R < base) : EvP base (w.setCell ⟨R, j, none⟩ x) v l := h.of fun k hk => Below.heap_setCell w ⟨R, j, none⟩ x k (fun c => by
  have h1 := (h.row.lt k hk).1
  have h2 : k = R := c
  omega)
theorem EvP.app {base R : Nat} {w : World} {v : Value} {l : List Ev} (h : EvP base w v l) (hb : base ≤ w.heap.size) (hl : l.length < 1000000000) (k : Nat) (d : L) :
    ∃ v' w', (∀ z, (builtin .append #[28, 28] 28 z #[v, .slice (some ⟨w.heap.size, 0, none⟩) 1 1]).run Tryd.prog (w.alloc (.cells #[.int .i64 (k : Int), .string (strL d)] 48)) = .ok (.value v') w') ∧ EvP base w' v' (l ++ [(k, d)]) ∧ Kept (fun x => base ≤ x) w w' ∧ (R < base → w'.heap[R]? = w.heap[R]?) := by
  obtain ⟨i0, hi0, hz0, hz1, hz2⟩ := info_evp
  have bA : Below w.heap.size w (w.alloc (.cells #[.int .i64 (k : Int), .string (strL d)] 48)) := (Below.refl _ _).alloc (Nat.le_refl _) _
  have h2 := h.keep bA
  obtain ⟨v', w', hr, h3, h4, -, -⟩ := run_append_own_at (P := Tryd.prog) (w.alloc (.cells #[.int .i64 (k : Int), .string (strL d)] 48)) base 28 28 48 i0 (.agg #[.int .i64 0, .string ⟨#[]⟩]) 2 24 Tryd.underlying28 hi0 hz0 hz1 hz2 rfl (by decide) v l.length (evv l) h2.row ⟨w.heap.size, 0, none⟩ 1 1 [.int .i64 (k : Int), .string (strL d)] rfl (fun j u hj => by
    rw [Addr.add_lit]
    match j, hj with
    | 0, hj => injection hj with hj; subst hj; exact World.cell?_alloc_new _ _ _ 0
    | 1, hj => injection hj with hj; subst hj; exact World.cell?_alloc_new _ _ _ 1
    | j + 2, hj => cases hj) (fun x hx => by simp only [List.mem_cons, List.not_mem_nil, or_false] at hx; rcases hx with rfl | rfl <;> rfl) (by unfold maxLen; omega) (by omega) (Nat.le_trans hb bA.size)
  have kp : Kept (fun x => base ≤ x) w w' := (Kept.of _ bA).grown h4 (fun k hk _ => (h2.row.lt k hk).1)
  refine ⟨v', w', fun z => by simp only [builtin, Sem.run_bind, Sem.run_pure, hr, Result.andThen_ok], ⟨by rw [evv_snoc, List.length_append]; exact h3⟩, kp, fun hR => kp.block R (by omega) (by omega)⟩
/-- What is read next, as a function value. -/
def nxF (m : Nat) : Nat := if m = 0 then 23 else if m = 1 then 22 else if m = 2 then 36 else if m = 3 then 47 else if m = 4 then 48 else if m = 5 then 49 else 50
def nx (R m : Nat) : Value := .func (.func (nxF m)) #[.pointer (some ⟨R, 0, none⟩)] #[]
def pcs (R : Nat) (q : Pm) (tv : Value) : List Value := [.bool q.ctl, nx R q.m, .string (strL q.kept), .int .i64 (q.kind : Int), .int .i64 (q.left : Int), .bool q.wi, .bool q.op, .int .i64 q.code, tv]
/-- The reader in its block, with what was told since the world w0. -/
structure PI (w0 w : World) (R : Nat) (q : Pm) (l : List Ev) : Prop where
  ex : ∃ tv, Lies w R (pcs R q tv) ∧ EvP w0.heap.size w tv l
  kept : Kept (fun k => k = R) w0 w
  lt : R < w0.heap.size
  tab : VTab w0
  ne : 0 ≠ R
theorem PI.drew {w0 w : World} {R : Nat} {q : Pm} {l : List Ev} (h : PI w0 w R q l) : PI w0 w.drew R q l := by
  obtain ⟨tv, a, b⟩ := h.ex
  exact ⟨⟨tv, a.of_block rfl, b.of fun _ _ => rfl⟩, h.kept.drew, h.lt, h.tab, h.ne⟩
theorem PI.below {w0 w w' : World} {R : Nat} {q : Pm} {l : List Ev} (h : PI w0 w R q l) (b : Below w.heap.size w w') : PI w0 w' R q l := by
  obtain ⟨tv, a, e⟩ := h.ex
  exact ⟨⟨tv, a.keep (by show 0 < 9; decide) b, e.keep b⟩, h.kept.add b, h.lt, h.tab, h.ne⟩
/-- The table of sizes stands. -/
theorem PI.vt {w0 w : World} {R : Nat} {q : Pm} {l : List Ev} (h : PI w0 w R q l) : VTab w := by
  have e := h.kept.block _ h.tab.pos h.ne
  exact ⟨Nat.lt_of_lt_of_le h.tab.pos h.kept.size, (World.cell?_of_block (w := w0) e).trans h.tab.c0, (World.cell?_of_block (w := w0) e).trans h.tab.c1, (World.cell?_of_block (w := w0) e).trans h.tab.c2, (World.cell?_of_block (w := w0) e).trans h.tab.c3⟩
/-- A store into a field. -/
theorem PI.put {w0 w : World} {R : Nat} {q : Pm} {l : List Ev} (h : PI w0 w R q l) (i : Nat) (hi : i < 8) (x : Value) (q' : Pm) (e : ∀ tv, (pcs R q tv).set i x = pcs R q' tv) : PI w0 (w.setCell ⟨R, i, none⟩ x) R q' l := by
  obtain ⟨tv, a, b⟩ := h.ex
  exact ⟨⟨tv, e tv ▸ a.put i (by show i < 9; omega) x, b.set h.lt⟩, h.kept.set _ rfl _, h.lt, h.tab, h.ne⟩
theorem PI.cell {w0 w : World} {R : Nat} {q : Pm} {l : List Ev} (h : PI w0 w R q l) (i : Nat) {v : Value} (hv : ∀ tv, (pcs R q tv)[i]? = some v) : w.cell? ⟨R, i, none⟩ = some v := by
  obtain ⟨tv, a, b⟩ := h.ex
  exact a.cell i (hv tv)
theorem PI.free {w0 w : World} {R : Nat} {q : Pm} {l : List Ev} (h : PI w0 w R q l) (i : Nat) (hi : i < 9) : w.frozen? ⟨R, i, none⟩ = false := by
  obtain ⟨tv, a, b⟩ := h.ex
  exact a.free i hi
theorem mf_run (fn : Fn) (first cap : Array Value) (w : World) : (Instr.makeFunc fn first cap).run Tryd.prog w = .ok (.func fn first cap) w := rfl
theorem sf_run (a : Addr) (f : Fn) (x y : Array Value) (w : World) : (store a (.func f x y)).run Tryd.prog w = stored Tryd.prog w a (.func f x y) .plain := run_store _ w a _ _ rfl
abbrev rp (R : Nat) : Value := .pointer (some ⟨R, 0, none⟩)
set_option maxHeartbeats 1000000 in
theorem pend_ok (w0 w : World) (R : Nat) (q : Pm) (l : List Ev) (h : PI w0 w R q l) :
    Calls Tryd.prog 38 #[rp R] w fun e w' => e = .returned (.tuple #[]) ∧ PI w0 w' R q.over l := by
  have hmf := mf_run
  have hsf := sf_run
  have f5 := h.free 5 (by decide)
  have c5 := h.cell 5 (v := .bool q.wi) fun _ => rfl
  have h1 : Hid (PI w0 (w.setCell ⟨R, 5, none⟩ (.bool false)) R { q with wi := false } l) := h.put 5 (by decide) _ _ fun _ => rfl
  have f1 := h1.out.free 1 (by decide)
  have c1 := h1.out.cell 1 (v := nx R q.m) fun _ => rfl
  have h2 : Hid (PI w0 ((w.setCell ⟨R, 5, none⟩ (.bool false)).setCell ⟨R, 1, none⟩ (.func (.func 22) #[.pointer (some ⟨R, 0, none⟩)] #[])) R q.over l) := h1.out.put 1 (by decide) _ _ fun _ => rfl
  clear h h1
  go_enter Tryd.func38, Tryd.ntmps38
  go_wp2_with fail
  go_end0
  exact ⟨rfl, h2.out⟩
set_option maxHeartbeats 1000000 in
theorem pfail_ok (w0 w : World) (R : Nat) (q : Pm) (l : List Ev) (h : PI w0 w R q l) (c : Int) :
    Calls Tryd.prog 37 #[rp R, .int .i64 c] w fun e w' => e = .returned (.string (strL [])) ∧ PI w0 w' R (q.stop c) l := by
  have hmf := mf_run
  have hsf := sf_run
  have f7 := h.free 7 (by decide)
  have c7 := h.cell 7 (v := .int .i64 q.code) fun _ => rfl
  have h1 : Hid (PI w0 (w.setCell ⟨R, 7, none⟩ (.int .i64 c)) R { q with code := c } l) := h.put 7 (by decide) _ _ fun _ => rfl
  have f1 := h1.out.free 1 (by decide)
  have c1 := h1.out.cell 1 (v := nx R q.m) fun _ => rfl
  have h2 : Hid (PI w0 ((w.setCell ⟨R, 7, none⟩ (.int .i64 c)).setCell ⟨R, 1, none⟩ (.func (.func 50) #[.pointer (some ⟨R, 0, none⟩)] #[])) R (q.stop c) l) := h1.out.put 1 (by decide) _ _ fun _ => rfl
  clear h h1
  go_enter Tryd.func37, Tryd.ntmps37
  go_wp2_with fail
  go_ret
  exact ⟨rfl, h2.out⟩
theorem pnothing_ok (w0 w : World) (R : Nat) (q : Pm) (l : List Ev) (h : PI w0 w R q l) (s : ByteArray) :
    Calls Tryd.prog 50 #[rp R, .string s] w fun e w' => e = .returned (.string (strL [])) ∧ PI w0 w' R q l := by
  have h1 := Lib.hid h
  clear h
  go_enter Tryd.func50, Tryd.ntmps50
  go_wp2_with fail
  go_ret
  exact ⟨rfl, h1.out⟩
/-- The front of bytes, and what stands behind it. -/
theorem cut_front (t : L) (n : Nat) : (strL t).extract 0 n = strL (t.take n) := toL_inj (by rw [toL_strL, toL_cut, toL_strL]; simp)
theorem cut_behind (t : L) (n : Nat) : (strL t).extract n (strL t).size = strL (t.drop n) := toL_inj (by rw [toL_strL, toL_extract, toL_strL])
set_option maxHeartbeats 2000000 in
theorem pcut_ok (w0 w : World) (R : Nat) (q : Pm) (l : List Ev) (t : L) (h : PI w0 w R q l) (hl : q.left ≤ 4611686018427387903) (ht : t.length ≤ 4611686018427387903) :
    Calls Tryd.prog 53 #[rp R, .string (strL t)] w fun e w' => e = .returned (.tuple #[.string (strL (t.take (min q.left t.length))), .string (strL (t.drop (min q.left t.length)))]) ∧ PI w0 w' R (q.cut t.length) l := by
  obtain ⟨s, hs⟩ : ∃ s, s = strL t := ⟨_, rfl⟩
  have zs : s.size = t.length := by rw [hs, strL_size]
  have hsz : s.size ≤ 4611686018427387903 := by omega
  have c4 := h.cell 4 (v := .int .i64 (q.left : Int)) fun _ => rfl
  have f4 := h.free 4 (by decide)
  by_cases hn : q.left ≤ t.length
  · have hns : q.left ≤ s.size := by omega
    have e1 : s.extract 0 q.left = strL (t.take q.left) := by rw [hs]; exact cut_front t _
    have e2 : s.extract q.left s.size = strL (t.drop q.left) := by rw [hs]; exact cut_behind t _
    have fold2 : (if s.size < q.left then (s.size : Int) else (q.left : Int)) = (q.left : Int) := by split <;> omega
    have sub : (q.left : Int) - (q.left : Int) = 0 := by omega
    have h1 : Hid (PI w0 (w.setCell ⟨R, 4, none⟩ (.int .i64 0)) R { q with left := 0 } l) := h.put 4 (by decide) _ _ fun _ => rfl
    have d4 := h1.out.cell 4 (v := .int .i64 0) fun _ => rfl
    have EN : Hid (∀ _ : Unit, _) := fun _ => pend_ok w0 _ R _ l h1.out
    rw [Nat.min_eq_left hn, cut_done hn, ← hs, ← e1, ← e2]
    replace hs : Hid _ := hs
    clear e1 e2 zs h ht hn h1
    generalize q.left = n at *
    go_enter Tryd.func53, Tryd.ntmps53
    go_wp2_with fail
    refine (EN.out ()).mono ?_
    rintro e w2 ⟨rfl, n2⟩
    have N2 : Hid (PI w0 w2.drew R { q with left := 0, wi := false, m := 1 } l) := n2.drew
    clear n2 EN d4
    go_wp2_with fail
    go_region
    all_goals
      go_wp2_with fail
      go_ret2
      exact ⟨rfl, N2.out⟩
  · have e1 : s = strL (t.take t.length) := by rw [hs, List.take_of_length_le (Nat.le_refl _)]
    have e2 : ByteArray.empty = strL (t.drop t.length) := by rw [List.drop_length]; rfl
    have fold2 : (if s.size < q.left then (s.size : Int) else (q.left : Int)) = (s.size : Int) := by split <;> omega
    have hlt : s.size < q.left := by omega
    obtain ⟨m, hm⟩ : ∃ m, m = q.left - t.length := ⟨_, rfl⟩
    have sub : (q.left : Int) - (s.size : Int) = (m : Int) := by omega
    have hm0 : ((m : Int) == 0) = false := by
      have : m ≠ 0 := by omega
      simpa using this
    have h1 : Hid (PI w0 (w.setCell ⟨R, 4, none⟩ (.int .i64 (m : Int))) R { q with left := m } l) := h.put 4 (by decide) _ _ fun _ => rfl
    have d4 := h1.out.cell 4 (v := .int .i64 (m : Int)) fun _ => rfl
    have N1 : Hid (PI w0 (w.setCell ⟨R, 4, none⟩ (.int .i64 (m : Int))).drew R { q with left := m } l) := h1.out.drew
    rw [Nat.min_eq_right (by omega), cut_more (by omega), ← e1, ← e2, ← hs, ← hm]
    replace hs : Hid _ := hs
    replace hm : Hid _ := hm
    clear e1 e2 zs h ht hn h1
    generalize q.left = n at *
    go_enter Tryd.func53, Tryd.ntmps53
    go_wp2_with fail
    go_region
    all_goals
      go_wp2_with fail
      go_ret2
      exact ⟨rfl, N1.out⟩
end Go.Proofs.YtnngdlleicjegaaDoor
