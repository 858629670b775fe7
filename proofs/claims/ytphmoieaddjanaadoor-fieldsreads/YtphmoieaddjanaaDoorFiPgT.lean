/-
  The program's table as the row's list gives it; what Entry and Check answer. No other condition.
-/
import Derived.Test.YtphmoieaddjanaaDoorFiPgC
import Derived.Test.YtphmoieaddjanaaDoorFiFace
import Derived.Test.YtphmoieaddjanaaDoorTxPg
namespace Go.Proofs.YtphmoieaddjanaaDoor
set_option maxRecDepth 100000
open Go.RowKit Go.Sort

/-- The program's tables. -/
structure T14 (w : World) : Prop where
  v : VTab w
  t : w.rangeAt 0 0 (fCells tab)
theorem T14.cells {w : World} (h : T14 w) (k : Nat) (hk : k < 20) : w.cell? ⟨0, 2 * k, none⟩ = some (.string (strL (tab.getD k nF).1)) ∧ w.cell? ⟨0, 2 * k + 1, none⟩ = some (.string (strL (tab.getD k nF).2)) := by
  obtain ⟨c1, c2⟩ := fCells_get tab k hk
  have h1 := h.t _ _ c1
  have h2 := h.t _ _ c2
  rw [Nat.zero_add] at h1 h2
  exact ⟨h1, h2⟩
theorem T14.lt {w : World} (h : T14 w) : 0 < w.heap.size := World.block_lt_of_cell? w _ (h.cells 0 (by decide)).1
theorem T14.keep {w w' : World} (h : T14 w) (b : Below w.heap.size w w') : T14 w' :=
  ⟨h.v.below b, fun j v hv => (b.cell (p := ⟨0, 0 + j, none⟩) h.lt).trans (h.t j v hv)⟩
theorem at_tab (i : Nat) (w : World) (h : i < 20) (z : Int) (hz : z = i) (p : Nat) (hp : p = 2 * i) :
    (Instr.indexAt 53 (.pointer (some ⟨0, 0, none⟩)) (.int .i64 z)).run Tryd.prog w = .ok (.pointer (some ⟨0, p, none⟩)) w := by
  subst hz hp
  simp [Instr.indexAt, Instr.sureAddr, run_underlying Tryd.underlying53, asIntOf, Tryd.sizeOf34, Addr.add_mid, Nat.mul_comm]
  omega
theorem ex_tab (i : Nat) (h : i < 20) : List.take 2 ((fCells tab).drop (i * 2)) = [.string (strL (tab.getD i nF).1), .string (strL (tab.getD i nF).2)] := by
  obtain ⟨c1, c2⟩ := fCells_get tab i h
  have hl : (fCells tab).length = 40 := by rw [fCells_len]; rfl
  have d : (fCells tab).drop (i * 2) = (fCells tab)[i * 2]'(by omega) :: (fCells tab)[i * 2 + 1]'(by omega) :: (fCells tab).drop (i * 2 + 1 + 1) := by
    rw [List.drop_eq_getElem_cons (by omega), List.drop_eq_getElem_cons (i := i * 2 + 1) (by omega)]
  rw [d]
  rw [List.getElem?_eq_getElem (by omega)] at c1 c2
  injection c1 with c1
  injection c2 with c2
  simp only [Nat.mul_comm 2 i] at c1 c2
  rw [c1, c2]
  rfl
/-- An entry of the table as a value. -/
theorem ix_tab (i : Nat) (w : World) (h : i < 20) (z : Int) (hz : z = i) :
    (Instr.index 53 (.agg (fCells tab).toArray) (.int .i64 z)).run Tryd.prog w = .ok (.agg #[.string (strL (tab.getD i nF).1), .string (strL (tab.getD i nF).2)]) w := by
  subst hz
  have ex := ex_tab i h
  generalize strL (tab.getD i nF).1 = x1 at *
  generalize strL (tab.getD i nF).2 = x2 at *
  have s : (sizeOf 34).run Tryd.prog w = .ok 2 w := Tryd.sizeOf34 w
  simp [Instr.index, run_underlying Tryd.underlying53, asIntOf, part, s, h, ex]
set_option maxHeartbeats 4000000 in
theorem entry_ok (w : World) (i : Int) (t : T14 w) (hi : -9223372036854775808 ≤ i ∧ i ≤ 9223372036854775807) : Calls Tryd.prog 17 #[.int .i64 i] w fun e w' => e = .returned (entV i) ∧ Below w.heap.size w w' := by
  obtain ⟨w0, hw0⟩ : ∃ w0, w0 = w.alloc (.cells #[.string ⟨#[]⟩, .string ⟨#[]⟩] 34) := ⟨_, rfl⟩
  have B0 : Below w.heap.size w w0 := by rw [hw0]; exact (Below.refl _ _).alloc (Nat.le_refl _) _
  have L0 : Lies w0 w.heap.size [.string ⟨#[]⟩, .string ⟨#[]⟩] := by rw [hw0]; exact Lies.new w _ _
  have t0 := t.keep B0
  obtain ⟨K, hK⟩ : ∃ K, K = w.heap.size := ⟨_, rfl⟩
  rw [← hK] at L0 B0 ⊢
  have c0 := L0.cell 0 (v := .string ⟨#[]⟩) rfl
  have c1 := L0.cell 1 (v := .string ⟨#[]⟩) rfl
  have f0 := L0.free 0 (by decide)
  have f1 := L0.free 1 (by decide)
  have SC : ∀ a b, Below K w ((w0.setCell ⟨K, 0, none⟩ a).setCell ⟨K, 1, none⟩ b) := fun a b => (B0.setCell (p := ⟨K, 0, none⟩) (Nat.le_refl _) a).setCell (p := ⟨K, 1, none⟩) (Nat.le_refl _) b
  have PC : ∀ a b, Lies ((w0.setCell ⟨K, 0, none⟩ a).setCell ⟨K, 1, none⟩ b) K [a, b] := fun a b => (L0.put 0 (by decide) a).put 1 (by simp) b
  by_cases r : 0 ≤ i ∧ i < 20
  · obtain ⟨n, rfl⟩ : ∃ n : Nat, i = n := ⟨i.toNat, by omega⟩
    have hn : n < 20 := by omega
    have ev : entV (n : Int) = .tuple #[.agg #[.string (strL (tab.getD n nF).1), .string (strL (tab.getD n nF).2)], .bool true] := by unfold entV; rw [if_pos r, Int.toNat_natCast]; rfl
    rw [ev]
    obtain ⟨d0, d1⟩ := t0.cells n hn
    have ia := fun w' => at_tab n w' hn (n : Int) rfl (2 * n) rfl
    have z1 : decide ((n : Int) < 0) = false := decide_eq_false (by omega)
    have z2 : decide ((20 : Int) ≤ (n : Int)) = false := decide_eq_false (by omega)
    have z2' : decide (20 ≤ n) = false := decide_eq_false (by omega)
    generalize (tab.getD n nF).1 = x1 at *
    generalize (tab.getD n nF).2 = x2 at *
    have SZ := Lib.hid (SC (.string (strL x1)) (.string (strL x2)))
    have PZ := Lib.hid (PC (.string (strL x1)) (.string (strL x2)))
    clear SC PC ev r hi t t0 L0 B0
    go_enter Tryd.func17, Tryd.ntmps17
    go_upto_region 1 with fail
    rw [← hw0, ← hK]
    clear hw0
    replace hK := Lib.hid hK
    go_wp2_with fail
    generalize (w0.setCell ⟨K, 0, none⟩ (.string (strL x1))).setCell ⟨K, 1, none⟩ (.string (strL x2)) = wf at *
    have q0 := PZ.out.cell 0 (v := .string (strL x1)) rfl
    have q1 := PZ.out.cell 1 (v := .string (strL x2)) rfl
    exact bodyPost_ret (v := .tuple #[.agg #[.string (strL x1), .string (strL x2)], .bool true]) (by simp [results, Tryd.results17, go_sem, q0, q1]) rfl ⟨rfl, SZ.out⟩
  · have ev : entV i = .tuple #[.agg #[.string ⟨#[]⟩, .string ⟨#[]⟩], .bool false] := by unfold entV; rw [if_neg r]; rfl
    rw [ev]
    have SZ := Lib.hid (SC (.string ⟨#[]⟩) (.string ⟨#[]⟩))
    have PZ := Lib.hid (PC (.string ⟨#[]⟩) (.string ⟨#[]⟩))
    clear SC PC ev t t0 L0 B0
    by_cases z : i < 0
    · have z1 : decide (i < 0) = true := decide_eq_true z
      clear r hi
      go_enter Tryd.func17, Tryd.ntmps17
      go_upto_region 1 with fail
      rw [← hw0, ← hK]
      clear hw0
      replace hK := Lib.hid hK
      go_wp2_with fail
      generalize (w0.setCell ⟨K, 0, none⟩ (.string ⟨#[]⟩)).setCell ⟨K, 1, none⟩ (.string ⟨#[]⟩) = wf at *
      have q0 := PZ.out.cell 0 (v := .string ⟨#[]⟩) rfl
      have q1 := PZ.out.cell 1 (v := .string ⟨#[]⟩) rfl
      exact bodyPost_ret (v := .tuple #[.agg #[.string ⟨#[]⟩, .string ⟨#[]⟩], .bool false]) (by simp [results, Tryd.results17, go_sem, q0, q1]) rfl ⟨rfl, SZ.out⟩
    · have z1 : decide (i < 0) = false := decide_eq_false z
      have z2 : decide (20 ≤ i) = true := decide_eq_true (by omega)
      clear r hi
      go_enter Tryd.func17, Tryd.ntmps17
      go_upto_region 1 with fail
      rw [← hw0, ← hK]
      clear hw0
      replace hK := Lib.hid hK
      go_wp2_with fail
      generalize (w0.setCell ⟨K, 0, none⟩ (.string ⟨#[]⟩)).setCell ⟨K, 1, none⟩ (.string ⟨#[]⟩) = wf at *
      have q0 := PZ.out.cell 0 (v := .string ⟨#[]⟩) rfl
      have q1 := PZ.out.cell 1 (v := .string ⟨#[]⟩) rfl
      exact bodyPost_ret (v := .tuple #[.agg #[.string ⟨#[]⟩, .string ⟨#[]⟩], .bool false]) (by simp [results, Tryd.results17, go_sem, q0, q1]) rfl ⟨rfl, SZ.out⟩
end Go.Proofs.YtphmoieaddjanaaDoor
