/-
  What the program's own takeCapsules, New, Feed and End answer. The table of sizes lies as the row's list gives it; no condition but the form's own reach.
-/
import Derived.Test.YtihkbakbciejiaaDoorCpPgA
import Derived.Test.YtihkbakbciejiaaDoorShelf
namespace Go.Proofs.YtihkbakbciejiaaDoor
set_option maxRecDepth 100000
open Go.RowKit

theorem info_cpp : ∃ i, Tryd.prog.info? 31 = some i ∧ i.zero = some (.agg #[.int .i64 0, .string ⟨#[]⟩]) ∧ i.size = 2 ∧ i.bytes = 24 := by
  have h : (Tryd.prog.info? 31).map (fun i => (i.zero, i.size, i.bytes)) = some (some (.agg #[.int .i64 0, .string ⟨#[]⟩]), 2, 24) := by kernel_rfl
  obtain ⟨i, hi, e⟩ := Option.map_eq_some_iff.1 h
  injection e with e1 e2
  injection e2 with e2 e3
  exact ⟨i, hi, e1, e2, e3⟩
/-- Capsules that the call itself has made. -/
structure CpP (base : Nat) (w : World) (v : Value) (l : List Ev) : Prop where
  row : w.ownsRow base 31 2 v l.length (evv l)
theorem CpP.nil (base : Nat) (w : World) : CpP base w (.slice none 0 0) [] := ⟨World.ownsRow_nil _ _ _ _⟩
theorem CpP.of {base : Nat} {w w' : World} {v : Value} {l : List Ev} (h : CpP base w v l) (b : ∀ k, v.ownBlock = some k → w'.heap[k]? = w.heap[k]?) : CpP base w' v l := ⟨rows_blockC h.row b⟩
theorem CpP.keep {base : Nat} {w w' : World} {v : Value} {l : List Ev} (h : CpP base w v l) (b : Below w.heap.size w w') : CpP base w' v l := h.of fun k hk => b.block k (h.row.lt k hk).2
theorem CpP.slice {base : Nat} {w : World} {v : Value} {l : List Ev} (h : CpP base w v l) : ∃ a c, v = .slice a l.length c := by
  rcases h.row.2 with ⟨rfl, e⟩ | ⟨g, cap, cur, rfl, -⟩
  · exact ⟨_, _, by rw [e]⟩
  · exact ⟨_, _, rfl⟩
theorem CpP.set {base R j : Nat} {w : World} {v x : Value} {l : List Ev} (h : CpP base w v l) (hR : R < base) : CpP base (w.setCell ⟨R, j, none⟩ x) v l := h.of fun k hk => Below.heap_setCell w ⟨R, j, none⟩ x k (fun c => by
  have h1 := (h.row.lt k hk).1
  have h2 : k = R := c
  omega)
theorem CpP.app {base : Nat} {w : World} {v : Value} {l : List Ev} (h : CpP base w v l) (hb : base ≤ w.heap.size) (hl : l.length < 1000000000) (k : Nat) (d : L) :
    ∃ v' w', (∀ z, (builtin .append #[33, 33] 33 z #[v, .slice (some ⟨w.heap.size, 0, none⟩) 1 1]).run Tryd.prog (w.alloc (.cells #[.int .i64 (k : Int), .string (strL d)] 31)) = .ok (.value v') w') ∧ CpP base w' v' (l ++ [(k, d)]) ∧ Kept (fun x => base ≤ x) w w' := by
  obtain ⟨i0, hi0, hz0, hz1, hz2⟩ := info_cpp
  have bA : Below w.heap.size w (w.alloc (.cells #[.int .i64 (k : Int), .string (strL d)] 31)) := (Below.refl _ _).alloc (Nat.le_refl _) _
  have h2 := h.keep bA
  obtain ⟨v', w', hr, h3, h4, -, -⟩ := run_append_own_at (P := Tryd.prog) (w.alloc (.cells #[.int .i64 (k : Int), .string (strL d)] 31)) base 33 33 31 i0 (.agg #[.int .i64 0, .string ⟨#[]⟩]) 2 24 Tryd.underlying33 hi0 hz0 hz1 hz2 rfl (by decide) v l.length (evv l) h2.row ⟨w.heap.size, 0, none⟩ 1 1 [.int .i64 (k : Int), .string (strL d)] rfl (fun j u hj => by
    rw [Addr.add_lit]
    match j, hj with
    | 0, hj => injection hj with hj; subst hj; exact World.cell?_alloc_new _ _ _ 0
    | 1, hj => injection hj with hj; subst hj; exact World.cell?_alloc_new _ _ _ 1
    | j + 2, hj => cases hj) (fun x hx => by simp only [List.mem_cons, List.not_mem_nil, or_false] at hx; rcases hx with rfl | rfl <;> rfl) (by unfold maxLen; omega) (by omega) (Nat.le_trans hb bA.size)
  have kp : Kept (fun x => base ≤ x) w w' := (Kept.of _ bA).grown h4 (fun k hk _ => (h2.row.lt k hk).1)
  exact ⟨v', w', fun z => by simp only [builtin, Sem.run_bind, Sem.run_pure, hr, Result.andThen_ok], ⟨by rw [evv_snoc, List.length_append]; exact h3⟩, kp⟩
/-- The capsules so far. -/
structure TsI (w wr : World) (X : Cr × List Ev) (m g : Nat) (s : ByteArray) (l : List Ev) (lv : Value) : Prop where
  row : CpP w.heap.size wr lv l
  bel : Below w.heap.size w wr
  eq : X = ((Cr.run g ⟨toL s, false⟩).1, l ++ (Cr.run g ⟨toL s, false⟩).2)
  lt : s.size < g
  few : l.length + g ≤ m
/-- What is left of bytes. -/
def RestC (X : Cr) (r : ByteArray) : Prop := if X.bad = true then r = ⟨#[]⟩ else toL r = X.s
set_option maxHeartbeats 8000000 in
theorem pcaps_ok (s0 : ByteArray) (w : World) (t : VTab w) (hs : s0.size < 1000000) :
    Calls Tryd.prog 37 #[.string s0] w fun e w' => ∃ v r, e = .returned (.tuple #[v, .string r, .int .i64 (cErr (Cr.go ⟨toL s0, false⟩).1)]) ∧ RestC (Cr.go ⟨toL s0, false⟩).1 r ∧ r.size ≤ s0.size ∧ CpP w.heap.size w' v (Cr.go ⟨toL s0, false⟩).2 ∧ Below w.heap.size w w' := by
  obtain ⟨X, hX⟩ : ∃ X, X = Cr.go ⟨toL s0, false⟩ := ⟨_, rfl⟩
  rw [← hX]
  have P0 : Hid (TsI w w X (s0.size + 1) (s0.size + 1) s0 [] (.slice none 0 0)) := ⟨CpP.nil _ _, Below.refl _ _, by rw [hX]; unfold Cr.go; rw [List.nil_append]; simp only [toL_len], Nat.lt_succ_self _, by simp⟩
  replace hX := Lib.hid hX
  have T0 := Lib.hid t
  clear t
  go_enter Tryd.func37, Tryd.ntmps37
  go_wp2_with fail
  go_loopg [0, 5] (s0.size + 1) (fun g sv lv wr => ∃ (s : ByteArray) (l : List Ev), sv = .string s ∧ g ≤ s0.size + 1 ∧ s.size ≤ s0.size ∧ Hid (TsI w wr X (s0.size + 1) g s l lv))
  case atStart => exact ⟨s0, [], rfl, Nat.le_refl _, Nat.le_refl _, P0⟩
  case round =>
    obtain ⟨s, l, rfl, hg, hss, I⟩ := hrel
    clear P0
    have hlt := I.out.lt
    have few := I.out.few
    obtain ⟨g1, rfl⟩ : ∃ g1, gk = g1 + 1 := ⟨gk - 1, by omega⟩
    have EQ := I.out.eq
    rw [Cr.run_succ, if_neg (by simp)] at EQ
    obtain ⟨av, cv, hu⟩ := I.out.row.slice
    subst hu
    have TC : Hid (∀ _ : Unit, _) := fun _ => pcap_ok s wr (T0.out.below I.out.bel) (by omega)
    have RW := Lib.hid I.out.row
    have ZB := Lib.hid I.out.bel
    replace EQ := Lib.hid EQ
    clear I
    go_wp2_with fail
    refine (TC.out ()).mono ?_
    rintro e w2 ⟨hA, b2⟩
    have R2 := RW.out.keep b2
    have Z2 := ZB.out.trans (b2.mono ZB.out.size)
    clear TC RW ZB b2
    rcases hA with ⟨k, d, r, hk, hrs, rfl⟩ | ⟨x, hk, hx, rfl⟩
    · have EQ2 := EQ.out
      rw [step_ok hk] at EQ2
      simp only at EQ2
      have wbB : Below w2.heap.size w2 (w2.alloc (.cells #[.int .i64 (k : Int), .string d] 31)) := (Below.refl _ _).alloc (Nat.le_refl _) _
      have LB := Lies.new w2 [.int .i64 (k : Int), .string d] 31
      obtain ⟨wb, hwb⟩ : ∃ wb, wb = w2.alloc (.cells #[.int .i64 (k : Int), .string d] 31) := ⟨_, rfl⟩
      rw [← hwb] at wbB
      change Lies (w2.alloc (.cells #[.int .i64 (k : Int), .string d] 31)) w2.heap.size [.int .i64 (k : Int), .string d] at LB
      rw [← hwb] at LB
      have c0 := LB.cell 0 (v := .int .i64 (k : Int)) rfl
      have c1 := LB.cell 1 (v := .string d) rfl
      obtain ⟨v', w3, hap, row, kp⟩ := (R2.keep wbB).app (Nat.le_trans Z2.size wbB.size) (by omega) k (toL d)
      rw [strL_toL] at hap
      have NX : Hid (TsI w w3 X (s0.size + 1) g1 r (l ++ [(k, toL d)]) v') := ⟨row, (Z2.trans (wbB.mono Z2.size)).trans (kp.below (Nat.le_trans Z2.size wbB.size) fun _ h => h), by rw [EQ2]; simp, by omega, by rw [List.length_append]; simp; omega⟩
      obtain ⟨a3, c3, rfl⟩ : ∃ a3 c3, v' = .slice a3 (l.length + 1) c3 := by
        obtain ⟨a3, c3, hv⟩ := row.slice
        rw [List.length_append] at hv
        exact ⟨a3, c3, hv⟩
      replace hap := Lib.hid hap
      have hr0 : r.size ≤ s0.size := by omega
      have hg1 : g1 ≤ s0.size + 1 := by omega
      replace few := Lib.hid few
      clear EQ EQ2 hk R2 Z2 wbB row kp hlt hrs LB
      go_upto_region 3 with fail
      rw [← hwb]
      clear hwb
      generalize w2.heap.size = KB at *
      go_wp2_with (refine obB2L _ rfl .append _ _ 33 33 rfl _ _ rfl rfl hap.out ?_)
      go_roundg g1
      case measure => omega
      case rel => exact ⟨r, _, rfl, hg1, hr0, NX⟩
    · have bA : Below w2.heap.size w2 (w2.alloc (.cells #[.int .i64 0, .string ⟨#[]⟩] 31)) := (Below.refl _ _).alloc (Nat.le_refl _) _
      have Z3 := Lib.hid (Z2.trans (bA.mono Z2.size))
      have R3 := Lib.hid (R2.keep bA)
      replace few := Lib.hid few
      rcases hx with rfl | rfl
      · have e : X = (⟨toL s, false⟩, l) := by rw [EQ.out, step_short hk]; simp
        have FIN : Hid (∀ w', CpP w.heap.size w' (.slice av l.length cv) l → Below w.heap.size w w' → ∃ v r, Ending.returned (.tuple #[.slice av l.length cv, .string s, .int .i64 0]) = .returned (.tuple #[v, .string r, .int .i64 (cErr X.1)]) ∧ RestC X.1 r ∧ r.size ≤ s0.size ∧ CpP w.heap.size w' v X.2 ∧ Below w.heap.size w w') := fun w' r b => by
          rw [e]
          exact ⟨_, _, rfl, by unfold RestC; simp, hss, r, b⟩
        clear EQ hk e R2 Z2 bA
        go_wp2_with fail
        go_ret3
        exact FIN.out _ R3.out Z3.out
      · have e : X = (⟨toL s, true⟩, l) := by rw [EQ.out, step_great hk]; simp [Cr.run_bad]
        have FIN : Hid (∀ w', CpP w.heap.size w' (.slice av l.length cv) l → Below w.heap.size w w' → ∃ v r, Ending.returned (.tuple #[.slice av l.length cv, .string ⟨#[]⟩, .int .i64 8]) = .returned (.tuple #[v, .string r, .int .i64 (cErr X.1)]) ∧ RestC X.1 r ∧ r.size ≤ s0.size ∧ CpP w.heap.size w' v X.2 ∧ Below w.heap.size w w') := fun w' r b => by
          rw [e]
          exact ⟨_, _, rfl, by unfold RestC; simp, Nat.zero_le _, r, b⟩
        clear EQ hk e R2 Z2 bA
        go_wp2_with fail
        go_ret3
        exact FIN.out _ R3.out Z3.out
theorem pclone_ok (s : ByteArray) (w : World) (hs : s.size ≤ 281474976710656) :
    Calls Tryd.prog 38 #[.string s] w fun e w' => e = .returned (.string s) ∧ Below w.heap.size w w' := by
  have C := Lib.hid (Tryd.stringslite_Clone s w hs)
  go_enter Tryd.func38, Tryd.ntmps38
  go_wp2_with fail
  refine C.out.mono ?_
  rintro e w1 ⟨rfl, b1⟩
  have B1 := Lib.hid b1
  clear b1 C
  go_wp2_with fail
  go_ret
  exact ⟨rfl, B1.out⟩
/-- The program's reader in memory. -/
def PC (w : World) (R : Nat) (r : Cr) : Prop := ∃ s : ByteArray, (r.bad = false → toL s = r.s) ∧ Lies w R [.string s, .bool r.bad] ∧ 0 ≠ R
theorem PC.lt {w : World} {R : Nat} {r : Cr} (h : PC w R r) : R < w.heap.size := by
  obtain ⟨s, -, l, -⟩ := h
  exact l.lt (by show 0 < 2; decide)
theorem PC.of {w w' : World} {R : Nat} {r : Cr} (h : PC w R r) (e : w'.heap[R]? = w.heap[R]?) : PC w' R r := by
  obtain ⟨s, hs, l, n⟩ := h
  exact ⟨s, hs, l.of_block e, n⟩
theorem PC.keep {w w' : World} {R : Nat} {r : Cr} (h : PC w R r) (b : Below w.heap.size w w') : PC w' R r := h.of (b.block R h.lt)
theorem VTab.kept {w w' : World} {R : Nat} {r : Cr} (t : VTab w) (h : PC w R r) (k : Kept (fun j => j = R) w w') : VTab w' := by
  obtain ⟨s, hs, l, n⟩ := h
  have e := k.block _ t.pos fun c => n c
  exact ⟨Nat.lt_of_lt_of_le t.pos k.size, (World.cell?_of_block e).trans t.c0, (World.cell?_of_block e).trans t.c1, (World.cell?_of_block e).trans t.c2, (World.cell?_of_block e).trans t.c3⟩
theorem pnew_ok (w : World) (t : VTab w) : Calls Tryd.prog 9 #[] w fun e w' => e = .returned (.pointer (some ⟨w.heap.size, 0, none⟩)) ∧ PC w' w.heap.size ⟨[], false⟩ ∧ Below w.heap.size w w' := by
  have P : Hid (PC (w.alloc (.cells #[.string ⟨#[]⟩, .bool false] 83)) w.heap.size ⟨[], false⟩) := ⟨⟨#[]⟩, fun _ => rfl, Lies.new w [.string ⟨#[]⟩, .bool false] 83, Nat.ne_of_lt t.pos⟩
  have B : Hid (Below w.heap.size w (w.alloc (.cells #[.string ⟨#[]⟩, .bool false] 83))) := (Below.refl _ _).alloc (Nat.le_refl _) _
  clear t
  go_enter Tryd.func9, Tryd.ntmps9
  go_wp2_with fail
  go_ret
  exact ⟨rfl, P.out, B.out⟩
set_option maxHeartbeats 4000000 in
theorem pfeed_ok (w : World) (R : Nat) (r : Cr) (t : ByteArray) (tb : VTab w) (h : PC w R r) (hz : r.bad = false → r.s.length + t.size < 1000000) :
    Calls Tryd.prog 12 #[.pointer (some ⟨R, 0, none⟩), .string t] w fun e w' => ∃ v, e = .returned (.tuple #[v, .int .i64 (cErr (r.feed (toL t)).1)]) ∧ PC w' R (r.feed (toL t)).1 ∧ CpP w.heap.size w' v (r.feed (toL t)).2 ∧ Kept (fun k => k = R) w w' := by
  have hR := h.lt
  obtain ⟨s, hs, h, ne⟩ := h
  obtain ⟨rs, bad⟩ := r
  simp only at hs h hz
  have c1 := h.cell 1 (v := .bool bad) rfl
  unfold Cr.feed
  cases bad with
  | true =>
    have Z := Lib.hid h
    replace hs := Lib.hid hs
    replace ne := Lib.hid ne
    clear h tb hz
    go_enter Tryd.func12, Tryd.ntmps12
    go_wp2_with fail
    go_ret2
    exact ⟨_, rfl, ⟨s, hs.out, Z.out, ne.out⟩, CpP.nil _ _, Kept.refl _ _⟩
  | false =>
    simp only [Bool.false_eq_true, if_false]
    replace hs := hs rfl
    replace hz := hz rfl
    have c0 := h.cell 0 (v := .string s) rfl
    have zs : s.size = rs.length := by rw [← toL_len, hs]
    have m1 : ¬ (9223372036854775807 < s.size + t.size) := by omega
    have hmore : (Cr.mk rs false).more (toL t) = ⟨toL (s ++ t), false⟩ := by
      unfold Cr.more
      rw [toL_append, hs]
    rw [hmore]
    have hsz : (s ++ t).size < 1000000 := by rw [ByteArray.size_append]; omega
    have TC := Lib.hid (pcaps_ok (s ++ t) w tb hsz)
    generalize Cr.go ⟨toL (s ++ t), false⟩ = X at *
    obtain ⟨⟨xs, xb⟩, xe⟩ := X
    have L0 := Lib.hid h
    replace ne := Lib.hid ne
    clear h hmore zs hs hz tb
    cases xb with
    | false =>
      have ce : cErr ⟨xs, false⟩ = 0 := rfl
      simp only [ce] at TC ⊢
      go_enter Tryd.func12, Tryd.ntmps12
      go_wp2_with fail
      generalize s ++ t = S0 at *
      refine TC.out.mono ?_
      rintro e w1 ⟨v, r, rfl, hr, hrz, row, b1⟩
      have L1 := Lib.hid (L0.out.keep (by show 0 < 2; decide) b1)
      have d1 := L1.out.cell 1 (v := .bool false) rfl
      have f1 := L1.out.free 1 (by show 1 < 2; decide)
      have L2 : Hid (Lies (w1.setCell ⟨R, 1, none⟩ (.bool false)) R [.string s, .bool false]) := L1.out.put 1 (by show 1 < 2; decide) (.bool false)
      have K2 : Hid (Kept (fun k => k = R) w (w1.setCell ⟨R, 1, none⟩ (.bool false))) := Kept.set (F := fun k => k = R) (Kept.of _ b1) ⟨R, 1, none⟩ rfl _
      have W2 : Hid (CpP w.heap.size (w1.setCell ⟨R, 1, none⟩ (.bool false)) v xe) := row.set hR
      have CL := Lib.hid (pclone_ok r (w1.setCell ⟨R, 1, none⟩ (.bool false)) (by omega))
      obtain ⟨av, cv, hu⟩ := row.slice
      subst hu
      replace hr := Lib.hid hr
      replace hrz := Lib.hid hrz
      clear TC row b1 L1 L0
      go_wp2_with fail
      refine CL.out.mono ?_
      rintro e w2 ⟨rfl, b2⟩
      have L3 := Lib.hid (L2.out.keep (by show 0 < 2; decide) b2)
      have d3 := L3.out.cell 0 (v := .string s) rfl
      have f3 := L3.out.free 0 (by show 0 < 2; decide)
      have L4 : Hid (Lies (w2.setCell ⟨R, 0, none⟩ (.string r)) R [.string r, .bool false]) := L3.out.put 0 (by show 0 < 2; decide) (.string r)
      have K4 : Hid (Kept (fun k => k = R) w (w2.setCell ⟨R, 0, none⟩ (.string r))) := Kept.set (F := fun k => k = R) (K2.out.add b2) ⟨R, 0, none⟩ rfl _
      have W4 : Hid (CpP w.heap.size (w2.setCell ⟨R, 0, none⟩ (.string r)) (.slice av xe.length cv) xe) := (W2.out.keep b2).set hR
      clear CL b2 L2 K2 W2 L3
      go_wp2_with fail
      go_ret2
      exact ⟨_, rfl, ⟨r, fun _ => hr.out, L4.out, ne.out⟩, W4.out, K4.out⟩
    | true =>
      have ce : cErr ⟨xs, true⟩ = 8 := rfl
      simp only [ce] at TC ⊢
      go_enter Tryd.func12, Tryd.ntmps12
      go_wp2_with fail
      generalize s ++ t = S0 at *
      refine TC.out.mono ?_
      rintro e w1 ⟨v, r, rfl, hr, hrz, row, b1⟩
      have L1 := Lib.hid (L0.out.keep (by show 0 < 2; decide) b1)
      have d1 := L1.out.cell 1 (v := .bool false) rfl
      have f1 := L1.out.free 1 (by show 1 < 2; decide)
      have L2 : Hid (Lies (w1.setCell ⟨R, 1, none⟩ (.bool true)) R [.string s, .bool true]) := L1.out.put 1 (by show 1 < 2; decide) (.bool true)
      have K2 : Hid (Kept (fun k => k = R) w (w1.setCell ⟨R, 1, none⟩ (.bool true))) := Kept.set (F := fun k => k = R) (Kept.of _ b1) ⟨R, 1, none⟩ rfl _
      have W2 : Hid (CpP w.heap.size (w1.setCell ⟨R, 1, none⟩ (.bool true)) v xe) := row.set hR
      have CL := Lib.hid (pclone_ok r (w1.setCell ⟨R, 1, none⟩ (.bool true)) (by omega))
      obtain ⟨av, cv, hu⟩ := row.slice
      subst hu
      replace hr := Lib.hid hr
      replace hrz := Lib.hid hrz
      clear TC row b1 L1 L0
      go_wp2_with fail
      refine CL.out.mono ?_
      rintro e w2 ⟨rfl, b2⟩
      have L3 := Lib.hid (L2.out.keep (by show 0 < 2; decide) b2)
      have d3 := L3.out.cell 0 (v := .string s) rfl
      have f3 := L3.out.free 0 (by show 0 < 2; decide)
      have L4 : Hid (Lies (w2.setCell ⟨R, 0, none⟩ (.string r)) R [.string r, .bool true]) := L3.out.put 0 (by show 0 < 2; decide) (.string r)
      have K4 : Hid (Kept (fun k => k = R) w (w2.setCell ⟨R, 0, none⟩ (.string r))) := Kept.set (F := fun k => k = R) (K2.out.add b2) ⟨R, 0, none⟩ rfl _
      have W4 : Hid (CpP w.heap.size (w2.setCell ⟨R, 0, none⟩ (.string r)) (.slice av xe.length cv) xe) := (W2.out.keep b2).set hR
      clear CL b2 L2 K2 W2 L3
      go_wp2_with fail
      go_ret2
      exact ⟨_, rfl, ⟨r, fun q => (by cases q), L4.out, ne.out⟩, W4.out, K4.out⟩
/-- End. -/
def Cr.fin (r : Cr) : Bool := !r.bad && decide (r.s = [])
theorem pend_ok (w : World) (R : Nat) (r : Cr) (h : PC w R r) : Calls Tryd.prog 15 #[.pointer (some ⟨R, 0, none⟩)] w fun e w' => e = .returned (.bool r.fin) ∧ w = w' := by
  obtain ⟨s, hs, h, -⟩ := h
  unfold Cr.fin
  have c0 := h.cell 0 (v := .string s) rfl
  have c1 := h.cell 1 (v := .bool r.bad) rfl
  clear h
  cases hb : r.bad with
  | true =>
    rw [hb] at c1
    clear hs
    go_enter Tryd.func15, Tryd.ntmps15
    go_wp2
    go_ret
    exact ⟨rfl, rfl⟩
  | false =>
    rw [hb] at c1
    replace hs := hs hb
    by_cases h0 : toL s = []
    · have e : s = ⟨#[]⟩ := toL_inj (by rw [h0]; rfl)
      subst e
      rw [decide_eq_true (by rw [← hs]; rfl)]
      clear hs h0
      go_enter Tryd.func15, Tryd.ntmps15
      go_wp2
      go_ret
      exact ⟨rfl, rfl⟩
    · have n0 : s.toList.isEmpty = false := by
        rw [toL_empC]
        cases hx : toL s with
        | nil => exact absurd hx h0
        | cons _ _ => rfl
      rw [decide_eq_false (by rw [← hs]; exact h0)]
      clear hs h0
      go_enter Tryd.func15, Tryd.ntmps15
      go_wp2
      go_ret
      exact ⟨rfl, rfl⟩
end Go.Proofs.YtihkbakbciejiaaDoor
