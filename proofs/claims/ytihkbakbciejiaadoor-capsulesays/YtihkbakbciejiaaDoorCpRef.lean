/-
  What the document's own reader of capsules answers: Feed, End. No condition but the form's own reach.
-/
import Derived.Test.YtihkbakbciejiaaDoorCpLists
import Derived.Test.YtihkbakbciejiaaDoorCpGet
import Derived.Test.YtihkbakbciejiaaDoorObCells
import Derived.Test.YtihkbakbciejiaaDoorObRun
import Derived.Deep.LoopGhost
namespace Go.Proofs.YtihkbakbciejiaaDoor
set_option maxRecDepth 100000
open Go.RowKit

theorem rows_blockC {w w' : World} {base size n : Nat} {e : TypeId} {v : Value} {xs : List Value} (h : w.ownsRow base e size v n xs) (b : ∀ k, v.ownBlock = some k → w'.heap[k]? = w.heap[k]?) : w'.ownsRow base e size v n xs := by
  refine ⟨h.1, ?_⟩
  rcases h.2 with h | ⟨g, cap, cur, h1, h2, h3, h4⟩
  · exact .inl h
  · exact .inr ⟨g, cap, cur, h1, h2, (b g (by rw [h1]; rfl)).trans h3, h4⟩
theorem toL_empC (s : ByteArray) : s.toList.isEmpty = (toL s).isEmpty := by
  rw [ByteArray.toList_eq]
  rfl
theorem info_cap : ∃ i, Tryd.prog.info? 24 = some i ∧ i.zero = some (.agg #[.int .i64 0, .string ⟨#[]⟩]) ∧ i.size = 2 ∧ i.bytes = 24 := by
  have h : (Tryd.prog.info? 24).map (fun i => (i.zero, i.size, i.bytes)) = some (some (.agg #[.int .i64 0, .string ⟨#[]⟩]), 2, 24) := by kernel_rfl
  obtain ⟨i, hi, e⟩ := Option.map_eq_some_iff.1 h
  injection e with e1 e2
  injection e2 with e2 e3
  exact ⟨i, hi, e1, e2, e3⟩
/-- Capsules as cells. -/
def evv (l : List Ev) : List Value := l.flatMap fun e => [.int .i64 (e.1 : Int), .string (strL e.2)]
theorem evv_snoc (l : List Ev) (k : Nat) (d : L) : evv (l ++ [(k, d)]) = evv l ++ [.int .i64 (k : Int), .string (strL d)] := by simp [evv, List.flatMap_append]
/-- Capsules that the call itself has made. -/
structure CpR (base : Nat) (w : World) (v : Value) (l : List Ev) : Prop where
  row : w.ownsRow base 24 2 v l.length (evv l)
theorem CpR.nil (base : Nat) (w : World) : CpR base w (.slice none 0 0) [] := ⟨World.ownsRow_nil _ _ _ _⟩
theorem CpR.of {base : Nat} {w w' : World} {v : Value} {l : List Ev} (h : CpR base w v l) (b : ∀ k, v.ownBlock = some k → w'.heap[k]? = w.heap[k]?) : CpR base w' v l := ⟨rows_blockC h.row b⟩
theorem CpR.keep {base : Nat} {w w' : World} {v : Value} {l : List Ev} (h : CpR base w v l) (b : Below w.heap.size w w') : CpR base w' v l := h.of fun k hk => b.block k (h.row.lt k hk).2
theorem CpR.slice {base : Nat} {w : World} {v : Value} {l : List Ev} (h : CpR base w v l) : ∃ a c, v = .slice a l.length c := by
  rcases h.row.2 with ⟨rfl, e⟩ | ⟨g, cap, cur, rfl, -⟩
  · exact ⟨_, _, by rw [e]⟩
  · exact ⟨_, _, rfl⟩
theorem CpR.set {base R j : Nat} {w : World} {v x : Value} {l : List Ev} (h : CpR base w v l) (hR : R < base) : CpR base (w.setCell ⟨R, j, none⟩ x) v l := h.of fun k hk => Below.heap_setCell w ⟨R, j, none⟩ x k (fun c => by
  have h1 := (h.row.lt k hk).1
  have h2 : k = R := c
  omega)
theorem CpR.app {base : Nat} {w : World} {v : Value} {l : List Ev} (h : CpR base w v l) (hb : base ≤ w.heap.size) (hl : l.length < 1000000000) (k : Nat) (d : L) :
    ∃ v' w', (∀ z, (builtin .append #[37, 37] 37 z #[v, .slice (some ⟨w.heap.size, 0, none⟩) 1 1]).run Tryd.prog (w.alloc (.cells #[.int .i64 (k : Int), .string (strL d)] 24)) = .ok (.value v') w') ∧ CpR base w' v' (l ++ [(k, d)]) ∧ Kept (fun x => base ≤ x) w w' := by
  obtain ⟨i0, hi0, hz0, hz1, hz2⟩ := info_cap
  have bA : Below w.heap.size w (w.alloc (.cells #[.int .i64 (k : Int), .string (strL d)] 24)) := (Below.refl _ _).alloc (Nat.le_refl _) _
  have h2 := h.keep bA
  obtain ⟨v', w', hr, h3, h4, -, -⟩ := run_append_own_at (P := Tryd.prog) (w.alloc (.cells #[.int .i64 (k : Int), .string (strL d)] 24)) base 37 37 24 i0 (.agg #[.int .i64 0, .string ⟨#[]⟩]) 2 24 Tryd.underlying37 hi0 hz0 hz1 hz2 rfl (by decide) v l.length (evv l) h2.row ⟨w.heap.size, 0, none⟩ 1 1 [.int .i64 (k : Int), .string (strL d)] rfl (fun j u hj => by
    rw [Addr.add_lit]
    match j, hj with
    | 0, hj => injection hj with hj; subst hj; exact World.cell?_alloc_new _ _ _ 0
    | 1, hj => injection hj with hj; subst hj; exact World.cell?_alloc_new _ _ _ 1
    | j + 2, hj => cases hj) (fun x hx => by simp only [List.mem_cons, List.not_mem_nil, or_false] at hx; rcases hx with rfl | rfl <;> rfl) (by unfold maxLen; omega) (by omega) (Nat.le_trans hb bA.size)
  have kp : Kept (fun x => base ≤ x) w w' := (Kept.of _ bA).grown h4 (fun k hk _ => (h2.row.lt k hk).1)
  exact ⟨v', w', fun z => by simp only [builtin, Sem.run_bind, Sem.run_pure, hr, Result.andThen_ok], ⟨by rw [evv_snoc, List.length_append]; exact h3⟩, kp⟩
/-- The document's reader in memory. -/
def RC (w : World) (R : Nat) (r : Cr) : Prop := ∃ s : ByteArray, toL s = r.s ∧ Lies w R [.string s, .bool r.bad]
/-- The state within Feed. -/
structure FcI (w wr : World) (R : Nat) (X : Cr × List Ev) (g : Nat) (s : ByteArray) (l : List Ev) (lv : Value) : Prop where
  li : Lies wr R [.string s, .bool false]
  row : CpR w.heap.size wr lv l
  kp : Kept (fun k => k = R) w wr
  eq : X = ((Cr.run g ⟨toL s, false⟩).1, l ++ (Cr.run g ⟨toL s, false⟩).2)
  lt : s.size < g
def cErr (r : Cr) : Int := if r.bad = true then 8 else 0
set_option maxHeartbeats 8000000 in
theorem rcfeed_ok (w : World) (R : Nat) (r : Cr) (t : ByteArray) (h : RC w R r) (hz : r.s.length + t.size < 1000000) :
    Calls Tryd.prog 13 #[.pointer (some ⟨R, 0, none⟩), .string t] w fun e w' => ∃ v, e = .returned (.tuple #[v, .int .i64 (cErr (r.feed (toL t)).1)]) ∧ RC w' R (r.feed (toL t)).1 ∧ CpR w.heap.size w' v (r.feed (toL t)).2 ∧ Kept (fun k => k = R) w w' := by
  obtain ⟨s, hs, h⟩ := h
  obtain ⟨rs, bad⟩ := r
  simp only at hs hz h
  have hR : R < w.heap.size := h.lt (by show 0 < 2; decide)
  have c1 := h.cell 1 (v := .bool bad) rfl
  unfold Cr.feed
  cases bad with
  | true =>
    have Z := Lib.hid h
    clear h
    go_enter Tryd.func13, Tryd.ntmps13
    go_wp2_with fail
    go_ret2
    exact ⟨_, rfl, ⟨s, hs, Z.out⟩, CpR.nil _ _, Kept.refl _ _⟩
  | false =>
    simp only [Bool.false_eq_true, if_false]
    have c0 := h.cell 0 (v := .string s) rfl
    have f0 := h.free 0 (by show 0 < 2; decide)
    have zs : s.size = rs.length := by rw [← toL_len, hs]
    have m1 : ¬ (9223372036854775807 < s.size + t.size) := by omega
    have hmore : (Cr.mk rs false).more (toL t) = ⟨toL (s ++ t), false⟩ := by
      unfold Cr.more
      rw [toL_append, hs]
    rw [hmore]
    have hsz : (s ++ t).size < 1000000 := by rw [ByteArray.size_append]; omega
    have P0 : Hid (FcI w (w.setCell ⟨R, 0, none⟩ (.string (s ++ t))) R (Cr.go ⟨toL (s ++ t), false⟩) ((s ++ t).size + 1) (s ++ t) [] (.slice none 0 0)) :=
      ⟨h.put 0 (by show 0 < 2; decide) _, CpR.nil _ _, Kept.set (F := fun k => k = R) (Kept.refl _ _) ⟨R, 0, none⟩ rfl _, by
        unfold Cr.go
        rw [List.nil_append, toL_len], Nat.lt_succ_self _⟩
    obtain ⟨X, hX⟩ : ∃ X, X = Cr.go ⟨toL (s ++ t), false⟩ := ⟨_, rfl⟩
    rw [← hX] at P0 ⊢
    replace hs := Lib.hid hs
    replace hX := Lib.hid hX
    clear h hmore zs
    go_enter Tryd.func13, Tryd.ntmps13
    go_wp2_with fail
    generalize s ++ t = S0 at *
    go_loopg [6] (S0.size + 1) (fun g lv wr => ∃ (s : ByteArray) (l : List Ev), l.length + g ≤ S0.size + 1 ∧ g ≤ S0.size + 1 ∧ Hid (FcI w wr R X g s l lv))
    case atStart => exact ⟨S0, [], by simp, Nat.le_refl _, P0⟩
    case round =>
      obtain ⟨s1, l, hlg, hg, I⟩ := hrel
      clear P0
      have hlt := I.out.lt
      obtain ⟨g1, rfl⟩ : ∃ g1, gk = g1 + 1 := ⟨gk - 1, by omega⟩
      have EQ := I.out.eq
      rw [Cr.run_succ, if_neg (by simp)] at EQ
      have k0 := I.out.li.cell 0 (v := .string s1) rfl
      have kf0 := I.out.li.free 0 (by show 0 < 2; decide)
      have kf1 := I.out.li.free 1 (by show 1 < 2; decide)
      have k1 := I.out.li.cell 1 (v := .bool false) rfl
      have hRr : R < wr.heap.size := I.out.li.lt (by show 0 < 2; decide)
      obtain ⟨av, cv, hu⟩ := I.out.row.slice
      subst hu
      have hs1 : s1.size ≤ 1000000 := by omega
      have LV : Hid (∀ w', Below wr.heap.size wr w' → (FcI w w' R X (g1 + 1) s1 l (.slice av l.length cv))) := fun w' b => ⟨I.out.li.of_block (b.block R hRr), I.out.row.keep b, I.out.kp.add b, I.out.eq, I.out.lt⟩
      have STOP : Hid (X = (⟨toL s1, false⟩, l) → ∀ w', Below wr.heap.size wr w' → ∃ v, Ending.returned (.tuple #[.slice av l.length cv, .int .i64 0]) = .returned (.tuple #[v, .int .i64 (cErr X.1)]) ∧ RC w' R X.1 ∧ CpR w.heap.size w' v X.2 ∧ Kept (fun k => k = R) w w') := fun e w' b => by
        rw [e]
        have i2 := LV.out w' b
        exact ⟨_, rfl, ⟨s1, rfl, i2.li⟩, i2.row, i2.kp⟩
      unfold Cr.step headL at EQ
      cases h1 : getL (toL s1) with
      | none =>
        rw [h1] at EQ
        have e : X = (⟨toL s1, false⟩, l) := by rw [EQ]; simp
        have SP := Lib.hid (STOP.out e)
        have G := Lib.hid (rget_none s1 wr (by omega) h1)
        clear EQ e STOP I LV h1
        go_wp2_with fail
        refine G.out.mono ?_
        rintro e w1 ⟨rfl, b1⟩
        have Z := Lib.hid (SP.out w1 b1)
        clear b1 G SP
        go_wp2_with fail
        go_ret2
        exact Z.out
      | some p =>
        obtain ⟨k, n⟩ := p
        rw [h1] at EQ
        simp only at EQ
        have hk := get_len h1
        have hkb := (getL_bound h1).1
        have G := Lib.hid (rget_some s1 wr (by omega) h1)
        have e2 : toL (s1.extract n s1.size) = (toL s1).drop n := toL_extract s1 n
        have z2 : (s1.extract n s1.size).size = s1.size - n := by rw [ByteArray.size_extract]; omega
        rw [← e2] at EQ
        cases h2 : getL (toL (s1.extract n s1.size)) with
        | none =>
          rw [h2] at EQ
          have e : X = (⟨toL s1, false⟩, l) := by rw [EQ]; simp
          have SP := Lib.hid (STOP.out e)
          have G2 : Hid (∀ w', _) := fun w' => rget_none (s1.extract n s1.size) w' (by omega) h2
          have KC : Hid (∀ w', Below wr.heap.size wr w' → w'.cell? ⟨R, 0, none⟩ = some (.string s1)) := fun w' b => (b.cell hRr).trans k0
          clear EQ e STOP I LV h1 h2 e2
          go_wp2_with fail
          refine G.out.mono ?_
          rintro e w1 ⟨rfl, b1⟩
          have k2 := KC.out w1 b1
          have B1 := Lib.hid b1
          clear b1 G KC
          go_wp2_with fail
          refine (G2.out w1).mono ?_
          rintro e w2 ⟨rfl, b2⟩
          have Z := Lib.hid (SP.out w2 (B1.out.trans (b2.mono B1.out.size)))
          clear b2 G2 SP B1
          go_wp2_with fail
          go_ret2
          exact Z.out
        | some q =>
          obtain ⟨z, m⟩ := q
          rw [h2] at EQ
          simp only at EQ
          have hk2 := get_len h2
          have hzb := (getL_bound h2).1
          have G2 : Hid (∀ w', _) := fun w' => rget_some (s1.extract n s1.size) w' (by omega) h2
          have FF : Hid (∀ w', Below wr.heap.size wr w' → (w'.cell? ⟨R, 0, none⟩ = some (.string s1) ∧ w'.cell? ⟨R, 1, none⟩ = some (.bool false) ∧ w'.frozen? ⟨R, 0, none⟩ = false ∧ w'.frozen? ⟨R, 1, none⟩ = false)) := fun w' b => by
            have i2 := (LV.out w' b).li
            exact ⟨i2.cell 0 rfl, i2.cell 1 rfl, i2.free 0 (by show 0 < 2; decide), i2.free 1 (by show 1 < 2; decide)⟩
          obtain ⟨nm, hnm⟩ : ∃ nm, nm = n + m := ⟨_, rfl⟩
          rw [← hnm] at EQ
          have hnms : nm ≤ s1.size := by omega
          have sumE : (n : Int) + (m : Int) = (nm : Int) := by omega
          obtain ⟨rest, hrest⟩ : ∃ rest, rest = s1.size - nm := ⟨_, rfl⟩
          have subE : (s1.size : Int) - (n : Int) - (m : Int) = (rest : Int) := by omega
          have sl : (toL s1).length - nm = rest := by rw [toL_len]; exact hrest.symm
          rw [sl] at EQ
          replace hnm := Lib.hid hnm
          clear h1 h2 e2 I
          by_cases h4 : 4096 < z
          · rw [if_pos h4] at EQ
            simp only at EQ
            have e : X = (⟨toL s1, true⟩, l) := by rw [EQ, Cr.run_bad _ _ rfl]; simp
            have FIN : Hid (∀ w', Below wr.heap.size wr w' → ∃ v, Ending.returned (.tuple #[.slice av l.length cv, .int .i64 8]) = .returned (.tuple #[v, .int .i64 (cErr X.1)]) ∧ RC (w'.setCell ⟨R, 1, none⟩ (.bool true)) R X.1 ∧ CpR w.heap.size (w'.setCell ⟨R, 1, none⟩ (.bool true)) v X.2 ∧ Kept (fun k => k = R) w (w'.setCell ⟨R, 1, none⟩ (.bool true))) := fun w' b => by
              rw [e]
              have i2 := LV.out w' b
              exact ⟨_, rfl, ⟨s1, rfl, i2.li.put 1 (by show 1 < 2; decide) _⟩, i2.row.set hR, i2.kp.set _ rfl _⟩
            have q4 : decide ((4096 : Int) < (z : Int)) = true := decide_eq_true (by omega)
            clear EQ e STOP LV sl
            go_wp2_with fail
            refine G.out.mono ?_
            rintro e w1 ⟨rfl, b1⟩
            obtain ⟨x0, x1, y0, y1⟩ := FF.out w1 b1
            have B1 := Lib.hid b1
            clear b1 G
            go_wp2_with fail
            refine (G2.out w1).mono ?_
            rintro e w2 ⟨rfl, b2⟩
            have b12 := B1.out.trans (b2.mono B1.out.size)
            obtain ⟨x2, x3, y2, y3⟩ := FF.out w2 b12
            have Z := Lib.hid (FIN.out w2 b12)
            clear b2 b12 G2 B1 FIN FF
            go_wp2_with fail
            go_ret2
            exact Z.out
          · rw [if_neg h4] at EQ
            have q4 : decide ((4096 : Int) < (z : Int)) = false := decide_eq_false (by omega)
            by_cases h5 : rest < z
            · rw [if_pos h5] at EQ
              have e : X = (⟨toL s1, false⟩, l) := by rw [EQ]; simp
              have SP := Lib.hid (STOP.out e)
              have q5 : decide ((rest : Int) < (z : Int)) = true := decide_eq_true (by omega)
              clear EQ e STOP LV sl
              go_wp2_with fail
              refine G.out.mono ?_
              rintro e w1 ⟨rfl, b1⟩
              obtain ⟨x0, x1, y0, y1⟩ := FF.out w1 b1
              have B1 := Lib.hid b1
              clear b1 G
              go_wp2_with fail
              refine (G2.out w1).mono ?_
              rintro e w2 ⟨rfl, b2⟩
              have b12 := B1.out.trans (b2.mono B1.out.size)
              obtain ⟨x2, x3, y2, y3⟩ := FF.out w2 b12
              have Z := Lib.hid (SP.out w2 b12)
              clear b2 b12 G2 B1 SP FF
              go_wp2_with fail
              go_ret2
              exact Z.out
            · rw [if_neg h5] at EQ
              simp only at EQ
              have q5 : decide ((rest : Int) < (z : Int)) = false := decide_eq_false (by omega)
              obtain ⟨p, hp⟩ : ∃ p, p = nm + z := ⟨_, rfl⟩
              have sumP : (nm : Int) + (z : Int) = (p : Int) := by omega
              have hps : p ≤ s1.size := by omega
              have hnp : nm ≤ p := by omega
              have eD : s1.extract nm p = strL (((toL s1).drop nm).take z) := toL_inj (by
                rw [toL_strL, toL_cut, hp, List.drop_take]
                congr 1
                omega)
              rw [← hp] at EQ
              replace hp := Lib.hid hp
              have NX : Hid (∀ w', Below wr.heap.size wr w' → ∃ v' w'', (∀ zz, (builtin .append #[37, 37] 37 zz #[.slice av l.length cv, .slice (some ⟨w'.heap.size, 0, none⟩) 1 1]).run Tryd.prog (w'.alloc (.cells #[.int .i64 (k : Int), .string (s1.extract nm p)] 24)) = .ok (.value v') w'') ∧ w''.cell? ⟨R, 0, none⟩ = some (.string s1) ∧ w''.frozen? ⟨R, 0, none⟩ = false ∧ (∃ a c, v' = .slice a (l.length + 1) c) ∧ FcI w (w''.setCell ⟨R, 0, none⟩ (.string (s1.extract p s1.size))) R X g1 (s1.extract p s1.size) (l ++ [(k, ((toL s1).drop nm).take z)]) v') := fun w' b => by
                have i2 := LV.out w' b
                obtain ⟨v', w'', hap, row, kp⟩ := i2.row.app i2.kp.size (by omega) k (((toL s1).drop nm).take z)
                rw [← eD] at hap
                have eb : w''.heap[R]? = w'.heap[R]? := kp.block R (Nat.lt_of_lt_of_le hRr b.size) (by omega)
                have li2 := i2.li.of_block eb
                refine ⟨v', w'', hap, li2.cell 0 rfl, li2.free 0 (by show 0 < 2; decide), ?_, li2.put 0 (by show 0 < 2; decide) _, row.set hR, ?_, ?_, ?_⟩
                · obtain ⟨a, c, e⟩ := row.slice
                  rw [List.length_append] at e
                  exact ⟨a, c, e⟩
                · refine Kept.set ⟨kp.os.trans i2.kp.os, kp.tape.trans i2.kp.tape, kp.output.trans i2.kp.output, Nat.le_trans i2.kp.size kp.size, fun j hj hf => (kp.block j (Nat.lt_of_lt_of_le hj i2.kp.size) (by omega)).trans (i2.kp.block j hj hf)⟩ _ rfl _
                · rw [EQ, toL_extract]
                  simp
                · rw [ByteArray.size_extract]
                  have := get_len (s := s1) (n := k) (k := n)
                  omega
              clear EQ STOP LV sl eD
              go_wp2_with fail
              refine G.out.mono ?_
              rintro e w1 ⟨rfl, b1⟩
              obtain ⟨x0, x1, y0, y1⟩ := FF.out w1 b1
              have B1 := Lib.hid b1
              clear b1 G
              go_wp2_with fail
              refine (G2.out w1).mono ?_
              rintro e w2 ⟨rfl, b2⟩
              have b12 := B1.out.trans (b2.mono B1.out.size)
              obtain ⟨x2, x3, y2, y3⟩ := FF.out w2 b12
              obtain ⟨v', w3, hap, x4, y4, ⟨a3, c3, rfl⟩, I3⟩ := NX.out w2 b12
              replace hap := Lib.hid hap
              replace I3 := Lib.hid I3
              clear b2 b12 G2 B1 NX FF
              go_wp2_with (refine obB2L _ rfl .append _ _ 37 37 rfl _ _ rfl rfl hap.out ?_)
              go_roundg g1
              case measure => omega
              case rel => exact ⟨_, _, by rw [List.length_append]; simp; omega, by omega, I3⟩
theorem rcend_ok (w : World) (R : Nat) (r : Cr) (h : RC w R r) : Calls Tryd.prog 16 #[.pointer (some ⟨R, 0, none⟩)] w fun e w' => e = .returned (.bool (!r.bad && decide (r.s = []))) ∧ w = w' := by
  obtain ⟨s, hs, h⟩ := h
  have c0 := h.cell 0 (v := .string s) rfl
  have c1 := h.cell 1 (v := .bool r.bad) rfl
  clear h
  by_cases h0 : toL s = []
  · have e : s = ⟨#[]⟩ := toL_inj (by rw [h0]; rfl)
    subst e
    rw [decide_eq_true (by rw [← hs]; rfl)]
    cases hb : r.bad
    · rw [hb] at c1
      go_enter Tryd.func16, Tryd.ntmps16
      go_wp2
      go_ret
      exact ⟨rfl, rfl⟩
    · rw [hb] at c1
      go_enter Tryd.func16, Tryd.ntmps16
      go_wp2
      go_ret
      exact ⟨rfl, rfl⟩
  · have n0 : s.toList.isEmpty = false := by
      rw [toL_empC]
      cases hx : toL s with
      | nil => exact absurd hx h0
      | cons _ _ => rfl
    rw [decide_eq_false (by rw [← hs]; exact h0)]
    cases hb : r.bad
    · rw [hb] at c1
      go_enter Tryd.func16, Tryd.ntmps16
      go_wp2
      go_ret
      exact ⟨rfl, rfl⟩
    · rw [hb] at c1
      go_enter Tryd.func16, Tryd.ntmps16
      go_wp2
      go_ret
      exact ⟨rfl, rfl⟩
end Go.Proofs.YtihkbakbciejiaaDoor
