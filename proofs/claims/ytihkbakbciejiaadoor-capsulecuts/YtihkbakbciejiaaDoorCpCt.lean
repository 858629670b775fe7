/-
  What the law CapsuleCuts answers. The table of sizes lies as the row's list gives it; no condition but the form's own reach.
-/
import Derived.Test.YtihkbakbciejiaaDoorCpGr
import Derived.Test.YtihkbakbciejiaaDoorRpOpen
import Derived.Laws.OwnMore
import Derived.Maps.AppendAt
namespace Go.Proofs.YtihkbakbciejiaaDoor
set_option maxRecDepth 100000
open Go.RowKit Go.Sort

theorem evv_len (l : List Ev) : (evv l).length = 2 * l.length := by
  induction l with
  | nil => rfl
  | cons e l ih =>
    show ([_, _] ++ evv l).length = _
    rw [List.length_append, ih]
    show 2 + _ = 2 * (l.length + 1)
    omega
theorem evv_app (a b : List Ev) : evv (a ++ b) = evv a ++ evv b := by simp [evv, List.flatMap_append]
theorem evv_one (l : List Ev) : ∀ u ∈ evv l, u.oneCell' = true := fun u hu => by
  unfold evv at hu
  obtain ⟨e, -, he⟩ := List.mem_flatMap.1 hu
  simp only [List.mem_cons, List.not_mem_nil, or_false] at he
  rcases he with rfl | rfl <;> rfl
theorem evv_at {w : World} {g o : Nat} {l : List Ev} (h : ∀ k, k < l.length → w.cell? ⟨g, o + 2 * k, none⟩ = some (.int .i64 ((l.getD k (0, [])).1 : Int)) ∧ w.cell? ⟨g, o + 2 * k + 1, none⟩ = some (.string (strL (l.getD k (0, [])).2))) (j : Nat) (u : Value) (hj : (evv l)[j]? = some u) : w.cell? ((⟨g, o, none⟩ : Addr).add j) = some u := by
  rw [Addr.add_lit]
  have hl : j < (evv l).length := (List.getElem?_eq_some_iff.1 hj).1
  rw [evv_len] at hl
  have hk : j / 2 < l.length := by omega
  have e := evv_get l (j / 2) hk
  have c := h (j / 2) hk
  rcases Nat.mod_two_eq_zero_or_one j with q | q
  · have e1 : 2 * (j / 2) = j := by omega
    rw [e1] at e c
    rw [hj] at e
    rw [e.1]
    exact c.1
  · have e1 : 2 * (j / 2) + 1 = j := by omega
    have e2 : o + 2 * (j / 2) + 1 = o + j := by omega
    rw [e1] at e
    rw [e2] at c
    rw [hj] at e
    rw [e.2]
    exact c.2
theorem app_none {w : World} {base n cap : Nat} {v : Value} {xs : List Value} (h : w.ownsRow base 31 2 v n xs) {i : TypeInfo} (hi : Tryd.prog.info? 31 = some i) :
    (Builtin.append_ #[33, 33] 33 #[v, .slice none 0 cap]).run Tryd.prog w = .ok v w := by
  rcases h.2 with ⟨rfl, rfl⟩ | ⟨g, c, cur, rfl, _, _, hnc, _⟩
  · simp [Builtin.append_, run_underlying Tryd.underlying33, sizeOf, typeInfo, hi, Builtin.lenOf, Builtin.firstCells]
  · simp [Builtin.append_, run_underlying Tryd.underlying33, sizeOf, typeInfo, hi, Builtin.lenOf, Builtin.firstCells, hnc, storeCells]
/-- Capsules put behind those of a row of one's own. -/
theorem CpP.appS {base : Nat} {w : World} {v x : Value} {l l2 : List Ev} (h : CpP base w v l) (hx : EvAt w x l2) (hb : base ≤ w.heap.size) (hl : l.length + l2.length < 1000000000) :
    ∃ v' w', (∀ z, (builtin .append #[33, 33] 33 z #[v, x]).run Tryd.prog w = .ok (.value v') w') ∧ CpP base w' v' (l ++ l2) ∧ Kept (fun k => v.ownBlock = some k) w w' ∧ (∀ k, v'.ownBlock = some k → v.ownBlock = some k ∨ (w.heap.size ≤ k ∧ k < w'.heap.size)) := by
  obtain ⟨i0, hi0, hz0, hz1, hz2⟩ := info_cpp
  obtain ⟨a, cap, rfl, hc⟩ := hx
  have nil : l2 = [] → a = none → ∃ v' w', (∀ z, (builtin .append #[33, 33] 33 z #[v, .slice a l2.length cap]).run Tryd.prog w = .ok (.value v') w') ∧ CpP base w' v' (l ++ l2) ∧ Kept (fun k => v.ownBlock = some k) w w' ∧ (∀ k, v'.ownBlock = some k → v.ownBlock = some k ∨ (w.heap.size ≤ k ∧ k < w'.heap.size)) := fun e ea => by
    subst e ea
    refine ⟨v, w, fun z => ?_, by rw [List.append_nil]; exact h, Kept.refl _ _, fun k hk => .inl hk⟩
    have := app_none (cap := cap) h.row hi0
    simp only [builtin, Sem.run_bind, Sem.run_pure]
    rw [show ([] : List Ev).length = 0 from rfl, this, Result.andThen_ok]
  have some' : ∀ (p : Addr), a = some p → (∀ j u, (evv l2)[j]? = some u → w.cell? (p.add j) = some u) → ∃ v' w', (∀ z, (builtin .append #[33, 33] 33 z #[v, .slice a l2.length cap]).run Tryd.prog w = .ok (.value v') w') ∧ CpP base w' v' (l ++ l2) ∧ Kept (fun k => v.ownBlock = some k) w w' ∧ (∀ k, v'.ownBlock = some k → v.ownBlock = some k ∨ (w.heap.size ≤ k ∧ k < w'.heap.size)) := fun p ea hp => by
    subst ea
    obtain ⟨v', w', hr, h3, h4, -, h5⟩ := run_append_own_at (P := Tryd.prog) w base 33 33 31 i0 (.agg #[.int .i64 0, .string ⟨#[]⟩]) 2 24 Tryd.underlying33 hi0 hz0 hz1 hz2 rfl (by decide) v l.length (evv l) h.row p l2.length cap (evv l2) (by rw [evv_len]; omega) hp (evv_one l2) (by unfold maxLen; omega) (by omega) hb
    have row : CpP base w' v' (l ++ l2) := ⟨by rw [evv_app, List.length_append]; exact h3⟩
    refine ⟨v', w', fun z => by simp only [builtin, Sem.run_bind, Sem.run_pure, hr, Result.andThen_ok], row, ⟨h4.os, h4.tape, h4.output, h4.size, fun k hk hf => h4.block k hk (by intro e; exact hf e.symm)⟩, fun k hk => ?_⟩
    rcases h5 with q | q
    · exact .inl (by rw [← q]; exact hk)
    · have hlt := (row.row.lt k hk).2
      rw [q] at hk
      injection hk with hk
      exact .inr ⟨by omega, hlt⟩
  rcases hc with hc | ⟨g, o, rfl, hc⟩
  · cases a with
    | none => exact nil hc rfl
    | some p => exact some' p rfl (fun j u hj => by rw [hc] at hj; cases hj)
  · exact some' ⟨g, o, none⟩ rfl (evv_at hc)
theorem at_ints16 (B o N cap i : Nat) (w : World) (h : i < N) :
    (Instr.indexAt 75 (.slice (some ⟨B, o, none⟩) N cap) (.int .i64 (i : Int))).run Tryd.prog w = .ok (.pointer (some ⟨B, o + i, none⟩)) w := by
  have e : Tryd.prog.elem 75 = 3 := by kernel_rfl
  rw [run_indexAt_slice (P := Tryd.prog) w 75 ⟨B, o, none⟩ N cap .i64 i (by rw [e]; exact Tryd.underlying75), if_pos (by omega), e]
  have s : (sizeOf 3).run Tryd.prog w = .ok 1 w := Tryd.sizeOf3 w
  rw [s]
  simp [Addr.add_mid]
theorem ints_at {w : World} {a : Option Addr} {n : Nat} {g : Nat → Int} (h : Nums w a n g) : ∀ i, i < n → ∃ b off, a = some ⟨b, off, none⟩ ∧ w.cell? ⟨b, off + i, none⟩ = some (.int .i64 (g i)) := fun i hi => by
  rcases h with h | ⟨b, off, e, -, h⟩
  · omega
  · exact ⟨b, off, e, h i hi⟩
/-- What a reader is, that was fed these pieces, and what it has told. -/
def fedC (ts : List L) : Cr := (cNew.feeds ts).1
def toldC (ts : List L) : List Ev := (cNew.feeds ts).2
theorem feedsC_append : ∀ (ts us : List L) (r : Cr), r.feeds (ts ++ us) = (((r.feeds ts).1.feeds us).1, (r.feeds ts).2 ++ ((r.feeds ts).1.feeds us).2)
  | [], us, r => by simp [Cr.feeds]
  | t :: ts, us, r => by
    show (((r.feed t).1.feeds (ts ++ us)).1, (r.feed t).2 ++ ((r.feed t).1.feeds (ts ++ us)).2) = _
    rw [feedsC_append ts]
    simp [Cr.feeds]
theorem fedC_snoc (ts : List L) (t : L) : fedC (ts ++ [t]) = ((fedC ts).feed t).1 := by
  unfold fedC
  rw [feedsC_append]
  rfl
theorem toldC_snoc (ts : List L) (t : L) : toldC (ts ++ [t]) = toldC ts ++ ((fedC ts).feed t).2 := by
  unfold toldC fedC
  rw [feedsC_append]
  simp [Cr.feeds]
theorem feed_nilC : cNew.feed [] = (cNew, []) := by
  have e : cNew.feed [] = (Cr.mk [] false).go := rfl
  rw [e]
  exact Cr.go_none rfl rfl
theorem new_feedsC (ts : List L) : SameC (cNew.feed ts.flatten) (cNew.feeds ts) := by
  have := Cr.feeds_cut ts [] cNew rfl
  rw [List.nil_append] at this
  have e : cNew.feeds ([] :: ts) = cNew.feeds ts := by
    show ((cNew.feed []).1.feeds ts |>.1, (cNew.feed []).2 ++ ((cNew.feed []).1.feeds ts).2) = _
    rw [feed_nilC]
    rfl
  rw [e] at this
  exact this
theorem Cr.fin_bad {r : Cr} (h : r.bad = true) : r.fin = false := by unfold Cr.fin; rw [h]; rfl
/-- One fed whole, one in pieces, up to a great one. -/
theorem cutsC_same (s : L) (ts : List L) (u : L) (hs : ts.flatten ++ u = s) (h : u = [] ∨ (fedC ts).bad = true) :
    cErr (cNew.feed s).1 = cErr (fedC ts) ∧ (cNew.feed s).1.fin = (fedC ts).fin ∧ (cNew.feed s).2 = toldC ts := by
  have S : SameC (cNew.feed s) (fedC ts, toldC ts) := by
    rcases h with h | h
    · subst h
      rw [List.append_nil] at hs
      subst hs
      exact new_feedsC ts
    · have := new_feedsC (ts ++ [u])
      rw [List.flatten_append, List.flatten_cons, List.flatten_nil, List.append_nil, hs, feedsC_append, Cr.feeds_bad [u] (cNew.feeds ts).1 h] at this
      simp only [List.append_nil] at this
      exact this
  refine ⟨by unfold cErr; rw [S.bad], ?_, S.ev⟩
  cases hc : (cNew.feed s).1.bad with
  | false => rw [S.all hc]
  | true => rw [Cr.fin_bad hc, Cr.fin_bad (by rw [← hc]; exact S.bad.symm)]
/-- One reader fed whole, one in pieces; what was told. -/
structure CtI (w wr : World) (s : L) (R1 R2 : Nat) (r1 : Cr) (av : Value) (EA : List Ev) (ts : List L) (p : Nat) (bv : Value) : Prop where
  p1 : PC wr R1 r1
  p2 : PC wr R2 (fedC ts)
  ne : R1 ≠ R2
  g1 : w.heap.size ≤ R1
  g2 : w.heap.size ≤ R2
  ea : EvAt wr av EA
  eb : CpP w.heap.size wr bv (toldC ts)
  oa : ∀ k, av.ownBlock = some k → k < wr.heap.size ∧ k ≠ R1 ∧ k ≠ R2
  ob : ∀ k, bv.ownBlock = some k → k ≠ R1 ∧ k ≠ R2
  nab : ∀ k, av.ownBlock = some k → bv.ownBlock ≠ some k
  fl : ts.flatten = s.take p
  le : p ≤ s.length
  z : s.length ≤ 3000
  lef : (fedC ts).s.length ≤ p
  few : (toldC ts).length ≤ 6000 * ts.length
  bel : Below w.heap.size w wr
/-- One more piece: Feed of it, and its capsules put behind the others. -/
theorem ct_feed {w wr : World} (t0 : VTab w) {s : L} {R1 R2 : Nat} {r1 : Cr} {av : Value} {EA : List Ev} {ts : List L} {n : Nat} {bv : Value} (h : CtI w wr s R1 R2 r1 av EA ts n bv) (t : ByteArray) (m : Nat) (hm : n + m ≤ s.length) (ht : toL t = (s.take (n + m)).drop n) (hl : ts.length ≤ 1000) :
    Calls Tryd.prog 12 #[.pointer (some ⟨R2, 0, none⟩), .string t] wr fun e w' => ∃ ev v' w'', e = .returned (.tuple #[ev, .int .i64 (cErr (fedC (ts ++ [toL t])))]) ∧ (∀ z, (builtin .append #[33, 33] 33 z #[bv, ev]).run Tryd.prog w' = .ok (.value v') w'') ∧ CtI w w'' s R1 R2 r1 av EA (ts ++ [toL t]) (n + m) v' := by
  have hz := h.z
  have hlef := h.lef
  have hfew := h.few
  have tl : t.size = m := by
    rw [← toL_len, ht, List.length_drop, List.length_take]
    omega
  have few := feed_few (fedC ts) (toL t)
  have lef := feed_left (fedC ts) (toL t)
  rw [toL_len] at few lef
  refine (pfeed_ok wr R2 (fedC ts) t (t0.below h.bel) h.p2 (fun _ => by omega)).mono ?_
  rintro e w' ⟨ev, rfl, p', row', kp⟩
  have l1 := h.p1.lt
  have l2 := h.p2.lt
  have b' : Below w.heap.size w w' := h.bel.trans (kp.below h.bel.size (fun k hk => by rw [hk]; exact h.g2))
  have ebw : CpP w.heap.size w' bv (toldC ts) := h.eb.of fun k hk => kp.block k (h.eb.row.lt k hk).2 (fun c => (h.ob k hk).2 c)
  have eaw : EvAt w' av EA := h.ea.of fun k hk => kp.block k (h.oa k hk).1 (fun c => (h.oa k hk).2.2 c)
  obtain ⟨v', w'', hap, row, kp2, fr2⟩ := ebw.appS row'.at b'.size (by omega)
  rw [← toldC_snoc] at row
  have ob2 : ∀ k, v'.ownBlock = some k → k ≠ R1 ∧ k ≠ R2 := fun k hk => by
    rcases fr2 k hk with q | q
    · exact h.ob k q
    · have := kp.size
      omega
  have s1 : w''.heap[R1]? = wr.heap[R1]? := (kp2.block R1 (Nat.lt_of_lt_of_le l1 kp.size) (fun c => (h.ob R1 c).1 rfl)).trans (kp.block R1 l1 (fun c => h.ne c))
  have s2 : w''.heap[R2]? = w'.heap[R2]? := kp2.block R2 (Nat.lt_of_lt_of_le l2 kp.size) (fun c => (h.ob R2 c).2 rfl)
  refine ⟨ev, v', w'', by rw [fedC_snoc], hap, ⟨h.p1.of s1, by rw [fedC_snoc]; exact p'.of s2, h.ne, h.g1, h.g2, eaw.of fun k hk => kp2.block k (Nat.lt_of_lt_of_le (h.oa k hk).1 kp.size) (h.nab k hk), row, fun k hk => ⟨Nat.lt_of_lt_of_le (Nat.lt_of_lt_of_le (h.oa k hk).1 kp.size) kp2.size, (h.oa k hk).2⟩, ob2, fun k hk c => ?_, ?_, hm, hz, ?_, ?_, b'.trans (kp2.below b'.size fun k hk => (h.eb.row.lt k hk).1)⟩⟩
  · rcases fr2 k c with q | q
    · exact h.nab k hk q
    · have := (h.oa k hk).1
      have := kp.size
      omega
  · rw [List.flatten_append, h.fl, List.flatten_cons, List.flatten_nil, List.append_nil, ht, List.drop_take]
    rw [show n + m - n = m by omega]
    exact List.take_add.symm
  · rw [fedC_snoc]
    omega
  · rw [toldC_snoc, List.length_append, List.length_append, List.length_cons, List.length_nil]
    omega
/-- How the feeding ends. -/
structure CtE (w wr : World) (s : L) (R1 R2 : Nat) (r1 : Cr) (av : Value) (EA : List Ev) (ts : List L) (bv : Value) : Prop where
  ex : ∃ n, CtI w wr s R1 R2 r1 av EA ts n bv ∧ (n = s.length ∨ (fedC ts).bad = true)
theorem cErr_zero {r : Cr} : cErr r = 0 ↔ r.bad = false := by
  unfold cErr
  cases r.bad <;> simp
set_option maxHeartbeats 64000000 in
theorem cuts16_ok (S : ByteArray) (a : Option Addr) (n cap : Nat) (g : Nat → Int) (w : World) (t : VTab w) (hS : ∀ i, i < n → ∃ b off, a = some ⟨b, off, none⟩ ∧ w.cell? ⟨b, off + i, none⟩ = some (.int .i64 (g i))) :
    Calls Tryd.prog 5 #[.string S, .slice a n cap] w fun e w' => e = .returned (.bool true) ∧ Below w.heap.size w w' := by
  have WO := Lib.hid (works16_ok w t)
  by_cases h1 : S.size ≤ 3000
  · have q1 : decide ((3000 : Int) < (S.size : Int)) = false := decide_eq_false (by omega)
    have T0 := Lib.hid t
    have SS := Lib.hid hS
    have NW : Hid (∀ w', VTab w' → _) := fun w' t' => pnew_ok w' t'
    have FA : Hid (∀ w' R, VTab w' → PC w' R cNew → _) := fun w' R t' h => pfeed_ok w' R cNew S t' h (fun _ => by show 0 + S.size < 1000000; omega)
    have few := feed_few cNew (toL S)
    have zc : cNew.s.length = 0 := rfl
    rw [toL_len, zc] at few
    obtain ⟨EA, hEA⟩ : ∃ EA, EA = (cNew.feed (toL S)).2 := ⟨_, rfl⟩
    obtain ⟨r1, hr1⟩ : ∃ r1, r1 = (cNew.feed (toL S)).1 := ⟨_, rfl⟩
    rw [← hEA, ← hr1] at FA
    rw [← hEA] at few
    have zEA : EA.length ≤ 3001 := by omega
    replace hEA := Lib.hid hEA
    replace hr1 := Lib.hid hr1
    clear t hS few zc
    go_enter Tryd.func5, Tryd.ntmps5
    go_wp2_with fail
    refine WO.out.mono ?_
    rintro e w1 ⟨rfl, b1⟩
    have Z1 := Lib.hid b1
    clear b1 WO
    go_wp2_with fail
    refine (NW.out w1 (T0.out.below Z1.out)).mono ?_
    rintro e w2 ⟨rfl, p2, b2⟩
    have Z2 := Lib.hid (Z1.out.trans (b2.mono Z1.out.size))
    have gR1 : Hid (w.heap.size ≤ w1.heap.size) := Z1.out.size
    generalize w1.heap.size = R1 at *
    have P2 := Lib.hid p2
    clear p2 b2 Z1
    go_wp2_with fail
    refine (NW.out w2 (T0.out.below Z2.out)).mono ?_
    rintro e w3 ⟨rfl, p3, b3⟩
    have Z3 := Lib.hid (Z2.out.trans (b3.mono Z2.out.size))
    have P13 := Lib.hid (P2.out.keep b3)
    have gR2 : Hid (w.heap.size ≤ w2.heap.size ∧ R1 < w2.heap.size) := ⟨Z2.out.size, P2.out.lt⟩
    generalize w2.heap.size = R2 at *
    have P23 := Lib.hid p3
    clear p3 b3 Z2 P2 NW
    go_wp2_with fail
    refine (FA.out w3 R1 (T0.out.below Z3.out) P13.out).mono ?_
    rintro e w4 ⟨av, rfl, p4, r4, k4⟩
    have X0 : Hid (CtI w w4 (toL S) R1 R2 r1 av EA [] 0 (.slice none 0 0)) := by
      have l3 := P23.out.lt
      have l1 := P13.out.lt
      have g2 := gR2.out.2
      exact ⟨p4, P23.out.of (k4.block R2 l3 (fun c => by omega)), by omega, gR1.out, gR2.out.1, r4.at, CpP.nil _ _, fun k hk => ⟨(r4.row.lt k hk).2, by have := (r4.row.lt k hk).1; omega, by have := (r4.row.lt k hk).1; omega⟩, fun k hk => (by cases hk), fun k _ q => (by cases q), rfl, Nat.zero_le _, by rw [toL_len]; exact h1, Nat.le_refl _, Nat.le_refl _, Z3.out.trans (k4.below Z3.out.size (fun k hk => by rw [hk]; exact gR1.out))⟩
    obtain ⟨aa, ca, hav⟩ := r4.slice
    clear FA p4 r4 k4 Z3 P13 P23
    subst hav
    go_wp2_with fail
    go_loopg [9, 10, 11, 12] 200 (fun gg bv dv atv iv wr => ∃ (i p : Nat) (ts : List L), i + gg = 200 ∧ iv = .int .i64 (i : Int) ∧ atv = .int .i64 (p : Int) ∧ dv = .int .i64 (cErr (fedC ts)) ∧ Hid (ts.length = i) ∧ Hid (CtI w wr (toL S) R1 R2 r1 (.slice aa EA.length ca) EA ts p bv))
    case atStart => exact ⟨0, 0, [], by omega, rfl, rfl, rfl, rfl, X0⟩
    case round =>
      obtain ⟨i, p, ts, hi, rfl, rfl, rfl, LN, X⟩ := hrel
      clear X0
      have hp : p ≤ S.size := by have := X.out.le; rw [toL_len] at this; exact this
      obtain ⟨bb, cb, hbv⟩ := X.out.eb.slice
      subst hbv
      by_cases hgo : i < n ∧ i < 200 ∧ cErr (fedC ts) = 0
      · obtain ⟨hin, hi2, hc0⟩ := hgo
        obtain ⟨b, off, rfl, ci⟩ := SS.out i hin
        have hbw := World.block_lt_of_cell? w _ ci
        have ci' := (X.out.bel.cell hbw).trans ci
        have ia := fun w' => at_ints16 b off n cap i w' hin
        obtain ⟨y, hy1, hy2, hy3⟩ := place9 (g i) 9 (by decide) (by decide)
        obtain ⟨m, hm⟩ : ∃ m : Nat, m = S.size - p := ⟨_, rfl⟩
        have sub : (S.size : Int) - (p : Int) = (m : Int) := by omega
        obtain ⟨k, hk⟩ : ∃ k : Nat, k = if y < m then y else m := ⟨_, rfl⟩
        have fold2 : (if y < m then (y : Int) else (m : Int)) = (k : Int) := by rw [hk]; split <;> rfl
        have fold3 : min (m : Int) (y : Int) = (k : Int) := by rw [hk]; split <;> omega
        obtain ⟨q, hq⟩ : ∃ q : Nat, q = p + k := ⟨_, rfl⟩
        have sumE : (p : Int) + (k : Int) = (q : Int) := by omega
        have hkm : k ≤ m := by rw [hk]; split <;> omega
        have hqs : q ≤ S.size := by omega
        have hpq : p ≤ q := by omega
        have CF := Lib.hid (ct_feed T0.out X.out (S.extract p q) k (by rw [toL_len]; omega) (by rw [toL_cut, hq]) (by have := LN.out; omega))
        rw [← hq] at CF
        have hc0' := Lib.hid hc0
        rw [hc0]
        have L2 : Hid ((ts ++ [toL (S.extract p q)]).length = i + 1) := by
          unfold Hid
          rw [List.length_append, LN.out]
          rfl
        replace hq := Lib.hid hq
        replace hk := Lib.hid hk
        replace hm := Lib.hid hm
        clear X LN SS ci hbw hc0
        generalize g i = GI at *
        go_wp2_with fail
        refine CF.out.mono ?_
        rintro e w5 ⟨ev, v', w6, rfl, hap, X'⟩
        have X2 := Lib.hid X'
        obtain ⟨bb', cb', hb'⟩ := X'.eb.slice
        subst hb'
        replace hap := Lib.hid hap
        clear X' CF
        go_wp2_with (refine obB2L _ rfl .append _ _ 33 33 rfl _ _ rfl rfl hap.out ?_)
        go_roundg (200 - (i + 1))
        case measure => omega
        case rel => exact ⟨i + 1, q, _, by omega, by simp, rfl, rfl, L2, X2⟩
      · have NO : Hid (¬ i < n ∨ (i < n ∧ ¬ i < 200) ∨ (i < n ∧ i < 200 ∧ ¬ cErr (fedC ts) = 0)) := by
          unfold Hid
          omega
        clear hgo SS
        obtain ⟨D, hD⟩ : ∃ D, D = cErr (fedC ts) := ⟨_, rfl⟩
        rw [← hD] at NO ⊢
        replace hD := Lib.hid hD
        go_upto_region 11 with fail
        go_cut [43] (fun s wc => s = .bool false ∧ wr = wc)
        case first =>
          rcases NO.out with y1 | ⟨y1, y2⟩ | ⟨y1, y2, y3⟩
          · go_wp2_with fail
            go_meet
            exact ⟨rfl, rfl⟩
          · go_wp2_with fail
            go_meet
            first
            | exact ⟨rfl, rfl⟩
            | exact ⟨by rw [decide_eq_false (by omega)], rfl⟩
          · have y4 : (D == 0) = false := by simpa using y3
            go_wp2_with fail
            go_meet
            first
            | exact ⟨rfl, rfl⟩
            | exact ⟨by rw [y4], rfl⟩
        case rest =>
          obtain ⟨rfl, rfl⟩ := hcut
          clear NO
          go_upto_if 77 with fail
          go_cut [9, 10] (fun bv dv wc => ∃ ts' : List L, dv = .int .i64 (cErr (fedC ts')) ∧ Hid (CtE w wc (toL S) R1 R2 r1 (.slice aa EA.length ca) EA ts' bv))
          case first =>
            by_cases hd0 : D = 0
            · have y4 : (D == 0) = true := by simpa using hd0
              have CF := Lib.hid (ct_feed T0.out X.out (S.extract p S.size) (S.size - p) (by rw [toL_len]; omega) (by
                rw [toL_cut, show p + (S.size - p) = S.size by omega]) (by have := LN.out; omega))
              rw [show p + (S.size - p) = S.size by omega] at CF
              clear X LN hD hd0
              go_wp2_with fail
              refine CF.out.mono ?_
              rintro e w5 ⟨ev, v', w6, rfl, hap, X'⟩
              have X2 : Hid (CtE w w6 (toL S) R1 R2 r1 (.slice aa EA.length ca) EA (ts ++ [toL (S.extract p S.size)]) v') := ⟨⟨S.size, X', .inl (toL_len S).symm⟩⟩
              obtain ⟨bb', cb', hb'⟩ := X'.eb.slice
              subst hb'
              replace hap := Lib.hid hap
              clear X' CF
              go_wp2_with (refine obB2L _ rfl .append _ _ 33 33 rfl _ _ rfl rfl hap.out ?_)
              go_meet
              exact ⟨_, rfl, X2⟩
            · have y4 : (D == 0) = false := by simpa using hd0
              have X2 : Hid (CtE w wr (toL S) R1 R2 r1 (.slice aa EA.length ca) EA ts (.slice bb (toldC ts).length cb)) := ⟨⟨p, X.out, .inr (by
                cases hb : (fedC ts).bad with
                | true => rfl
                | false => exact absurd (hD.out.trans (cErr_zero.2 hb)) hd0)⟩⟩
              clear X LN hd0
              go_wp2_with fail
              go_meet
              exact ⟨ts, by rw [hD.out], X2⟩
          case rest =>
            obtain ⟨ts', rfl, X⟩ := hcut
            clear hD LN
            obtain ⟨np, XI, FIN⟩ := X.out.ex
            have hnp := XI.le
            have SAME := cutsC_same (toL S) ts' ((toL S).drop np) (by rw [XI.fl, List.take_append_drop]) (by
              rcases FIN with q | q
              · exact .inl (by rw [q, List.drop_length])
              · exact .inr q)
            rw [← hr1.out, ← hEA.out] at SAME
            obtain ⟨sa1, sa2, sa3⟩ := SAME
            rw [← sa1]
            have EB := XI.eb.at
            rw [← sa3] at EB
            obtain ⟨bb2, cb2, hb2, CB1⟩ := EB.cells
            obtain ⟨aa2, ca2, ha2, CA1⟩ := XI.ea.cells
            injection ha2 with ha2 _ hc2
            subst ha2 hc2 hb2
            obtain ⟨NA, hNA⟩ : ∃ NA, NA = EA.length := ⟨_, rfl⟩
            rw [← hNA] at CA1 CB1 zEA ⊢
            have CA := Lib.hid CA1
            have CB := Lib.hid CB1
            have E1 := Lib.hid (pend_ok wc R1 r1 XI.p1)
            have E2 := Lib.hid (pend_ok wc R2 (fedC ts') XI.p2)
            rw [← sa2] at E2
            have ZZ := Lib.hid XI.bel
            generalize r1.fin = FV at *
            generalize cErr r1 = CE at *
            replace hNA := Lib.hid hNA
            clear X XI FIN hnp sa1 sa2 sa3 EB CA1 CB1 hEA hr1 hp
            go_wp2_with fail
            refine E1.out.mono ?_
            rintro e w8 ⟨rfl, rfl⟩
            clear E1
            go_wp2_with fail
            refine E2.out.mono ?_
            rintro e w8 ⟨rfl, rfl⟩
            clear E2
            go_wp2_with fail
            go_loopg [18] NA (fun g2 iv wx => ∃ j : Nat, j + g2 = NA ∧ iv = .int .i64 (j : Int) ∧ Hid (wx.heap = wc.heap) ∧ Hid (Below w.heap.size w wx))
            case atStart => exact ⟨0, by omega, rfl, rfl, ZZ⟩
            case round =>
              obtain ⟨j, hj, rfl, hw, zz⟩ := hrel
              by_cases hjn : j < NA
              · obtain ⟨gx, ox, rfl, -, d0, d1⟩ := CA.out j hjn
                obtain ⟨gy, oy, rfl, -, d2, d3⟩ := CB.out j hjn
                have tr : ∀ (a : Addr) (v : Value), wc.cell? a = some v → wr.cell? a = some v := fun a v hv => by
                  unfold World.cell? at hv ⊢
                  rw [hw.out]
                  exact hv
                replace d0 := tr _ _ d0
                replace d1 := tr _ _ d1
                replace d2 := tr _ _ d2
                replace d3 := tr _ _ d3
                have ix := fun w' => at_cp gx ox NA ca j w' hjn (j : Int) rfl (ox + 2 * j) rfl
                have iy := fun w' => at_cp gy oy NA cb2 j w' hjn (j : Int) rfl (oy + 2 * j) rfl
                have NW : Hid (wr.drew.heap = wc.heap ∧ Below w.heap.size w wr.drew) := ⟨hw.out, zz.out.trans (drewB _ _)⟩
                generalize (EA.getD j (0, [])).1 = kk at *
                generalize strL (EA.getD j (0, [])).2 = DD at *
                clear CA CB hw tr ZZ zz
                go_wp2_with fail
                go_region
                all_goals
                  go_wp2_with fail
                  go_roundg (NA - (j + 1))
                  case measure => omega
                  case rel => exact ⟨j + 1, by omega, by simp, NW.out.1, NW.out.2⟩
              · clear CA CB hw
                go_wp2_with fail
                go_ret
                exact ⟨rfl, zz.out⟩
  · have q1 : decide ((3000 : Int) < (S.size : Int)) = true := decide_eq_true (by omega)
    clear t hS
    go_enter Tryd.func5, Tryd.ntmps5
    go_wp2_with fail
    refine WO.out.mono ?_
    rintro e w1 ⟨rfl, b1⟩
    have Z1 := Lib.hid b1
    clear b1 WO
    go_wp2_with fail
    go_ret
    exact ⟨rfl, Z1.out⟩
end Go.Proofs.YtihkbakbciejiaaDoor
