/-
  What the program's own Up and Down answer of any tunnel and any bytes. No condition but what the form allows.
-/
import Derived.Test.YtndaohiecpdmlaaGreatTuPgUa
import Derived.Test.YtndaohiecpdmlaaGreatTuHop
import Derived.Test.YtndaohiecpdmlaaGreatTuFace
namespace Go.Proofs.YtndaohiecpdmlaaGreat
set_option maxRecDepth 100000
open Go.RowKit Go.Sort

theorem em_belowU {w0 w : World} {n E : Nat} (b : Below n w0 w) (hn : n ≤ E) (y0 y1 y2 y3 y4 : Value) : Below n w0 (((((w.setCell ⟨E, 0, none⟩ y0).setCell ⟨E, 1, none⟩ y1).setCell ⟨E, 2, none⟩ y2).setCell ⟨E, 3, none⟩ y3).setCell ⟨E, 4, none⟩ y4) :=
  ((((b.setCell (p := ⟨E, 0, none⟩) hn _).setCell (p := ⟨E, 1, none⟩) hn _).setCell (p := ⟨E, 2, none⟩) hn _).setCell (p := ⟨E, 3, none⟩) hn _).setCell (p := ⟨E, 4, none⟩) hn _
theorem phop_ok (s : ByteArray) (w : World) (hs : s.size ≤ 9223372036854775807) : Calls Tryz.prog 23 #[.string s, hdOf s] w fun e w' => e = .returned (.tuple #[.string (hopS s), .int .i64 (hopE s)]) ∧ Below w.heap.size w w' := by
  have HO := Lib.hid fun w => hop_ok s w hs
  by_cases h : hopE s = 0
  · obtain ⟨e2, v2, z2⟩ := hop_next h
    have PA : Hid (∀ w, _) := fun w => parse_hd (hopS s) w (by omega) e2
    have e3 : hdOf (hopS s) = hopV s := by rw [← v2]; unfold valOf; rw [if_pos e2]
    rw [e3] at PA
    rw [h] at HO ⊢
    have tb := ttl_bd s
    exact phop_pass w s _ _ _ (ttlP s) _ _ _ _ (wrap_in rfl (by omega) (by omega)) _ HO PA
  · rw [hopE_some h] at HO ⊢
    exact phop_stop w s _ _ _ _ _ _ _ _ _ (by simpa using h) _ HO
set_option maxHeartbeats 4000000 in
theorem ppay_deny (T : Tu) (v : Value) (w : World) (h : RusAt w v T.rules) (hb : TuB T) (s : ByteArray) (hi : T.ip = false) (ho : openE T = 15) : Calls Tryz.prog 12 #[tuV T v, .string s] w fun e w' => e = .returned (.tuple #[.agg #[.bool false, .int .i64 0, .int .u32 0, .int .i64 0, .string ⟨#[]⟩], .int .i64 15]) ∧ Below w.heap.size w w' := by
  obtain ⟨t0, bb⟩ := TL.new h 28
  obtain ⟨wb, hwb⟩ : ∃ x, x = w.alloc (.cells #[.bool T.ip, .int .u32 T.addr, .int .i64 T.tp, .int .u32 T.own, .int .i64 T.port, v] 28) := ⟨_, rfl⟩
  rw [← hwb] at t0 bb
  obtain ⟨a, n, c, rfl⟩ := h.form
  obtain ⟨we, hwe⟩ : ∃ x, x = wb.alloc (.cells #[.bool false, .int .i64 0, .int .u32 0, .int .i64 0, .string ⟨#[]⟩] 31) := ⟨_, rfl⟩
  have be : Below wb.heap.size wb we := by rw [hwe]; exact (Below.refl _ _).alloc (Nat.le_refl _) _
  have sb : wb.heap.size = w.heap.size + 1 := by rw [hwb]; simp
  have le : Lies we (w.heap.size + 1) [.bool false, .int .i64 0, .int .u32 0, .int .i64 0, .string ⟨#[]⟩] := by rw [hwe, ← sb]; exact Lies.new wb [.bool false, .int .i64 0, .int .u32 0, .int .i64 0, .string ⟨#[]⟩] _
  replace t0 := t0.keep be
  have b0 := Lib.hid (bb.trans (be.mono bb.size))
  have hE : Hid (w.heap.size ≤ w.heap.size + 1) := Nat.le_succ _
  have OP := popen_plain T _ we t0.r hb hi
  rw [ho] at OP
  replace OP := Lib.hid OP
  unfold tuV at OP
  clear hb ho
  obtain ⟨ip, addr, tp, own, port, rules, rt⟩ := T
  simp only at *
  subst hi
  have a0 := t0.c.cell 0 rfl
  have a1 := t0.c.cell 1 rfl
  have a2 := t0.c.cell 2 rfl
  have a3 := t0.c.cell 3 rfl
  have a4 := t0.c.cell 4 rfl
  have a5 := t0.c.cell 5 rfl
  have e0 := le.cell 0 rfl
  have f0 := le.free 0 (by show 0 < 5; decide)
  have e1 := le.cell 1 rfl
  have f1 := le.free 1 (by show 1 < 5; decide)
  have e2 := le.cell 2 rfl
  have f2 := le.free 2 (by show 2 < 5; decide)
  have e3 := le.cell 3 rfl
  have f3 := le.free 3 (by show 3 < 5; decide)
  have e4 := le.cell 4 rfl
  have f4 := le.free 4 (by show 4 < 5; decide)
  have LA := Lib.hid t0.c
  have LE := Lib.hid le
  have RR := Lib.hid t0.r
  replace hwb := Lib.hid hwb
  replace hwe := Lib.hid hwe
  clear h t0 le bb be sb
  try unfold tuV
  go_enter Tryz.func12, Tryz.ntmps12
  go_upto_region 1 with fail
  rw [← hwb.out, ← hwe.out]
  clear hwb hwe
  go_wp2_with fail
  refine OP.out.mono ?_
  rintro e w1 ⟨rfl, b1⟩
  clear OP RR
  have la := LA.out.keep (by show 0 < 6; decide) b1
  have le := LE.out.keep (by show 0 < 5; decide) b1
  clear a0 a1 a2 a3 a4 a5 e0 e1 e2 e3 e4 f0 f1 f2 f3 f4 LA LE
  have a0 := la.cell 0 rfl
  have a1 := la.cell 1 rfl
  have a2 := la.cell 2 rfl
  have a3 := la.cell 3 rfl
  have a4 := la.cell 4 rfl
  have a5 := la.cell 5 rfl
  have e0 := le.cell 0 rfl
  have f0 := le.free 0 (by show 0 < 5; decide)
  have e1 := le.cell 1 rfl
  have f1 := le.free 1 (by show 1 < 5; decide)
  have e2 := le.cell 2 rfl
  have f2 := le.free 2 (by show 2 < 5; decide)
  have e3 := le.cell 3 rfl
  have f3 := le.free 3 (by show 3 < 5; decide)
  have e4 := le.cell 4 rfl
  have f4 := le.free 4 (by show 4 < 5; decide)
  have LA := Lib.hid la
  have LE := Lib.hid le
  clear la le
  replace b1 := Lib.hid (b0.out.trans (b1.mono b0.out.size))
  clear b0
  go_wp2_with fail
  refine ⟨rfl, .tuple #[.agg #[.bool false, .int .i64 0, .int .u32 0, .int .i64 0, .string ⟨#[]⟩], .int .i64 15], ?_, rfl, em_belowU b1.out hE.out _ _ _ _ _⟩
  simp [results, Tryz.results12, go_sem, *]
set_option maxHeartbeats 4000000 in
theorem ppay_pass (T : Tu) (v : Value) (w : World) (h : RusAt w v T.rules) (hb : TuB T) (s : ByteArray) (hi : T.ip = false) (ho : openE T = 0) : Calls Tryz.prog 12 #[tuV T v, .string s] w fun e w' => e = .returned (.tuple #[.agg #[.bool false, .int .i64 T.port, .int .u32 T.addr, .int .i64 T.tp, .string s], .int .i64 0]) ∧ Below w.heap.size w w' := by
  obtain ⟨t0, bb⟩ := TL.new h 28
  obtain ⟨wb, hwb⟩ : ∃ x, x = w.alloc (.cells #[.bool T.ip, .int .u32 T.addr, .int .i64 T.tp, .int .u32 T.own, .int .i64 T.port, v] 28) := ⟨_, rfl⟩
  rw [← hwb] at t0 bb
  obtain ⟨a, n, c, rfl⟩ := h.form
  obtain ⟨we, hwe⟩ : ∃ x, x = wb.alloc (.cells #[.bool false, .int .i64 0, .int .u32 0, .int .i64 0, .string ⟨#[]⟩] 31) := ⟨_, rfl⟩
  have be : Below wb.heap.size wb we := by rw [hwe]; exact (Below.refl _ _).alloc (Nat.le_refl _) _
  have sb : wb.heap.size = w.heap.size + 1 := by rw [hwb]; simp
  have le : Lies we (w.heap.size + 1) [.bool false, .int .i64 0, .int .u32 0, .int .i64 0, .string ⟨#[]⟩] := by rw [hwe, ← sb]; exact Lies.new wb [.bool false, .int .i64 0, .int .u32 0, .int .i64 0, .string ⟨#[]⟩] _
  replace t0 := t0.keep be
  have b0 := Lib.hid (bb.trans (be.mono bb.size))
  have hE : Hid (w.heap.size ≤ w.heap.size + 1) := Nat.le_succ _
  have OP := popen_plain T _ we t0.r hb hi
  rw [ho] at OP
  replace OP := Lib.hid OP
  unfold tuV at OP
  clear hb ho
  obtain ⟨ip, addr, tp, own, port, rules, rt⟩ := T
  simp only at *
  subst hi
  have a0 := t0.c.cell 0 rfl
  have a1 := t0.c.cell 1 rfl
  have a2 := t0.c.cell 2 rfl
  have a3 := t0.c.cell 3 rfl
  have a4 := t0.c.cell 4 rfl
  have a5 := t0.c.cell 5 rfl
  have e0 := le.cell 0 rfl
  have f0 := le.free 0 (by show 0 < 5; decide)
  have e1 := le.cell 1 rfl
  have f1 := le.free 1 (by show 1 < 5; decide)
  have e2 := le.cell 2 rfl
  have f2 := le.free 2 (by show 2 < 5; decide)
  have e3 := le.cell 3 rfl
  have f3 := le.free 3 (by show 3 < 5; decide)
  have e4 := le.cell 4 rfl
  have f4 := le.free 4 (by show 4 < 5; decide)
  have LA := Lib.hid t0.c
  have LE := Lib.hid le
  have RR := Lib.hid t0.r
  replace hwb := Lib.hid hwb
  replace hwe := Lib.hid hwe
  clear h t0 le bb be sb
  try unfold tuV
  go_enter Tryz.func12, Tryz.ntmps12
  go_upto_region 1 with fail
  rw [← hwb.out, ← hwe.out]
  clear hwb hwe
  go_wp2_with fail
  refine OP.out.mono ?_
  rintro e w1 ⟨rfl, b1⟩
  clear OP RR
  have la := LA.out.keep (by show 0 < 6; decide) b1
  have le := LE.out.keep (by show 0 < 5; decide) b1
  clear a0 a1 a2 a3 a4 a5 e0 e1 e2 e3 e4 f0 f1 f2 f3 f4 LA LE
  have a0 := la.cell 0 rfl
  have a1 := la.cell 1 rfl
  have a2 := la.cell 2 rfl
  have a3 := la.cell 3 rfl
  have a4 := la.cell 4 rfl
  have a5 := la.cell 5 rfl
  have e0 := le.cell 0 rfl
  have f0 := le.free 0 (by show 0 < 5; decide)
  have e1 := le.cell 1 rfl
  have f1 := le.free 1 (by show 1 < 5; decide)
  have e2 := le.cell 2 rfl
  have f2 := le.free 2 (by show 2 < 5; decide)
  have e3 := le.cell 3 rfl
  have f3 := le.free 3 (by show 3 < 5; decide)
  have e4 := le.cell 4 rfl
  have f4 := le.free 4 (by show 4 < 5; decide)
  have LA := Lib.hid la
  have LE := Lib.hid le
  clear la le
  replace b1 := Lib.hid (b0.out.trans (b1.mono b0.out.size))
  clear b0
  go_wp2_with fail
  refine ⟨rfl, .tuple #[.agg #[.bool false, .int .i64 port, .int .u32 addr, .int .i64 tp, .string s], .int .i64 0], ?_, rfl, em_belowU b1.out hE.out _ _ _ _ _⟩
  simp [results, Tryz.results12, go_sem, *]
set_option maxHeartbeats 4000000 in
theorem ppk_bad (T : Tu) (v : Value) (w : World) (h : RusAt w v T.rules) (s : ByteArray) (hi : T.ip = true) (k : Int) (hk : (k != 0) = true) (PA : Hid (∀ w, Calls Tryz.prog 21 #[.string s] w fun e w' => e = .returned (.tuple #[none', .int .i64 k]) ∧ Below w.heap.size w w')) : Calls Tryz.prog 11 #[tuV T v, .string s] w fun e w' => e = .returned (.tuple #[.agg #[.bool false, .int .i64 0, .int .u32 0, .int .i64 0, .string ⟨#[]⟩], .int .i64 k]) ∧ Below w.heap.size w w' := by
  obtain ⟨t0, bb⟩ := TL.new h 28
  obtain ⟨wb, hwb⟩ : ∃ x, x = w.alloc (.cells #[.bool T.ip, .int .u32 T.addr, .int .i64 T.tp, .int .u32 T.own, .int .i64 T.port, v] 28) := ⟨_, rfl⟩
  rw [← hwb] at t0 bb
  obtain ⟨a, n, c, rfl⟩ := h.form
  obtain ⟨we, hwe⟩ : ∃ x, x = wb.alloc (.cells #[.bool false, .int .i64 0, .int .u32 0, .int .i64 0, .string ⟨#[]⟩] 31) := ⟨_, rfl⟩
  have be : Below wb.heap.size wb we := by rw [hwe]; exact (Below.refl _ _).alloc (Nat.le_refl _) _
  have sb : wb.heap.size = w.heap.size + 1 := by rw [hwb]; simp
  have le : Lies we (w.heap.size + 1) [.bool false, .int .i64 0, .int .u32 0, .int .i64 0, .string ⟨#[]⟩] := by rw [hwe, ← sb]; exact Lies.new wb [.bool false, .int .i64 0, .int .u32 0, .int .i64 0, .string ⟨#[]⟩] _
  replace t0 := t0.keep be
  have b0 := Lib.hid (bb.trans (be.mono bb.size))
  have hE : Hid (w.heap.size ≤ w.heap.size + 1) := Nat.le_succ _
  unfold none' hv at *
  obtain ⟨ip, addr, tp, own, port, rules, rt⟩ := T
  simp only at *
  subst hi
  have a0 := t0.c.cell 0 rfl
  have a1 := t0.c.cell 1 rfl
  have a2 := t0.c.cell 2 rfl
  have a3 := t0.c.cell 3 rfl
  have a4 := t0.c.cell 4 rfl
  have a5 := t0.c.cell 5 rfl
  have e0 := le.cell 0 rfl
  have f0 := le.free 0 (by show 0 < 5; decide)
  have e1 := le.cell 1 rfl
  have f1 := le.free 1 (by show 1 < 5; decide)
  have e2 := le.cell 2 rfl
  have f2 := le.free 2 (by show 2 < 5; decide)
  have e3 := le.cell 3 rfl
  have f3 := le.free 3 (by show 3 < 5; decide)
  have e4 := le.cell 4 rfl
  have f4 := le.free 4 (by show 4 < 5; decide)
  have LA := Lib.hid t0.c
  have LE := Lib.hid le
  have RR := Lib.hid t0.r
  replace hwb := Lib.hid hwb
  replace hwe := Lib.hid hwe
  clear h t0 le bb be sb
  try unfold tuV
  go_enter Tryz.func11, Tryz.ntmps11
  go_upto_region 1 with fail
  rw [← hwb.out, ← hwe.out]
  clear hwb hwe
  go_wp2_with fail
  refine (PA.out we).mono ?_
  rintro e w1 ⟨rfl, b1⟩
  clear PA
  go_upto_region 2 with fail
  have bh : Below w1.heap.size w1 (w1.alloc (.cells #[.int .i64 0, .int .i64 0, .int .i64 0, .int .i64 0, .int .i64 0, .int .u32 0, .int .u32 0, .string ⟨#[]⟩] 40)) := (Below.refl _ _).alloc (Nat.le_refl _) _
  have LH : Lies (w1.alloc (.cells #[.int .i64 0, .int .i64 0, .int .i64 0, .int .i64 0, .int .i64 0, .int .u32 0, .int .u32 0, .string ⟨#[]⟩] 40)) w1.heap.size [.int .i64 0, .int .i64 0, .int .i64 0, .int .i64 0, .int .i64 0, .int .u32 0, .int .u32 0, .string ⟨#[]⟩] := Lies.new w1 [.int .i64 0, .int .i64 0, .int .i64 0, .int .i64 0, .int .i64 0, .int .u32 0, .int .u32 0, .string ⟨#[]⟩] _
  have b2 := b1.trans (bh.mono b1.size)
  generalize w1.alloc (.cells #[.int .i64 0, .int .i64 0, .int .i64 0, .int .i64 0, .int .i64 0, .int .u32 0, .int .u32 0, .string ⟨#[]⟩] 40) = w2 at *
  generalize w1.heap.size = gh at *
  clear bh
  have la := LA.out.keep (by show 0 < 6; decide) b2
  have le := LE.out.keep (by show 0 < 5; decide) b2
  clear a0 a1 a2 a3 a4 a5 e0 e1 e2 e3 e4 f0 f1 f2 f3 f4 LA LE
  have a0 := la.cell 0 rfl
  have a1 := la.cell 1 rfl
  have a2 := la.cell 2 rfl
  have a3 := la.cell 3 rfl
  have a4 := la.cell 4 rfl
  have a5 := la.cell 5 rfl
  have e0 := le.cell 0 rfl
  have f0 := le.free 0 (by show 0 < 5; decide)
  have e1 := le.cell 1 rfl
  have f1 := le.free 1 (by show 1 < 5; decide)
  have e2 := le.cell 2 rfl
  have f2 := le.free 2 (by show 2 < 5; decide)
  have e3 := le.cell 3 rfl
  have f3 := le.free 3 (by show 3 < 5; decide)
  have e4 := le.cell 4 rfl
  have f4 := le.free 4 (by show 4 < 5; decide)
  have LA := Lib.hid la
  have LE := Lib.hid le
  clear la le
  have h0 := LH.cell 0 rfl
  have h1 := LH.cell 1 rfl
  have h2 := LH.cell 2 rfl
  have h3 := LH.cell 3 rfl
  have h4 := LH.cell 4 rfl
  have h5 := LH.cell 5 rfl
  have h6 := LH.cell 6 rfl
  have h7 := LH.cell 7 rfl
  replace RR := Lib.hid (RR.out.keep b2)
  replace b2 := Lib.hid (b0.out.trans (b2.mono b0.out.size))
  replace LH := Lib.hid LH
  clear b0 b1
  clear LH RR LA LE
  go_wp2_with fail
  refine ⟨rfl, .tuple #[.agg #[.bool false, .int .i64 0, .int .u32 0, .int .i64 0, .string ⟨#[]⟩], .int .i64 k], ?_, rfl, em_belowU b2.out hE.out _ _ _ _ _⟩
  simp [results, Tryz.results11, go_sem, *]
set_option maxHeartbeats 4000000 in
theorem ppk_src (T : Tu) (v : Value) (w : World) (h : RusAt w v T.rules) (s : ByteArray) (hi : T.ip = true) (tos id frag ttl pro src dst : Int) (dat : ByteArray) (PA : Hid (∀ w, Calls Tryz.prog 21 #[.string s] w fun e w' => e = .returned (.tuple #[hv tos id frag ttl pro src dst dat, .int .i64 0]) ∧ Below w.heap.size w w')) (ho : src ≠ T.own) : Calls Tryz.prog 11 #[tuV T v, .string s] w fun e w' => e = .returned (.tuple #[.agg #[.bool false, .int .i64 0, .int .u32 0, .int .i64 0, .string ⟨#[]⟩], .int .i64 15]) ∧ Below w.heap.size w w' := by
  obtain ⟨t0, bb⟩ := TL.new h 28
  obtain ⟨wb, hwb⟩ : ∃ x, x = w.alloc (.cells #[.bool T.ip, .int .u32 T.addr, .int .i64 T.tp, .int .u32 T.own, .int .i64 T.port, v] 28) := ⟨_, rfl⟩
  rw [← hwb] at t0 bb
  obtain ⟨a, n, c, rfl⟩ := h.form
  obtain ⟨we, hwe⟩ : ∃ x, x = wb.alloc (.cells #[.bool false, .int .i64 0, .int .u32 0, .int .i64 0, .string ⟨#[]⟩] 31) := ⟨_, rfl⟩
  have be : Below wb.heap.size wb we := by rw [hwe]; exact (Below.refl _ _).alloc (Nat.le_refl _) _
  have sb : wb.heap.size = w.heap.size + 1 := by rw [hwb]; simp
  have le : Lies we (w.heap.size + 1) [.bool false, .int .i64 0, .int .u32 0, .int .i64 0, .string ⟨#[]⟩] := by rw [hwe, ← sb]; exact Lies.new wb [.bool false, .int .i64 0, .int .u32 0, .int .i64 0, .string ⟨#[]⟩] _
  replace t0 := t0.keep be
  have b0 := Lib.hid (bb.trans (be.mono bb.size))
  have hE : Hid (w.heap.size ≤ w.heap.size + 1) := Nat.le_succ _
  unfold hv at *
  obtain ⟨ip, addr, tp, own, port, rules, rt⟩ := T
  simp only at *
  subst hi
  have y1 : (src != own) = true := by simp [ho]
  have y2 : ¬ src = own := ho
  clear ho
  have a0 := t0.c.cell 0 rfl
  have a1 := t0.c.cell 1 rfl
  have a2 := t0.c.cell 2 rfl
  have a3 := t0.c.cell 3 rfl
  have a4 := t0.c.cell 4 rfl
  have a5 := t0.c.cell 5 rfl
  have e0 := le.cell 0 rfl
  have f0 := le.free 0 (by show 0 < 5; decide)
  have e1 := le.cell 1 rfl
  have f1 := le.free 1 (by show 1 < 5; decide)
  have e2 := le.cell 2 rfl
  have f2 := le.free 2 (by show 2 < 5; decide)
  have e3 := le.cell 3 rfl
  have f3 := le.free 3 (by show 3 < 5; decide)
  have e4 := le.cell 4 rfl
  have f4 := le.free 4 (by show 4 < 5; decide)
  have LA := Lib.hid t0.c
  have LE := Lib.hid le
  have RR := Lib.hid t0.r
  replace hwb := Lib.hid hwb
  replace hwe := Lib.hid hwe
  clear h t0 le bb be sb
  try unfold tuV
  go_enter Tryz.func11, Tryz.ntmps11
  go_upto_region 1 with fail
  rw [← hwb.out, ← hwe.out]
  clear hwb hwe
  go_wp2_with fail
  refine (PA.out we).mono ?_
  rintro e w1 ⟨rfl, b1⟩
  clear PA
  go_upto_region 2 with fail
  have bh : Below w1.heap.size w1 (w1.alloc (.cells #[.int .i64 tos, .int .i64 id, .int .i64 frag, .int .i64 ttl, .int .i64 pro, .int .u32 src, .int .u32 dst, .string dat] 40)) := (Below.refl _ _).alloc (Nat.le_refl _) _
  have LH : Lies (w1.alloc (.cells #[.int .i64 tos, .int .i64 id, .int .i64 frag, .int .i64 ttl, .int .i64 pro, .int .u32 src, .int .u32 dst, .string dat] 40)) w1.heap.size [.int .i64 tos, .int .i64 id, .int .i64 frag, .int .i64 ttl, .int .i64 pro, .int .u32 src, .int .u32 dst, .string dat] := Lies.new w1 [.int .i64 tos, .int .i64 id, .int .i64 frag, .int .i64 ttl, .int .i64 pro, .int .u32 src, .int .u32 dst, .string dat] _
  have b2 := b1.trans (bh.mono b1.size)
  generalize w1.alloc (.cells #[.int .i64 tos, .int .i64 id, .int .i64 frag, .int .i64 ttl, .int .i64 pro, .int .u32 src, .int .u32 dst, .string dat] 40) = w2 at *
  generalize w1.heap.size = gh at *
  clear bh
  have la := LA.out.keep (by show 0 < 6; decide) b2
  have le := LE.out.keep (by show 0 < 5; decide) b2
  clear a0 a1 a2 a3 a4 a5 e0 e1 e2 e3 e4 f0 f1 f2 f3 f4 LA LE
  have a0 := la.cell 0 rfl
  have a1 := la.cell 1 rfl
  have a2 := la.cell 2 rfl
  have a3 := la.cell 3 rfl
  have a4 := la.cell 4 rfl
  have a5 := la.cell 5 rfl
  have e0 := le.cell 0 rfl
  have f0 := le.free 0 (by show 0 < 5; decide)
  have e1 := le.cell 1 rfl
  have f1 := le.free 1 (by show 1 < 5; decide)
  have e2 := le.cell 2 rfl
  have f2 := le.free 2 (by show 2 < 5; decide)
  have e3 := le.cell 3 rfl
  have f3 := le.free 3 (by show 3 < 5; decide)
  have e4 := le.cell 4 rfl
  have f4 := le.free 4 (by show 4 < 5; decide)
  have LA := Lib.hid la
  have LE := Lib.hid le
  clear la le
  have h0 := LH.cell 0 rfl
  have h1 := LH.cell 1 rfl
  have h2 := LH.cell 2 rfl
  have h3 := LH.cell 3 rfl
  have h4 := LH.cell 4 rfl
  have h5 := LH.cell 5 rfl
  have h6 := LH.cell 6 rfl
  have h7 := LH.cell 7 rfl
  replace RR := Lib.hid (RR.out.keep b2)
  replace b2 := Lib.hid (b0.out.trans (b2.mono b0.out.size))
  replace LH := Lib.hid LH
  clear b0 b1
  clear LA LE LH RR
  go_wp2_with fail
  refine ⟨rfl, .tuple #[.agg #[.bool false, .int .i64 0, .int .u32 0, .int .i64 0, .string ⟨#[]⟩], .int .i64 15], ?_, rfl, em_belowU b2.out hE.out _ _ _ _ _⟩
  simp [results, Tryz.results11, go_sem, *]
set_option maxHeartbeats 4000000 in
theorem ppk_rule (T : Tu) (v : Value) (w : World) (h : RusAt w v T.rules) (s : ByteArray) (hi : T.ip = true) (tos id frag ttl pro src dst : Int) (dat : ByteArray) (PA : Hid (∀ w, Calls Tryz.prog 21 #[.string s] w fun e w' => e = .returned (.tuple #[hv tos id frag ttl pro src dst dat, .int .i64 0]) ∧ Below w.heap.size w w')) (ho : src = T.own) (AL : Hid (∀ w, RusAt w v T.rules → Calls Tryz.prog 22 #[tuV T v, hv tos id frag ttl pro src dst dat] w fun e w' => e = .returned (.bool false) ∧ Below w.heap.size w w')) : Calls Tryz.prog 11 #[tuV T v, .string s] w fun e w' => e = .returned (.tuple #[.agg #[.bool false, .int .i64 0, .int .u32 0, .int .i64 0, .string ⟨#[]⟩], .int .i64 15]) ∧ Below w.heap.size w w' := by
  obtain ⟨t0, bb⟩ := TL.new h 28
  obtain ⟨wb, hwb⟩ : ∃ x, x = w.alloc (.cells #[.bool T.ip, .int .u32 T.addr, .int .i64 T.tp, .int .u32 T.own, .int .i64 T.port, v] 28) := ⟨_, rfl⟩
  rw [← hwb] at t0 bb
  obtain ⟨a, n, c, rfl⟩ := h.form
  obtain ⟨we, hwe⟩ : ∃ x, x = wb.alloc (.cells #[.bool false, .int .i64 0, .int .u32 0, .int .i64 0, .string ⟨#[]⟩] 31) := ⟨_, rfl⟩
  have be : Below wb.heap.size wb we := by rw [hwe]; exact (Below.refl _ _).alloc (Nat.le_refl _) _
  have sb : wb.heap.size = w.heap.size + 1 := by rw [hwb]; simp
  have le : Lies we (w.heap.size + 1) [.bool false, .int .i64 0, .int .u32 0, .int .i64 0, .string ⟨#[]⟩] := by rw [hwe, ← sb]; exact Lies.new wb [.bool false, .int .i64 0, .int .u32 0, .int .i64 0, .string ⟨#[]⟩] _
  replace t0 := t0.keep be
  have b0 := Lib.hid (bb.trans (be.mono bb.size))
  have hE : Hid (w.heap.size ≤ w.heap.size + 1) := Nat.le_succ _
  unfold hv tuV at *
  obtain ⟨ip, addr, tp, own, port, rules, rt⟩ := T
  simp only at *
  subst hi
  have ho2 := ho.symm
  clear ho
  subst ho2
  have a0 := t0.c.cell 0 rfl
  have a1 := t0.c.cell 1 rfl
  have a2 := t0.c.cell 2 rfl
  have a3 := t0.c.cell 3 rfl
  have a4 := t0.c.cell 4 rfl
  have a5 := t0.c.cell 5 rfl
  have e0 := le.cell 0 rfl
  have f0 := le.free 0 (by show 0 < 5; decide)
  have e1 := le.cell 1 rfl
  have f1 := le.free 1 (by show 1 < 5; decide)
  have e2 := le.cell 2 rfl
  have f2 := le.free 2 (by show 2 < 5; decide)
  have e3 := le.cell 3 rfl
  have f3 := le.free 3 (by show 3 < 5; decide)
  have e4 := le.cell 4 rfl
  have f4 := le.free 4 (by show 4 < 5; decide)
  have LA := Lib.hid t0.c
  have LE := Lib.hid le
  have RR := Lib.hid t0.r
  replace hwb := Lib.hid hwb
  replace hwe := Lib.hid hwe
  clear h t0 le bb be sb
  try unfold tuV
  go_enter Tryz.func11, Tryz.ntmps11
  go_upto_region 1 with fail
  rw [← hwb.out, ← hwe.out]
  clear hwb hwe
  go_wp2_with fail
  refine (PA.out we).mono ?_
  rintro e w1 ⟨rfl, b1⟩
  clear PA
  go_upto_region 2 with fail
  have bh : Below w1.heap.size w1 (w1.alloc (.cells #[.int .i64 tos, .int .i64 id, .int .i64 frag, .int .i64 ttl, .int .i64 pro, .int .u32 own, .int .u32 dst, .string dat] 40)) := (Below.refl _ _).alloc (Nat.le_refl _) _
  have LH : Lies (w1.alloc (.cells #[.int .i64 tos, .int .i64 id, .int .i64 frag, .int .i64 ttl, .int .i64 pro, .int .u32 own, .int .u32 dst, .string dat] 40)) w1.heap.size [.int .i64 tos, .int .i64 id, .int .i64 frag, .int .i64 ttl, .int .i64 pro, .int .u32 own, .int .u32 dst, .string dat] := Lies.new w1 [.int .i64 tos, .int .i64 id, .int .i64 frag, .int .i64 ttl, .int .i64 pro, .int .u32 own, .int .u32 dst, .string dat] _
  have b2 := b1.trans (bh.mono b1.size)
  generalize w1.alloc (.cells #[.int .i64 tos, .int .i64 id, .int .i64 frag, .int .i64 ttl, .int .i64 pro, .int .u32 own, .int .u32 dst, .string dat] 40) = w2 at *
  generalize w1.heap.size = gh at *
  clear bh
  have la := LA.out.keep (by show 0 < 6; decide) b2
  have le := LE.out.keep (by show 0 < 5; decide) b2
  clear a0 a1 a2 a3 a4 a5 e0 e1 e2 e3 e4 f0 f1 f2 f3 f4 LA LE
  have a0 := la.cell 0 rfl
  have a1 := la.cell 1 rfl
  have a2 := la.cell 2 rfl
  have a3 := la.cell 3 rfl
  have a4 := la.cell 4 rfl
  have a5 := la.cell 5 rfl
  have e0 := le.cell 0 rfl
  have f0 := le.free 0 (by show 0 < 5; decide)
  have e1 := le.cell 1 rfl
  have f1 := le.free 1 (by show 1 < 5; decide)
  have e2 := le.cell 2 rfl
  have f2 := le.free 2 (by show 2 < 5; decide)
  have e3 := le.cell 3 rfl
  have f3 := le.free 3 (by show 3 < 5; decide)
  have e4 := le.cell 4 rfl
  have f4 := le.free 4 (by show 4 < 5; decide)
  have LA := Lib.hid la
  have LE := Lib.hid le
  clear la le
  have h0 := LH.cell 0 rfl
  have h1 := LH.cell 1 rfl
  have h2 := LH.cell 2 rfl
  have h3 := LH.cell 3 rfl
  have h4 := LH.cell 4 rfl
  have h5 := LH.cell 5 rfl
  have h6 := LH.cell 6 rfl
  have h7 := LH.cell 7 rfl
  replace RR := Lib.hid (RR.out.keep b2)
  replace b2 := Lib.hid (b0.out.trans (b2.mono b0.out.size))
  replace LH := Lib.hid LH
  clear b0 b1
  go_wp2_with fail
  refine (AL.out w2 RR.out).mono ?_
  rintro e w3 ⟨rfl, b3⟩
  clear AL RR
  have lh := LH.out.keep (by show 0 < 8; decide) b3
  clear h0 h1 h2 h3 h4 h5 h6 h7 LH
  have h0 := lh.cell 0 rfl
  have h1 := lh.cell 1 rfl
  have h2 := lh.cell 2 rfl
  have h3 := lh.cell 3 rfl
  have h4 := lh.cell 4 rfl
  have h5 := lh.cell 5 rfl
  have h6 := lh.cell 6 rfl
  have h7 := lh.cell 7 rfl
  have la := LA.out.keep (by show 0 < 6; decide) b3
  have le := LE.out.keep (by show 0 < 5; decide) b3
  clear a0 a1 a2 a3 a4 a5 e0 e1 e2 e3 e4 f0 f1 f2 f3 f4 LA LE
  have a0 := la.cell 0 rfl
  have a1 := la.cell 1 rfl
  have a2 := la.cell 2 rfl
  have a3 := la.cell 3 rfl
  have a4 := la.cell 4 rfl
  have a5 := la.cell 5 rfl
  have e0 := le.cell 0 rfl
  have f0 := le.free 0 (by show 0 < 5; decide)
  have e1 := le.cell 1 rfl
  have f1 := le.free 1 (by show 1 < 5; decide)
  have e2 := le.cell 2 rfl
  have f2 := le.free 2 (by show 2 < 5; decide)
  have e3 := le.cell 3 rfl
  have f3 := le.free 3 (by show 3 < 5; decide)
  have e4 := le.cell 4 rfl
  have f4 := le.free 4 (by show 4 < 5; decide)
  have LA := Lib.hid la
  have LE := Lib.hid le
  clear la le
  replace b2 := Lib.hid (b2.out.trans (b3.mono b2.out.size))
  have LH3 := Lib.hid lh
  clear lh b3
  clear LA LE LH3
  go_wp2_with fail
  refine ⟨rfl, .tuple #[.agg #[.bool false, .int .i64 0, .int .u32 0, .int .i64 0, .string ⟨#[]⟩], .int .i64 15], ?_, rfl, em_belowU b2.out hE.out _ _ _ _ _⟩
  simp [results, Tryz.results11, go_sem, *]
set_option maxHeartbeats 4000000 in
theorem ppk_stop (T : Tu) (v : Value) (w : World) (h : RusAt w v T.rules) (s : ByteArray) (hi : T.ip = true) (tos id frag ttl pro src dst : Int) (dat : ByteArray) (PA : Hid (∀ w, Calls Tryz.prog 21 #[.string s] w fun e w' => e = .returned (.tuple #[hv tos id frag ttl pro src dst dat, .int .i64 0]) ∧ Below w.heap.size w w')) (ho : src = T.own) (AL : Hid (∀ w, RusAt w v T.rules → Calls Tryz.prog 22 #[tuV T v, hv tos id frag ttl pro src dst dat] w fun e w' => e = .returned (.bool true) ∧ Below w.heap.size w w')) (ht : ByteArray) (hk : Int) (hk0 : (hk != 0) = true) (HO : Hid (∀ w, Calls Tryz.prog 23 #[.string s, hv tos id frag ttl pro src dst dat] w fun e w' => e = .returned (.tuple #[.string ht, .int .i64 hk]) ∧ Below w.heap.size w w')) : Calls Tryz.prog 11 #[tuV T v, .string s] w fun e w' => e = .returned (.tuple #[.agg #[.bool false, .int .i64 0, .int .u32 0, .int .i64 0, .string ⟨#[]⟩], .int .i64 hk]) ∧ Below w.heap.size w w' := by
  obtain ⟨t0, bb⟩ := TL.new h 28
  obtain ⟨wb, hwb⟩ : ∃ x, x = w.alloc (.cells #[.bool T.ip, .int .u32 T.addr, .int .i64 T.tp, .int .u32 T.own, .int .i64 T.port, v] 28) := ⟨_, rfl⟩
  rw [← hwb] at t0 bb
  obtain ⟨a, n, c, rfl⟩ := h.form
  obtain ⟨we, hwe⟩ : ∃ x, x = wb.alloc (.cells #[.bool false, .int .i64 0, .int .u32 0, .int .i64 0, .string ⟨#[]⟩] 31) := ⟨_, rfl⟩
  have be : Below wb.heap.size wb we := by rw [hwe]; exact (Below.refl _ _).alloc (Nat.le_refl _) _
  have sb : wb.heap.size = w.heap.size + 1 := by rw [hwb]; simp
  have le : Lies we (w.heap.size + 1) [.bool false, .int .i64 0, .int .u32 0, .int .i64 0, .string ⟨#[]⟩] := by rw [hwe, ← sb]; exact Lies.new wb [.bool false, .int .i64 0, .int .u32 0, .int .i64 0, .string ⟨#[]⟩] _
  replace t0 := t0.keep be
  have b0 := Lib.hid (bb.trans (be.mono bb.size))
  have hE : Hid (w.heap.size ≤ w.heap.size + 1) := Nat.le_succ _
  unfold hv tuV at *
  obtain ⟨ip, addr, tp, own, port, rules, rt⟩ := T
  simp only at *
  subst hi
  have ho2 := ho.symm
  clear ho
  subst ho2
  have a0 := t0.c.cell 0 rfl
  have a1 := t0.c.cell 1 rfl
  have a2 := t0.c.cell 2 rfl
  have a3 := t0.c.cell 3 rfl
  have a4 := t0.c.cell 4 rfl
  have a5 := t0.c.cell 5 rfl
  have e0 := le.cell 0 rfl
  have f0 := le.free 0 (by show 0 < 5; decide)
  have e1 := le.cell 1 rfl
  have f1 := le.free 1 (by show 1 < 5; decide)
  have e2 := le.cell 2 rfl
  have f2 := le.free 2 (by show 2 < 5; decide)
  have e3 := le.cell 3 rfl
  have f3 := le.free 3 (by show 3 < 5; decide)
  have e4 := le.cell 4 rfl
  have f4 := le.free 4 (by show 4 < 5; decide)
  have LA := Lib.hid t0.c
  have LE := Lib.hid le
  have RR := Lib.hid t0.r
  replace hwb := Lib.hid hwb
  replace hwe := Lib.hid hwe
  clear h t0 le bb be sb
  try unfold tuV
  go_enter Tryz.func11, Tryz.ntmps11
  go_upto_region 1 with fail
  rw [← hwb.out, ← hwe.out]
  clear hwb hwe
  go_wp2_with fail
  refine (PA.out we).mono ?_
  rintro e w1 ⟨rfl, b1⟩
  clear PA
  go_upto_region 2 with fail
  have bh : Below w1.heap.size w1 (w1.alloc (.cells #[.int .i64 tos, .int .i64 id, .int .i64 frag, .int .i64 ttl, .int .i64 pro, .int .u32 own, .int .u32 dst, .string dat] 40)) := (Below.refl _ _).alloc (Nat.le_refl _) _
  have LH : Lies (w1.alloc (.cells #[.int .i64 tos, .int .i64 id, .int .i64 frag, .int .i64 ttl, .int .i64 pro, .int .u32 own, .int .u32 dst, .string dat] 40)) w1.heap.size [.int .i64 tos, .int .i64 id, .int .i64 frag, .int .i64 ttl, .int .i64 pro, .int .u32 own, .int .u32 dst, .string dat] := Lies.new w1 [.int .i64 tos, .int .i64 id, .int .i64 frag, .int .i64 ttl, .int .i64 pro, .int .u32 own, .int .u32 dst, .string dat] _
  have b2 := b1.trans (bh.mono b1.size)
  generalize w1.alloc (.cells #[.int .i64 tos, .int .i64 id, .int .i64 frag, .int .i64 ttl, .int .i64 pro, .int .u32 own, .int .u32 dst, .string dat] 40) = w2 at *
  generalize w1.heap.size = gh at *
  clear bh
  have la := LA.out.keep (by show 0 < 6; decide) b2
  have le := LE.out.keep (by show 0 < 5; decide) b2
  clear a0 a1 a2 a3 a4 a5 e0 e1 e2 e3 e4 f0 f1 f2 f3 f4 LA LE
  have a0 := la.cell 0 rfl
  have a1 := la.cell 1 rfl
  have a2 := la.cell 2 rfl
  have a3 := la.cell 3 rfl
  have a4 := la.cell 4 rfl
  have a5 := la.cell 5 rfl
  have e0 := le.cell 0 rfl
  have f0 := le.free 0 (by show 0 < 5; decide)
  have e1 := le.cell 1 rfl
  have f1 := le.free 1 (by show 1 < 5; decide)
  have e2 := le.cell 2 rfl
  have f2 := le.free 2 (by show 2 < 5; decide)
  have e3 := le.cell 3 rfl
  have f3 := le.free 3 (by show 3 < 5; decide)
  have e4 := le.cell 4 rfl
  have f4 := le.free 4 (by show 4 < 5; decide)
  have LA := Lib.hid la
  have LE := Lib.hid le
  clear la le
  have h0 := LH.cell 0 rfl
  have h1 := LH.cell 1 rfl
  have h2 := LH.cell 2 rfl
  have h3 := LH.cell 3 rfl
  have h4 := LH.cell 4 rfl
  have h5 := LH.cell 5 rfl
  have h6 := LH.cell 6 rfl
  have h7 := LH.cell 7 rfl
  replace RR := Lib.hid (RR.out.keep b2)
  replace b2 := Lib.hid (b0.out.trans (b2.mono b0.out.size))
  replace LH := Lib.hid LH
  clear b0 b1
  go_wp2_with fail
  refine (AL.out w2 RR.out).mono ?_
  rintro e w3 ⟨rfl, b3⟩
  clear AL RR
  have lh := LH.out.keep (by show 0 < 8; decide) b3
  clear h0 h1 h2 h3 h4 h5 h6 h7 LH
  have h0 := lh.cell 0 rfl
  have h1 := lh.cell 1 rfl
  have h2 := lh.cell 2 rfl
  have h3 := lh.cell 3 rfl
  have h4 := lh.cell 4 rfl
  have h5 := lh.cell 5 rfl
  have h6 := lh.cell 6 rfl
  have h7 := lh.cell 7 rfl
  have la := LA.out.keep (by show 0 < 6; decide) b3
  have le := LE.out.keep (by show 0 < 5; decide) b3
  clear a0 a1 a2 a3 a4 a5 e0 e1 e2 e3 e4 f0 f1 f2 f3 f4 LA LE
  have a0 := la.cell 0 rfl
  have a1 := la.cell 1 rfl
  have a2 := la.cell 2 rfl
  have a3 := la.cell 3 rfl
  have a4 := la.cell 4 rfl
  have a5 := la.cell 5 rfl
  have e0 := le.cell 0 rfl
  have f0 := le.free 0 (by show 0 < 5; decide)
  have e1 := le.cell 1 rfl
  have f1 := le.free 1 (by show 1 < 5; decide)
  have e2 := le.cell 2 rfl
  have f2 := le.free 2 (by show 2 < 5; decide)
  have e3 := le.cell 3 rfl
  have f3 := le.free 3 (by show 3 < 5; decide)
  have e4 := le.cell 4 rfl
  have f4 := le.free 4 (by show 4 < 5; decide)
  have LA := Lib.hid la
  have LE := Lib.hid le
  clear la le
  replace b2 := Lib.hid (b2.out.trans (b3.mono b2.out.size))
  have LH3 := Lib.hid lh
  clear lh b3
  go_wp2_with fail
  refine (HO.out w3).mono ?_
  rintro e w4 ⟨rfl, b4⟩
  clear HO
  have lh := LH3.out.keep (by show 0 < 8; decide) b4
  clear h0 h1 h2 h3 h4 h5 h6 h7 LH3
  have h6 := lh.cell 6 rfl
  clear lh
  have la := LA.out.keep (by show 0 < 6; decide) b4
  have le := LE.out.keep (by show 0 < 5; decide) b4
  clear a0 a1 a2 a3 a4 a5 e0 e1 e2 e3 e4 f0 f1 f2 f3 f4 LA LE
  have a0 := la.cell 0 rfl
  have a1 := la.cell 1 rfl
  have a2 := la.cell 2 rfl
  have a3 := la.cell 3 rfl
  have a4 := la.cell 4 rfl
  have a5 := la.cell 5 rfl
  have e0 := le.cell 0 rfl
  have f0 := le.free 0 (by show 0 < 5; decide)
  have e1 := le.cell 1 rfl
  have f1 := le.free 1 (by show 1 < 5; decide)
  have e2 := le.cell 2 rfl
  have f2 := le.free 2 (by show 2 < 5; decide)
  have e3 := le.cell 3 rfl
  have f3 := le.free 3 (by show 3 < 5; decide)
  have e4 := le.cell 4 rfl
  have f4 := le.free 4 (by show 4 < 5; decide)
  have LA := Lib.hid la
  have LE := Lib.hid le
  clear la le
  replace b4 := Lib.hid (b2.out.trans (b4.mono b2.out.size))
  clear b2 LA LE
  go_wp2_with fail
  refine ⟨rfl, .tuple #[.agg #[.bool false, .int .i64 0, .int .u32 0, .int .i64 0, .string ⟨#[]⟩], .int .i64 hk], ?_, rfl, em_belowU b4.out hE.out _ _ _ _ _⟩
  simp [results, Tryz.results11, go_sem, *]
set_option maxHeartbeats 4000000 in
theorem ppk_pass (T : Tu) (v : Value) (w : World) (h : RusAt w v T.rules) (s : ByteArray) (hi : T.ip = true) (tos id frag ttl pro src dst : Int) (dat : ByteArray) (PA : Hid (∀ w, Calls Tryz.prog 21 #[.string s] w fun e w' => e = .returned (.tuple #[hv tos id frag ttl pro src dst dat, .int .i64 0]) ∧ Below w.heap.size w w')) (ho : src = T.own) (AL : Hid (∀ w, RusAt w v T.rules → Calls Tryz.prog 22 #[tuV T v, hv tos id frag ttl pro src dst dat] w fun e w' => e = .returned (.bool true) ∧ Below w.heap.size w w')) (ht : ByteArray) (HO : Hid (∀ w, Calls Tryz.prog 23 #[.string s, hv tos id frag ttl pro src dst dat] w fun e w' => e = .returned (.tuple #[.string ht, .int .i64 0]) ∧ Below w.heap.size w w')) : Calls Tryz.prog 11 #[tuV T v, .string s] w fun e w' => e = .returned (.tuple #[.agg #[.bool true, .int .i64 0, .int .u32 dst, .int .i64 0, .string ht], .int .i64 0]) ∧ Below w.heap.size w w' := by
  obtain ⟨t0, bb⟩ := TL.new h 28
  obtain ⟨wb, hwb⟩ : ∃ x, x = w.alloc (.cells #[.bool T.ip, .int .u32 T.addr, .int .i64 T.tp, .int .u32 T.own, .int .i64 T.port, v] 28) := ⟨_, rfl⟩
  rw [← hwb] at t0 bb
  obtain ⟨a, n, c, rfl⟩ := h.form
  obtain ⟨we, hwe⟩ : ∃ x, x = wb.alloc (.cells #[.bool false, .int .i64 0, .int .u32 0, .int .i64 0, .string ⟨#[]⟩] 31) := ⟨_, rfl⟩
  have be : Below wb.heap.size wb we := by rw [hwe]; exact (Below.refl _ _).alloc (Nat.le_refl _) _
  have sb : wb.heap.size = w.heap.size + 1 := by rw [hwb]; simp
  have le : Lies we (w.heap.size + 1) [.bool false, .int .i64 0, .int .u32 0, .int .i64 0, .string ⟨#[]⟩] := by rw [hwe, ← sb]; exact Lies.new wb [.bool false, .int .i64 0, .int .u32 0, .int .i64 0, .string ⟨#[]⟩] _
  replace t0 := t0.keep be
  have b0 := Lib.hid (bb.trans (be.mono bb.size))
  have hE : Hid (w.heap.size ≤ w.heap.size + 1) := Nat.le_succ _
  unfold hv tuV at *
  obtain ⟨ip, addr, tp, own, port, rules, rt⟩ := T
  simp only at *
  subst hi
  have ho2 := ho.symm
  clear ho
  subst ho2
  have a0 := t0.c.cell 0 rfl
  have a1 := t0.c.cell 1 rfl
  have a2 := t0.c.cell 2 rfl
  have a3 := t0.c.cell 3 rfl
  have a4 := t0.c.cell 4 rfl
  have a5 := t0.c.cell 5 rfl
  have e0 := le.cell 0 rfl
  have f0 := le.free 0 (by show 0 < 5; decide)
  have e1 := le.cell 1 rfl
  have f1 := le.free 1 (by show 1 < 5; decide)
  have e2 := le.cell 2 rfl
  have f2 := le.free 2 (by show 2 < 5; decide)
  have e3 := le.cell 3 rfl
  have f3 := le.free 3 (by show 3 < 5; decide)
  have e4 := le.cell 4 rfl
  have f4 := le.free 4 (by show 4 < 5; decide)
  have LA := Lib.hid t0.c
  have LE := Lib.hid le
  have RR := Lib.hid t0.r
  replace hwb := Lib.hid hwb
  replace hwe := Lib.hid hwe
  clear h t0 le bb be sb
  try unfold tuV
  go_enter Tryz.func11, Tryz.ntmps11
  go_upto_region 1 with fail
  rw [← hwb.out, ← hwe.out]
  clear hwb hwe
  go_wp2_with fail
  refine (PA.out we).mono ?_
  rintro e w1 ⟨rfl, b1⟩
  clear PA
  go_upto_region 2 with fail
  have bh : Below w1.heap.size w1 (w1.alloc (.cells #[.int .i64 tos, .int .i64 id, .int .i64 frag, .int .i64 ttl, .int .i64 pro, .int .u32 own, .int .u32 dst, .string dat] 40)) := (Below.refl _ _).alloc (Nat.le_refl _) _
  have LH : Lies (w1.alloc (.cells #[.int .i64 tos, .int .i64 id, .int .i64 frag, .int .i64 ttl, .int .i64 pro, .int .u32 own, .int .u32 dst, .string dat] 40)) w1.heap.size [.int .i64 tos, .int .i64 id, .int .i64 frag, .int .i64 ttl, .int .i64 pro, .int .u32 own, .int .u32 dst, .string dat] := Lies.new w1 [.int .i64 tos, .int .i64 id, .int .i64 frag, .int .i64 ttl, .int .i64 pro, .int .u32 own, .int .u32 dst, .string dat] _
  have b2 := b1.trans (bh.mono b1.size)
  generalize w1.alloc (.cells #[.int .i64 tos, .int .i64 id, .int .i64 frag, .int .i64 ttl, .int .i64 pro, .int .u32 own, .int .u32 dst, .string dat] 40) = w2 at *
  generalize w1.heap.size = gh at *
  clear bh
  have la := LA.out.keep (by show 0 < 6; decide) b2
  have le := LE.out.keep (by show 0 < 5; decide) b2
  clear a0 a1 a2 a3 a4 a5 e0 e1 e2 e3 e4 f0 f1 f2 f3 f4 LA LE
  have a0 := la.cell 0 rfl
  have a1 := la.cell 1 rfl
  have a2 := la.cell 2 rfl
  have a3 := la.cell 3 rfl
  have a4 := la.cell 4 rfl
  have a5 := la.cell 5 rfl
  have e0 := le.cell 0 rfl
  have f0 := le.free 0 (by show 0 < 5; decide)
  have e1 := le.cell 1 rfl
  have f1 := le.free 1 (by show 1 < 5; decide)
  have e2 := le.cell 2 rfl
  have f2 := le.free 2 (by show 2 < 5; decide)
  have e3 := le.cell 3 rfl
  have f3 := le.free 3 (by show 3 < 5; decide)
  have e4 := le.cell 4 rfl
  have f4 := le.free 4 (by show 4 < 5; decide)
  have LA := Lib.hid la
  have LE := Lib.hid le
  clear la le
  have h0 := LH.cell 0 rfl
  have h1 := LH.cell 1 rfl
  have h2 := LH.cell 2 rfl
  have h3 := LH.cell 3 rfl
  have h4 := LH.cell 4 rfl
  have h5 := LH.cell 5 rfl
  have h6 := LH.cell 6 rfl
  have h7 := LH.cell 7 rfl
  replace RR := Lib.hid (RR.out.keep b2)
  replace b2 := Lib.hid (b0.out.trans (b2.mono b0.out.size))
  replace LH := Lib.hid LH
  clear b0 b1
  go_wp2_with fail
  refine (AL.out w2 RR.out).mono ?_
  rintro e w3 ⟨rfl, b3⟩
  clear AL RR
  have lh := LH.out.keep (by show 0 < 8; decide) b3
  clear h0 h1 h2 h3 h4 h5 h6 h7 LH
  have h0 := lh.cell 0 rfl
  have h1 := lh.cell 1 rfl
  have h2 := lh.cell 2 rfl
  have h3 := lh.cell 3 rfl
  have h4 := lh.cell 4 rfl
  have h5 := lh.cell 5 rfl
  have h6 := lh.cell 6 rfl
  have h7 := lh.cell 7 rfl
  have la := LA.out.keep (by show 0 < 6; decide) b3
  have le := LE.out.keep (by show 0 < 5; decide) b3
  clear a0 a1 a2 a3 a4 a5 e0 e1 e2 e3 e4 f0 f1 f2 f3 f4 LA LE
  have a0 := la.cell 0 rfl
  have a1 := la.cell 1 rfl
  have a2 := la.cell 2 rfl
  have a3 := la.cell 3 rfl
  have a4 := la.cell 4 rfl
  have a5 := la.cell 5 rfl
  have e0 := le.cell 0 rfl
  have f0 := le.free 0 (by show 0 < 5; decide)
  have e1 := le.cell 1 rfl
  have f1 := le.free 1 (by show 1 < 5; decide)
  have e2 := le.cell 2 rfl
  have f2 := le.free 2 (by show 2 < 5; decide)
  have e3 := le.cell 3 rfl
  have f3 := le.free 3 (by show 3 < 5; decide)
  have e4 := le.cell 4 rfl
  have f4 := le.free 4 (by show 4 < 5; decide)
  have LA := Lib.hid la
  have LE := Lib.hid le
  clear la le
  replace b2 := Lib.hid (b2.out.trans (b3.mono b2.out.size))
  have LH3 := Lib.hid lh
  clear lh b3
  go_wp2_with fail
  refine (HO.out w3).mono ?_
  rintro e w4 ⟨rfl, b4⟩
  clear HO
  have lh := LH3.out.keep (by show 0 < 8; decide) b4
  clear h0 h1 h2 h3 h4 h5 h6 h7 LH3
  have h6 := lh.cell 6 rfl
  clear lh
  have la := LA.out.keep (by show 0 < 6; decide) b4
  have le := LE.out.keep (by show 0 < 5; decide) b4
  clear a0 a1 a2 a3 a4 a5 e0 e1 e2 e3 e4 f0 f1 f2 f3 f4 LA LE
  have a0 := la.cell 0 rfl
  have a1 := la.cell 1 rfl
  have a2 := la.cell 2 rfl
  have a3 := la.cell 3 rfl
  have a4 := la.cell 4 rfl
  have a5 := la.cell 5 rfl
  have e0 := le.cell 0 rfl
  have f0 := le.free 0 (by show 0 < 5; decide)
  have e1 := le.cell 1 rfl
  have f1 := le.free 1 (by show 1 < 5; decide)
  have e2 := le.cell 2 rfl
  have f2 := le.free 2 (by show 2 < 5; decide)
  have e3 := le.cell 3 rfl
  have f3 := le.free 3 (by show 3 < 5; decide)
  have e4 := le.cell 4 rfl
  have f4 := le.free 4 (by show 4 < 5; decide)
  have LA := Lib.hid la
  have LE := Lib.hid le
  clear la le
  replace b4 := Lib.hid (b2.out.trans (b4.mono b2.out.size))
  clear b2 LA LE
  go_wp2_with fail
  refine ⟨rfl, .tuple #[.agg #[.bool true, .int .i64 0, .int .u32 dst, .int .i64 0, .string ht], .int .i64 0], ?_, rfl, em_belowU b4.out hE.out _ _ _ _ _⟩
  simp [results, Tryz.results11, go_sem, *]
set_option maxHeartbeats 4000000 in
theorem pup_long (T : Tu) (v : Value) (w : World) (h : RusAt w v T.rules) (s : ByteArray) (h1 : 1000 < s.size) : Calls Tryz.prog 5 #[tuV T v, .string s] w fun e w' => e = .returned (.tuple #[.agg #[.bool false, .int .i64 0, .int .u32 0, .int .i64 0, .string ⟨#[]⟩], .int .i64 8]) ∧ Below w.heap.size w w' := by
  have x2 : (1000 : Int) < (s.size : Int) := by omega
  obtain ⟨t0, bb⟩ := TL.new h 28
  obtain ⟨wb, hwb⟩ : ∃ x, x = w.alloc (.cells #[.bool T.ip, .int .u32 T.addr, .int .i64 T.tp, .int .u32 T.own, .int .i64 T.port, v] 28) := ⟨_, rfl⟩
  rw [← hwb] at t0 bb
  obtain ⟨a, n, c, rfl⟩ := h.form
  obtain ⟨we, hwe⟩ : ∃ x, x = wb.alloc (.cells #[.bool false, .int .i64 0, .int .u32 0, .int .i64 0, .string ⟨#[]⟩] 31) := ⟨_, rfl⟩
  have be : Below wb.heap.size wb we := by rw [hwe]; exact (Below.refl _ _).alloc (Nat.le_refl _) _
  have sb : wb.heap.size = w.heap.size + 1 := by rw [hwb]; simp
  have le : Lies we (w.heap.size + 1) [.bool false, .int .i64 0, .int .u32 0, .int .i64 0, .string ⟨#[]⟩] := by rw [hwe, ← sb]; exact Lies.new wb [.bool false, .int .i64 0, .int .u32 0, .int .i64 0, .string ⟨#[]⟩] _
  replace t0 := t0.keep be
  have b0 := Lib.hid (bb.trans (be.mono bb.size))
  have hE : Hid (w.heap.size ≤ w.heap.size + 1) := Nat.le_succ _
  obtain ⟨ip, addr, tp, own, port, rules, rt⟩ := T
  simp only at *
  have a0 := t0.c.cell 0 rfl
  have a1 := t0.c.cell 1 rfl
  have a2 := t0.c.cell 2 rfl
  have a3 := t0.c.cell 3 rfl
  have a4 := t0.c.cell 4 rfl
  have a5 := t0.c.cell 5 rfl
  have e0 := le.cell 0 rfl
  have f0 := le.free 0 (by show 0 < 5; decide)
  have e1 := le.cell 1 rfl
  have f1 := le.free 1 (by show 1 < 5; decide)
  have e2 := le.cell 2 rfl
  have f2 := le.free 2 (by show 2 < 5; decide)
  have e3 := le.cell 3 rfl
  have f3 := le.free 3 (by show 3 < 5; decide)
  have e4 := le.cell 4 rfl
  have f4 := le.free 4 (by show 4 < 5; decide)
  have LA := Lib.hid t0.c
  have LE := Lib.hid le
  have RR := Lib.hid t0.r
  replace hwb := Lib.hid hwb
  replace hwe := Lib.hid hwe
  clear h t0 le bb be sb
  try unfold tuV
  go_enter Tryz.func5, Tryz.ntmps5
  go_upto_region 1 with fail
  rw [← hwb.out, ← hwe.out]
  clear hwb hwe
  clear LA LE RR h1
  go_wp2_with fail
  refine ⟨rfl, .tuple #[.agg #[.bool false, .int .i64 0, .int .u32 0, .int .i64 0, .string ⟨#[]⟩], .int .i64 8], ?_, rfl, em_belowU b0.out hE.out _ _ _ _ _⟩
  simp [results, Tryz.results5, go_sem, *]
set_option maxHeartbeats 4000000 in
theorem pup_true (T : Tu) (v : Value) (w : World) (h : RusAt w v T.rules) (s : ByteArray) (h1 : ¬ 1000 < s.size) (hi : T.ip = true) (mi : Bool) (mp ma mt k : Int) (md : ByteArray) (PU : Hid (∀ w, RusAt w v T.rules → Calls Tryz.prog 11 #[tuV T v, .string s] w fun e w' => e = .returned (.tuple #[.agg #[.bool mi, .int .i64 mp, .int .u32 ma, .int .i64 mt, .string md], .int .i64 k]) ∧ Below w.heap.size w w')) : Calls Tryz.prog 5 #[tuV T v, .string s] w fun e w' => e = .returned (.tuple #[.agg #[.bool mi, .int .i64 mp, .int .u32 ma, .int .i64 mt, .string md], .int .i64 k]) ∧ Below w.heap.size w w' := by
  have x2 : ¬ (1000 : Int) < (s.size : Int) := by omega
  obtain ⟨t0, bb⟩ := TL.new h 28
  obtain ⟨wb, hwb⟩ : ∃ x, x = w.alloc (.cells #[.bool T.ip, .int .u32 T.addr, .int .i64 T.tp, .int .u32 T.own, .int .i64 T.port, v] 28) := ⟨_, rfl⟩
  rw [← hwb] at t0 bb
  obtain ⟨a, n, c, rfl⟩ := h.form
  obtain ⟨we, hwe⟩ : ∃ x, x = wb.alloc (.cells #[.bool false, .int .i64 0, .int .u32 0, .int .i64 0, .string ⟨#[]⟩] 31) := ⟨_, rfl⟩
  have be : Below wb.heap.size wb we := by rw [hwe]; exact (Below.refl _ _).alloc (Nat.le_refl _) _
  have sb : wb.heap.size = w.heap.size + 1 := by rw [hwb]; simp
  have le : Lies we (w.heap.size + 1) [.bool false, .int .i64 0, .int .u32 0, .int .i64 0, .string ⟨#[]⟩] := by rw [hwe, ← sb]; exact Lies.new wb [.bool false, .int .i64 0, .int .u32 0, .int .i64 0, .string ⟨#[]⟩] _
  replace t0 := t0.keep be
  have b0 := Lib.hid (bb.trans (be.mono bb.size))
  have hE : Hid (w.heap.size ≤ w.heap.size + 1) := Nat.le_succ _
  unfold tuV at *
  obtain ⟨ip, addr, tp, own, port, rules, rt⟩ := T
  simp only at *
  subst hi
  have a0 := t0.c.cell 0 rfl
  have a1 := t0.c.cell 1 rfl
  have a2 := t0.c.cell 2 rfl
  have a3 := t0.c.cell 3 rfl
  have a4 := t0.c.cell 4 rfl
  have a5 := t0.c.cell 5 rfl
  have e0 := le.cell 0 rfl
  have f0 := le.free 0 (by show 0 < 5; decide)
  have e1 := le.cell 1 rfl
  have f1 := le.free 1 (by show 1 < 5; decide)
  have e2 := le.cell 2 rfl
  have f2 := le.free 2 (by show 2 < 5; decide)
  have e3 := le.cell 3 rfl
  have f3 := le.free 3 (by show 3 < 5; decide)
  have e4 := le.cell 4 rfl
  have f4 := le.free 4 (by show 4 < 5; decide)
  have LA := Lib.hid t0.c
  have LE := Lib.hid le
  have RR := Lib.hid t0.r
  replace hwb := Lib.hid hwb
  replace hwe := Lib.hid hwe
  clear h t0 le bb be sb
  try unfold tuV
  go_enter Tryz.func5, Tryz.ntmps5
  go_upto_region 1 with fail
  rw [← hwb.out, ← hwe.out]
  clear hwb hwe
  clear h1
  go_wp2_with fail
  refine (PU.out we RR.out).mono ?_
  rintro e w1 ⟨rfl, b1⟩
  clear PU RR
  have la := LA.out.keep (by show 0 < 6; decide) b1
  have le := LE.out.keep (by show 0 < 5; decide) b1
  clear a0 a1 a2 a3 a4 a5 e0 e1 e2 e3 e4 f0 f1 f2 f3 f4 LA LE
  have a0 := la.cell 0 rfl
  have a1 := la.cell 1 rfl
  have a2 := la.cell 2 rfl
  have a3 := la.cell 3 rfl
  have a4 := la.cell 4 rfl
  have a5 := la.cell 5 rfl
  have e0 := le.cell 0 rfl
  have f0 := le.free 0 (by show 0 < 5; decide)
  have e1 := le.cell 1 rfl
  have f1 := le.free 1 (by show 1 < 5; decide)
  have e2 := le.cell 2 rfl
  have f2 := le.free 2 (by show 2 < 5; decide)
  have e3 := le.cell 3 rfl
  have f3 := le.free 3 (by show 3 < 5; decide)
  have e4 := le.cell 4 rfl
  have f4 := le.free 4 (by show 4 < 5; decide)
  have LA := Lib.hid la
  have LE := Lib.hid le
  clear la le
  replace b1 := Lib.hid (b0.out.trans (b1.mono b0.out.size))
  clear b0 LA LE
  go_wp2_with fail
  refine ⟨rfl, .tuple #[.agg #[.bool mi, .int .i64 mp, .int .u32 ma, .int .i64 mt, .string md], .int .i64 k], ?_, rfl, em_belowU b1.out hE.out _ _ _ _ _⟩
  simp [results, Tryz.results5, go_sem, *]
set_option maxHeartbeats 4000000 in
theorem pup_false (T : Tu) (v : Value) (w : World) (h : RusAt w v T.rules) (s : ByteArray) (h1 : ¬ 1000 < s.size) (hi : T.ip = false) (mi : Bool) (mp ma mt k : Int) (md : ByteArray) (PU : Hid (∀ w, RusAt w v T.rules → Calls Tryz.prog 12 #[tuV T v, .string s] w fun e w' => e = .returned (.tuple #[.agg #[.bool mi, .int .i64 mp, .int .u32 ma, .int .i64 mt, .string md], .int .i64 k]) ∧ Below w.heap.size w w')) : Calls Tryz.prog 5 #[tuV T v, .string s] w fun e w' => e = .returned (.tuple #[.agg #[.bool mi, .int .i64 mp, .int .u32 ma, .int .i64 mt, .string md], .int .i64 k]) ∧ Below w.heap.size w w' := by
  have x2 : ¬ (1000 : Int) < (s.size : Int) := by omega
  obtain ⟨t0, bb⟩ := TL.new h 28
  obtain ⟨wb, hwb⟩ : ∃ x, x = w.alloc (.cells #[.bool T.ip, .int .u32 T.addr, .int .i64 T.tp, .int .u32 T.own, .int .i64 T.port, v] 28) := ⟨_, rfl⟩
  rw [← hwb] at t0 bb
  obtain ⟨a, n, c, rfl⟩ := h.form
  obtain ⟨we, hwe⟩ : ∃ x, x = wb.alloc (.cells #[.bool false, .int .i64 0, .int .u32 0, .int .i64 0, .string ⟨#[]⟩] 31) := ⟨_, rfl⟩
  have be : Below wb.heap.size wb we := by rw [hwe]; exact (Below.refl _ _).alloc (Nat.le_refl _) _
  have sb : wb.heap.size = w.heap.size + 1 := by rw [hwb]; simp
  have le : Lies we (w.heap.size + 1) [.bool false, .int .i64 0, .int .u32 0, .int .i64 0, .string ⟨#[]⟩] := by rw [hwe, ← sb]; exact Lies.new wb [.bool false, .int .i64 0, .int .u32 0, .int .i64 0, .string ⟨#[]⟩] _
  replace t0 := t0.keep be
  have b0 := Lib.hid (bb.trans (be.mono bb.size))
  have hE : Hid (w.heap.size ≤ w.heap.size + 1) := Nat.le_succ _
  unfold tuV at *
  obtain ⟨ip, addr, tp, own, port, rules, rt⟩ := T
  simp only at *
  subst hi
  have a0 := t0.c.cell 0 rfl
  have a1 := t0.c.cell 1 rfl
  have a2 := t0.c.cell 2 rfl
  have a3 := t0.c.cell 3 rfl
  have a4 := t0.c.cell 4 rfl
  have a5 := t0.c.cell 5 rfl
  have e0 := le.cell 0 rfl
  have f0 := le.free 0 (by show 0 < 5; decide)
  have e1 := le.cell 1 rfl
  have f1 := le.free 1 (by show 1 < 5; decide)
  have e2 := le.cell 2 rfl
  have f2 := le.free 2 (by show 2 < 5; decide)
  have e3 := le.cell 3 rfl
  have f3 := le.free 3 (by show 3 < 5; decide)
  have e4 := le.cell 4 rfl
  have f4 := le.free 4 (by show 4 < 5; decide)
  have LA := Lib.hid t0.c
  have LE := Lib.hid le
  have RR := Lib.hid t0.r
  replace hwb := Lib.hid hwb
  replace hwe := Lib.hid hwe
  clear h t0 le bb be sb
  try unfold tuV
  go_enter Tryz.func5, Tryz.ntmps5
  go_upto_region 1 with fail
  rw [← hwb.out, ← hwe.out]
  clear hwb hwe
  clear h1
  go_wp2_with fail
  refine (PU.out we RR.out).mono ?_
  rintro e w1 ⟨rfl, b1⟩
  clear PU RR
  have la := LA.out.keep (by show 0 < 6; decide) b1
  have le := LE.out.keep (by show 0 < 5; decide) b1
  clear a0 a1 a2 a3 a4 a5 e0 e1 e2 e3 e4 f0 f1 f2 f3 f4 LA LE
  have a0 := la.cell 0 rfl
  have a1 := la.cell 1 rfl
  have a2 := la.cell 2 rfl
  have a3 := la.cell 3 rfl
  have a4 := la.cell 4 rfl
  have a5 := la.cell 5 rfl
  have e0 := le.cell 0 rfl
  have f0 := le.free 0 (by show 0 < 5; decide)
  have e1 := le.cell 1 rfl
  have f1 := le.free 1 (by show 1 < 5; decide)
  have e2 := le.cell 2 rfl
  have f2 := le.free 2 (by show 2 < 5; decide)
  have e3 := le.cell 3 rfl
  have f3 := le.free 3 (by show 3 < 5; decide)
  have e4 := le.cell 4 rfl
  have f4 := le.free 4 (by show 4 < 5; decide)
  have LA := Lib.hid la
  have LE := Lib.hid le
  clear la le
  replace b1 := Lib.hid (b0.out.trans (b1.mono b0.out.size))
  clear b0 LA LE
  go_wp2_with fail
  refine ⟨rfl, .tuple #[.agg #[.bool mi, .int .i64 mp, .int .u32 ma, .int .i64 mt, .string md], .int .i64 k], ?_, rfl, em_belowU b1.out hE.out _ _ _ _ _⟩
  simp [results, Tryz.results5, go_sem, *]
set_option maxHeartbeats 4000000 in
theorem pdl_addr (T : Tu) (v : Value) (w : World) (h : RusAt w v T.rules) (src fr : Int) (s : ByteArray) (ho : src ≠ T.addr) : Calls Tryz.prog 18 #[tuV T v, .int .u32 src, .int .i64 fr, .string s] w fun e w' => e = .returned (.tuple #[.string ⟨#[]⟩, .int .i64 15]) ∧ Below w.heap.size w w' := by
  obtain ⟨t0, bb⟩ := TL.new h 28
  obtain ⟨wb, hwb⟩ : ∃ x, x = w.alloc (.cells #[.bool T.ip, .int .u32 T.addr, .int .i64 T.tp, .int .u32 T.own, .int .i64 T.port, v] 28) := ⟨_, rfl⟩
  rw [← hwb] at t0 bb
  obtain ⟨a, n, c, rfl⟩ := h.form
  have b0 := Lib.hid bb
  obtain ⟨ip, addr, tp, own, port, rules, rt⟩ := T
  simp only at *
  have y1 : (src != addr) = true := by simp [ho]
  have y2 : ¬ src = addr := ho
  clear ho
  have a0 := t0.c.cell 0 rfl
  have a1 := t0.c.cell 1 rfl
  have a2 := t0.c.cell 2 rfl
  have a3 := t0.c.cell 3 rfl
  have a4 := t0.c.cell 4 rfl
  have a5 := t0.c.cell 5 rfl
  have LA := Lib.hid t0.c
  have RR := Lib.hid t0.r
  replace hwb := Lib.hid hwb
  clear h t0 bb
  try unfold tuV
  go_enter Tryz.func18, Tryz.ntmps18
  go_upto_region 1 with fail
  rw [← hwb.out]
  clear hwb
  clear LA RR
  go_wp2_with fail
  go_ret2
  exact ⟨rfl, b0.out⟩
set_option maxHeartbeats 4000000 in
theorem pdl_port (T : Tu) (v : Value) (w : World) (h : RusAt w v T.rules) (src fr : Int) (s : ByteArray) (ho : src = T.addr) (hp : fr ≠ T.tp) : Calls Tryz.prog 18 #[tuV T v, .int .u32 src, .int .i64 fr, .string s] w fun e w' => e = .returned (.tuple #[.string ⟨#[]⟩, .int .i64 15]) ∧ Below w.heap.size w w' := by
  obtain ⟨t0, bb⟩ := TL.new h 28
  obtain ⟨wb, hwb⟩ : ∃ x, x = w.alloc (.cells #[.bool T.ip, .int .u32 T.addr, .int .i64 T.tp, .int .u32 T.own, .int .i64 T.port, v] 28) := ⟨_, rfl⟩
  rw [← hwb] at t0 bb
  obtain ⟨a, n, c, rfl⟩ := h.form
  have b0 := Lib.hid bb
  obtain ⟨ip, addr, tp, own, port, rules, rt⟩ := T
  simp only at *
  have ho2 := ho.symm
  clear ho
  subst ho2
  have y1 : (fr != tp) = true := by simp [hp]
  have a0 := t0.c.cell 0 rfl
  have a1 := t0.c.cell 1 rfl
  have a2 := t0.c.cell 2 rfl
  have a3 := t0.c.cell 3 rfl
  have a4 := t0.c.cell 4 rfl
  have a5 := t0.c.cell 5 rfl
  have LA := Lib.hid t0.c
  have RR := Lib.hid t0.r
  replace hwb := Lib.hid hwb
  clear h t0 bb
  try unfold tuV
  go_enter Tryz.func18, Tryz.ntmps18
  go_upto_region 1 with fail
  rw [← hwb.out]
  clear hwb
  clear LA RR
  go_wp2_with fail
  go_ret2
  exact ⟨rfl, b0.out⟩
set_option maxHeartbeats 4000000 in
theorem pdl_yes (T : Tu) (v : Value) (w : World) (h : RusAt w v T.rules) (src fr : Int) (s : ByteArray) (ho : src = T.addr) (hp : fr = T.tp) : Calls Tryz.prog 18 #[tuV T v, .int .u32 src, .int .i64 fr, .string s] w fun e w' => e = .returned (.tuple #[.string s, .int .i64 0]) ∧ Below w.heap.size w w' := by
  obtain ⟨t0, bb⟩ := TL.new h 28
  obtain ⟨wb, hwb⟩ : ∃ x, x = w.alloc (.cells #[.bool T.ip, .int .u32 T.addr, .int .i64 T.tp, .int .u32 T.own, .int .i64 T.port, v] 28) := ⟨_, rfl⟩
  rw [← hwb] at t0 bb
  obtain ⟨a, n, c, rfl⟩ := h.form
  have b0 := Lib.hid bb
  obtain ⟨ip, addr, tp, own, port, rules, rt⟩ := T
  simp only at *
  have ho2 := ho.symm
  clear ho
  have hp2 := hp.symm
  clear hp
  subst ho2 hp2
  have a0 := t0.c.cell 0 rfl
  have a1 := t0.c.cell 1 rfl
  have a2 := t0.c.cell 2 rfl
  have a3 := t0.c.cell 3 rfl
  have a4 := t0.c.cell 4 rfl
  have a5 := t0.c.cell 5 rfl
  have LA := Lib.hid t0.c
  have RR := Lib.hid t0.r
  replace hwb := Lib.hid hwb
  clear h t0 bb
  try unfold tuV
  go_enter Tryz.func18, Tryz.ntmps18
  go_upto_region 1 with fail
  rw [← hwb.out]
  clear hwb
  clear LA RR
  go_wp2_with fail
  go_ret2
  exact ⟨rfl, b0.out⟩
set_option maxHeartbeats 4000000 in
theorem pdk_bad (T : Tu) (v : Value) (w : World) (h : RusAt w v T.rules) (s : ByteArray) (k : Int) (hk : (k != 0) = true) (PA : Hid (∀ w, Calls Tryz.prog 21 #[.string s] w fun e w' => e = .returned (.tuple #[none', .int .i64 k]) ∧ Below w.heap.size w w')) : Calls Tryz.prog 17 #[tuV T v, .string s] w fun e w' => e = .returned (.tuple #[.string ⟨#[]⟩, .int .i64 k]) ∧ Below w.heap.size w w' := by
  obtain ⟨t0, bb⟩ := TL.new h 28
  obtain ⟨wb, hwb⟩ : ∃ x, x = w.alloc (.cells #[.bool T.ip, .int .u32 T.addr, .int .i64 T.tp, .int .u32 T.own, .int .i64 T.port, v] 28) := ⟨_, rfl⟩
  rw [← hwb] at t0 bb
  obtain ⟨a, n, c, rfl⟩ := h.form
  have b0 := Lib.hid bb
  unfold none' hv at *
  obtain ⟨ip, addr, tp, own, port, rules, rt⟩ := T
  simp only at *
  have a0 := t0.c.cell 0 rfl
  have a1 := t0.c.cell 1 rfl
  have a2 := t0.c.cell 2 rfl
  have a3 := t0.c.cell 3 rfl
  have a4 := t0.c.cell 4 rfl
  have a5 := t0.c.cell 5 rfl
  have LA := Lib.hid t0.c
  have RR := Lib.hid t0.r
  replace hwb := Lib.hid hwb
  clear h t0 bb
  try unfold tuV
  go_enter Tryz.func17, Tryz.ntmps17
  go_upto_region 1 with fail
  rw [← hwb.out]
  clear hwb
  go_wp2_with fail
  refine (PA.out wb).mono ?_
  rintro e w1 ⟨rfl, b1⟩
  clear PA
  go_upto_region 2 with fail
  have bh : Below w1.heap.size w1 (w1.alloc (.cells #[.int .i64 0, .int .i64 0, .int .i64 0, .int .i64 0, .int .i64 0, .int .u32 0, .int .u32 0, .string ⟨#[]⟩] 40)) := (Below.refl _ _).alloc (Nat.le_refl _) _
  have LH : Lies (w1.alloc (.cells #[.int .i64 0, .int .i64 0, .int .i64 0, .int .i64 0, .int .i64 0, .int .u32 0, .int .u32 0, .string ⟨#[]⟩] 40)) w1.heap.size [.int .i64 0, .int .i64 0, .int .i64 0, .int .i64 0, .int .i64 0, .int .u32 0, .int .u32 0, .string ⟨#[]⟩] := Lies.new w1 [.int .i64 0, .int .i64 0, .int .i64 0, .int .i64 0, .int .i64 0, .int .u32 0, .int .u32 0, .string ⟨#[]⟩] _
  have b2 := b1.trans (bh.mono b1.size)
  generalize w1.alloc (.cells #[.int .i64 0, .int .i64 0, .int .i64 0, .int .i64 0, .int .i64 0, .int .u32 0, .int .u32 0, .string ⟨#[]⟩] 40) = w2 at *
  generalize w1.heap.size = gh at *
  clear bh
  have la := LA.out.keep (by show 0 < 6; decide) b2
  clear a0 a1 a2 a3 a4 a5 LA
  have a0 := la.cell 0 rfl
  have a1 := la.cell 1 rfl
  have a2 := la.cell 2 rfl
  have a3 := la.cell 3 rfl
  have a4 := la.cell 4 rfl
  have a5 := la.cell 5 rfl
  have LA := Lib.hid la
  clear la
  have h0 := LH.cell 0 rfl
  have h1 := LH.cell 1 rfl
  have h2 := LH.cell 2 rfl
  have h3 := LH.cell 3 rfl
  have h4 := LH.cell 4 rfl
  have h5 := LH.cell 5 rfl
  have h6 := LH.cell 6 rfl
  have h7 := LH.cell 7 rfl
  clear RR LA LH
  replace b2 := Lib.hid (b0.out.trans (b2.mono b0.out.size))
  clear b0 b1
  go_wp2_with fail
  go_ret2
  exact ⟨rfl, b2.out⟩
set_option maxHeartbeats 4000000 in
theorem pdk_dst (T : Tu) (v : Value) (w : World) (h : RusAt w v T.rules) (s : ByteArray) (tos id frag ttl pro src dst : Int) (dat : ByteArray) (PA : Hid (∀ w, Calls Tryz.prog 21 #[.string s] w fun e w' => e = .returned (.tuple #[hv tos id frag ttl pro src dst dat, .int .i64 0]) ∧ Below w.heap.size w w')) (ho : dst ≠ T.own) : Calls Tryz.prog 17 #[tuV T v, .string s] w fun e w' => e = .returned (.tuple #[.string ⟨#[]⟩, .int .i64 15]) ∧ Below w.heap.size w w' := by
  obtain ⟨t0, bb⟩ := TL.new h 28
  obtain ⟨wb, hwb⟩ : ∃ x, x = w.alloc (.cells #[.bool T.ip, .int .u32 T.addr, .int .i64 T.tp, .int .u32 T.own, .int .i64 T.port, v] 28) := ⟨_, rfl⟩
  rw [← hwb] at t0 bb
  obtain ⟨a, n, c, rfl⟩ := h.form
  have b0 := Lib.hid bb
  unfold hv at *
  obtain ⟨ip, addr, tp, own, port, rules, rt⟩ := T
  simp only at *
  have y1 : (dst != own) = true := by simp [ho]
  have y2 : ¬ dst = own := ho
  clear ho
  have a0 := t0.c.cell 0 rfl
  have a1 := t0.c.cell 1 rfl
  have a2 := t0.c.cell 2 rfl
  have a3 := t0.c.cell 3 rfl
  have a4 := t0.c.cell 4 rfl
  have a5 := t0.c.cell 5 rfl
  have LA := Lib.hid t0.c
  have RR := Lib.hid t0.r
  replace hwb := Lib.hid hwb
  clear h t0 bb
  try unfold tuV
  go_enter Tryz.func17, Tryz.ntmps17
  go_upto_region 1 with fail
  rw [← hwb.out]
  clear hwb
  go_wp2_with fail
  refine (PA.out wb).mono ?_
  rintro e w1 ⟨rfl, b1⟩
  clear PA
  go_upto_region 2 with fail
  have bh : Below w1.heap.size w1 (w1.alloc (.cells #[.int .i64 tos, .int .i64 id, .int .i64 frag, .int .i64 ttl, .int .i64 pro, .int .u32 src, .int .u32 dst, .string dat] 40)) := (Below.refl _ _).alloc (Nat.le_refl _) _
  have LH : Lies (w1.alloc (.cells #[.int .i64 tos, .int .i64 id, .int .i64 frag, .int .i64 ttl, .int .i64 pro, .int .u32 src, .int .u32 dst, .string dat] 40)) w1.heap.size [.int .i64 tos, .int .i64 id, .int .i64 frag, .int .i64 ttl, .int .i64 pro, .int .u32 src, .int .u32 dst, .string dat] := Lies.new w1 [.int .i64 tos, .int .i64 id, .int .i64 frag, .int .i64 ttl, .int .i64 pro, .int .u32 src, .int .u32 dst, .string dat] _
  have b2 := b1.trans (bh.mono b1.size)
  generalize w1.alloc (.cells #[.int .i64 tos, .int .i64 id, .int .i64 frag, .int .i64 ttl, .int .i64 pro, .int .u32 src, .int .u32 dst, .string dat] 40) = w2 at *
  generalize w1.heap.size = gh at *
  clear bh
  have la := LA.out.keep (by show 0 < 6; decide) b2
  clear a0 a1 a2 a3 a4 a5 LA
  have a0 := la.cell 0 rfl
  have a1 := la.cell 1 rfl
  have a2 := la.cell 2 rfl
  have a3 := la.cell 3 rfl
  have a4 := la.cell 4 rfl
  have a5 := la.cell 5 rfl
  have LA := Lib.hid la
  clear la
  have h0 := LH.cell 0 rfl
  have h1 := LH.cell 1 rfl
  have h2 := LH.cell 2 rfl
  have h3 := LH.cell 3 rfl
  have h4 := LH.cell 4 rfl
  have h5 := LH.cell 5 rfl
  have h6 := LH.cell 6 rfl
  have h7 := LH.cell 7 rfl
  clear RR LA LH
  replace b2 := Lib.hid (b0.out.trans (b2.mono b0.out.size))
  clear b0 b1
  go_wp2_with fail
  go_ret2
  exact ⟨rfl, b2.out⟩
set_option maxHeartbeats 4000000 in
theorem pdk_hop (T : Tu) (v : Value) (w : World) (h : RusAt w v T.rules) (s : ByteArray) (tos id frag ttl pro src dst : Int) (dat : ByteArray) (PA : Hid (∀ w, Calls Tryz.prog 21 #[.string s] w fun e w' => e = .returned (.tuple #[hv tos id frag ttl pro src dst dat, .int .i64 0]) ∧ Below w.heap.size w w')) (ho : dst = T.own) (ht : ByteArray) (hk : Int) (HO : Hid (∀ w, Calls Tryz.prog 23 #[.string s, hv tos id frag ttl pro src dst dat] w fun e w' => e = .returned (.tuple #[.string ht, .int .i64 hk]) ∧ Below w.heap.size w w')) : Calls Tryz.prog 17 #[tuV T v, .string s] w fun e w' => e = .returned (.tuple #[.string ht, .int .i64 hk]) ∧ Below w.heap.size w w' := by
  obtain ⟨t0, bb⟩ := TL.new h 28
  obtain ⟨wb, hwb⟩ : ∃ x, x = w.alloc (.cells #[.bool T.ip, .int .u32 T.addr, .int .i64 T.tp, .int .u32 T.own, .int .i64 T.port, v] 28) := ⟨_, rfl⟩
  rw [← hwb] at t0 bb
  obtain ⟨a, n, c, rfl⟩ := h.form
  have b0 := Lib.hid bb
  unfold hv at *
  obtain ⟨ip, addr, tp, own, port, rules, rt⟩ := T
  simp only at *
  have ho2 := ho.symm
  clear ho
  subst ho2
  have a0 := t0.c.cell 0 rfl
  have a1 := t0.c.cell 1 rfl
  have a2 := t0.c.cell 2 rfl
  have a3 := t0.c.cell 3 rfl
  have a4 := t0.c.cell 4 rfl
  have a5 := t0.c.cell 5 rfl
  have LA := Lib.hid t0.c
  have RR := Lib.hid t0.r
  replace hwb := Lib.hid hwb
  clear h t0 bb
  try unfold tuV
  go_enter Tryz.func17, Tryz.ntmps17
  go_upto_region 1 with fail
  rw [← hwb.out]
  clear hwb
  go_wp2_with fail
  refine (PA.out wb).mono ?_
  rintro e w1 ⟨rfl, b1⟩
  clear PA
  go_upto_region 2 with fail
  have bh : Below w1.heap.size w1 (w1.alloc (.cells #[.int .i64 tos, .int .i64 id, .int .i64 frag, .int .i64 ttl, .int .i64 pro, .int .u32 src, .int .u32 own, .string dat] 40)) := (Below.refl _ _).alloc (Nat.le_refl _) _
  have LH : Lies (w1.alloc (.cells #[.int .i64 tos, .int .i64 id, .int .i64 frag, .int .i64 ttl, .int .i64 pro, .int .u32 src, .int .u32 own, .string dat] 40)) w1.heap.size [.int .i64 tos, .int .i64 id, .int .i64 frag, .int .i64 ttl, .int .i64 pro, .int .u32 src, .int .u32 own, .string dat] := Lies.new w1 [.int .i64 tos, .int .i64 id, .int .i64 frag, .int .i64 ttl, .int .i64 pro, .int .u32 src, .int .u32 own, .string dat] _
  have b2 := b1.trans (bh.mono b1.size)
  generalize w1.alloc (.cells #[.int .i64 tos, .int .i64 id, .int .i64 frag, .int .i64 ttl, .int .i64 pro, .int .u32 src, .int .u32 own, .string dat] 40) = w2 at *
  generalize w1.heap.size = gh at *
  clear bh
  have la := LA.out.keep (by show 0 < 6; decide) b2
  clear a0 a1 a2 a3 a4 a5 LA
  have a0 := la.cell 0 rfl
  have a1 := la.cell 1 rfl
  have a2 := la.cell 2 rfl
  have a3 := la.cell 3 rfl
  have a4 := la.cell 4 rfl
  have a5 := la.cell 5 rfl
  have LA := Lib.hid la
  clear la
  have h0 := LH.cell 0 rfl
  have h1 := LH.cell 1 rfl
  have h2 := LH.cell 2 rfl
  have h3 := LH.cell 3 rfl
  have h4 := LH.cell 4 rfl
  have h5 := LH.cell 5 rfl
  have h6 := LH.cell 6 rfl
  have h7 := LH.cell 7 rfl
  clear RR LA LH
  replace b2 := Lib.hid (b0.out.trans (b2.mono b0.out.size))
  clear b0 b1
  go_wp2_with fail
  refine (HO.out w2).mono ?_
  rintro e w3 ⟨rfl, b3⟩
  clear HO
  replace b3 := Lib.hid (b2.out.trans (b3.mono b2.out.size))
  clear b2
  go_wp2_with fail
  go_ret2
  exact ⟨rfl, b3.out⟩
set_option maxHeartbeats 4000000 in
theorem pdown_long (T : Tu) (v : Value) (w : World) (h : RusAt w v T.rules) (src fr : Int) (s : ByteArray) (h1 : 1000 < s.size) : Calls Tryz.prog 7 #[tuV T v, .int .u32 src, .int .i64 fr, .string s] w fun e w' => e = .returned (.tuple #[.string ⟨#[]⟩, .int .i64 8]) ∧ Below w.heap.size w w' := by
  have x2 : (1000 : Int) < (s.size : Int) := by omega
  obtain ⟨t0, bb⟩ := TL.new h 28
  obtain ⟨wb, hwb⟩ : ∃ x, x = w.alloc (.cells #[.bool T.ip, .int .u32 T.addr, .int .i64 T.tp, .int .u32 T.own, .int .i64 T.port, v] 28) := ⟨_, rfl⟩
  rw [← hwb] at t0 bb
  obtain ⟨a, n, c, rfl⟩ := h.form
  have b0 := Lib.hid bb
  obtain ⟨ip, addr, tp, own, port, rules, rt⟩ := T
  simp only at *
  have a0 := t0.c.cell 0 rfl
  have a1 := t0.c.cell 1 rfl
  have a2 := t0.c.cell 2 rfl
  have a3 := t0.c.cell 3 rfl
  have a4 := t0.c.cell 4 rfl
  have a5 := t0.c.cell 5 rfl
  have LA := Lib.hid t0.c
  have RR := Lib.hid t0.r
  replace hwb := Lib.hid hwb
  clear h t0 bb
  try unfold tuV
  go_enter Tryz.func7, Tryz.ntmps7
  go_upto_region 1 with fail
  rw [← hwb.out]
  clear hwb
  clear LA RR h1
  go_wp2_with fail
  go_ret2
  exact ⟨rfl, b0.out⟩
set_option maxHeartbeats 4000000 in
theorem pdown_true (T : Tu) (v : Value) (w : World) (h : RusAt w v T.rules) (src fr : Int) (s : ByteArray) (h1 : ¬ 1000 < s.size) (hi : T.ip = true) (ht : ByteArray) (k : Int) (PU : Hid (∀ w, RusAt w v T.rules → Calls Tryz.prog 17 #[tuV T v, .string s] w fun e w' => e = .returned (.tuple #[.string ht, .int .i64 k]) ∧ Below w.heap.size w w')) : Calls Tryz.prog 7 #[tuV T v, .int .u32 src, .int .i64 fr, .string s] w fun e w' => e = .returned (.tuple #[.string ht, .int .i64 k]) ∧ Below w.heap.size w w' := by
  have x2 : ¬ (1000 : Int) < (s.size : Int) := by omega
  obtain ⟨t0, bb⟩ := TL.new h 28
  obtain ⟨wb, hwb⟩ : ∃ x, x = w.alloc (.cells #[.bool T.ip, .int .u32 T.addr, .int .i64 T.tp, .int .u32 T.own, .int .i64 T.port, v] 28) := ⟨_, rfl⟩
  rw [← hwb] at t0 bb
  obtain ⟨a, n, c, rfl⟩ := h.form
  have b0 := Lib.hid bb
  unfold tuV at *
  obtain ⟨ip, addr, tp, own, port, rules, rt⟩ := T
  simp only at *
  subst hi
  have a0 := t0.c.cell 0 rfl
  have a1 := t0.c.cell 1 rfl
  have a2 := t0.c.cell 2 rfl
  have a3 := t0.c.cell 3 rfl
  have a4 := t0.c.cell 4 rfl
  have a5 := t0.c.cell 5 rfl
  have LA := Lib.hid t0.c
  have RR := Lib.hid t0.r
  replace hwb := Lib.hid hwb
  clear h t0 bb
  try unfold tuV
  go_enter Tryz.func7, Tryz.ntmps7
  go_upto_region 1 with fail
  rw [← hwb.out]
  clear hwb
  clear LA h1
  go_wp2_with fail
  refine (PU.out wb RR.out).mono ?_
  rintro e w1 ⟨rfl, b1⟩
  clear PU RR
  replace b1 := Lib.hid (b0.out.trans (b1.mono b0.out.size))
  clear b0
  go_wp2_with fail
  go_ret2
  exact ⟨rfl, b1.out⟩
set_option maxHeartbeats 4000000 in
theorem pdown_false (T : Tu) (v : Value) (w : World) (h : RusAt w v T.rules) (src fr : Int) (s : ByteArray) (h1 : ¬ 1000 < s.size) (hi : T.ip = false) (ht : ByteArray) (k : Int) (PU : Hid (∀ w, RusAt w v T.rules → Calls Tryz.prog 18 #[tuV T v, .int .u32 src, .int .i64 fr, .string s] w fun e w' => e = .returned (.tuple #[.string ht, .int .i64 k]) ∧ Below w.heap.size w w')) : Calls Tryz.prog 7 #[tuV T v, .int .u32 src, .int .i64 fr, .string s] w fun e w' => e = .returned (.tuple #[.string ht, .int .i64 k]) ∧ Below w.heap.size w w' := by
  have x2 : ¬ (1000 : Int) < (s.size : Int) := by omega
  obtain ⟨t0, bb⟩ := TL.new h 28
  obtain ⟨wb, hwb⟩ : ∃ x, x = w.alloc (.cells #[.bool T.ip, .int .u32 T.addr, .int .i64 T.tp, .int .u32 T.own, .int .i64 T.port, v] 28) := ⟨_, rfl⟩
  rw [← hwb] at t0 bb
  obtain ⟨a, n, c, rfl⟩ := h.form
  have b0 := Lib.hid bb
  unfold tuV at *
  obtain ⟨ip, addr, tp, own, port, rules, rt⟩ := T
  simp only at *
  subst hi
  have a0 := t0.c.cell 0 rfl
  have a1 := t0.c.cell 1 rfl
  have a2 := t0.c.cell 2 rfl
  have a3 := t0.c.cell 3 rfl
  have a4 := t0.c.cell 4 rfl
  have a5 := t0.c.cell 5 rfl
  have LA := Lib.hid t0.c
  have RR := Lib.hid t0.r
  replace hwb := Lib.hid hwb
  clear h t0 bb
  try unfold tuV
  go_enter Tryz.func7, Tryz.ntmps7
  go_upto_region 1 with fail
  rw [← hwb.out]
  clear hwb
  clear LA h1
  go_wp2_with fail
  refine (PU.out wb RR.out).mono ?_
  rintro e w1 ⟨rfl, b1⟩
  clear PU RR
  replace b1 := Lib.hid (b0.out.trans (b1.mono b0.out.size))
  clear b0
  go_wp2_with fail
  go_ret2
  exact ⟨rfl, b1.out⟩
theorem ppacket_ok (T : Tu) (v : Value) (w : World) (h : RusAt w v T.rules) (hb : TuB T) (s : ByteArray) (hs : s.size ≤ 140737488351232) (h1 : ¬ 1000 < s.size) (hi : T.ip = true) :
    Calls Tryz.prog 11 #[tuV T v, .string s] w fun e w' => e = .returned (.tuple #[emV (upM T s), .int .i64 (upE T s)]) ∧ Below w.heap.size w w' := by
  have hs' : s.size ≤ 9223372036854775807 := by omega
  have hl : T.rules.length ≤ 9223372036854775807 := by have := hb.len; omega
  have e : upE T s = if errOf s ≠ 0 then errOf s else if srcP s ≠ T.own ∨ alw T.rules (proP s) (dstP s) (toP s) = false then 15 else hopE s := by unfold upE; rw [if_neg h1, if_neg (by rw [hi]; decide)]
  by_cases hE : errOf s ≠ 0
  · rw [if_pos hE] at e
    rw [show upM T s = em0 by unfold upM; rw [if_pos (by rw [e]; exact hE)], e]
    exact ppk_bad T v w h s hi _ (by simpa using hE) fun w => parse_none s w hs' hE
  rw [if_neg hE] at e
  have hE : errOf s = 0 := by simpa using hE
  have g := good_err s hE
  have PA : ∀ w, Calls Tryz.prog 21 #[.string s] w fun e w' => e = .returned (.tuple #[hdOf s, .int .i64 0]) ∧ Below w.heap.size w w' := fun w => parse_hd s w hs' hE
  have AL : ∀ w, RusAt w v T.rules → Calls Tryz.prog 22 #[tuV T v, hdOf s] w fun e w' => e = .returned (.bool (alw T.rules (proP s) (dstP s) (toP s))) ∧ Below w.heap.size w w' := fun w hr =>
    pallows_ok T v w hr _ _ _ _ _ _ _ _ (toP s) _ (fun w => ports_ok _ _ _ _ _ _ _ _ w (num2_bd s 6).1 (num2_bd s 6).2) (fun w hr => allow_ok T.rules v _ _ _ (num4_bd s 16).1 (num4_bd s 16).2 w hr hb.rs hl)
  have HO : ∀ w, Calls Tryz.prog 23 #[.string s, hdOf s] w fun e w' => e = .returned (.tuple #[.string (hopS s), .int .i64 (hopE s)]) ∧ Below w.heap.size w w' := fun w => phop_ok s w hs'
  by_cases ho : srcP s = T.own
  · cases ha : alw T.rules (proP s) (dstP s) (toP s) with
    | false =>
      rw [if_pos (.inr ha)] at e
      rw [show upM T s = em0 by unfold upM; rw [if_pos (by rw [e]; decide)], e]
      rw [ha] at AL
      exact ppk_rule T v w h s hi _ _ _ _ _ _ _ _ PA ho AL
    | true =>
      rw [if_neg (by rw [ha]; simp [ho])] at e
      rw [ha] at AL
      by_cases hh : hopE s = 0
      · rw [show upM T s = ⟨true, 0, dstP s, 0, hopS s⟩ by unfold upM; rw [if_neg (by rw [e, hh]; decide), if_neg (by rw [hi]; decide)], e, hh]
        rw [hh] at HO
        exact ppk_pass T v w h s hi _ _ _ _ _ _ _ _ PA ho AL _ HO
      · rw [show upM T s = em0 by unfold upM; rw [if_pos (by rw [e]; exact hh)], e]
        exact ppk_stop T v w h s hi _ _ _ _ _ _ _ _ PA ho AL _ _ (by simpa using hh) HO
  · rw [if_pos (.inl ho)] at e
    rw [show upM T s = em0 by unfold upM; rw [if_pos (by rw [e]; decide)], e]
    exact ppk_src T v w h s hi _ _ _ _ _ _ _ _ PA ho
theorem ppayload_ok (T : Tu) (v : Value) (w : World) (h : RusAt w v T.rules) (hb : TuB T) (s : ByteArray) (h1 : ¬ 1000 < s.size) (hi : T.ip = false) :
    Calls Tryz.prog 12 #[tuV T v, .string s] w fun e w' => e = .returned (.tuple #[emV (upM T s), .int .i64 (upE T s)]) ∧ Below w.heap.size w w' := by
  have e : upE T s = openE T := by unfold upE; rw [if_neg h1, if_pos hi]
  have eo : openE T = 15 ∨ openE T = 0 := by unfold openE; split <;> split <;> simp
  rcases eo with ho | ho
  · rw [show upM T s = em0 by unfold upM; rw [if_pos (by rw [e, ho]; decide)], e, ho]
    exact ppay_deny T v w h hb s hi ho
  · rw [show upM T s = ⟨false, T.port, T.addr, T.tp, s⟩ by unfold upM; rw [if_neg (by rw [e, ho]; decide), if_pos hi], e, ho]
    exact ppay_pass T v w h hb s hi ho
theorem pup_ok (T : Tu) (v : Value) (w : World) (h : RusAt w v T.rules) (hb : TuB T) (s : ByteArray) (hs : s.size ≤ 140737488351232) :
    Calls Tryz.prog 5 #[tuV T v, .string s] w fun e w' => e = .returned (.tuple #[emV (upM T s), .int .i64 (upE T s)]) ∧ Below w.heap.size w w' := by
  by_cases h1 : 1000 < s.size
  · have e : upE T s = 8 := by unfold upE; rw [if_pos h1]
    rw [show upM T s = em0 by unfold upM; rw [if_pos (by rw [e]; decide)], e]
    exact pup_long T v w h s h1
  cases hi : T.ip with
  | true => exact pup_true T v w h s h1 hi _ _ _ _ _ _ fun w hr => ppacket_ok T v w hr hb s hs h1 hi
  | false => exact pup_false T v w h s h1 hi _ _ _ _ _ _ fun w hr => ppayload_ok T v w hr hb s h1 hi
theorem pdown_ok (T : Tu) (v : Value) (w : World) (h : RusAt w v T.rules) (src fr : Int) (s : ByteArray) (hs : s.size ≤ 140737488351232) :
    Calls Tryz.prog 7 #[tuV T v, .int .u32 src, .int .i64 fr, .string s] w fun e w' => e = .returned (.tuple #[.string (dnS T src fr s), .int .i64 (dnE T src fr s)]) ∧ Below w.heap.size w w' := by
  by_cases h1 : 1000 < s.size
  · have e : dnE T src fr s = 8 := by unfold dnE; rw [if_pos h1]
    rw [show dnS T src fr s = ⟨#[]⟩ by unfold dnS; rw [if_pos (by rw [e]; decide)], e]
    exact pdown_long T v w h src fr s h1
  cases hi : T.ip with
  | false =>
    have e : dnE T src fr s = if src ≠ T.addr ∨ fr ≠ T.tp then 15 else 0 := by unfold dnE; rw [if_neg h1, if_pos hi]
    refine pdown_false T v w h src fr s h1 hi _ _ fun w hr => ?_
    by_cases ho : src = T.addr
    · by_cases hp : fr = T.tp
      · rw [if_neg (by simp [ho, hp])] at e
        rw [show dnS T src fr s = s by unfold dnS; rw [if_neg (by rw [e]; decide), if_pos hi], e]
        exact pdl_yes T v w hr src fr s ho hp
      · rw [if_pos (.inr hp)] at e
        rw [show dnS T src fr s = ⟨#[]⟩ by unfold dnS; rw [if_pos (by rw [e]; decide)], e]
        exact pdl_port T v w hr src fr s ho hp
    · rw [if_pos (.inl ho)] at e
      rw [show dnS T src fr s = ⟨#[]⟩ by unfold dnS; rw [if_pos (by rw [e]; decide)], e]
      exact pdl_addr T v w hr src fr s ho
  | true =>
    have hs' : s.size ≤ 9223372036854775807 := by omega
    have e : dnE T src fr s = if errOf s ≠ 0 then errOf s else if dstP s ≠ T.own then 15 else hopE s := by unfold dnE; rw [if_neg h1, if_neg (by rw [hi]; decide)]
    refine pdown_true T v w h src fr s h1 hi _ _ fun w hr => ?_
    by_cases hE : errOf s ≠ 0
    · rw [if_pos hE] at e
      rw [show dnS T src fr s = ⟨#[]⟩ by unfold dnS; rw [if_pos (by rw [e]; exact hE)], e]
      exact pdk_bad T v w hr s _ (by simpa using hE) fun w => parse_none s w hs' hE
    rw [if_neg hE] at e
    have hE : errOf s = 0 := by simpa using hE
    have PA : ∀ w, Calls Tryz.prog 21 #[.string s] w fun e w' => e = .returned (.tuple #[hdOf s, .int .i64 0]) ∧ Below w.heap.size w w' := fun w => parse_hd s w hs' hE
    have HO : ∀ w, Calls Tryz.prog 23 #[.string s, hdOf s] w fun e w' => e = .returned (.tuple #[.string (hopS s), .int .i64 (hopE s)]) ∧ Below w.heap.size w w' := fun w => phop_ok s w hs'
    by_cases ho : dstP s = T.own
    · rw [if_neg (by simpa using ho)] at e
      rw [show dnS T src fr s = hopS s by
        unfold dnS
        by_cases q : dnE T src fr s ≠ 0
        · rw [if_pos q, hopE_some (by rw [← e]; exact q)]
        · rw [if_neg q, if_neg (by rw [hi]; decide)], e]
      exact pdk_hop T v w hr s _ _ _ _ _ _ _ _ PA ho _ _ HO
    · rw [if_pos ho] at e
      rw [show dnS T src fr s = ⟨#[]⟩ by unfold dnS; rw [if_pos (by rw [e]; decide)], e]
      exact pdk_dst T v w hr s _ _ _ _ _ _ _ _ PA ho
theorem face22 : TuFace := ⟨fun T v w h hb s hs => pup_ok T v w h hb s hs, fun T v w h _ src fr s hs => pdown_ok T v w h src fr s hs⟩
end Go.Proofs.YtndaohiecpdmlaaGreat
