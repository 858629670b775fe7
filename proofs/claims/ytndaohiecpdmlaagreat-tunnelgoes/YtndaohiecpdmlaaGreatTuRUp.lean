/-
  What the document's own Up answers of any tunnel and any bytes. No condition but what the form allows.
-/
import Derived.Test.YtndaohiecpdmlaaGreatTuOpn
import Derived.Test.YtndaohiecpdmlaaGreatTuRHop
import Derived.Test.YtndaohiecpdmlaaGreatTuPorts
namespace Go.Proofs.YtndaohiecpdmlaaGreat
set_option maxRecDepth 100000
open Go.RowKit Go.Sort

/-- The cells of an emission; a header's. -/
def emC (m : Em) : List Value := [.bool m.ip, .int .i64 m.port, .int .u32 m.addr, .int .i64 m.to, .string m.data]
theorem em_below {w0 w : World} {n E : Nat} (b : Below n w0 w) (hn : n ≤ E) (y0 y1 y2 y3 y4 : Value) : Below n w0 (((((w.setCell ⟨E, 0, none⟩ y0).setCell ⟨E, 1, none⟩ y1).setCell ⟨E, 2, none⟩ y2).setCell ⟨E, 3, none⟩ y3).setCell ⟨E, 4, none⟩ y4) :=
  ((((b.setCell (p := ⟨E, 0, none⟩) hn _).setCell (p := ⟨E, 1, none⟩) hn _).setCell (p := ⟨E, 2, none⟩) hn _).setCell (p := ⟨E, 3, none⟩) hn _).setCell (p := ⟨E, 4, none⟩) hn _
set_option maxHeartbeats 4000000 in
theorem rup_long (T : Tu) (v : Value) (w : World) (s : ByteArray) (h1 : 1000 < s.size) : Calls Tryz.prog 6 #[tuV T v, .string s] w fun e w' => e = .returned (.tuple #[.agg #[.bool false, .int .i64 0, .int .u32 0, .int .i64 0, .string ⟨#[]⟩], .int .i64 8]) ∧ Below w.heap.size w w' := by
  have h2 : (1000 : Int) < (s.size : Int) := by omega
  obtain ⟨wb, hwb⟩ : ∃ x, x = w.alloc (.cells #[.bool T.ip, .int .u32 T.addr, .int .i64 T.tp, .int .u32 T.own, .int .i64 T.port, v] 27) := ⟨_, rfl⟩
  obtain ⟨we, hwe⟩ : ∃ x, x = wb.alloc (.cells #[.bool false, .int .i64 0, .int .u32 0, .int .i64 0, .string ⟨#[]⟩] 31) := ⟨_, rfl⟩
  have sb : wb.heap.size = w.heap.size + 1 := by rw [hwb]; simp
  have bb : Below w.heap.size w wb := by rw [hwb]; exact (Below.refl _ _).alloc (Nat.le_refl _) _
  have be : Below wb.heap.size wb we := by rw [hwe]; exact (Below.refl _ _).alloc (Nat.le_refl _) _
  have la : Lies we w.heap.size (tuC T v) := by
    have : Lies wb w.heap.size (tuC T v) := by rw [hwb]; exact Lies.new w (tuC T v) _
    exact this.keep (by show 0 < 6; decide) be
  have le : Lies we (w.heap.size + 1) (emC em0) := by rw [hwe, ← sb]; exact Lies.new wb (emC em0) _
  have b0 := bb.trans (be.mono bb.size)
  have hE : w.heap.size ≤ w.heap.size + 1 := Nat.le_succ _
  have a0 := la.cell 0 rfl; have a1 := la.cell 1 rfl; have a2 := la.cell 2 rfl; have a3 := la.cell 3 rfl; have a4 := la.cell 4 rfl; have a5 := la.cell 5 rfl
  have e0 : we.cell? ⟨w.heap.size + 1, 0, none⟩ = some (.bool false) := le.cell 0 rfl; have e1 : we.cell? ⟨w.heap.size + 1, 1, none⟩ = some (.int .i64 0) := le.cell 1 rfl; have e2 : we.cell? ⟨w.heap.size + 1, 2, none⟩ = some (.int .u32 0) := le.cell 2 rfl; have e3 : we.cell? ⟨w.heap.size + 1, 3, none⟩ = some (.int .i64 0) := le.cell 3 rfl; have e4 : we.cell? ⟨w.heap.size + 1, 4, none⟩ = some (.string ⟨#[]⟩) := le.cell 4 rfl
  have f0 := le.free 0 (by show 0 < 5; decide); have f1 := le.free 1 (by show 1 < 5; decide); have f2 := le.free 2 (by show 2 < 5; decide); have f3 := le.free 3 (by show 3 < 5; decide); have f4 := le.free 4 (by show 4 < 5; decide)
  have LA := Lib.hid la
  have LE := Lib.hid le
  replace hwb := Lib.hid hwb
  replace hwe := Lib.hid hwe
  replace b0 := Lib.hid b0
  replace hE := Lib.hid hE
  clear bb be la le
  clear LA LE
  unfold tuV
  go_enter Tryz.func6, Tryz.ntmps6
  go_upto_region 1 with fail
  rw [← hwb.out, ← hwe.out]
  clear hwb hwe
  clear sb
  go_wp2_with fail
  refine ⟨rfl, .tuple #[.agg #[.bool false, .int .i64 0, .int .u32 0, .int .i64 0, .string ⟨#[]⟩], .int .i64 8], ?_, rfl, em_below b0.out hE.out _ _ _ _ _⟩
  simp [results, Tryz.results6, go_sem, *]
set_option maxHeartbeats 4000000 in
theorem rup_deny (T : Tu) (v : Value) (w : World) (h : RusAt w v T.rules) (s : ByteArray) (hs : s.size ≤ 140737488351232) (hb : TuB T) (hrt : T.rt = true ↔ anyR T.rules) (h1 : s.size ≤ 1000) (hi : T.ip = false) (ho : openE T = 15) : Calls Tryz.prog 6 #[tuV T v, .string s] w fun e w' => e = .returned (.tuple #[.agg #[.bool false, .int .i64 0, .int .u32 0, .int .i64 0, .string ⟨#[]⟩], .int .i64 15]) ∧ Below w.heap.size w w' := by
  have h2 : ¬ (1000 : Int) < (s.size : Int) := by omega
  have h3 : ¬ 1000 < s.size := by omega
  obtain ⟨wb, hwb⟩ : ∃ x, x = w.alloc (.cells #[.bool T.ip, .int .u32 T.addr, .int .i64 T.tp, .int .u32 T.own, .int .i64 T.port, v] 27) := ⟨_, rfl⟩
  obtain ⟨we, hwe⟩ : ∃ x, x = wb.alloc (.cells #[.bool false, .int .i64 0, .int .u32 0, .int .i64 0, .string ⟨#[]⟩] 31) := ⟨_, rfl⟩
  have sb : wb.heap.size = w.heap.size + 1 := by rw [hwb]; simp
  have bb : Below w.heap.size w wb := by rw [hwb]; exact (Below.refl _ _).alloc (Nat.le_refl _) _
  have be : Below wb.heap.size wb we := by rw [hwe]; exact (Below.refl _ _).alloc (Nat.le_refl _) _
  have la : Lies we w.heap.size (tuC T v) := by
    have : Lies wb w.heap.size (tuC T v) := by rw [hwb]; exact Lies.new w (tuC T v) _
    exact this.keep (by show 0 < 6; decide) be
  have le : Lies we (w.heap.size + 1) (emC em0) := by rw [hwe, ← sb]; exact Lies.new wb (emC em0) _
  have b0 := bb.trans (be.mono bb.size)
  have hE : w.heap.size ≤ w.heap.size + 1 := Nat.le_succ _
  have a0 := la.cell 0 rfl; have a1 := la.cell 1 rfl; have a2 := la.cell 2 rfl; have a3 := la.cell 3 rfl; have a4 := la.cell 4 rfl; have a5 := la.cell 5 rfl
  have e0 : we.cell? ⟨w.heap.size + 1, 0, none⟩ = some (.bool false) := le.cell 0 rfl; have e1 : we.cell? ⟨w.heap.size + 1, 1, none⟩ = some (.int .i64 0) := le.cell 1 rfl; have e2 : we.cell? ⟨w.heap.size + 1, 2, none⟩ = some (.int .u32 0) := le.cell 2 rfl; have e3 : we.cell? ⟨w.heap.size + 1, 3, none⟩ = some (.int .i64 0) := le.cell 3 rfl; have e4 : we.cell? ⟨w.heap.size + 1, 4, none⟩ = some (.string ⟨#[]⟩) := le.cell 4 rfl
  have f0 := le.free 0 (by show 0 < 5; decide); have f1 := le.free 1 (by show 1 < 5; decide); have f2 := le.free 2 (by show 2 < 5; decide); have f3 := le.free 3 (by show 3 < 5; decide); have f4 := le.free 4 (by show 4 < 5; decide)
  have LA := Lib.hid la
  have LE := Lib.hid le
  replace hwb := Lib.hid hwb
  replace hwe := Lib.hid hwe
  replace b0 := Lib.hid b0
  replace hE := Lib.hid hE
  clear bb be la le
  have OP := ropen_ok T v we (h.keep b0.out) hb hrt
  rw [ho] at OP
  unfold tuV at OP
  replace OP := Lib.hid OP
  clear hrt hb
  have hsl : ∃ a n c, v = .slice a n c := by obtain ⟨a, c, e, -, -⟩ := h; exact ⟨a, _, c, e⟩
  obtain ⟨a, n, c, rfl⟩ := hsl
  replace h := Lib.hid (h.keep b0.out)
  obtain ⟨ip, addr, tp, own, port, rules, rt⟩ := T
  simp only at *
  subst hi
  unfold tuV
  go_enter Tryz.func6, Tryz.ntmps6
  go_upto_region 1 with fail
  rw [← hwb.out, ← hwe.out]
  clear hwb hwe
  clear sb
  clear h1 h3
  go_wp2_with fail
  refine OP.out.mono ?_
  rintro e w1 ⟨rfl, b1⟩
  clear OP h2
  have la := LA.out.keep (by show 0 < 6; decide) b1
  have le := LE.out.keep (by show 0 < 5; decide) b1
  clear a0 a1 a2 a3 a4 a5 e0 e1 e2 e3 e4 f0 f1 f2 f3 f4 LA LE
  have a0 : w1.cell? ⟨w.heap.size, 0, none⟩ = some (.bool false) := la.cell 0 rfl; have a1 : w1.cell? ⟨w.heap.size, 1, none⟩ = some (.int .u32 addr) := la.cell 1 rfl; have a2 : w1.cell? ⟨w.heap.size, 2, none⟩ = some (.int .i64 tp) := la.cell 2 rfl; have a3 : w1.cell? ⟨w.heap.size, 3, none⟩ = some (.int .u32 own) := la.cell 3 rfl; have a4 : w1.cell? ⟨w.heap.size, 4, none⟩ = some (.int .i64 port) := la.cell 4 rfl; have a5 : w1.cell? ⟨w.heap.size, 5, none⟩ = some (.slice a n c) := la.cell 5 rfl
  have e0 : w1.cell? ⟨w.heap.size + 1, 0, none⟩ = some (.bool false) := le.cell 0 rfl; have e1 : w1.cell? ⟨w.heap.size + 1, 1, none⟩ = some (.int .i64 0) := le.cell 1 rfl; have e2 : w1.cell? ⟨w.heap.size + 1, 2, none⟩ = some (.int .u32 0) := le.cell 2 rfl; have e3 : w1.cell? ⟨w.heap.size + 1, 3, none⟩ = some (.int .i64 0) := le.cell 3 rfl; have e4 : w1.cell? ⟨w.heap.size + 1, 4, none⟩ = some (.string ⟨#[]⟩) := le.cell 4 rfl
  have f0 := le.free 0 (by show 0 < 5; decide); have f1 := le.free 1 (by show 1 < 5; decide); have f2 := le.free 2 (by show 2 < 5; decide); have f3 := le.free 3 (by show 3 < 5; decide); have f4 := le.free 4 (by show 4 < 5; decide)
  have LA := Lib.hid la
  have LE := Lib.hid le
  clear la le
  replace b1 := Lib.hid (b0.out.trans (b1.mono b0.out.size))
  clear b0 h
  go_wp2_with fail
  refine ⟨rfl, .tuple #[.agg #[.bool false, .int .i64 0, .int .u32 0, .int .i64 0, .string ⟨#[]⟩], .int .i64 15], ?_, rfl, em_below b1.out hE.out _ _ _ _ _⟩
  simp [results, Tryz.results6, go_sem, *]
set_option maxHeartbeats 4000000 in
theorem rup_pay (T : Tu) (v : Value) (w : World) (h : RusAt w v T.rules) (s : ByteArray) (hs : s.size ≤ 140737488351232) (hb : TuB T) (hrt : T.rt = true ↔ anyR T.rules) (h1 : s.size ≤ 1000) (hi : T.ip = false) (ho : openE T = 0) : Calls Tryz.prog 6 #[tuV T v, .string s] w fun e w' => e = .returned (.tuple #[.agg #[.bool false, .int .i64 T.port, .int .u32 T.addr, .int .i64 T.tp, .string s], .int .i64 0]) ∧ Below w.heap.size w w' := by
  have h2 : ¬ (1000 : Int) < (s.size : Int) := by omega
  have h3 : ¬ 1000 < s.size := by omega
  obtain ⟨wb, hwb⟩ : ∃ x, x = w.alloc (.cells #[.bool T.ip, .int .u32 T.addr, .int .i64 T.tp, .int .u32 T.own, .int .i64 T.port, v] 27) := ⟨_, rfl⟩
  obtain ⟨we, hwe⟩ : ∃ x, x = wb.alloc (.cells #[.bool false, .int .i64 0, .int .u32 0, .int .i64 0, .string ⟨#[]⟩] 31) := ⟨_, rfl⟩
  have sb : wb.heap.size = w.heap.size + 1 := by rw [hwb]; simp
  have bb : Below w.heap.size w wb := by rw [hwb]; exact (Below.refl _ _).alloc (Nat.le_refl _) _
  have be : Below wb.heap.size wb we := by rw [hwe]; exact (Below.refl _ _).alloc (Nat.le_refl _) _
  have la : Lies we w.heap.size (tuC T v) := by
    have : Lies wb w.heap.size (tuC T v) := by rw [hwb]; exact Lies.new w (tuC T v) _
    exact this.keep (by show 0 < 6; decide) be
  have le : Lies we (w.heap.size + 1) (emC em0) := by rw [hwe, ← sb]; exact Lies.new wb (emC em0) _
  have b0 := bb.trans (be.mono bb.size)
  have hE : w.heap.size ≤ w.heap.size + 1 := Nat.le_succ _
  have a0 := la.cell 0 rfl; have a1 := la.cell 1 rfl; have a2 := la.cell 2 rfl; have a3 := la.cell 3 rfl; have a4 := la.cell 4 rfl; have a5 := la.cell 5 rfl
  have e0 : we.cell? ⟨w.heap.size + 1, 0, none⟩ = some (.bool false) := le.cell 0 rfl; have e1 : we.cell? ⟨w.heap.size + 1, 1, none⟩ = some (.int .i64 0) := le.cell 1 rfl; have e2 : we.cell? ⟨w.heap.size + 1, 2, none⟩ = some (.int .u32 0) := le.cell 2 rfl; have e3 : we.cell? ⟨w.heap.size + 1, 3, none⟩ = some (.int .i64 0) := le.cell 3 rfl; have e4 : we.cell? ⟨w.heap.size + 1, 4, none⟩ = some (.string ⟨#[]⟩) := le.cell 4 rfl
  have f0 := le.free 0 (by show 0 < 5; decide); have f1 := le.free 1 (by show 1 < 5; decide); have f2 := le.free 2 (by show 2 < 5; decide); have f3 := le.free 3 (by show 3 < 5; decide); have f4 := le.free 4 (by show 4 < 5; decide)
  have LA := Lib.hid la
  have LE := Lib.hid le
  replace hwb := Lib.hid hwb
  replace hwe := Lib.hid hwe
  replace b0 := Lib.hid b0
  replace hE := Lib.hid hE
  clear bb be la le
  have OP := ropen_ok T v we (h.keep b0.out) hb hrt
  rw [ho] at OP
  unfold tuV at OP
  replace OP := Lib.hid OP
  clear hrt hb
  have hsl : ∃ a n c, v = .slice a n c := by obtain ⟨a, c, e, -, -⟩ := h; exact ⟨a, _, c, e⟩
  obtain ⟨a, n, c, rfl⟩ := hsl
  replace h := Lib.hid (h.keep b0.out)
  obtain ⟨ip, addr, tp, own, port, rules, rt⟩ := T
  simp only at *
  subst hi
  unfold tuV
  go_enter Tryz.func6, Tryz.ntmps6
  go_upto_region 1 with fail
  rw [← hwb.out, ← hwe.out]
  clear hwb hwe
  clear sb
  clear h1 h3
  go_wp2_with fail
  refine OP.out.mono ?_
  rintro e w1 ⟨rfl, b1⟩
  clear OP h2
  have la := LA.out.keep (by show 0 < 6; decide) b1
  have le := LE.out.keep (by show 0 < 5; decide) b1
  clear a0 a1 a2 a3 a4 a5 e0 e1 e2 e3 e4 f0 f1 f2 f3 f4 LA LE
  have a0 : w1.cell? ⟨w.heap.size, 0, none⟩ = some (.bool false) := la.cell 0 rfl; have a1 : w1.cell? ⟨w.heap.size, 1, none⟩ = some (.int .u32 addr) := la.cell 1 rfl; have a2 : w1.cell? ⟨w.heap.size, 2, none⟩ = some (.int .i64 tp) := la.cell 2 rfl; have a3 : w1.cell? ⟨w.heap.size, 3, none⟩ = some (.int .u32 own) := la.cell 3 rfl; have a4 : w1.cell? ⟨w.heap.size, 4, none⟩ = some (.int .i64 port) := la.cell 4 rfl; have a5 : w1.cell? ⟨w.heap.size, 5, none⟩ = some (.slice a n c) := la.cell 5 rfl
  have e0 : w1.cell? ⟨w.heap.size + 1, 0, none⟩ = some (.bool false) := le.cell 0 rfl; have e1 : w1.cell? ⟨w.heap.size + 1, 1, none⟩ = some (.int .i64 0) := le.cell 1 rfl; have e2 : w1.cell? ⟨w.heap.size + 1, 2, none⟩ = some (.int .u32 0) := le.cell 2 rfl; have e3 : w1.cell? ⟨w.heap.size + 1, 3, none⟩ = some (.int .i64 0) := le.cell 3 rfl; have e4 : w1.cell? ⟨w.heap.size + 1, 4, none⟩ = some (.string ⟨#[]⟩) := le.cell 4 rfl
  have f0 := le.free 0 (by show 0 < 5; decide); have f1 := le.free 1 (by show 1 < 5; decide); have f2 := le.free 2 (by show 2 < 5; decide); have f3 := le.free 3 (by show 3 < 5; decide); have f4 := le.free 4 (by show 4 < 5; decide)
  have LA := Lib.hid la
  have LE := Lib.hid le
  clear la le
  replace b1 := Lib.hid (b0.out.trans (b1.mono b0.out.size))
  clear b0 h
  go_wp2_with fail
  refine ⟨rfl, .tuple #[.agg #[.bool false, .int .i64 port, .int .u32 addr, .int .i64 tp, .string s], .int .i64 0], ?_, rfl, em_below b1.out hE.out _ _ _ _ _⟩
  simp [results, Tryz.results6, go_sem, *]
set_option maxHeartbeats 4000000 in
theorem rup_bad (T : Tu) (v : Value) (w : World) (h : RusAt w v T.rules) (s : ByteArray) (hs : s.size ≤ 140737488351232) (h1 : s.size ≤ 1000) (hi : T.ip = true) (k : Int) (hk : (k != 0) = true) (PA : Hid (∀ w, Calls Tryz.prog 13 #[.string s] w fun e w' => e = .returned (.tuple #[none', .int .i64 k]) ∧ Below w.heap.size w w')) : Calls Tryz.prog 6 #[tuV T v, .string s] w fun e w' => e = .returned (.tuple #[.agg #[.bool false, .int .i64 0, .int .u32 0, .int .i64 0, .string ⟨#[]⟩], .int .i64 k]) ∧ Below w.heap.size w w' := by
  have x2 : ¬ (1000 : Int) < (s.size : Int) := by omega
  have x3 : ¬ 1000 < s.size := by omega
  obtain ⟨wb, hwb⟩ : ∃ x, x = w.alloc (.cells #[.bool T.ip, .int .u32 T.addr, .int .i64 T.tp, .int .u32 T.own, .int .i64 T.port, v] 27) := ⟨_, rfl⟩
  obtain ⟨we, hwe⟩ : ∃ x, x = wb.alloc (.cells #[.bool false, .int .i64 0, .int .u32 0, .int .i64 0, .string ⟨#[]⟩] 31) := ⟨_, rfl⟩
  have sb : wb.heap.size = w.heap.size + 1 := by rw [hwb]; simp
  have bb : Below w.heap.size w wb := by rw [hwb]; exact (Below.refl _ _).alloc (Nat.le_refl _) _
  have be : Below wb.heap.size wb we := by rw [hwe]; exact (Below.refl _ _).alloc (Nat.le_refl _) _
  have la : Lies we w.heap.size (tuC T v) := by
    have : Lies wb w.heap.size (tuC T v) := by rw [hwb]; exact Lies.new w (tuC T v) _
    exact this.keep (by show 0 < 6; decide) be
  have le : Lies we (w.heap.size + 1) (emC em0) := by rw [hwe, ← sb]; exact Lies.new wb (emC em0) _
  have b0 := bb.trans (be.mono bb.size)
  have hE : w.heap.size ≤ w.heap.size + 1 := Nat.le_succ _
  have a0 := la.cell 0 rfl; have a1 := la.cell 1 rfl; have a2 := la.cell 2 rfl; have a3 := la.cell 3 rfl; have a4 := la.cell 4 rfl; have a5 := la.cell 5 rfl
  have e0 : we.cell? ⟨w.heap.size + 1, 0, none⟩ = some (.bool false) := le.cell 0 rfl; have e1 : we.cell? ⟨w.heap.size + 1, 1, none⟩ = some (.int .i64 0) := le.cell 1 rfl; have e2 : we.cell? ⟨w.heap.size + 1, 2, none⟩ = some (.int .u32 0) := le.cell 2 rfl; have e3 : we.cell? ⟨w.heap.size + 1, 3, none⟩ = some (.int .i64 0) := le.cell 3 rfl; have e4 : we.cell? ⟨w.heap.size + 1, 4, none⟩ = some (.string ⟨#[]⟩) := le.cell 4 rfl
  have f0 := le.free 0 (by show 0 < 5; decide); have f1 := le.free 1 (by show 1 < 5; decide); have f2 := le.free 2 (by show 2 < 5; decide); have f3 := le.free 3 (by show 3 < 5; decide); have f4 := le.free 4 (by show 4 < 5; decide)
  have LA := Lib.hid la
  have LE := Lib.hid le
  replace hwb := Lib.hid hwb
  replace hwe := Lib.hid hwe
  replace b0 := Lib.hid b0
  replace hE := Lib.hid hE
  clear bb be la le
  unfold none' hv at *
  have hsl : ∃ a n c, v = .slice a n c := by obtain ⟨a, c, e, -, -⟩ := h; exact ⟨a, _, c, e⟩
  obtain ⟨a, n, c, rfl⟩ := hsl
  replace h := Lib.hid (h.keep b0.out)
  obtain ⟨ip, addr, tp, own, port, rules, rt⟩ := T
  simp only at *
  subst hi
  unfold tuV
  go_enter Tryz.func6, Tryz.ntmps6
  go_upto_region 1 with fail
  rw [← hwb.out, ← hwe.out]
  clear hwb hwe
  clear sb
  clear h1 x3
  go_wp2_with fail
  refine (PA.out we).mono ?_
  rintro e w1 ⟨rfl, b1⟩
  clear PA x2
  go_upto_region 8 with fail
  have bh : Below w1.heap.size w1 (w1.alloc (.cells #[.int .i64 0, .int .i64 0, .int .i64 0, .int .i64 0, .int .i64 0, .int .u32 0, .int .u32 0, .string ⟨#[]⟩] 40)) := (Below.refl _ _).alloc (Nat.le_refl _) _
  have LH : Lies (w1.alloc (.cells #[.int .i64 0, .int .i64 0, .int .i64 0, .int .i64 0, .int .i64 0, .int .u32 0, .int .u32 0, .string ⟨#[]⟩] 40)) w1.heap.size [.int .i64 0, .int .i64 0, .int .i64 0, .int .i64 0, .int .i64 0, .int .u32 0, .int .u32 0, .string ⟨#[]⟩] := Lies.new w1 [.int .i64 0, .int .i64 0, .int .i64 0, .int .i64 0, .int .i64 0, .int .u32 0, .int .u32 0, .string ⟨#[]⟩] _
  have b2 := b1.trans (bh.mono b1.size)
  generalize w1.alloc (.cells #[.int .i64 0, .int .i64 0, .int .i64 0, .int .i64 0, .int .i64 0, .int .u32 0, .int .u32 0, .string ⟨#[]⟩] 40) = w2 at *
  generalize w1.heap.size = gh at *
  have la := LA.out.keep (by show 0 < 6; decide) b2
  have le := LE.out.keep (by show 0 < 5; decide) b2
  clear a0 a1 a2 a3 a4 a5 e0 e1 e2 e3 e4 f0 f1 f2 f3 f4 LA LE
  have a0 : w2.cell? ⟨w.heap.size, 0, none⟩ = some (.bool true) := la.cell 0 rfl; have a1 : w2.cell? ⟨w.heap.size, 1, none⟩ = some (.int .u32 addr) := la.cell 1 rfl; have a2 : w2.cell? ⟨w.heap.size, 2, none⟩ = some (.int .i64 tp) := la.cell 2 rfl; have a3 : w2.cell? ⟨w.heap.size, 3, none⟩ = some (.int .u32 own) := la.cell 3 rfl; have a4 : w2.cell? ⟨w.heap.size, 4, none⟩ = some (.int .i64 port) := la.cell 4 rfl; have a5 : w2.cell? ⟨w.heap.size, 5, none⟩ = some (.slice a n c) := la.cell 5 rfl
  have e0 : w2.cell? ⟨w.heap.size + 1, 0, none⟩ = some (.bool false) := le.cell 0 rfl; have e1 : w2.cell? ⟨w.heap.size + 1, 1, none⟩ = some (.int .i64 0) := le.cell 1 rfl; have e2 : w2.cell? ⟨w.heap.size + 1, 2, none⟩ = some (.int .u32 0) := le.cell 2 rfl; have e3 : w2.cell? ⟨w.heap.size + 1, 3, none⟩ = some (.int .i64 0) := le.cell 3 rfl; have e4 : w2.cell? ⟨w.heap.size + 1, 4, none⟩ = some (.string ⟨#[]⟩) := le.cell 4 rfl
  have f0 := le.free 0 (by show 0 < 5; decide); have f1 := le.free 1 (by show 1 < 5; decide); have f2 := le.free 2 (by show 2 < 5; decide); have f3 := le.free 3 (by show 3 < 5; decide); have f4 := le.free 4 (by show 4 < 5; decide)
  have LA := Lib.hid la
  have LE := Lib.hid le
  clear la le
  have h0 := LH.cell 0 rfl; have h1 := LH.cell 1 rfl; have h2 := LH.cell 2 rfl; have h3 := LH.cell 3 rfl; have h4 := LH.cell 4 rfl; have h5 := LH.cell 5 rfl; have h6 := LH.cell 6 rfl; have h7 := LH.cell 7 rfl
  replace h := Lib.hid (h.out.keep b2)
  replace b2 := Lib.hid (b0.out.trans (b2.mono b0.out.size))
  replace LH := Lib.hid LH
  clear b0 b1 bh
  go_wp2_with fail
  refine ⟨rfl, .tuple #[.agg #[.bool false, .int .i64 0, .int .u32 0, .int .i64 0, .string ⟨#[]⟩], .int .i64 k], ?_, rfl, em_below b2.out hE.out _ _ _ _ _⟩
  simp [results, Tryz.results6, go_sem, *]
set_option maxHeartbeats 4000000 in
theorem rup_src (T : Tu) (v : Value) (w : World) (h : RusAt w v T.rules) (s : ByteArray) (hs : s.size ≤ 140737488351232) (h1 : s.size ≤ 1000) (hi : T.ip = true) (tos id frag ttl pro src dst : Int) (dat : ByteArray) (PA : Hid (∀ w, Calls Tryz.prog 13 #[.string s] w fun e w' => e = .returned (.tuple #[hv tos id frag ttl pro src dst dat, .int .i64 0]) ∧ Below w.heap.size w w')) (ho : src ≠ T.own) : Calls Tryz.prog 6 #[tuV T v, .string s] w fun e w' => e = .returned (.tuple #[.agg #[.bool false, .int .i64 0, .int .u32 0, .int .i64 0, .string ⟨#[]⟩], .int .i64 15]) ∧ Below w.heap.size w w' := by
  have x2 : ¬ (1000 : Int) < (s.size : Int) := by omega
  have x3 : ¬ 1000 < s.size := by omega
  obtain ⟨wb, hwb⟩ : ∃ x, x = w.alloc (.cells #[.bool T.ip, .int .u32 T.addr, .int .i64 T.tp, .int .u32 T.own, .int .i64 T.port, v] 27) := ⟨_, rfl⟩
  obtain ⟨we, hwe⟩ : ∃ x, x = wb.alloc (.cells #[.bool false, .int .i64 0, .int .u32 0, .int .i64 0, .string ⟨#[]⟩] 31) := ⟨_, rfl⟩
  have sb : wb.heap.size = w.heap.size + 1 := by rw [hwb]; simp
  have bb : Below w.heap.size w wb := by rw [hwb]; exact (Below.refl _ _).alloc (Nat.le_refl _) _
  have be : Below wb.heap.size wb we := by rw [hwe]; exact (Below.refl _ _).alloc (Nat.le_refl _) _
  have la : Lies we w.heap.size (tuC T v) := by
    have : Lies wb w.heap.size (tuC T v) := by rw [hwb]; exact Lies.new w (tuC T v) _
    exact this.keep (by show 0 < 6; decide) be
  have le : Lies we (w.heap.size + 1) (emC em0) := by rw [hwe, ← sb]; exact Lies.new wb (emC em0) _
  have b0 := bb.trans (be.mono bb.size)
  have hE : w.heap.size ≤ w.heap.size + 1 := Nat.le_succ _
  have a0 := la.cell 0 rfl; have a1 := la.cell 1 rfl; have a2 := la.cell 2 rfl; have a3 := la.cell 3 rfl; have a4 := la.cell 4 rfl; have a5 := la.cell 5 rfl
  have e0 : we.cell? ⟨w.heap.size + 1, 0, none⟩ = some (.bool false) := le.cell 0 rfl; have e1 : we.cell? ⟨w.heap.size + 1, 1, none⟩ = some (.int .i64 0) := le.cell 1 rfl; have e2 : we.cell? ⟨w.heap.size + 1, 2, none⟩ = some (.int .u32 0) := le.cell 2 rfl; have e3 : we.cell? ⟨w.heap.size + 1, 3, none⟩ = some (.int .i64 0) := le.cell 3 rfl; have e4 : we.cell? ⟨w.heap.size + 1, 4, none⟩ = some (.string ⟨#[]⟩) := le.cell 4 rfl
  have f0 := le.free 0 (by show 0 < 5; decide); have f1 := le.free 1 (by show 1 < 5; decide); have f2 := le.free 2 (by show 2 < 5; decide); have f3 := le.free 3 (by show 3 < 5; decide); have f4 := le.free 4 (by show 4 < 5; decide)
  have LA := Lib.hid la
  have LE := Lib.hid le
  replace hwb := Lib.hid hwb
  replace hwe := Lib.hid hwe
  replace b0 := Lib.hid b0
  replace hE := Lib.hid hE
  clear bb be la le
  unfold hv at *
  have hsl : ∃ a n c, v = .slice a n c := by obtain ⟨a, c, e, -, -⟩ := h; exact ⟨a, _, c, e⟩
  obtain ⟨a, n, c, rfl⟩ := hsl
  replace h := Lib.hid (h.keep b0.out)
  obtain ⟨ip, addr, tp, own, port, rules, rt⟩ := T
  simp only at *
  subst hi
  have y1 : (src != own) = true := by simp [ho]
  have y2 : ¬ src = own := ho
  unfold tuV
  go_enter Tryz.func6, Tryz.ntmps6
  go_upto_region 1 with fail
  rw [← hwb.out, ← hwe.out]
  clear hwb hwe
  clear sb
  clear h1 x3
  go_wp2_with fail
  refine (PA.out we).mono ?_
  rintro e w1 ⟨rfl, b1⟩
  clear PA x2
  go_upto_region 8 with fail
  have bh : Below w1.heap.size w1 (w1.alloc (.cells #[.int .i64 tos, .int .i64 id, .int .i64 frag, .int .i64 ttl, .int .i64 pro, .int .u32 src, .int .u32 dst, .string dat] 40)) := (Below.refl _ _).alloc (Nat.le_refl _) _
  have LH : Lies (w1.alloc (.cells #[.int .i64 tos, .int .i64 id, .int .i64 frag, .int .i64 ttl, .int .i64 pro, .int .u32 src, .int .u32 dst, .string dat] 40)) w1.heap.size [.int .i64 tos, .int .i64 id, .int .i64 frag, .int .i64 ttl, .int .i64 pro, .int .u32 src, .int .u32 dst, .string dat] := Lies.new w1 [.int .i64 tos, .int .i64 id, .int .i64 frag, .int .i64 ttl, .int .i64 pro, .int .u32 src, .int .u32 dst, .string dat] _
  have b2 := b1.trans (bh.mono b1.size)
  generalize w1.alloc (.cells #[.int .i64 tos, .int .i64 id, .int .i64 frag, .int .i64 ttl, .int .i64 pro, .int .u32 src, .int .u32 dst, .string dat] 40) = w2 at *
  generalize w1.heap.size = gh at *
  have la := LA.out.keep (by show 0 < 6; decide) b2
  have le := LE.out.keep (by show 0 < 5; decide) b2
  clear a0 a1 a2 a3 a4 a5 e0 e1 e2 e3 e4 f0 f1 f2 f3 f4 LA LE
  have a0 : w2.cell? ⟨w.heap.size, 0, none⟩ = some (.bool true) := la.cell 0 rfl; have a1 : w2.cell? ⟨w.heap.size, 1, none⟩ = some (.int .u32 addr) := la.cell 1 rfl; have a2 : w2.cell? ⟨w.heap.size, 2, none⟩ = some (.int .i64 tp) := la.cell 2 rfl; have a3 : w2.cell? ⟨w.heap.size, 3, none⟩ = some (.int .u32 own) := la.cell 3 rfl; have a4 : w2.cell? ⟨w.heap.size, 4, none⟩ = some (.int .i64 port) := la.cell 4 rfl; have a5 : w2.cell? ⟨w.heap.size, 5, none⟩ = some (.slice a n c) := la.cell 5 rfl
  have e0 : w2.cell? ⟨w.heap.size + 1, 0, none⟩ = some (.bool false) := le.cell 0 rfl; have e1 : w2.cell? ⟨w.heap.size + 1, 1, none⟩ = some (.int .i64 0) := le.cell 1 rfl; have e2 : w2.cell? ⟨w.heap.size + 1, 2, none⟩ = some (.int .u32 0) := le.cell 2 rfl; have e3 : w2.cell? ⟨w.heap.size + 1, 3, none⟩ = some (.int .i64 0) := le.cell 3 rfl; have e4 : w2.cell? ⟨w.heap.size + 1, 4, none⟩ = some (.string ⟨#[]⟩) := le.cell 4 rfl
  have f0 := le.free 0 (by show 0 < 5; decide); have f1 := le.free 1 (by show 1 < 5; decide); have f2 := le.free 2 (by show 2 < 5; decide); have f3 := le.free 3 (by show 3 < 5; decide); have f4 := le.free 4 (by show 4 < 5; decide)
  have LA := Lib.hid la
  have LE := Lib.hid le
  clear la le
  have h0 := LH.cell 0 rfl; have h1 := LH.cell 1 rfl; have h2 := LH.cell 2 rfl; have h3 := LH.cell 3 rfl; have h4 := LH.cell 4 rfl; have h5 := LH.cell 5 rfl; have h6 := LH.cell 6 rfl; have h7 := LH.cell 7 rfl
  replace h := Lib.hid (h.out.keep b2)
  replace b2 := Lib.hid (b0.out.trans (b2.mono b0.out.size))
  replace LH := Lib.hid LH
  clear b0 b1 bh
  clear h
  have kh0 := fun d os => cell_regrown (w := w2) h0 d os
  have kh1 := fun d os => cell_regrown (w := w2) h1 d os
  have kh2 := fun d os => cell_regrown (w := w2) h2 d os
  have kh3 := fun d os => cell_regrown (w := w2) h3 d os
  have kh4 := fun d os => cell_regrown (w := w2) h4 d os
  have kh5 := fun d os => cell_regrown (w := w2) h5 d os
  have kh6 := fun d os => cell_regrown (w := w2) h6 d os
  have kh7 := fun d os => cell_regrown (w := w2) h7 d os
  have ka3 := fun d os => cell_regrown (w := w2) a3 d os
  have ka5 := fun d os => cell_regrown (w := w2) a5 d os
  go_upto_region 10 with fail
  refine wp_region_quiet_below (by kernel_rfl) (by kernel_rfl) ?_
  repeat (go_big_quiet_step (fail))
  refine wpQuiet_nil ?_
  intro _ hw'
  obtain ⟨⟨dq, osq⟩, hw''⟩ := hw'
  subst hw''
  have br := below_regrown w2 dq osq
  have la := LA.out.keep (by show 0 < 6; decide) br
  have le := LE.out.keep (by show 0 < 5; decide) br
  clear a0 a1 a2 a3 a4 a5 e0 e1 e2 e3 e4 f0 f1 f2 f3 f4 LA LE
  have a0 : (Go.Sort.grow (redrawn w2 dq) osq).cell? ⟨w.heap.size, 0, none⟩ = some (.bool true) := la.cell 0 rfl; have a1 : (Go.Sort.grow (redrawn w2 dq) osq).cell? ⟨w.heap.size, 1, none⟩ = some (.int .u32 addr) := la.cell 1 rfl; have a2 : (Go.Sort.grow (redrawn w2 dq) osq).cell? ⟨w.heap.size, 2, none⟩ = some (.int .i64 tp) := la.cell 2 rfl; have a3 : (Go.Sort.grow (redrawn w2 dq) osq).cell? ⟨w.heap.size, 3, none⟩ = some (.int .u32 own) := la.cell 3 rfl; have a4 : (Go.Sort.grow (redrawn w2 dq) osq).cell? ⟨w.heap.size, 4, none⟩ = some (.int .i64 port) := la.cell 4 rfl; have a5 : (Go.Sort.grow (redrawn w2 dq) osq).cell? ⟨w.heap.size, 5, none⟩ = some (.slice a n c) := la.cell 5 rfl
  have e0 : (Go.Sort.grow (redrawn w2 dq) osq).cell? ⟨w.heap.size + 1, 0, none⟩ = some (.bool false) := le.cell 0 rfl; have e1 : (Go.Sort.grow (redrawn w2 dq) osq).cell? ⟨w.heap.size + 1, 1, none⟩ = some (.int .i64 0) := le.cell 1 rfl; have e2 : (Go.Sort.grow (redrawn w2 dq) osq).cell? ⟨w.heap.size + 1, 2, none⟩ = some (.int .u32 0) := le.cell 2 rfl; have e3 : (Go.Sort.grow (redrawn w2 dq) osq).cell? ⟨w.heap.size + 1, 3, none⟩ = some (.int .i64 0) := le.cell 3 rfl; have e4 : (Go.Sort.grow (redrawn w2 dq) osq).cell? ⟨w.heap.size + 1, 4, none⟩ = some (.string ⟨#[]⟩) := le.cell 4 rfl
  have f0 := le.free 0 (by show 0 < 5; decide); have f1 := le.free 1 (by show 1 < 5; decide); have f2 := le.free 2 (by show 2 < 5; decide); have f3 := le.free 3 (by show 3 < 5; decide); have f4 := le.free 4 (by show 4 < 5; decide)
  have LA := Lib.hid la
  have LE := Lib.hid le
  clear la le
  have LH3 := LH.out.keep (by show 0 < 8; decide) br
  clear h0 h1 h2 h3 h4 h5 h6 h7 LH
  have h6 := LH3.cell 6 rfl
  replace b2 := Lib.hid (b2.out.trans (br.mono b2.out.size))
  clear kh0 kh1 kh2 kh3 kh4 kh5 kh6 kh7 ka3 ka5
  clear br LH3
  simp only
  generalize Go.Sort.grow (redrawn w2 dq) osq = w3 at *
  clear LA LE
  go_wp2_with fail
  refine ⟨rfl, .tuple #[.agg #[.bool false, .int .i64 0, .int .u32 0, .int .i64 0, .string ⟨#[]⟩], .int .i64 15], ?_, rfl, em_below b2.out hE.out _ _ _ _ _⟩
  simp [results, Tryz.results6, go_sem, *]
set_option maxHeartbeats 4000000 in
theorem rup_rule (T : Tu) (v : Value) (w : World) (h : RusAt w v T.rules) (s : ByteArray) (hs : s.size ≤ 140737488351232) (h1 : s.size ≤ 1000) (hi : T.ip = true) (tos id frag ttl pro src dst : Int) (dat : ByteArray) (PA : Hid (∀ w, Calls Tryz.prog 13 #[.string s] w fun e w' => e = .returned (.tuple #[hv tos id frag ttl pro src dst dat, .int .i64 0]) ∧ Below w.heap.size w w')) (ho : src = T.own) (P : Int) (PT : Hid (∀ w, Calls Tryz.prog 15 #[hv tos id frag ttl pro src dst dat] w fun e w' => e = .returned (.int .i64 P) ∧ Below w.heap.size w w')) (AL : Hid (∀ w, RusAt w v T.rules → Calls Tryz.prog 14 #[v, .int .i64 pro, .int .u32 dst, .int .i64 P] w fun e w' => e = .returned (.bool false) ∧ Below w.heap.size w w')) : Calls Tryz.prog 6 #[tuV T v, .string s] w fun e w' => e = .returned (.tuple #[.agg #[.bool false, .int .i64 0, .int .u32 0, .int .i64 0, .string ⟨#[]⟩], .int .i64 15]) ∧ Below w.heap.size w w' := by
  have x2 : ¬ (1000 : Int) < (s.size : Int) := by omega
  have x3 : ¬ 1000 < s.size := by omega
  obtain ⟨wb, hwb⟩ : ∃ x, x = w.alloc (.cells #[.bool T.ip, .int .u32 T.addr, .int .i64 T.tp, .int .u32 T.own, .int .i64 T.port, v] 27) := ⟨_, rfl⟩
  obtain ⟨we, hwe⟩ : ∃ x, x = wb.alloc (.cells #[.bool false, .int .i64 0, .int .u32 0, .int .i64 0, .string ⟨#[]⟩] 31) := ⟨_, rfl⟩
  have sb : wb.heap.size = w.heap.size + 1 := by rw [hwb]; simp
  have bb : Below w.heap.size w wb := by rw [hwb]; exact (Below.refl _ _).alloc (Nat.le_refl _) _
  have be : Below wb.heap.size wb we := by rw [hwe]; exact (Below.refl _ _).alloc (Nat.le_refl _) _
  have la : Lies we w.heap.size (tuC T v) := by
    have : Lies wb w.heap.size (tuC T v) := by rw [hwb]; exact Lies.new w (tuC T v) _
    exact this.keep (by show 0 < 6; decide) be
  have le : Lies we (w.heap.size + 1) (emC em0) := by rw [hwe, ← sb]; exact Lies.new wb (emC em0) _
  have b0 := bb.trans (be.mono bb.size)
  have hE : w.heap.size ≤ w.heap.size + 1 := Nat.le_succ _
  have a0 := la.cell 0 rfl; have a1 := la.cell 1 rfl; have a2 := la.cell 2 rfl; have a3 := la.cell 3 rfl; have a4 := la.cell 4 rfl; have a5 := la.cell 5 rfl
  have e0 : we.cell? ⟨w.heap.size + 1, 0, none⟩ = some (.bool false) := le.cell 0 rfl; have e1 : we.cell? ⟨w.heap.size + 1, 1, none⟩ = some (.int .i64 0) := le.cell 1 rfl; have e2 : we.cell? ⟨w.heap.size + 1, 2, none⟩ = some (.int .u32 0) := le.cell 2 rfl; have e3 : we.cell? ⟨w.heap.size + 1, 3, none⟩ = some (.int .i64 0) := le.cell 3 rfl; have e4 : we.cell? ⟨w.heap.size + 1, 4, none⟩ = some (.string ⟨#[]⟩) := le.cell 4 rfl
  have f0 := le.free 0 (by show 0 < 5; decide); have f1 := le.free 1 (by show 1 < 5; decide); have f2 := le.free 2 (by show 2 < 5; decide); have f3 := le.free 3 (by show 3 < 5; decide); have f4 := le.free 4 (by show 4 < 5; decide)
  have LA := Lib.hid la
  have LE := Lib.hid le
  replace hwb := Lib.hid hwb
  replace hwe := Lib.hid hwe
  replace b0 := Lib.hid b0
  replace hE := Lib.hid hE
  clear bb be la le
  unfold hv at *
  have hsl : ∃ a n c, v = .slice a n c := by obtain ⟨a, c, e, -, -⟩ := h; exact ⟨a, _, c, e⟩
  obtain ⟨a, n, c, rfl⟩ := hsl
  replace h := Lib.hid (h.keep b0.out)
  obtain ⟨ip, addr, tp, own, port, rules, rt⟩ := T
  simp only at *
  subst hi
  have ho2 := ho.symm
  clear ho
  subst ho2
  unfold tuV
  go_enter Tryz.func6, Tryz.ntmps6
  go_upto_region 1 with fail
  rw [← hwb.out, ← hwe.out]
  clear hwb hwe
  clear sb
  clear h1 x3
  go_wp2_with fail
  refine (PA.out we).mono ?_
  rintro e w1 ⟨rfl, b1⟩
  clear PA x2
  go_upto_region 8 with fail
  have bh : Below w1.heap.size w1 (w1.alloc (.cells #[.int .i64 tos, .int .i64 id, .int .i64 frag, .int .i64 ttl, .int .i64 pro, .int .u32 own, .int .u32 dst, .string dat] 40)) := (Below.refl _ _).alloc (Nat.le_refl _) _
  have LH : Lies (w1.alloc (.cells #[.int .i64 tos, .int .i64 id, .int .i64 frag, .int .i64 ttl, .int .i64 pro, .int .u32 own, .int .u32 dst, .string dat] 40)) w1.heap.size [.int .i64 tos, .int .i64 id, .int .i64 frag, .int .i64 ttl, .int .i64 pro, .int .u32 own, .int .u32 dst, .string dat] := Lies.new w1 [.int .i64 tos, .int .i64 id, .int .i64 frag, .int .i64 ttl, .int .i64 pro, .int .u32 own, .int .u32 dst, .string dat] _
  have b2 := b1.trans (bh.mono b1.size)
  generalize w1.alloc (.cells #[.int .i64 tos, .int .i64 id, .int .i64 frag, .int .i64 ttl, .int .i64 pro, .int .u32 own, .int .u32 dst, .string dat] 40) = w2 at *
  generalize w1.heap.size = gh at *
  have la := LA.out.keep (by show 0 < 6; decide) b2
  have le := LE.out.keep (by show 0 < 5; decide) b2
  clear a0 a1 a2 a3 a4 a5 e0 e1 e2 e3 e4 f0 f1 f2 f3 f4 LA LE
  have a0 : w2.cell? ⟨w.heap.size, 0, none⟩ = some (.bool true) := la.cell 0 rfl; have a1 : w2.cell? ⟨w.heap.size, 1, none⟩ = some (.int .u32 addr) := la.cell 1 rfl; have a2 : w2.cell? ⟨w.heap.size, 2, none⟩ = some (.int .i64 tp) := la.cell 2 rfl; have a3 : w2.cell? ⟨w.heap.size, 3, none⟩ = some (.int .u32 own) := la.cell 3 rfl; have a4 : w2.cell? ⟨w.heap.size, 4, none⟩ = some (.int .i64 port) := la.cell 4 rfl; have a5 : w2.cell? ⟨w.heap.size, 5, none⟩ = some (.slice a n c) := la.cell 5 rfl
  have e0 : w2.cell? ⟨w.heap.size + 1, 0, none⟩ = some (.bool false) := le.cell 0 rfl; have e1 : w2.cell? ⟨w.heap.size + 1, 1, none⟩ = some (.int .i64 0) := le.cell 1 rfl; have e2 : w2.cell? ⟨w.heap.size + 1, 2, none⟩ = some (.int .u32 0) := le.cell 2 rfl; have e3 : w2.cell? ⟨w.heap.size + 1, 3, none⟩ = some (.int .i64 0) := le.cell 3 rfl; have e4 : w2.cell? ⟨w.heap.size + 1, 4, none⟩ = some (.string ⟨#[]⟩) := le.cell 4 rfl
  have f0 := le.free 0 (by show 0 < 5; decide); have f1 := le.free 1 (by show 1 < 5; decide); have f2 := le.free 2 (by show 2 < 5; decide); have f3 := le.free 3 (by show 3 < 5; decide); have f4 := le.free 4 (by show 4 < 5; decide)
  have LA := Lib.hid la
  have LE := Lib.hid le
  clear la le
  have h0 := LH.cell 0 rfl; have h1 := LH.cell 1 rfl; have h2 := LH.cell 2 rfl; have h3 := LH.cell 3 rfl; have h4 := LH.cell 4 rfl; have h5 := LH.cell 5 rfl; have h6 := LH.cell 6 rfl; have h7 := LH.cell 7 rfl
  replace h := Lib.hid (h.out.keep b2)
  replace b2 := Lib.hid (b0.out.trans (b2.mono b0.out.size))
  replace LH := Lib.hid LH
  clear b0 b1 bh
  have C1 : Hid (∀ d os, _) := fun d os => Calls.regrown_of (P := Tryz.prog) (w := w2) (d := d) (os := os) (PT.out _)
  have C2 : Hid (∀ d os, _) := fun d os => Calls.regrown_of (P := Tryz.prog) (w := w2) (d := d) (os := os) (AL.out _ (h.out.keep (below_regrown w2 d os)))
  clear h PT AL
  have kh0 := fun d os => cell_regrown (w := w2) h0 d os
  have kh1 := fun d os => cell_regrown (w := w2) h1 d os
  have kh2 := fun d os => cell_regrown (w := w2) h2 d os
  have kh3 := fun d os => cell_regrown (w := w2) h3 d os
  have kh4 := fun d os => cell_regrown (w := w2) h4 d os
  have kh5 := fun d os => cell_regrown (w := w2) h5 d os
  have kh6 := fun d os => cell_regrown (w := w2) h6 d os
  have kh7 := fun d os => cell_regrown (w := w2) h7 d os
  have ka3 := fun d os => cell_regrown (w := w2) a3 d os
  have ka5 := fun d os => cell_regrown (w := w2) a5 d os
  go_upto_region 10 with fail
  refine wp_region_quiet_below (by kernel_rfl) (by kernel_rfl) ?_
  repeat (go_big_quiet_step (first | (go_at_call 15; exact C1.out _ _) | (go_at_call 14; exact C2.out _ _)))
  refine wpQuiet_nil ?_
  intro _ hw'
  obtain ⟨⟨dq, osq⟩, hw''⟩ := hw'
  subst hw''
  have br := below_regrown w2 dq osq
  have la := LA.out.keep (by show 0 < 6; decide) br
  have le := LE.out.keep (by show 0 < 5; decide) br
  clear a0 a1 a2 a3 a4 a5 e0 e1 e2 e3 e4 f0 f1 f2 f3 f4 LA LE
  have a0 : (Go.Sort.grow (redrawn w2 dq) osq).cell? ⟨w.heap.size, 0, none⟩ = some (.bool true) := la.cell 0 rfl; have a1 : (Go.Sort.grow (redrawn w2 dq) osq).cell? ⟨w.heap.size, 1, none⟩ = some (.int .u32 addr) := la.cell 1 rfl; have a2 : (Go.Sort.grow (redrawn w2 dq) osq).cell? ⟨w.heap.size, 2, none⟩ = some (.int .i64 tp) := la.cell 2 rfl; have a3 : (Go.Sort.grow (redrawn w2 dq) osq).cell? ⟨w.heap.size, 3, none⟩ = some (.int .u32 own) := la.cell 3 rfl; have a4 : (Go.Sort.grow (redrawn w2 dq) osq).cell? ⟨w.heap.size, 4, none⟩ = some (.int .i64 port) := la.cell 4 rfl; have a5 : (Go.Sort.grow (redrawn w2 dq) osq).cell? ⟨w.heap.size, 5, none⟩ = some (.slice a n c) := la.cell 5 rfl
  have e0 : (Go.Sort.grow (redrawn w2 dq) osq).cell? ⟨w.heap.size + 1, 0, none⟩ = some (.bool false) := le.cell 0 rfl; have e1 : (Go.Sort.grow (redrawn w2 dq) osq).cell? ⟨w.heap.size + 1, 1, none⟩ = some (.int .i64 0) := le.cell 1 rfl; have e2 : (Go.Sort.grow (redrawn w2 dq) osq).cell? ⟨w.heap.size + 1, 2, none⟩ = some (.int .u32 0) := le.cell 2 rfl; have e3 : (Go.Sort.grow (redrawn w2 dq) osq).cell? ⟨w.heap.size + 1, 3, none⟩ = some (.int .i64 0) := le.cell 3 rfl; have e4 : (Go.Sort.grow (redrawn w2 dq) osq).cell? ⟨w.heap.size + 1, 4, none⟩ = some (.string ⟨#[]⟩) := le.cell 4 rfl
  have f0 := le.free 0 (by show 0 < 5; decide); have f1 := le.free 1 (by show 1 < 5; decide); have f2 := le.free 2 (by show 2 < 5; decide); have f3 := le.free 3 (by show 3 < 5; decide); have f4 := le.free 4 (by show 4 < 5; decide)
  have LA := Lib.hid la
  have LE := Lib.hid le
  clear la le
  have LH3 := LH.out.keep (by show 0 < 8; decide) br
  clear h0 h1 h2 h3 h4 h5 h6 h7 LH
  have h6 := LH3.cell 6 rfl
  replace b2 := Lib.hid (b2.out.trans (br.mono b2.out.size))
  clear kh0 kh1 kh2 kh3 kh4 kh5 kh6 kh7 ka3 ka5
  clear br LH3
  simp only
  generalize Go.Sort.grow (redrawn w2 dq) osq = w3 at *
  clear LA LE C1 C2
  go_wp2_with fail
  refine ⟨rfl, .tuple #[.agg #[.bool false, .int .i64 0, .int .u32 0, .int .i64 0, .string ⟨#[]⟩], .int .i64 15], ?_, rfl, em_below b2.out hE.out _ _ _ _ _⟩
  simp [results, Tryz.results6, go_sem, *]
set_option maxHeartbeats 4000000 in
theorem rup_stop (T : Tu) (v : Value) (w : World) (h : RusAt w v T.rules) (s : ByteArray) (hs : s.size ≤ 140737488351232) (h1 : s.size ≤ 1000) (hi : T.ip = true) (tos id frag ttl pro src dst : Int) (dat : ByteArray) (PA : Hid (∀ w, Calls Tryz.prog 13 #[.string s] w fun e w' => e = .returned (.tuple #[hv tos id frag ttl pro src dst dat, .int .i64 0]) ∧ Below w.heap.size w w')) (ho : src = T.own) (P : Int) (PT : Hid (∀ w, Calls Tryz.prog 15 #[hv tos id frag ttl pro src dst dat] w fun e w' => e = .returned (.int .i64 P) ∧ Below w.heap.size w w')) (AL : Hid (∀ w, RusAt w v T.rules → Calls Tryz.prog 14 #[v, .int .i64 pro, .int .u32 dst, .int .i64 P] w fun e w' => e = .returned (.bool true) ∧ Below w.heap.size w w')) (ht : ByteArray) (hk : Int) (hk0 : (hk != 0) = true) (HO : Hid (∀ w, Calls Tryz.prog 16 #[.string s] w fun e w' => e = .returned (.tuple #[.string ht, .int .i64 hk]) ∧ Below w.heap.size w w')) : Calls Tryz.prog 6 #[tuV T v, .string s] w fun e w' => e = .returned (.tuple #[.agg #[.bool false, .int .i64 0, .int .u32 0, .int .i64 0, .string ⟨#[]⟩], .int .i64 hk]) ∧ Below w.heap.size w w' := by
  have x2 : ¬ (1000 : Int) < (s.size : Int) := by omega
  have x3 : ¬ 1000 < s.size := by omega
  obtain ⟨wb, hwb⟩ : ∃ x, x = w.alloc (.cells #[.bool T.ip, .int .u32 T.addr, .int .i64 T.tp, .int .u32 T.own, .int .i64 T.port, v] 27) := ⟨_, rfl⟩
  obtain ⟨we, hwe⟩ : ∃ x, x = wb.alloc (.cells #[.bool false, .int .i64 0, .int .u32 0, .int .i64 0, .string ⟨#[]⟩] 31) := ⟨_, rfl⟩
  have sb : wb.heap.size = w.heap.size + 1 := by rw [hwb]; simp
  have bb : Below w.heap.size w wb := by rw [hwb]; exact (Below.refl _ _).alloc (Nat.le_refl _) _
  have be : Below wb.heap.size wb we := by rw [hwe]; exact (Below.refl _ _).alloc (Nat.le_refl _) _
  have la : Lies we w.heap.size (tuC T v) := by
    have : Lies wb w.heap.size (tuC T v) := by rw [hwb]; exact Lies.new w (tuC T v) _
    exact this.keep (by show 0 < 6; decide) be
  have le : Lies we (w.heap.size + 1) (emC em0) := by rw [hwe, ← sb]; exact Lies.new wb (emC em0) _
  have b0 := bb.trans (be.mono bb.size)
  have hE : w.heap.size ≤ w.heap.size + 1 := Nat.le_succ _
  have a0 := la.cell 0 rfl; have a1 := la.cell 1 rfl; have a2 := la.cell 2 rfl; have a3 := la.cell 3 rfl; have a4 := la.cell 4 rfl; have a5 := la.cell 5 rfl
  have e0 : we.cell? ⟨w.heap.size + 1, 0, none⟩ = some (.bool false) := le.cell 0 rfl; have e1 : we.cell? ⟨w.heap.size + 1, 1, none⟩ = some (.int .i64 0) := le.cell 1 rfl; have e2 : we.cell? ⟨w.heap.size + 1, 2, none⟩ = some (.int .u32 0) := le.cell 2 rfl; have e3 : we.cell? ⟨w.heap.size + 1, 3, none⟩ = some (.int .i64 0) := le.cell 3 rfl; have e4 : we.cell? ⟨w.heap.size + 1, 4, none⟩ = some (.string ⟨#[]⟩) := le.cell 4 rfl
  have f0 := le.free 0 (by show 0 < 5; decide); have f1 := le.free 1 (by show 1 < 5; decide); have f2 := le.free 2 (by show 2 < 5; decide); have f3 := le.free 3 (by show 3 < 5; decide); have f4 := le.free 4 (by show 4 < 5; decide)
  have LA := Lib.hid la
  have LE := Lib.hid le
  replace hwb := Lib.hid hwb
  replace hwe := Lib.hid hwe
  replace b0 := Lib.hid b0
  replace hE := Lib.hid hE
  clear bb be la le
  unfold hv at *
  have hsl : ∃ a n c, v = .slice a n c := by obtain ⟨a, c, e, -, -⟩ := h; exact ⟨a, _, c, e⟩
  obtain ⟨a, n, c, rfl⟩ := hsl
  replace h := Lib.hid (h.keep b0.out)
  obtain ⟨ip, addr, tp, own, port, rules, rt⟩ := T
  simp only at *
  subst hi
  have ho2 := ho.symm
  clear ho
  subst ho2
  unfold tuV
  go_enter Tryz.func6, Tryz.ntmps6
  go_upto_region 1 with fail
  rw [← hwb.out, ← hwe.out]
  clear hwb hwe
  clear sb
  clear h1 x3
  go_wp2_with fail
  refine (PA.out we).mono ?_
  rintro e w1 ⟨rfl, b1⟩
  clear PA x2
  go_upto_region 8 with fail
  have bh : Below w1.heap.size w1 (w1.alloc (.cells #[.int .i64 tos, .int .i64 id, .int .i64 frag, .int .i64 ttl, .int .i64 pro, .int .u32 own, .int .u32 dst, .string dat] 40)) := (Below.refl _ _).alloc (Nat.le_refl _) _
  have LH : Lies (w1.alloc (.cells #[.int .i64 tos, .int .i64 id, .int .i64 frag, .int .i64 ttl, .int .i64 pro, .int .u32 own, .int .u32 dst, .string dat] 40)) w1.heap.size [.int .i64 tos, .int .i64 id, .int .i64 frag, .int .i64 ttl, .int .i64 pro, .int .u32 own, .int .u32 dst, .string dat] := Lies.new w1 [.int .i64 tos, .int .i64 id, .int .i64 frag, .int .i64 ttl, .int .i64 pro, .int .u32 own, .int .u32 dst, .string dat] _
  have b2 := b1.trans (bh.mono b1.size)
  generalize w1.alloc (.cells #[.int .i64 tos, .int .i64 id, .int .i64 frag, .int .i64 ttl, .int .i64 pro, .int .u32 own, .int .u32 dst, .string dat] 40) = w2 at *
  generalize w1.heap.size = gh at *
  have la := LA.out.keep (by show 0 < 6; decide) b2
  have le := LE.out.keep (by show 0 < 5; decide) b2
  clear a0 a1 a2 a3 a4 a5 e0 e1 e2 e3 e4 f0 f1 f2 f3 f4 LA LE
  have a0 : w2.cell? ⟨w.heap.size, 0, none⟩ = some (.bool true) := la.cell 0 rfl; have a1 : w2.cell? ⟨w.heap.size, 1, none⟩ = some (.int .u32 addr) := la.cell 1 rfl; have a2 : w2.cell? ⟨w.heap.size, 2, none⟩ = some (.int .i64 tp) := la.cell 2 rfl; have a3 : w2.cell? ⟨w.heap.size, 3, none⟩ = some (.int .u32 own) := la.cell 3 rfl; have a4 : w2.cell? ⟨w.heap.size, 4, none⟩ = some (.int .i64 port) := la.cell 4 rfl; have a5 : w2.cell? ⟨w.heap.size, 5, none⟩ = some (.slice a n c) := la.cell 5 rfl
  have e0 : w2.cell? ⟨w.heap.size + 1, 0, none⟩ = some (.bool false) := le.cell 0 rfl; have e1 : w2.cell? ⟨w.heap.size + 1, 1, none⟩ = some (.int .i64 0) := le.cell 1 rfl; have e2 : w2.cell? ⟨w.heap.size + 1, 2, none⟩ = some (.int .u32 0) := le.cell 2 rfl; have e3 : w2.cell? ⟨w.heap.size + 1, 3, none⟩ = some (.int .i64 0) := le.cell 3 rfl; have e4 : w2.cell? ⟨w.heap.size + 1, 4, none⟩ = some (.string ⟨#[]⟩) := le.cell 4 rfl
  have f0 := le.free 0 (by show 0 < 5; decide); have f1 := le.free 1 (by show 1 < 5; decide); have f2 := le.free 2 (by show 2 < 5; decide); have f3 := le.free 3 (by show 3 < 5; decide); have f4 := le.free 4 (by show 4 < 5; decide)
  have LA := Lib.hid la
  have LE := Lib.hid le
  clear la le
  have h0 := LH.cell 0 rfl; have h1 := LH.cell 1 rfl; have h2 := LH.cell 2 rfl; have h3 := LH.cell 3 rfl; have h4 := LH.cell 4 rfl; have h5 := LH.cell 5 rfl; have h6 := LH.cell 6 rfl; have h7 := LH.cell 7 rfl
  replace h := Lib.hid (h.out.keep b2)
  replace b2 := Lib.hid (b0.out.trans (b2.mono b0.out.size))
  replace LH := Lib.hid LH
  clear b0 b1 bh
  have C1 : Hid (∀ d os, _) := fun d os => Calls.regrown_of (P := Tryz.prog) (w := w2) (d := d) (os := os) (PT.out _)
  have C2 : Hid (∀ d os, _) := fun d os => Calls.regrown_of (P := Tryz.prog) (w := w2) (d := d) (os := os) (AL.out _ (h.out.keep (below_regrown w2 d os)))
  clear h PT AL
  have kh0 := fun d os => cell_regrown (w := w2) h0 d os
  have kh1 := fun d os => cell_regrown (w := w2) h1 d os
  have kh2 := fun d os => cell_regrown (w := w2) h2 d os
  have kh3 := fun d os => cell_regrown (w := w2) h3 d os
  have kh4 := fun d os => cell_regrown (w := w2) h4 d os
  have kh5 := fun d os => cell_regrown (w := w2) h5 d os
  have kh6 := fun d os => cell_regrown (w := w2) h6 d os
  have kh7 := fun d os => cell_regrown (w := w2) h7 d os
  have ka3 := fun d os => cell_regrown (w := w2) a3 d os
  have ka5 := fun d os => cell_regrown (w := w2) a5 d os
  go_upto_region 10 with fail
  refine wp_region_quiet_below (by kernel_rfl) (by kernel_rfl) ?_
  repeat (go_big_quiet_step (first | (go_at_call 15; exact C1.out _ _) | (go_at_call 14; exact C2.out _ _)))
  refine wpQuiet_nil ?_
  intro _ hw'
  obtain ⟨⟨dq, osq⟩, hw''⟩ := hw'
  subst hw''
  have br := below_regrown w2 dq osq
  have la := LA.out.keep (by show 0 < 6; decide) br
  have le := LE.out.keep (by show 0 < 5; decide) br
  clear a0 a1 a2 a3 a4 a5 e0 e1 e2 e3 e4 f0 f1 f2 f3 f4 LA LE
  have a0 : (Go.Sort.grow (redrawn w2 dq) osq).cell? ⟨w.heap.size, 0, none⟩ = some (.bool true) := la.cell 0 rfl; have a1 : (Go.Sort.grow (redrawn w2 dq) osq).cell? ⟨w.heap.size, 1, none⟩ = some (.int .u32 addr) := la.cell 1 rfl; have a2 : (Go.Sort.grow (redrawn w2 dq) osq).cell? ⟨w.heap.size, 2, none⟩ = some (.int .i64 tp) := la.cell 2 rfl; have a3 : (Go.Sort.grow (redrawn w2 dq) osq).cell? ⟨w.heap.size, 3, none⟩ = some (.int .u32 own) := la.cell 3 rfl; have a4 : (Go.Sort.grow (redrawn w2 dq) osq).cell? ⟨w.heap.size, 4, none⟩ = some (.int .i64 port) := la.cell 4 rfl; have a5 : (Go.Sort.grow (redrawn w2 dq) osq).cell? ⟨w.heap.size, 5, none⟩ = some (.slice a n c) := la.cell 5 rfl
  have e0 : (Go.Sort.grow (redrawn w2 dq) osq).cell? ⟨w.heap.size + 1, 0, none⟩ = some (.bool false) := le.cell 0 rfl; have e1 : (Go.Sort.grow (redrawn w2 dq) osq).cell? ⟨w.heap.size + 1, 1, none⟩ = some (.int .i64 0) := le.cell 1 rfl; have e2 : (Go.Sort.grow (redrawn w2 dq) osq).cell? ⟨w.heap.size + 1, 2, none⟩ = some (.int .u32 0) := le.cell 2 rfl; have e3 : (Go.Sort.grow (redrawn w2 dq) osq).cell? ⟨w.heap.size + 1, 3, none⟩ = some (.int .i64 0) := le.cell 3 rfl; have e4 : (Go.Sort.grow (redrawn w2 dq) osq).cell? ⟨w.heap.size + 1, 4, none⟩ = some (.string ⟨#[]⟩) := le.cell 4 rfl
  have f0 := le.free 0 (by show 0 < 5; decide); have f1 := le.free 1 (by show 1 < 5; decide); have f2 := le.free 2 (by show 2 < 5; decide); have f3 := le.free 3 (by show 3 < 5; decide); have f4 := le.free 4 (by show 4 < 5; decide)
  have LA := Lib.hid la
  have LE := Lib.hid le
  clear la le
  have LH3 := LH.out.keep (by show 0 < 8; decide) br
  clear h0 h1 h2 h3 h4 h5 h6 h7 LH
  have h6 := LH3.cell 6 rfl; have lt6 := LH3.lt (by show 0 < 8; decide)
  replace b2 := Lib.hid (b2.out.trans (br.mono b2.out.size))
  clear kh0 kh1 kh2 kh3 kh4 kh5 kh6 kh7 ka3 ka5
  clear br LH3
  simp only
  generalize Go.Sort.grow (redrawn w2 dq) osq = w3 at *
  clear C1 C2
  go_wp2_with fail
  refine (HO.out w3).mono ?_
  rintro e w4 ⟨rfl, b4⟩
  clear HO
  have h6' := (b4.cell (p := ⟨gh, 6, none⟩) lt6).trans h6
  clear h6 lt6
  have la := LA.out.keep (by show 0 < 6; decide) b4
  have le := LE.out.keep (by show 0 < 5; decide) b4
  clear a0 a1 a2 a3 a4 a5 e0 e1 e2 e3 e4 f0 f1 f2 f3 f4 LA LE
  have a0 : w4.cell? ⟨w.heap.size, 0, none⟩ = some (.bool true) := la.cell 0 rfl; have a1 : w4.cell? ⟨w.heap.size, 1, none⟩ = some (.int .u32 addr) := la.cell 1 rfl; have a2 : w4.cell? ⟨w.heap.size, 2, none⟩ = some (.int .i64 tp) := la.cell 2 rfl; have a3 : w4.cell? ⟨w.heap.size, 3, none⟩ = some (.int .u32 own) := la.cell 3 rfl; have a4 : w4.cell? ⟨w.heap.size, 4, none⟩ = some (.int .i64 port) := la.cell 4 rfl; have a5 : w4.cell? ⟨w.heap.size, 5, none⟩ = some (.slice a n c) := la.cell 5 rfl
  have e0 : w4.cell? ⟨w.heap.size + 1, 0, none⟩ = some (.bool false) := le.cell 0 rfl; have e1 : w4.cell? ⟨w.heap.size + 1, 1, none⟩ = some (.int .i64 0) := le.cell 1 rfl; have e2 : w4.cell? ⟨w.heap.size + 1, 2, none⟩ = some (.int .u32 0) := le.cell 2 rfl; have e3 : w4.cell? ⟨w.heap.size + 1, 3, none⟩ = some (.int .i64 0) := le.cell 3 rfl; have e4 : w4.cell? ⟨w.heap.size + 1, 4, none⟩ = some (.string ⟨#[]⟩) := le.cell 4 rfl
  have f0 := le.free 0 (by show 0 < 5; decide); have f1 := le.free 1 (by show 1 < 5; decide); have f2 := le.free 2 (by show 2 < 5; decide); have f3 := le.free 3 (by show 3 < 5; decide); have f4 := le.free 4 (by show 4 < 5; decide)
  have LA := Lib.hid la
  have LE := Lib.hid le
  clear la le
  replace b4 := Lib.hid (b2.out.trans (b4.mono b2.out.size))
  clear b2 LA LE
  go_wp2_with fail
  refine ⟨rfl, .tuple #[.agg #[.bool false, .int .i64 0, .int .u32 0, .int .i64 0, .string ⟨#[]⟩], .int .i64 hk], ?_, rfl, em_below b4.out hE.out _ _ _ _ _⟩
  simp [results, Tryz.results6, go_sem, *]
set_option maxHeartbeats 4000000 in
theorem rup_pass (T : Tu) (v : Value) (w : World) (h : RusAt w v T.rules) (s : ByteArray) (hs : s.size ≤ 140737488351232) (h1 : s.size ≤ 1000) (hi : T.ip = true) (tos id frag ttl pro src dst : Int) (dat : ByteArray) (PA : Hid (∀ w, Calls Tryz.prog 13 #[.string s] w fun e w' => e = .returned (.tuple #[hv tos id frag ttl pro src dst dat, .int .i64 0]) ∧ Below w.heap.size w w')) (ho : src = T.own) (P : Int) (PT : Hid (∀ w, Calls Tryz.prog 15 #[hv tos id frag ttl pro src dst dat] w fun e w' => e = .returned (.int .i64 P) ∧ Below w.heap.size w w')) (AL : Hid (∀ w, RusAt w v T.rules → Calls Tryz.prog 14 #[v, .int .i64 pro, .int .u32 dst, .int .i64 P] w fun e w' => e = .returned (.bool true) ∧ Below w.heap.size w w')) (ht : ByteArray) (HO : Hid (∀ w, Calls Tryz.prog 16 #[.string s] w fun e w' => e = .returned (.tuple #[.string ht, .int .i64 0]) ∧ Below w.heap.size w w')) : Calls Tryz.prog 6 #[tuV T v, .string s] w fun e w' => e = .returned (.tuple #[.agg #[.bool true, .int .i64 0, .int .u32 dst, .int .i64 0, .string ht], .int .i64 0]) ∧ Below w.heap.size w w' := by
  have x2 : ¬ (1000 : Int) < (s.size : Int) := by omega
  have x3 : ¬ 1000 < s.size := by omega
  obtain ⟨wb, hwb⟩ : ∃ x, x = w.alloc (.cells #[.bool T.ip, .int .u32 T.addr, .int .i64 T.tp, .int .u32 T.own, .int .i64 T.port, v] 27) := ⟨_, rfl⟩
  obtain ⟨we, hwe⟩ : ∃ x, x = wb.alloc (.cells #[.bool false, .int .i64 0, .int .u32 0, .int .i64 0, .string ⟨#[]⟩] 31) := ⟨_, rfl⟩
  have sb : wb.heap.size = w.heap.size + 1 := by rw [hwb]; simp
  have bb : Below w.heap.size w wb := by rw [hwb]; exact (Below.refl _ _).alloc (Nat.le_refl _) _
  have be : Below wb.heap.size wb we := by rw [hwe]; exact (Below.refl _ _).alloc (Nat.le_refl _) _
  have la : Lies we w.heap.size (tuC T v) := by
    have : Lies wb w.heap.size (tuC T v) := by rw [hwb]; exact Lies.new w (tuC T v) _
    exact this.keep (by show 0 < 6; decide) be
  have le : Lies we (w.heap.size + 1) (emC em0) := by rw [hwe, ← sb]; exact Lies.new wb (emC em0) _
  have b0 := bb.trans (be.mono bb.size)
  have hE : w.heap.size ≤ w.heap.size + 1 := Nat.le_succ _
  have a0 := la.cell 0 rfl; have a1 := la.cell 1 rfl; have a2 := la.cell 2 rfl; have a3 := la.cell 3 rfl; have a4 := la.cell 4 rfl; have a5 := la.cell 5 rfl
  have e0 : we.cell? ⟨w.heap.size + 1, 0, none⟩ = some (.bool false) := le.cell 0 rfl; have e1 : we.cell? ⟨w.heap.size + 1, 1, none⟩ = some (.int .i64 0) := le.cell 1 rfl; have e2 : we.cell? ⟨w.heap.size + 1, 2, none⟩ = some (.int .u32 0) := le.cell 2 rfl; have e3 : we.cell? ⟨w.heap.size + 1, 3, none⟩ = some (.int .i64 0) := le.cell 3 rfl; have e4 : we.cell? ⟨w.heap.size + 1, 4, none⟩ = some (.string ⟨#[]⟩) := le.cell 4 rfl
  have f0 := le.free 0 (by show 0 < 5; decide); have f1 := le.free 1 (by show 1 < 5; decide); have f2 := le.free 2 (by show 2 < 5; decide); have f3 := le.free 3 (by show 3 < 5; decide); have f4 := le.free 4 (by show 4 < 5; decide)
  have LA := Lib.hid la
  have LE := Lib.hid le
  replace hwb := Lib.hid hwb
  replace hwe := Lib.hid hwe
  replace b0 := Lib.hid b0
  replace hE := Lib.hid hE
  clear bb be la le
  unfold hv at *
  have hsl : ∃ a n c, v = .slice a n c := by obtain ⟨a, c, e, -, -⟩ := h; exact ⟨a, _, c, e⟩
  obtain ⟨a, n, c, rfl⟩ := hsl
  replace h := Lib.hid (h.keep b0.out)
  obtain ⟨ip, addr, tp, own, port, rules, rt⟩ := T
  simp only at *
  subst hi
  have ho2 := ho.symm
  clear ho
  subst ho2
  unfold tuV
  go_enter Tryz.func6, Tryz.ntmps6
  go_upto_region 1 with fail
  rw [← hwb.out, ← hwe.out]
  clear hwb hwe
  clear sb
  clear h1 x3
  go_wp2_with fail
  refine (PA.out we).mono ?_
  rintro e w1 ⟨rfl, b1⟩
  clear PA x2
  go_upto_region 8 with fail
  have bh : Below w1.heap.size w1 (w1.alloc (.cells #[.int .i64 tos, .int .i64 id, .int .i64 frag, .int .i64 ttl, .int .i64 pro, .int .u32 own, .int .u32 dst, .string dat] 40)) := (Below.refl _ _).alloc (Nat.le_refl _) _
  have LH : Lies (w1.alloc (.cells #[.int .i64 tos, .int .i64 id, .int .i64 frag, .int .i64 ttl, .int .i64 pro, .int .u32 own, .int .u32 dst, .string dat] 40)) w1.heap.size [.int .i64 tos, .int .i64 id, .int .i64 frag, .int .i64 ttl, .int .i64 pro, .int .u32 own, .int .u32 dst, .string dat] := Lies.new w1 [.int .i64 tos, .int .i64 id, .int .i64 frag, .int .i64 ttl, .int .i64 pro, .int .u32 own, .int .u32 dst, .string dat] _
  have b2 := b1.trans (bh.mono b1.size)
  generalize w1.alloc (.cells #[.int .i64 tos, .int .i64 id, .int .i64 frag, .int .i64 ttl, .int .i64 pro, .int .u32 own, .int .u32 dst, .string dat] 40) = w2 at *
  generalize w1.heap.size = gh at *
  have la := LA.out.keep (by show 0 < 6; decide) b2
  have le := LE.out.keep (by show 0 < 5; decide) b2
  clear a0 a1 a2 a3 a4 a5 e0 e1 e2 e3 e4 f0 f1 f2 f3 f4 LA LE
  have a0 : w2.cell? ⟨w.heap.size, 0, none⟩ = some (.bool true) := la.cell 0 rfl; have a1 : w2.cell? ⟨w.heap.size, 1, none⟩ = some (.int .u32 addr) := la.cell 1 rfl; have a2 : w2.cell? ⟨w.heap.size, 2, none⟩ = some (.int .i64 tp) := la.cell 2 rfl; have a3 : w2.cell? ⟨w.heap.size, 3, none⟩ = some (.int .u32 own) := la.cell 3 rfl; have a4 : w2.cell? ⟨w.heap.size, 4, none⟩ = some (.int .i64 port) := la.cell 4 rfl; have a5 : w2.cell? ⟨w.heap.size, 5, none⟩ = some (.slice a n c) := la.cell 5 rfl
  have e0 : w2.cell? ⟨w.heap.size + 1, 0, none⟩ = some (.bool false) := le.cell 0 rfl; have e1 : w2.cell? ⟨w.heap.size + 1, 1, none⟩ = some (.int .i64 0) := le.cell 1 rfl; have e2 : w2.cell? ⟨w.heap.size + 1, 2, none⟩ = some (.int .u32 0) := le.cell 2 rfl; have e3 : w2.cell? ⟨w.heap.size + 1, 3, none⟩ = some (.int .i64 0) := le.cell 3 rfl; have e4 : w2.cell? ⟨w.heap.size + 1, 4, none⟩ = some (.string ⟨#[]⟩) := le.cell 4 rfl
  have f0 := le.free 0 (by show 0 < 5; decide); have f1 := le.free 1 (by show 1 < 5; decide); have f2 := le.free 2 (by show 2 < 5; decide); have f3 := le.free 3 (by show 3 < 5; decide); have f4 := le.free 4 (by show 4 < 5; decide)
  have LA := Lib.hid la
  have LE := Lib.hid le
  clear la le
  have h0 := LH.cell 0 rfl; have h1 := LH.cell 1 rfl; have h2 := LH.cell 2 rfl; have h3 := LH.cell 3 rfl; have h4 := LH.cell 4 rfl; have h5 := LH.cell 5 rfl; have h6 := LH.cell 6 rfl; have h7 := LH.cell 7 rfl
  replace h := Lib.hid (h.out.keep b2)
  replace b2 := Lib.hid (b0.out.trans (b2.mono b0.out.size))
  replace LH := Lib.hid LH
  clear b0 b1 bh
  have C1 : Hid (∀ d os, _) := fun d os => Calls.regrown_of (P := Tryz.prog) (w := w2) (d := d) (os := os) (PT.out _)
  have C2 : Hid (∀ d os, _) := fun d os => Calls.regrown_of (P := Tryz.prog) (w := w2) (d := d) (os := os) (AL.out _ (h.out.keep (below_regrown w2 d os)))
  clear h PT AL
  have kh0 := fun d os => cell_regrown (w := w2) h0 d os
  have kh1 := fun d os => cell_regrown (w := w2) h1 d os
  have kh2 := fun d os => cell_regrown (w := w2) h2 d os
  have kh3 := fun d os => cell_regrown (w := w2) h3 d os
  have kh4 := fun d os => cell_regrown (w := w2) h4 d os
  have kh5 := fun d os => cell_regrown (w := w2) h5 d os
  have kh6 := fun d os => cell_regrown (w := w2) h6 d os
  have kh7 := fun d os => cell_regrown (w := w2) h7 d os
  have ka3 := fun d os => cell_regrown (w := w2) a3 d os
  have ka5 := fun d os => cell_regrown (w := w2) a5 d os
  go_upto_region 10 with fail
  refine wp_region_quiet_below (by kernel_rfl) (by kernel_rfl) ?_
  repeat (go_big_quiet_step (first | (go_at_call 15; exact C1.out _ _) | (go_at_call 14; exact C2.out _ _)))
  refine wpQuiet_nil ?_
  intro _ hw'
  obtain ⟨⟨dq, osq⟩, hw''⟩ := hw'
  subst hw''
  have br := below_regrown w2 dq osq
  have la := LA.out.keep (by show 0 < 6; decide) br
  have le := LE.out.keep (by show 0 < 5; decide) br
  clear a0 a1 a2 a3 a4 a5 e0 e1 e2 e3 e4 f0 f1 f2 f3 f4 LA LE
  have a0 : (Go.Sort.grow (redrawn w2 dq) osq).cell? ⟨w.heap.size, 0, none⟩ = some (.bool true) := la.cell 0 rfl; have a1 : (Go.Sort.grow (redrawn w2 dq) osq).cell? ⟨w.heap.size, 1, none⟩ = some (.int .u32 addr) := la.cell 1 rfl; have a2 : (Go.Sort.grow (redrawn w2 dq) osq).cell? ⟨w.heap.size, 2, none⟩ = some (.int .i64 tp) := la.cell 2 rfl; have a3 : (Go.Sort.grow (redrawn w2 dq) osq).cell? ⟨w.heap.size, 3, none⟩ = some (.int .u32 own) := la.cell 3 rfl; have a4 : (Go.Sort.grow (redrawn w2 dq) osq).cell? ⟨w.heap.size, 4, none⟩ = some (.int .i64 port) := la.cell 4 rfl; have a5 : (Go.Sort.grow (redrawn w2 dq) osq).cell? ⟨w.heap.size, 5, none⟩ = some (.slice a n c) := la.cell 5 rfl
  have e0 : (Go.Sort.grow (redrawn w2 dq) osq).cell? ⟨w.heap.size + 1, 0, none⟩ = some (.bool false) := le.cell 0 rfl; have e1 : (Go.Sort.grow (redrawn w2 dq) osq).cell? ⟨w.heap.size + 1, 1, none⟩ = some (.int .i64 0) := le.cell 1 rfl; have e2 : (Go.Sort.grow (redrawn w2 dq) osq).cell? ⟨w.heap.size + 1, 2, none⟩ = some (.int .u32 0) := le.cell 2 rfl; have e3 : (Go.Sort.grow (redrawn w2 dq) osq).cell? ⟨w.heap.size + 1, 3, none⟩ = some (.int .i64 0) := le.cell 3 rfl; have e4 : (Go.Sort.grow (redrawn w2 dq) osq).cell? ⟨w.heap.size + 1, 4, none⟩ = some (.string ⟨#[]⟩) := le.cell 4 rfl
  have f0 := le.free 0 (by show 0 < 5; decide); have f1 := le.free 1 (by show 1 < 5; decide); have f2 := le.free 2 (by show 2 < 5; decide); have f3 := le.free 3 (by show 3 < 5; decide); have f4 := le.free 4 (by show 4 < 5; decide)
  have LA := Lib.hid la
  have LE := Lib.hid le
  clear la le
  have LH3 := LH.out.keep (by show 0 < 8; decide) br
  clear h0 h1 h2 h3 h4 h5 h6 h7 LH
  have h6 := LH3.cell 6 rfl; have lt6 := LH3.lt (by show 0 < 8; decide)
  replace b2 := Lib.hid (b2.out.trans (br.mono b2.out.size))
  clear kh0 kh1 kh2 kh3 kh4 kh5 kh6 kh7 ka3 ka5
  clear br LH3
  simp only
  generalize Go.Sort.grow (redrawn w2 dq) osq = w3 at *
  clear C1 C2
  go_wp2_with fail
  refine (HO.out w3).mono ?_
  rintro e w4 ⟨rfl, b4⟩
  clear HO
  have h6' := (b4.cell (p := ⟨gh, 6, none⟩) lt6).trans h6
  clear h6 lt6
  have la := LA.out.keep (by show 0 < 6; decide) b4
  have le := LE.out.keep (by show 0 < 5; decide) b4
  clear a0 a1 a2 a3 a4 a5 e0 e1 e2 e3 e4 f0 f1 f2 f3 f4 LA LE
  have a0 : w4.cell? ⟨w.heap.size, 0, none⟩ = some (.bool true) := la.cell 0 rfl; have a1 : w4.cell? ⟨w.heap.size, 1, none⟩ = some (.int .u32 addr) := la.cell 1 rfl; have a2 : w4.cell? ⟨w.heap.size, 2, none⟩ = some (.int .i64 tp) := la.cell 2 rfl; have a3 : w4.cell? ⟨w.heap.size, 3, none⟩ = some (.int .u32 own) := la.cell 3 rfl; have a4 : w4.cell? ⟨w.heap.size, 4, none⟩ = some (.int .i64 port) := la.cell 4 rfl; have a5 : w4.cell? ⟨w.heap.size, 5, none⟩ = some (.slice a n c) := la.cell 5 rfl
  have e0 : w4.cell? ⟨w.heap.size + 1, 0, none⟩ = some (.bool false) := le.cell 0 rfl; have e1 : w4.cell? ⟨w.heap.size + 1, 1, none⟩ = some (.int .i64 0) := le.cell 1 rfl; have e2 : w4.cell? ⟨w.heap.size + 1, 2, none⟩ = some (.int .u32 0) := le.cell 2 rfl; have e3 : w4.cell? ⟨w.heap.size + 1, 3, none⟩ = some (.int .i64 0) := le.cell 3 rfl; have e4 : w4.cell? ⟨w.heap.size + 1, 4, none⟩ = some (.string ⟨#[]⟩) := le.cell 4 rfl
  have f0 := le.free 0 (by show 0 < 5; decide); have f1 := le.free 1 (by show 1 < 5; decide); have f2 := le.free 2 (by show 2 < 5; decide); have f3 := le.free 3 (by show 3 < 5; decide); have f4 := le.free 4 (by show 4 < 5; decide)
  have LA := Lib.hid la
  have LE := Lib.hid le
  clear la le
  replace b4 := Lib.hid (b2.out.trans (b4.mono b2.out.size))
  clear b2 LA LE
  go_wp2_with fail
  refine ⟨rfl, .tuple #[.agg #[.bool true, .int .i64 0, .int .u32 dst, .int .i64 0, .string ht], .int .i64 0], ?_, rfl, em_below b4.out hE.out _ _ _ _ _⟩
  simp [results, Tryz.results6, go_sem, *]
theorem rup_ok (T : Tu) (v : Value) (w : World) (h : RusAt w v T.rules) (hb : TuB T) (hrt : T.rt = true ↔ anyR T.rules) (s : ByteArray) (hs : s.size ≤ 140737488351232) :
    Calls Tryz.prog 6 #[tuV T v, .string s] w fun e w' => e = .returned (.tuple #[emV (upM T s), .int .i64 (upE T s)]) ∧ Below w.heap.size w w' := by
  by_cases h1 : 1000 < s.size
  · have e : upE T s = 8 := by unfold upE; rw [if_pos h1]
    rw [show upM T s = em0 by unfold upM; rw [if_pos (by rw [e]; decide)], e]
    exact rup_long T v w s h1
  have h2 : s.size ≤ 1000 := by omega
  cases hi : T.ip with
  | false =>
    have e : upE T s = openE T := by unfold upE; rw [if_neg h1, if_pos hi]
    have eo : openE T = 15 ∨ openE T = 0 := by unfold openE; split <;> split <;> simp
    rcases eo with ho | ho
    · rw [show upM T s = em0 by unfold upM; rw [if_pos (by rw [e, ho]; decide)], e, ho]
      exact rup_deny T v w h s hs hb hrt h2 hi ho
    · rw [show upM T s = ⟨false, T.port, T.addr, T.tp, s⟩ by unfold upM; rw [if_neg (by rw [e, ho]; decide), if_pos hi], e, ho]
      exact rup_pay T v w h s hs hb hrt h2 hi ho
  | true =>
    have hs' : s.size ≤ 9223372036854775807 := by omega
    have hl : T.rules.length ≤ 9223372036854775807 := by have := hb.len; omega
    have e : upE T s = if errOf s ≠ 0 then errOf s else if srcP s ≠ T.own ∨ alw T.rules (proP s) (dstP s) (toP s) = false then 15 else hopE s := by unfold upE; rw [if_neg h1, if_neg (by rw [hi]; decide)]
    by_cases hE : errOf s ≠ 0
    · rw [if_pos hE] at e
      rw [show upM T s = em0 by unfold upM; rw [if_pos (by rw [e]; exact hE)], e]
      exact rup_bad T v w h s hs h2 hi _ (by simpa using hE) fun w => rparse_none s w hs' hE
    rw [if_neg hE] at e
    have hE : errOf s = 0 := by simpa using hE
    have g := good_err s hE
    have PA : ∀ w, Calls Tryz.prog 13 #[.string s] w fun e w' => e = .returned (.tuple #[hdOf s, .int .i64 0]) ∧ Below w.heap.size w w' := fun w => rparse_hd s w hs' hE
    have PT : ∀ w, Calls Tryz.prog 15 #[hdOf s] w fun e w' => e = .returned (.int .i64 (toP s)) ∧ Below w.heap.size w w' := fun w => rport_ok _ _ _ _ _ _ _ _ w (num2_bd s 6).1 (by have := dat_small g; unfold datP at this; omega)
    have AL : ∀ w, RusAt w v T.rules → Calls Tryz.prog 14 #[v, .int .i64 (proP s), .int .u32 (dstP s), .int .i64 (toP s)] w fun e w' => e = .returned (.bool (alw T.rules (proP s) (dstP s) (toP s))) ∧ Below w.heap.size w w' := fun w hr => rallow_ok T.rules v _ _ _ (num4_bd s 16).1 (num4_bd s 16).2 w hr hb.rs hl
    have HO : ∀ w, Calls Tryz.prog 16 #[.string s] w fun e w' => e = .returned (.tuple #[.string (hopS s), .int .i64 (hopE s)]) ∧ Below w.heap.size w w' := fun w => rhop_ok s w hs'
    by_cases ho : srcP s = T.own
    · cases ha : alw T.rules (proP s) (dstP s) (toP s) with
      | false =>
        rw [if_pos (.inr ha)] at e
        rw [show upM T s = em0 by unfold upM; rw [if_pos (by rw [e]; decide)], e]
        rw [ha] at AL
        exact rup_rule T v w h s hs h2 hi _ _ _ _ _ _ _ _ PA ho _ PT AL
      | true =>
        rw [if_neg (by rw [ha]; simp [ho])] at e
        rw [ha] at AL
        by_cases hh : hopE s = 0
        · rw [show upM T s = ⟨true, 0, dstP s, 0, hopS s⟩ by unfold upM; rw [if_neg (by rw [e, hh]; decide), if_neg (by rw [hi]; decide)], e, hh]
          rw [hh] at HO
          exact rup_pass T v w h s hs h2 hi _ _ _ _ _ _ _ _ PA ho _ PT AL _ HO
        · rw [show upM T s = em0 by unfold upM; rw [if_pos (by rw [e]; exact hh)], e]
          exact rup_stop T v w h s hs h2 hi _ _ _ _ _ _ _ _ PA ho _ PT AL _ _ (by simpa using hh) HO
    · rw [if_pos (.inl ho)] at e
      rw [show upM T s = em0 by unfold upM; rw [if_pos (by rw [e]; decide)], e]
      exact rup_src T v w h s hs h2 hi _ _ _ _ _ _ _ _ PA ho
end Go.Proofs.YtndaohiecpdmlaaGreat
