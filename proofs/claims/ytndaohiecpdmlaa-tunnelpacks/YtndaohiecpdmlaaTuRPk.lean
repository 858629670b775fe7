/-
  What the document's own Pack and Unpack answer of any emission and any bytes. No condition but what the form allows.
-/
import Derived.Test.YtndaohiecpdmlaaTuOpen
import Derived.Test.YtndaohiecpdmlaaIpRefParseB
import Derived.Lib.Hide
import Derived.Tactics
import Derived.Tactics2
import Derived.RegionTactic
import Derived.BigQuiet
import Derived.Deep.Cut
namespace Go.Proofs.Ytndaohiecpdmlaa
set_option maxRecDepth 100000
open Go.RowKit Go.Sort

theorem rpt_ok (n : Int) (w : World) : Calls Try.prog 20 #[.int .i64 n] w fun e w' => e = .returned (.bool (isP n)) ∧ Below w.heap.size w w' := by
  unfold isP
  by_cases h0 : 0 ≤ n
  · have q1 : decide (0 ≤ n) = true := decide_eq_true h0
    rw [q1, Bool.true_and]
    go_enter Try.func20, Try.ntmps20
    go_wp2_with fail
    go_ret
    exact ⟨rfl, Below.refl _ _⟩
  · have q1 : decide (0 ≤ n) = false := decide_eq_false h0
    rw [q1, Bool.false_and]
    go_enter Try.func20, Try.ntmps20
    go_wp2_with fail
    go_ret
    exact ⟨rfl, Below.refl _ _⟩
theorem digs2 (n : Int) : digs n 2 = [n / 256 % 256, n % 256] := rfl
theorem digs4 (n : Int) : digs n 4 = [n / 256 / 256 / 256 % 256, n / 256 / 256 % 256, n / 256 % 256, n % 256] := rfl
theorem join_pk (m : Em) (h : isP m.port = true ∧ isP m.to = true) (a0 : 0 ≤ m.addr) (a1 : m.addr < 4294967296) (b : ByteArray) (hb : b = strOfNums [if m.ip then 1 else 0]) :
    b ++ strOfNums (digs m.port 2) ++ strOfNums (digs m.to 2) ++ strOfNums (digs m.addr 4) ++ m.data = pkS m := by
  have hp := h
  unfold isP at hp
  simp only [Bool.and_eq_true, decide_eq_true_eq] at hp
  have e : pkS m = strOfNums (pkL m) ++ m.data := by unfold pkS; rw [h.1, h.2]; rfl
  rw [e, hb, strOfNums_append, strOfNums_append, strOfNums_append, digs2, digs2, digs4]
  have e1 : m.port / 256 % 256 = m.port / 256 := by omega
  have e2 : m.to / 256 % 256 = m.to / 256 := by omega
  have e3 : m.addr / 256 / 256 / 256 % 256 = m.addr / 16777216 := by omega
  have e4 : m.addr / 256 / 256 % 256 = m.addr / 65536 % 256 := by omega
  rw [e1, e2, e3, e4]
  rfl
theorem em_belowP {w0 w : World} {n E : Nat} (b : Below n w0 w) (hn : n ≤ E) (y0 y1 y2 y3 y4 : Value) : Below n w0 (((((w.setCell ⟨E, 0, none⟩ y0).setCell ⟨E, 1, none⟩ y1).setCell ⟨E, 2, none⟩ y2).setCell ⟨E, 3, none⟩ y3).setCell ⟨E, 4, none⟩ y4) :=
  ((((b.setCell (p := ⟨E, 0, none⟩) hn _).setCell (p := ⟨E, 1, none⟩) hn _).setCell (p := ⟨E, 2, none⟩) hn _).setCell (p := ⟨E, 3, none⟩) hn _).setCell (p := ⟨E, 4, none⟩) hn _
set_option maxHeartbeats 4000000 in
theorem rpack_no1 (m : Em) (w : World) (h : isP m.port = false) : Calls Try.prog 9 #[emV m] w fun e w' => e = .returned (.string ⟨#[]⟩) ∧ Below w.heap.size w w' := by
  have P1 := Lib.hid fun w' => rpt_ok m.port w'
  have P2 := Lib.hid fun w' => rpt_ok m.to w'
  have b0 : Below w.heap.size w (w.alloc (.cells #[.bool m.ip, .int .i64 m.port, .int .u32 m.addr, .int .i64 m.to, .string m.data] 24)) := (Below.refl _ _).alloc (Nat.le_refl _) _
  have LE : Lies (w.alloc (.cells #[.bool m.ip, .int .i64 m.port, .int .u32 m.addr, .int .i64 m.to, .string m.data] 24)) w.heap.size [.bool m.ip, .int .i64 m.port, .int .u32 m.addr, .int .i64 m.to, .string m.data] := Lies.new w [.bool m.ip, .int .i64 m.port, .int .u32 m.addr, .int .i64 m.to, .string m.data] _
  obtain ⟨we, hwe⟩ : ∃ x, x = w.alloc (.cells #[.bool m.ip, .int .i64 m.port, .int .u32 m.addr, .int .i64 m.to, .string m.data] 24) := ⟨_, rfl⟩
  rw [← hwe] at b0 LE
  replace hwe := Lib.hid hwe
  replace b0 := Lib.hid b0
  clear P2
  rw [h] at P1
  obtain ⟨ip, port, addr, to, data⟩ := m
  unfold emV
  simp only at *
  go_enter Try.func9, Try.ntmps9
  go_upto_region 1 with fail
  rw [← hwe.out]
  clear hwe
  have e0 := LE.cell 0 rfl; have e1 := LE.cell 1 rfl; have e2 := LE.cell 2 rfl; have e3 := LE.cell 3 rfl; have e4 := LE.cell 4 rfl
  replace LE := Lib.hid LE
  go_wp2_with fail
  refine (P1.out we).mono ?_
  rintro e w1 ⟨rfl, b⟩
  clear P1 e0 e1 e2 e3 e4
  have l1 := LE.out.keep (by show 0 < 5; decide) b
  have e0 := l1.cell 0 rfl; have e1 := l1.cell 1 rfl; have e2 := l1.cell 2 rfl; have e3 := l1.cell 3 rfl; have e4 := l1.cell 4 rfl
  replace l1 := Lib.hid l1
  have b1 := Lib.hid (b0.out.trans (b.mono b0.out.size))
  clear b b0 LE
  go_wp2_with fail
  go_ret
  exact ⟨rfl, b1.out⟩
set_option maxHeartbeats 4000000 in
theorem rpack_no2 (m : Em) (w : World) (h : isP m.port = true) (h2 : isP m.to = false) : Calls Try.prog 9 #[emV m] w fun e w' => e = .returned (.string ⟨#[]⟩) ∧ Below w.heap.size w w' := by
  have P1 := Lib.hid fun w' => rpt_ok m.port w'
  have P2 := Lib.hid fun w' => rpt_ok m.to w'
  have b0 : Below w.heap.size w (w.alloc (.cells #[.bool m.ip, .int .i64 m.port, .int .u32 m.addr, .int .i64 m.to, .string m.data] 24)) := (Below.refl _ _).alloc (Nat.le_refl _) _
  have LE : Lies (w.alloc (.cells #[.bool m.ip, .int .i64 m.port, .int .u32 m.addr, .int .i64 m.to, .string m.data] 24)) w.heap.size [.bool m.ip, .int .i64 m.port, .int .u32 m.addr, .int .i64 m.to, .string m.data] := Lies.new w [.bool m.ip, .int .i64 m.port, .int .u32 m.addr, .int .i64 m.to, .string m.data] _
  obtain ⟨we, hwe⟩ : ∃ x, x = w.alloc (.cells #[.bool m.ip, .int .i64 m.port, .int .u32 m.addr, .int .i64 m.to, .string m.data] 24) := ⟨_, rfl⟩
  rw [← hwe] at b0 LE
  replace hwe := Lib.hid hwe
  replace b0 := Lib.hid b0
  rw [h] at P1
  rw [h2] at P2
  obtain ⟨ip, port, addr, to, data⟩ := m
  unfold emV
  simp only at *
  go_enter Try.func9, Try.ntmps9
  go_upto_region 1 with fail
  rw [← hwe.out]
  clear hwe
  have e0 := LE.cell 0 rfl; have e1 := LE.cell 1 rfl; have e2 := LE.cell 2 rfl; have e3 := LE.cell 3 rfl; have e4 := LE.cell 4 rfl
  replace LE := Lib.hid LE
  go_wp2_with fail
  refine (P1.out we).mono ?_
  rintro e w1 ⟨rfl, b⟩
  clear P1 e0 e1 e2 e3 e4
  have l1 := LE.out.keep (by show 0 < 5; decide) b
  have e0 := l1.cell 0 rfl; have e1 := l1.cell 1 rfl; have e2 := l1.cell 2 rfl; have e3 := l1.cell 3 rfl; have e4 := l1.cell 4 rfl
  replace l1 := Lib.hid l1
  have b1 := Lib.hid (b0.out.trans (b.mono b0.out.size))
  clear b b0 LE
  go_wp2_with fail
  refine (P2.out w1).mono ?_
  rintro e w2 ⟨rfl, b⟩
  clear P2 e0 e1 e2 e3 e4
  have l2 := l1.out.keep (by show 0 < 5; decide) b
  have e0 := l2.cell 0 rfl; have e1 := l2.cell 1 rfl; have e2 := l2.cell 2 rfl; have e3 := l2.cell 3 rfl; have e4 := l2.cell 4 rfl
  have b2 := Lib.hid (b1.out.trans (b.mono b1.out.size))
  clear b b1 l1
  clear l2
  go_wp2_with fail
  go_ret
  exact ⟨rfl, b2.out⟩
set_option maxHeartbeats 8000000 in
theorem rpack_true (m : Em) (w : World) (hi : m.ip = true) (h : isP m.port = true) (h2 : isP m.to = true) (a0 : 0 ≤ m.addr) (a1 : m.addr < 4294967296) (hd : m.data.size ≤ 140737488351232) : Calls Try.prog 9 #[emV m] w fun e w' => e = .returned (.string (pkS m)) ∧ Below w.heap.size w w' := by
  have hp := h
  have ht := h2
  unfold isP at hp ht
  simp only [Bool.and_eq_true, decide_eq_true_eq] at hp ht
  have JN := Lib.hid (join_pk m ⟨h, h2⟩ a0 a1 ⟨#[1]⟩ (by rw [hi]; rfl))
  generalize pkS m = out at JN ⊢
  have P1 := Lib.hid fun w' => rpt_ok m.port w'
  have P2 := Lib.hid fun w' => rpt_ok m.to w'
  have b0 : Below w.heap.size w (w.alloc (.cells #[.bool m.ip, .int .i64 m.port, .int .u32 m.addr, .int .i64 m.to, .string m.data] 24)) := (Below.refl _ _).alloc (Nat.le_refl _) _
  have LE : Lies (w.alloc (.cells #[.bool m.ip, .int .i64 m.port, .int .u32 m.addr, .int .i64 m.to, .string m.data] 24)) w.heap.size [.bool m.ip, .int .i64 m.port, .int .u32 m.addr, .int .i64 m.to, .string m.data] := Lies.new w [.bool m.ip, .int .i64 m.port, .int .u32 m.addr, .int .i64 m.to, .string m.data] _
  obtain ⟨we, hwe⟩ : ∃ x, x = w.alloc (.cells #[.bool m.ip, .int .i64 m.port, .int .u32 m.addr, .int .i64 m.to, .string m.data] 24) := ⟨_, rfl⟩
  rw [← hwe] at b0 LE
  replace hwe := Lib.hid hwe
  replace b0 := Lib.hid b0
  rw [h] at P1
  rw [h2] at P2
  have B1 := Lib.hid fun w' => rbytes 2 (by decide) m.port w' hp.1 (by omega)
  have B2 := Lib.hid fun w' => rbytes 2 (by decide) m.to w' ht.1 (by omega)
  have B3 := Lib.hid fun w' => rbytes 4 (by decide) m.addr w' a0 (by omega)
  have wa : wrap64 m.addr = m.addr := wrap_in rfl (by omega) (by omega)
  have wb : IntKind.i64.wrap m.addr = m.addr := by rw [IntKind.wrap_i64]; have := wa; unfold wrap64 at this; exact this
  have d1 : (strOfNums (digs m.port 2)).size = 2 := by rw [strOfNums_size]; rfl
  have d2 : (strOfNums (digs m.to 2)).size = 2 := by rw [strOfNums_size]; rfl
  have d3 : (strOfNums (digs m.addr 4)).size = 4 := by rw [strOfNums_size]; rfl
  generalize strOfNums (digs m.port 2) = s1 at *
  generalize strOfNums (digs m.to 2) = s2 at *
  generalize strOfNums (digs m.addr 4) = s3 at *
  clear h h2 hp ht a0 a1
  obtain ⟨ip, port, addr, to, data⟩ := m
  simp only at hi
  subst hi
  unfold emV
  simp only at *
  go_enter Try.func9, Try.ntmps9
  go_upto_region 1 with fail
  rw [← hwe.out]
  clear hwe
  have e0 := LE.cell 0 rfl; have e1 := LE.cell 1 rfl; have e2 := LE.cell 2 rfl; have e3 := LE.cell 3 rfl; have e4 := LE.cell 4 rfl
  replace LE := Lib.hid LE
  go_wp2_with fail
  refine (P1.out we).mono ?_
  rintro e w1 ⟨rfl, b⟩
  clear P1 e0 e1 e2 e3 e4
  have l1 := LE.out.keep (by show 0 < 5; decide) b
  have e0 := l1.cell 0 rfl; have e1 := l1.cell 1 rfl; have e2 := l1.cell 2 rfl; have e3 := l1.cell 3 rfl; have e4 := l1.cell 4 rfl
  replace l1 := Lib.hid l1
  have b1 := Lib.hid (b0.out.trans (b.mono b0.out.size))
  clear b b0 LE
  go_wp2_with fail
  refine (P2.out w1).mono ?_
  rintro e w2 ⟨rfl, b⟩
  clear P2 e0 e1 e2 e3 e4
  have l2 := l1.out.keep (by show 0 < 5; decide) b
  have e0 := l2.cell 0 rfl; have e1 := l2.cell 1 rfl; have e2 := l2.cell 2 rfl; have e3 := l2.cell 3 rfl; have e4 := l2.cell 4 rfl
  have b2 := Lib.hid (b1.out.trans (b.mono b1.out.size))
  clear b b1 l1
  go_upto_region 6 with fail
  have k1 := fun d os => cell_regrown (w := w2) e1 d os
  have k2 := fun d os => cell_regrown (w := w2) e2 d os
  have k3 := fun d os => cell_regrown (w := w2) e3 d os
  have k4 := fun d os => cell_regrown (w := w2) e4 d os
  have C1 : Hid (∀ d os, _) := fun d os => Calls.regrown_of (P := Try.prog) (w := w2) (d := d) (os := os) (B1.out _)
  have C2 : Hid (∀ d os, _) := fun d os => Calls.regrown_of (P := Try.prog) (w := w2) (d := d) (os := os) (B2.out _)
  have C3 : Hid (∀ d os, _) := fun d os => Calls.regrown_of (P := Try.prog) (w := w2) (d := d) (os := os) (B3.out _)
  clear e0 e1 e2 e3 e4 l2 B1 B2 B3
  have z1 : (⟨#[1]⟩ ++ s1 : ByteArray).size = 3 := by rw [ByteArray.size_append, d1]; rfl
  have z2 : (⟨#[1]⟩ ++ s1 ++ s2 : ByteArray).size = 5 := by rw [ByteArray.size_append, z1, d2]
  have z3 : (⟨#[1]⟩ ++ s1 ++ s2 ++ s3 : ByteArray).size = 9 := by rw [ByteArray.size_append, z2, d3]
  refine wp_region_quiet_below (by kernel_rfl) (by kernel_rfl) ?_
  repeat (go_big_quiet_step (first | (go_at_call_of 21 port; exact C1.out _ _) | (go_at_call_of 21 to; exact C2.out _ _) | (go_at_call_of 21 addr; exact C3.out _ _)))
  refine wpQuiet_nil ?_
  intro _ hw'
  obtain ⟨⟨dq, osq⟩, hw''⟩ := hw'
  subst hw''
  have br := below_regrown w2 dq osq
  have bF := Lib.hid (b2.out.trans (br.mono b2.out.size))
  clear C1 C2 C3 br b2 k1 k2 k3 k4 wa wb d1 d2 d3 z1 z2 z3 hd
  simp only
  generalize Go.Sort.grow (redrawn w2 dq) osq = w9 at *
  go_wp2_with fail
  go_ret
  exact ⟨by rw [← JN.out]; rfl, bF.out⟩
set_option maxHeartbeats 8000000 in
theorem rpack_false (m : Em) (w : World) (hi : m.ip = false) (h : isP m.port = true) (h2 : isP m.to = true) (a0 : 0 ≤ m.addr) (a1 : m.addr < 4294967296) (hd : m.data.size ≤ 140737488351232) : Calls Try.prog 9 #[emV m] w fun e w' => e = .returned (.string (pkS m)) ∧ Below w.heap.size w w' := by
  have hp := h
  have ht := h2
  unfold isP at hp ht
  simp only [Bool.and_eq_true, decide_eq_true_eq] at hp ht
  have JN := Lib.hid (join_pk m ⟨h, h2⟩ a0 a1 ⟨#[0]⟩ (by rw [hi]; rfl))
  generalize pkS m = out at JN ⊢
  have P1 := Lib.hid fun w' => rpt_ok m.port w'
  have P2 := Lib.hid fun w' => rpt_ok m.to w'
  have b0 : Below w.heap.size w (w.alloc (.cells #[.bool m.ip, .int .i64 m.port, .int .u32 m.addr, .int .i64 m.to, .string m.data] 24)) := (Below.refl _ _).alloc (Nat.le_refl _) _
  have LE : Lies (w.alloc (.cells #[.bool m.ip, .int .i64 m.port, .int .u32 m.addr, .int .i64 m.to, .string m.data] 24)) w.heap.size [.bool m.ip, .int .i64 m.port, .int .u32 m.addr, .int .i64 m.to, .string m.data] := Lies.new w [.bool m.ip, .int .i64 m.port, .int .u32 m.addr, .int .i64 m.to, .string m.data] _
  obtain ⟨we, hwe⟩ : ∃ x, x = w.alloc (.cells #[.bool m.ip, .int .i64 m.port, .int .u32 m.addr, .int .i64 m.to, .string m.data] 24) := ⟨_, rfl⟩
  rw [← hwe] at b0 LE
  replace hwe := Lib.hid hwe
  replace b0 := Lib.hid b0
  rw [h] at P1
  rw [h2] at P2
  have B1 := Lib.hid fun w' => rbytes 2 (by decide) m.port w' hp.1 (by omega)
  have B2 := Lib.hid fun w' => rbytes 2 (by decide) m.to w' ht.1 (by omega)
  have B3 := Lib.hid fun w' => rbytes 4 (by decide) m.addr w' a0 (by omega)
  have wa : wrap64 m.addr = m.addr := wrap_in rfl (by omega) (by omega)
  have wb : IntKind.i64.wrap m.addr = m.addr := by rw [IntKind.wrap_i64]; have := wa; unfold wrap64 at this; exact this
  have d1 : (strOfNums (digs m.port 2)).size = 2 := by rw [strOfNums_size]; rfl
  have d2 : (strOfNums (digs m.to 2)).size = 2 := by rw [strOfNums_size]; rfl
  have d3 : (strOfNums (digs m.addr 4)).size = 4 := by rw [strOfNums_size]; rfl
  generalize strOfNums (digs m.port 2) = s1 at *
  generalize strOfNums (digs m.to 2) = s2 at *
  generalize strOfNums (digs m.addr 4) = s3 at *
  clear h h2 hp ht a0 a1
  obtain ⟨ip, port, addr, to, data⟩ := m
  simp only at hi
  subst hi
  unfold emV
  simp only at *
  go_enter Try.func9, Try.ntmps9
  go_upto_region 1 with fail
  rw [← hwe.out]
  clear hwe
  have e0 := LE.cell 0 rfl; have e1 := LE.cell 1 rfl; have e2 := LE.cell 2 rfl; have e3 := LE.cell 3 rfl; have e4 := LE.cell 4 rfl
  replace LE := Lib.hid LE
  go_wp2_with fail
  refine (P1.out we).mono ?_
  rintro e w1 ⟨rfl, b⟩
  clear P1 e0 e1 e2 e3 e4
  have l1 := LE.out.keep (by show 0 < 5; decide) b
  have e0 := l1.cell 0 rfl; have e1 := l1.cell 1 rfl; have e2 := l1.cell 2 rfl; have e3 := l1.cell 3 rfl; have e4 := l1.cell 4 rfl
  replace l1 := Lib.hid l1
  have b1 := Lib.hid (b0.out.trans (b.mono b0.out.size))
  clear b b0 LE
  go_wp2_with fail
  refine (P2.out w1).mono ?_
  rintro e w2 ⟨rfl, b⟩
  clear P2 e0 e1 e2 e3 e4
  have l2 := l1.out.keep (by show 0 < 5; decide) b
  have e0 := l2.cell 0 rfl; have e1 := l2.cell 1 rfl; have e2 := l2.cell 2 rfl; have e3 := l2.cell 3 rfl; have e4 := l2.cell 4 rfl
  have b2 := Lib.hid (b1.out.trans (b.mono b1.out.size))
  clear b b1 l1
  go_upto_region 6 with fail
  have k1 := fun d os => cell_regrown (w := w2) e1 d os
  have k2 := fun d os => cell_regrown (w := w2) e2 d os
  have k3 := fun d os => cell_regrown (w := w2) e3 d os
  have k4 := fun d os => cell_regrown (w := w2) e4 d os
  have C1 : Hid (∀ d os, _) := fun d os => Calls.regrown_of (P := Try.prog) (w := w2) (d := d) (os := os) (B1.out _)
  have C2 : Hid (∀ d os, _) := fun d os => Calls.regrown_of (P := Try.prog) (w := w2) (d := d) (os := os) (B2.out _)
  have C3 : Hid (∀ d os, _) := fun d os => Calls.regrown_of (P := Try.prog) (w := w2) (d := d) (os := os) (B3.out _)
  clear e0 e1 e2 e3 e4 l2 B1 B2 B3
  have z1 : (⟨#[0]⟩ ++ s1 : ByteArray).size = 3 := by rw [ByteArray.size_append, d1]; rfl
  have z2 : (⟨#[0]⟩ ++ s1 ++ s2 : ByteArray).size = 5 := by rw [ByteArray.size_append, z1, d2]
  have z3 : (⟨#[0]⟩ ++ s1 ++ s2 ++ s3 : ByteArray).size = 9 := by rw [ByteArray.size_append, z2, d3]
  refine wp_region_quiet_below (by kernel_rfl) (by kernel_rfl) ?_
  repeat (go_big_quiet_step (first | (go_at_call_of 21 port; exact C1.out _ _) | (go_at_call_of 21 to; exact C2.out _ _) | (go_at_call_of 21 addr; exact C3.out _ _)))
  refine wpQuiet_nil ?_
  intro _ hw'
  obtain ⟨⟨dq, osq⟩, hw''⟩ := hw'
  subst hw''
  have br := below_regrown w2 dq osq
  have bF := Lib.hid (b2.out.trans (br.mono b2.out.size))
  clear C1 C2 C3 br b2 k1 k2 k3 k4 wa wb d1 d2 d3 z1 z2 z3 hd
  simp only
  generalize Go.Sort.grow (redrawn w2 dq) osq = w9 at *
  go_wp2_with fail
  go_ret
  exact ⟨by rw [← JN.out]; rfl, bF.out⟩
theorem rpack_ok (m : Em) (w : World) (hb : EmB m) : Calls Try.prog 9 #[emV m] w fun e w' => e = .returned (.string (pkS m)) ∧ Below w.heap.size w w' := by
  by_cases h : isP m.port = true
  · by_cases h2 : isP m.to = true
    · cases hi : m.ip with
      | true => exact rpack_true m w hi h h2 hb.a0 hb.a1 hb.d
      | false => exact rpack_false m w hi h h2 hb.a0 hb.a1 hb.d
    · have h2 : isP m.to = false := by simpa using h2
      rw [show pkS m = ⟨#[]⟩ by unfold pkS; rw [h2, Bool.and_false]; rfl]
      exact rpack_no2 m w h h2
  · have h : isP m.port = false := by simpa using h
    rw [show pkS m = ⟨#[]⟩ by unfold pkS; rw [h, Bool.false_and]; rfl]
    exact rpack_no1 m w h
set_option maxHeartbeats 4000000 in
theorem runpack_short (s : ByteArray) (w : World) (h : s.size < 9) : Calls Try.prog 8 #[.string s] w fun e w' => e = .returned (.tuple #[.agg #[.bool false, .int .i64 0, .int .u32 0, .int .i64 0, .string ⟨#[]⟩], .int .i64 1]) ∧ Below w.heap.size w w' := by
  have h2 : (s.size : Int) < 9 := by omega
  have b0 : Below w.heap.size w (w.alloc (.cells #[.bool false, .int .i64 0, .int .u32 0, .int .i64 0, .string ⟨#[]⟩] 24)) := (Below.refl _ _).alloc (Nat.le_refl _) _
  have LE : Lies (w.alloc (.cells #[.bool false, .int .i64 0, .int .u32 0, .int .i64 0, .string ⟨#[]⟩] 24)) w.heap.size [.bool false, .int .i64 0, .int .u32 0, .int .i64 0, .string ⟨#[]⟩] := Lies.new w [.bool false, .int .i64 0, .int .u32 0, .int .i64 0, .string ⟨#[]⟩] _
  obtain ⟨we, hwe⟩ : ∃ x, x = w.alloc (.cells #[.bool false, .int .i64 0, .int .u32 0, .int .i64 0, .string ⟨#[]⟩] 24) := ⟨_, rfl⟩
  rw [← hwe] at b0 LE
  replace hwe := Lib.hid hwe
  replace b0 := Lib.hid b0
  have hE : Hid (w.heap.size ≤ w.heap.size) := Nat.le_refl _
  go_enter Try.func8, Try.ntmps8
  go_upto_region 1 with fail
  rw [← hwe.out]
  clear hwe
  have e0 := LE.cell 0 rfl
  have f0 := LE.free 0 (by show 0 < 5; decide)
  have e1 := LE.cell 1 rfl
  have f1 := LE.free 1 (by show 1 < 5; decide)
  have e2 := LE.cell 2 rfl
  have f2 := LE.free 2 (by show 2 < 5; decide)
  have e3 := LE.cell 3 rfl
  have f3 := LE.free 3 (by show 3 < 5; decide)
  have e4 := LE.cell 4 rfl
  have f4 := LE.free 4 (by show 4 < 5; decide)
  clear LE
  go_wp2_with fail
  refine ⟨rfl, .tuple #[.agg #[.bool false, .int .i64 0, .int .u32 0, .int .i64 0, .string ⟨#[]⟩], .int .i64 1], ?_, rfl, em_belowP b0.out hE.out _ _ _ _ _⟩
  simp [results, Try.results8, go_sem, *]
set_option maxHeartbeats 4000000 in
theorem runpack_field (s : ByteArray) (w : World) (hs : s.size ≤ 9223372036854775807) (h : 9 ≤ s.size) (h1 : 1 < byt s 0) : Calls Try.prog 8 #[.string s] w fun e w' => e = .returned (.tuple #[.agg #[.bool false, .int .i64 0, .int .u32 0, .int .i64 0, .string ⟨#[]⟩], .int .i64 3]) ∧ Below w.heap.size w w' := by
  have h2 : ¬ (s.size : Int) < 9 := by omega
  have h3 : ¬ s.size < 9 := by omega
  have q0 : (0 : Int) < s.size := by omega
  have x0 := byt_eq s 0 (by omega)
  generalize byt s 0 = b at *
  have b0 : Below w.heap.size w (w.alloc (.cells #[.bool false, .int .i64 0, .int .u32 0, .int .i64 0, .string ⟨#[]⟩] 24)) := (Below.refl _ _).alloc (Nat.le_refl _) _
  have LE : Lies (w.alloc (.cells #[.bool false, .int .i64 0, .int .u32 0, .int .i64 0, .string ⟨#[]⟩] 24)) w.heap.size [.bool false, .int .i64 0, .int .u32 0, .int .i64 0, .string ⟨#[]⟩] := Lies.new w [.bool false, .int .i64 0, .int .u32 0, .int .i64 0, .string ⟨#[]⟩] _
  obtain ⟨we, hwe⟩ : ∃ x, x = w.alloc (.cells #[.bool false, .int .i64 0, .int .u32 0, .int .i64 0, .string ⟨#[]⟩] 24) := ⟨_, rfl⟩
  rw [← hwe] at b0 LE
  replace hwe := Lib.hid hwe
  replace b0 := Lib.hid b0
  have hE : Hid (w.heap.size ≤ w.heap.size) := Nat.le_refl _
  go_enter Try.func8, Try.ntmps8
  go_upto_region 1 with fail
  rw [← hwe.out]
  clear hwe
  have e0 := LE.cell 0 rfl
  have f0 := LE.free 0 (by show 0 < 5; decide)
  have e1 := LE.cell 1 rfl
  have f1 := LE.free 1 (by show 1 < 5; decide)
  have e2 := LE.cell 2 rfl
  have f2 := LE.free 2 (by show 2 < 5; decide)
  have e3 := LE.cell 3 rfl
  have f3 := LE.free 3 (by show 3 < 5; decide)
  have e4 := LE.cell 4 rfl
  have f4 := LE.free 4 (by show 4 < 5; decide)
  clear LE
  go_wp2_with fail
  refine ⟨rfl, .tuple #[.agg #[.bool false, .int .i64 0, .int .u32 0, .int .i64 0, .string ⟨#[]⟩], .int .i64 3], ?_, rfl, em_belowP b0.out hE.out _ _ _ _ _⟩
  simp [results, Try.results8, go_sem, *]
set_option linter.unusedSimpArgs false in
set_option maxHeartbeats 8000000 in
theorem runpack_good (s : ByteArray) (w : World) (hs : s.size ≤ 9223372036854775807) (h : 9 ≤ s.size) (h1 : ¬ 1 < byt s 0) : Calls Try.prog 8 #[.string s] w fun e w' => e = .returned (.tuple #[emV (upkV s), .int .i64 0]) ∧ Below w.heap.size w w' := by
  have h2 : ¬ (s.size : Int) < 9 := by omega
  have h3 : ¬ s.size < 9 := by omega
  have q0 : (0 : Int) < s.size := by omega
  have q3 : (3 : Int) ≤ s.size := by omega
  have q5 : (5 : Int) ≤ s.size := by omega
  have q9 : (9 : Int) ≤ s.size := by omega
  have ne : ¬ s = ByteArray.empty := fun e => by rw [e] at h; exact absurd h (by decide)
  have x0 := byt_eq s 0 (by omega)
  have N1 : Hid (∀ w, _) := fun w => rnum2 s w 1 3 rfl (by omega)
  have N3 : Hid (∀ w, _) := fun w => rnum2 s w 3 5 rfl (by omega)
  have N5 : Hid (∀ w, _) := fun w => rnum4 s w 5 9 rfl (by omega)
  have c5 := num4_bd s 5
  have wa : IntKind.u32.wrap (num (byt s) 5 4) = num (byt s) 5 4 := by simp [IntKind.wrap, IntKind.bits, IntKind.signed]; omega
  unfold emV upkV
  simp only
  generalize byt s 0 = b at *
  generalize num (byt s) 1 2 = port at *
  generalize num (byt s) 3 2 = to at *
  generalize num (byt s) 5 4 = addr at *
  clear c5
  have b0 : Below w.heap.size w (w.alloc (.cells #[.bool false, .int .i64 0, .int .u32 0, .int .i64 0, .string ⟨#[]⟩] 24)) := (Below.refl _ _).alloc (Nat.le_refl _) _
  have LE : Lies (w.alloc (.cells #[.bool false, .int .i64 0, .int .u32 0, .int .i64 0, .string ⟨#[]⟩] 24)) w.heap.size [.bool false, .int .i64 0, .int .u32 0, .int .i64 0, .string ⟨#[]⟩] := Lies.new w [.bool false, .int .i64 0, .int .u32 0, .int .i64 0, .string ⟨#[]⟩] _
  obtain ⟨we, hwe⟩ : ∃ x, x = w.alloc (.cells #[.bool false, .int .i64 0, .int .u32 0, .int .i64 0, .string ⟨#[]⟩] 24) := ⟨_, rfl⟩
  rw [← hwe] at b0 LE
  replace hwe := Lib.hid hwe
  replace b0 := Lib.hid b0
  have hE : Hid (w.heap.size ≤ w.heap.size) := Nat.le_refl _
  go_enter Try.func8, Try.ntmps8
  go_upto_region 1 with fail
  rw [← hwe.out]
  clear hwe
  go_upto_region 5 with fail
  replace LE := LE.keep (by show 0 < 5; decide) (drewB _ we)
  replace b0 := Lib.hid (b0.out.trans ((drewB we.heap.size we).mono b0.out.size))
  clear h2 h3 h1
  refine wp_region_any (by kernel_rfl) ?_
  change wpAny _ .any _ _ 18 (Array.replicate 18 false) _ we.drew
  generalize we.drew = wd at *
  refine take_slot (i := 0) (d := 12) (v := .string s) rfl rfl (by kernel_rfl) (by kernel_rfl) (by kernel_rfl) (fun _ _ _ h => h) rfl (fun w => by go_simp) ?_
  refine take_slot (i := 1) (d := 13) (v := .int .u8 b) rfl rfl (by kernel_rfl) (by kernel_rfl) (by kernel_rfl) (fun _ _ _ h => h) rfl (fun w => by go_simp) ?_
  refine take_slot (i := 2) (d := 14) (v := .bool (b == 1)) rfl rfl (by kernel_rfl) (by kernel_rfl) (by kernel_rfl) (fun _ _ _ h => h) rfl (fun w => by go_simp) ?_
  refine take_slot (i := 3) (d := 15) (v := .string s) rfl rfl (by kernel_rfl) (by kernel_rfl) (by kernel_rfl) (fun _ _ _ h => h) rfl (fun w => by go_simp) ?_
  refine take_slot (i := 4) (d := 16) (v := .string (s.extract 1 3)) rfl rfl (by kernel_rfl) (by kernel_rfl) (by kernel_rfl) (fun _ _ _ h => h) rfl (fun w => by go_simp) ?_
  refine call_slot (i := 5) (d := 17) (v := .int .i64 port) (x := .string (s.extract 1 3)) (k := 16) rfl rfl (by kernel_rfl) (by kernel_rfl) (by kernel_rfl) (fun _ _ _ h => h) rfl (fun a w K hx hK => number_wp _ 16 rfl N1.out a w K _ hx hK) (by simp [Act.eval, Act.put]) ?_
  refine take_slot (i := 6) (d := 18) (v := .string s) rfl rfl (by kernel_rfl) (by kernel_rfl) (by kernel_rfl) (fun _ _ _ h => h) rfl (fun w => by go_simp) ?_
  refine take_slot (i := 7) (d := 19) (v := .string (s.extract 3 5)) rfl rfl (by kernel_rfl) (by kernel_rfl) (by kernel_rfl) (fun _ _ _ h => h) rfl (fun w => by go_simp) ?_
  refine call_slot (i := 8) (d := 20) (v := .int .i64 to) (x := .string (s.extract 3 5)) (k := 19) rfl rfl (by kernel_rfl) (by kernel_rfl) (by kernel_rfl) (fun _ _ _ h => h) rfl (fun a w K hx hK => number_wp _ 19 rfl N3.out a w K _ hx hK) (by simp [Act.eval, Act.put]) ?_
  refine take_slot (i := 9) (d := 21) (v := .string s) rfl rfl (by kernel_rfl) (by kernel_rfl) (by kernel_rfl) (fun _ _ _ h => h) rfl (fun w => by go_simp) ?_
  refine take_slot (i := 10) (d := 22) (v := .string (s.extract 5 9)) rfl rfl (by kernel_rfl) (by kernel_rfl) (by kernel_rfl) (fun _ _ _ h => h) rfl (fun w => by go_simp) ?_
  refine call_slot (i := 11) (d := 23) (v := .int .i64 addr) (x := .string (s.extract 5 9)) (k := 22) rfl rfl (by kernel_rfl) (by kernel_rfl) (by kernel_rfl) (fun _ _ _ h => h) rfl (fun a w K hx hK => number_wp _ 22 rfl N5.out a w K _ hx hK) (by simp [Act.eval, Act.put]) ?_
  refine take_slot (i := 12) (d := 24) (v := .int .u32 addr) rfl rfl (by kernel_rfl) (by kernel_rfl) (by kernel_rfl) (fun _ _ _ h => h) rfl (fun w => by go_simp) ?_
  refine take_slot (i := 13) (d := 25) (v := .string s) rfl rfl (by kernel_rfl) (by kernel_rfl) (by kernel_rfl) (fun _ _ _ h => h) rfl (fun w => by go_simp) ?_
  refine take_slot (i := 14) (d := 26) (v := .string (s.extract 9 s.size)) rfl rfl (by kernel_rfl) (by kernel_rfl) (by kernel_rfl) (fun _ _ _ h => h) rfl (fun w => by go_simp) ?_
  refine take_slot (i := 15) (d := 27) (v := .agg #[.bool (b == 1), .int .i64 port, .int .u32 addr, .int .i64 to, .string (s.extract 9 s.size)]) rfl rfl (by kernel_rfl) (by kernel_rfl) (by kernel_rfl) (fun _ _ _ h => h) rfl (fun w => by go_simp) ?_
  simp only [Act.put, List.setIfInBounds_toArray, List.set_cons_succ, List.set_cons_zero]
  have e0 := LE.cell 0 rfl
  have f0 := LE.free 0 (by show 0 < 5; decide)
  have e1 := LE.cell 1 rfl
  have f1 := LE.free 1 (by show 1 < 5; decide)
  have e2 := LE.cell 2 rfl
  have f2 := LE.free 2 (by show 2 < 5; decide)
  have e3 := LE.cell 3 rfl
  have f3 := LE.free 3 (by show 3 < 5; decide)
  have e4 := LE.cell 4 rfl
  have f4 := LE.free 4 (by show 4 < 5; decide)
  clear LE N1 N3 N5 x0 q0 q3 q5 q9 wa
  refine wpAny_all (rs := [16]) (by kernel_rfl) (by simp) (fun i hi => ?_)
  obtain rfl : i = 16 := by simpa using hi
  refine wpOp_step rfl (fun K' hK => ?_)
  clear hi
  go_simp
  refine hK _ _ ?_
  clear hK K'
  refine wpAny_all (rs := [17]) (by kernel_rfl) (by simp) (fun i hi => ?_)
  obtain rfl : i = 17 := by simpa using hi
  refine wpOp_step rfl (fun K' hK => ?_)
  clear hi
  go_simp
  refine hK _ _ ?_
  clear hK K'
  refine wpAny_done (by kernel_rfl) ?_ 0
  go_wp2_with fail
  refine ⟨rfl, .tuple #[.agg #[.bool (b == 1), .int .i64 port, .int .u32 addr, .int .i64 to, .string (s.extract 9 s.size)], .int .i64 0], ?_, rfl, em_belowP b0.out hE.out _ _ _ _ _⟩
  simp [results, Try.results8, go_sem, *]
theorem runpack_ok (s : ByteArray) (w : World) (hs : s.size ≤ 9223372036854775807) : Calls Try.prog 8 #[.string s] w fun e w' => e = .returned (.tuple #[emV (upkM s), .int .i64 (upkE s)]) ∧ Below w.heap.size w w' := by
  by_cases h : s.size < 9
  · have e : upkE s = 1 := by unfold upkE; rw [if_pos h]
    rw [show upkM s = em0 by unfold upkM; rw [if_neg (by rw [e]; decide)], e]
    exact runpack_short s w h
  by_cases h1 : 1 < byt s 0
  · have e : upkE s = 3 := by unfold upkE; rw [if_neg h, if_pos h1]
    rw [show upkM s = em0 by unfold upkM; rw [if_neg (by rw [e]; decide)], e]
    exact runpack_field s w hs (by omega) h1
  · have e : upkE s = 0 := by unfold upkE; rw [if_neg h, if_neg h1]
    rw [show upkM s = upkV s by unfold upkM; rw [if_pos e], e]
    exact runpack_good s w hs (by omega) h1
end Go.Proofs.Ytndaohiecpdmlaa
