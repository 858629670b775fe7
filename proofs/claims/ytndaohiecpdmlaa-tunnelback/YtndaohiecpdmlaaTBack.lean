/-
  The law TunnelBack returns true for every tunnel, all bytes, every source and port: a packet to the tenant's own address, and a payload from the target, come down; all others do not. No condition but the statement's own bound of an argument's bytes.
-/
import Derived.Test.YtndaohiecpdmlaaTuPgU
import Derived.Test.YtndaohiecpdmlaaTuWk
import Derived.Test.YtndaohiecpdmlaaTuOpen
import Derived.LaidLaws
namespace Go.Proofs.Ytndaohiecpdmlaa.tunnelBack
set_option maxRecDepth 100000
open Go.ChangeShapes Go.WideShapes Go.ChangeAt Go.RowKit Go.Sort
open Go.ChangeMaps (open_string shut_string)
theorem some_rt : ∃ rt : List Ru → Bool, rt [] = false := ⟨fun _ => false, rfl⟩

set_option maxHeartbeats 8000000 in
theorem back_long_true (T : Tu) (v : Value) (w : World) (h : RusAt w v T.rules) (hb : TuB T) (fa : TuFace) (s : ByteArray) (src fr : Int) (hi : T.ip = true) (h1 : 1000 < s.size) (DN : Hid (∀ w v, RusAt w v T.rules → Calls Try.prog 16 #[tuV T v, .int .u32 src, .int .i64 fr, .string s] w fun e w' => e = .returned (.tuple #[.string ⟨#[]⟩, .int .i64 8]) ∧ Below w.heap.size w w')) : Calls Try.prog 5 #[tuV T v, .string s, .int .u32 src, .int .i64 fr] w fun e w' => e = .returned (.bool true) ∧ Below w.heap.size w w' := by
  have x2 : (1000 : Int) < (s.size : Int) := by omega
  have IT := Lib.hid fun w' (hr : RusAt w' v T.rules) => its_ok T v w' hr hb
  have WK := Lib.hid fun w' => works22_ok fa w'
  obtain ⟨a, n, c, rfl⟩ := h.form
  obtain ⟨tA, bA⟩ := TL.new h 34
  clear hb h fa
  obtain ⟨ip, addr, tp, own, port, rules, rt⟩ := T
  simp only at *
  subst hi
  unfold tuV at *
  obtain ⟨wA, hwA⟩ : ∃ x, x = w.alloc (.cells #[.bool true, .int .u32 addr, .int .i64 tp, .int .u32 own, .int .i64 port, .slice a n c] 34) := ⟨_, rfl⟩
  rw [← hwA] at tA bA
  replace hwA := Lib.hid hwA
  replace bA := Lib.hid bA
  go_enter Try.func5, Try.ntmps5
  go_upto_region 1 with fail
  rw [← hwA.out]
  clear hwA
  go_wp2_with fail
  refine (WK.out wA).mono ?_
  rintro e w1 ⟨rfl, bs⟩
  clear WK
  replace tA := tA.keep bs
  replace bA := Lib.hid (bA.out.trans (bs.mono bA.out.size))
  clear bs
  have a0 := tA.c.cell 0 rfl
  have a1 := tA.c.cell 1 rfl
  have a2 := tA.c.cell 2 rfl
  have a3 := tA.c.cell 3 rfl
  have a4 := tA.c.cell 4 rfl
  have a5 := tA.c.cell 5 rfl
  go_wp2_with fail
  refine (IT.out w1 tA.r).mono ?_
  rintro e w2 ⟨v', rfl, r2, bs⟩
  obtain ⟨a', n', c', rfl⟩ := r2.form
  clear IT a0 a1 a2 a3 a4 a5
  replace tA := tA.keep bs
  replace bA := Lib.hid (bA.out.trans (bs.mono bA.out.size))
  clear bs
  go_wp2_with fail
  refine (DN.out w2 _ r2).mono ?_
  rintro e w3 ⟨rfl, bs⟩
  clear DN r2
  replace tA := tA.keep bs
  replace bA := Lib.hid (bA.out.trans (bs.mono bA.out.size))
  clear bs
  have a0 := tA.c.cell 0 rfl
  have a1 := tA.c.cell 1 rfl
  have a2 := tA.c.cell 2 rfl
  have a3 := tA.c.cell 3 rfl
  have a4 := tA.c.cell 4 rfl
  have a5 := tA.c.cell 5 rfl
  clear tA
  go_wp2_with fail
  go_ret
  exact ⟨rfl, bA.out⟩
set_option maxHeartbeats 8000000 in
theorem back_long_false (T : Tu) (v : Value) (w : World) (h : RusAt w v T.rules) (hb : TuB T) (fa : TuFace) (s : ByteArray) (src fr : Int) (hi : T.ip = false) (h1 : 1000 < s.size) (DN : Hid (∀ w v, RusAt w v T.rules → Calls Try.prog 16 #[tuV T v, .int .u32 src, .int .i64 fr, .string s] w fun e w' => e = .returned (.tuple #[.string ⟨#[]⟩, .int .i64 8]) ∧ Below w.heap.size w w')) : Calls Try.prog 5 #[tuV T v, .string s, .int .u32 src, .int .i64 fr] w fun e w' => e = .returned (.bool true) ∧ Below w.heap.size w w' := by
  have x2 : (1000 : Int) < (s.size : Int) := by omega
  have IT := Lib.hid fun w' (hr : RusAt w' v T.rules) => its_ok T v w' hr hb
  have WK := Lib.hid fun w' => works22_ok fa w'
  obtain ⟨a, n, c, rfl⟩ := h.form
  obtain ⟨tA, bA⟩ := TL.new h 34
  clear hb h fa
  obtain ⟨ip, addr, tp, own, port, rules, rt⟩ := T
  simp only at *
  subst hi
  unfold tuV at *
  obtain ⟨wA, hwA⟩ : ∃ x, x = w.alloc (.cells #[.bool false, .int .u32 addr, .int .i64 tp, .int .u32 own, .int .i64 port, .slice a n c] 34) := ⟨_, rfl⟩
  rw [← hwA] at tA bA
  replace hwA := Lib.hid hwA
  replace bA := Lib.hid bA
  go_enter Try.func5, Try.ntmps5
  go_upto_region 1 with fail
  rw [← hwA.out]
  clear hwA
  go_wp2_with fail
  refine (WK.out wA).mono ?_
  rintro e w1 ⟨rfl, bs⟩
  clear WK
  replace tA := tA.keep bs
  replace bA := Lib.hid (bA.out.trans (bs.mono bA.out.size))
  clear bs
  have a0 := tA.c.cell 0 rfl
  have a1 := tA.c.cell 1 rfl
  have a2 := tA.c.cell 2 rfl
  have a3 := tA.c.cell 3 rfl
  have a4 := tA.c.cell 4 rfl
  have a5 := tA.c.cell 5 rfl
  go_wp2_with fail
  refine (IT.out w1 tA.r).mono ?_
  rintro e w2 ⟨v', rfl, r2, bs⟩
  obtain ⟨a', n', c', rfl⟩ := r2.form
  clear IT a0 a1 a2 a3 a4 a5
  replace tA := tA.keep bs
  replace bA := Lib.hid (bA.out.trans (bs.mono bA.out.size))
  clear bs
  go_wp2_with fail
  refine (DN.out w2 _ r2).mono ?_
  rintro e w3 ⟨rfl, bs⟩
  clear DN r2
  replace tA := tA.keep bs
  replace bA := Lib.hid (bA.out.trans (bs.mono bA.out.size))
  clear bs
  have a0 := tA.c.cell 0 rfl
  have a1 := tA.c.cell 1 rfl
  have a2 := tA.c.cell 2 rfl
  have a3 := tA.c.cell 3 rfl
  have a4 := tA.c.cell 4 rfl
  have a5 := tA.c.cell 5 rfl
  clear tA
  go_wp2_with fail
  go_ret
  exact ⟨rfl, bA.out⟩
set_option maxHeartbeats 8000000 in
theorem back_addr (T : Tu) (v : Value) (w : World) (h : RusAt w v T.rules) (hb : TuB T) (fa : TuFace) (s : ByteArray) (src fr : Int) (hi : T.ip = false) (h1 : s.size ≤ 1000) (ho : src ≠ T.addr) (DN : Hid (∀ w v, RusAt w v T.rules → Calls Try.prog 16 #[tuV T v, .int .u32 src, .int .i64 fr, .string s] w fun e w' => e = .returned (.tuple #[.string ⟨#[]⟩, .int .i64 15]) ∧ Below w.heap.size w w')) : Calls Try.prog 5 #[tuV T v, .string s, .int .u32 src, .int .i64 fr] w fun e w' => e = .returned (.bool true) ∧ Below w.heap.size w w' := by
  have x2 : ¬ (1000 : Int) < (s.size : Int) := by omega
  have x3 : ¬ 1000 < s.size := by omega
  clear h1
  have y1 : (src == T.addr) = false := by simp [ho]
  have IT := Lib.hid fun w' (hr : RusAt w' v T.rules) => its_ok T v w' hr hb
  have WK := Lib.hid fun w' => works22_ok fa w'
  obtain ⟨a, n, c, rfl⟩ := h.form
  obtain ⟨tA, bA⟩ := TL.new h 34
  clear hb h fa
  obtain ⟨ip, addr, tp, own, port, rules, rt⟩ := T
  simp only at *
  subst hi
  unfold tuV at *
  obtain ⟨wA, hwA⟩ : ∃ x, x = w.alloc (.cells #[.bool false, .int .u32 addr, .int .i64 tp, .int .u32 own, .int .i64 port, .slice a n c] 34) := ⟨_, rfl⟩
  rw [← hwA] at tA bA
  replace hwA := Lib.hid hwA
  replace bA := Lib.hid bA
  go_enter Try.func5, Try.ntmps5
  go_upto_region 1 with fail
  rw [← hwA.out]
  clear hwA
  go_wp2_with fail
  refine (WK.out wA).mono ?_
  rintro e w1 ⟨rfl, bs⟩
  clear WK
  replace tA := tA.keep bs
  replace bA := Lib.hid (bA.out.trans (bs.mono bA.out.size))
  clear bs
  have a0 := tA.c.cell 0 rfl
  have a1 := tA.c.cell 1 rfl
  have a2 := tA.c.cell 2 rfl
  have a3 := tA.c.cell 3 rfl
  have a4 := tA.c.cell 4 rfl
  have a5 := tA.c.cell 5 rfl
  go_wp2_with fail
  refine (IT.out w1 tA.r).mono ?_
  rintro e w2 ⟨v', rfl, r2, bs⟩
  obtain ⟨a', n', c', rfl⟩ := r2.form
  clear IT a0 a1 a2 a3 a4 a5
  replace tA := tA.keep bs
  replace bA := Lib.hid (bA.out.trans (bs.mono bA.out.size))
  clear bs
  go_wp2_with fail
  refine (DN.out w2 _ r2).mono ?_
  rintro e w3 ⟨rfl, bs⟩
  clear DN r2
  replace tA := tA.keep bs
  replace bA := Lib.hid (bA.out.trans (bs.mono bA.out.size))
  clear bs
  have a0 := tA.c.cell 0 rfl
  have a1 := tA.c.cell 1 rfl
  have a2 := tA.c.cell 2 rfl
  have a3 := tA.c.cell 3 rfl
  have a4 := tA.c.cell 4 rfl
  have a5 := tA.c.cell 5 rfl
  clear tA
  go_wp2_with fail
  go_ret
  exact ⟨rfl, bA.out⟩
set_option maxHeartbeats 8000000 in
theorem back_port (T : Tu) (v : Value) (w : World) (h : RusAt w v T.rules) (hb : TuB T) (fa : TuFace) (s : ByteArray) (src fr : Int) (hi : T.ip = false) (h1 : s.size ≤ 1000) (ho : src = T.addr) (hp : fr ≠ T.tp) (DN : Hid (∀ w v, RusAt w v T.rules → Calls Try.prog 16 #[tuV T v, .int .u32 src, .int .i64 fr, .string s] w fun e w' => e = .returned (.tuple #[.string ⟨#[]⟩, .int .i64 15]) ∧ Below w.heap.size w w')) : Calls Try.prog 5 #[tuV T v, .string s, .int .u32 src, .int .i64 fr] w fun e w' => e = .returned (.bool true) ∧ Below w.heap.size w w' := by
  have x2 : ¬ (1000 : Int) < (s.size : Int) := by omega
  have x3 : ¬ 1000 < s.size := by omega
  clear h1
  subst ho
  have y1 : (fr == T.tp) = false := by simp [hp]
  have IT := Lib.hid fun w' (hr : RusAt w' v T.rules) => its_ok T v w' hr hb
  have WK := Lib.hid fun w' => works22_ok fa w'
  obtain ⟨a, n, c, rfl⟩ := h.form
  obtain ⟨tA, bA⟩ := TL.new h 34
  clear hb h fa
  obtain ⟨ip, addr, tp, own, port, rules, rt⟩ := T
  simp only at *
  subst hi
  unfold tuV at *
  obtain ⟨wA, hwA⟩ : ∃ x, x = w.alloc (.cells #[.bool false, .int .u32 addr, .int .i64 tp, .int .u32 own, .int .i64 port, .slice a n c] 34) := ⟨_, rfl⟩
  rw [← hwA] at tA bA
  replace hwA := Lib.hid hwA
  replace bA := Lib.hid bA
  go_enter Try.func5, Try.ntmps5
  go_upto_region 1 with fail
  rw [← hwA.out]
  clear hwA
  go_wp2_with fail
  refine (WK.out wA).mono ?_
  rintro e w1 ⟨rfl, bs⟩
  clear WK
  replace tA := tA.keep bs
  replace bA := Lib.hid (bA.out.trans (bs.mono bA.out.size))
  clear bs
  have a0 := tA.c.cell 0 rfl
  have a1 := tA.c.cell 1 rfl
  have a2 := tA.c.cell 2 rfl
  have a3 := tA.c.cell 3 rfl
  have a4 := tA.c.cell 4 rfl
  have a5 := tA.c.cell 5 rfl
  go_wp2_with fail
  refine (IT.out w1 tA.r).mono ?_
  rintro e w2 ⟨v', rfl, r2, bs⟩
  obtain ⟨a', n', c', rfl⟩ := r2.form
  clear IT a0 a1 a2 a3 a4 a5
  replace tA := tA.keep bs
  replace bA := Lib.hid (bA.out.trans (bs.mono bA.out.size))
  clear bs
  go_wp2_with fail
  refine (DN.out w2 _ r2).mono ?_
  rintro e w3 ⟨rfl, bs⟩
  clear DN r2
  replace tA := tA.keep bs
  replace bA := Lib.hid (bA.out.trans (bs.mono bA.out.size))
  clear bs
  have a0 := tA.c.cell 0 rfl
  have a1 := tA.c.cell 1 rfl
  have a2 := tA.c.cell 2 rfl
  have a3 := tA.c.cell 3 rfl
  have a4 := tA.c.cell 4 rfl
  have a5 := tA.c.cell 5 rfl
  clear tA
  go_wp2_with fail
  go_ret
  exact ⟨rfl, bA.out⟩
set_option maxHeartbeats 8000000 in
theorem back_pay (T : Tu) (v : Value) (w : World) (h : RusAt w v T.rules) (hb : TuB T) (fa : TuFace) (s : ByteArray) (src fr : Int) (hi : T.ip = false) (h1 : s.size ≤ 1000) (ho : src = T.addr) (hp : fr = T.tp) (DN : Hid (∀ w v, RusAt w v T.rules → Calls Try.prog 16 #[tuV T v, .int .u32 src, .int .i64 fr, .string s] w fun e w' => e = .returned (.tuple #[.string s, .int .i64 0]) ∧ Below w.heap.size w w')) : Calls Try.prog 5 #[tuV T v, .string s, .int .u32 src, .int .i64 fr] w fun e w' => e = .returned (.bool true) ∧ Below w.heap.size w w' := by
  have x2 : ¬ (1000 : Int) < (s.size : Int) := by omega
  have x3 : ¬ 1000 < s.size := by omega
  clear h1
  subst ho hp
  have IT := Lib.hid fun w' (hr : RusAt w' v T.rules) => its_ok T v w' hr hb
  have WK := Lib.hid fun w' => works22_ok fa w'
  obtain ⟨a, n, c, rfl⟩ := h.form
  obtain ⟨tA, bA⟩ := TL.new h 34
  clear hb h fa
  obtain ⟨ip, addr, tp, own, port, rules, rt⟩ := T
  simp only at *
  subst hi
  unfold tuV at *
  obtain ⟨wA, hwA⟩ : ∃ x, x = w.alloc (.cells #[.bool false, .int .u32 addr, .int .i64 tp, .int .u32 own, .int .i64 port, .slice a n c] 34) := ⟨_, rfl⟩
  rw [← hwA] at tA bA
  replace hwA := Lib.hid hwA
  replace bA := Lib.hid bA
  go_enter Try.func5, Try.ntmps5
  go_upto_region 1 with fail
  rw [← hwA.out]
  clear hwA
  go_wp2_with fail
  refine (WK.out wA).mono ?_
  rintro e w1 ⟨rfl, bs⟩
  clear WK
  replace tA := tA.keep bs
  replace bA := Lib.hid (bA.out.trans (bs.mono bA.out.size))
  clear bs
  have a0 := tA.c.cell 0 rfl
  have a1 := tA.c.cell 1 rfl
  have a2 := tA.c.cell 2 rfl
  have a3 := tA.c.cell 3 rfl
  have a4 := tA.c.cell 4 rfl
  have a5 := tA.c.cell 5 rfl
  go_wp2_with fail
  refine (IT.out w1 tA.r).mono ?_
  rintro e w2 ⟨v', rfl, r2, bs⟩
  obtain ⟨a', n', c', rfl⟩ := r2.form
  clear IT a0 a1 a2 a3 a4 a5
  replace tA := tA.keep bs
  replace bA := Lib.hid (bA.out.trans (bs.mono bA.out.size))
  clear bs
  go_wp2_with fail
  refine (DN.out w2 _ r2).mono ?_
  rintro e w3 ⟨rfl, bs⟩
  clear DN r2
  replace tA := tA.keep bs
  replace bA := Lib.hid (bA.out.trans (bs.mono bA.out.size))
  clear bs
  have a0 := tA.c.cell 0 rfl
  have a1 := tA.c.cell 1 rfl
  have a2 := tA.c.cell 2 rfl
  have a3 := tA.c.cell 3 rfl
  have a4 := tA.c.cell 4 rfl
  have a5 := tA.c.cell 5 rfl
  clear tA
  go_wp2_with fail
  go_ret
  exact ⟨rfl, bA.out⟩
set_option maxHeartbeats 8000000 in
theorem back_bad (T : Tu) (v : Value) (w : World) (h : RusAt w v T.rules) (hb : TuB T) (fa : TuFace) (s : ByteArray) (src fr : Int) (hi : T.ip = true) (h1 : s.size ≤ 1000) (k : Int) (hk : (k != 0) = true) (DN : Hid (∀ w v, RusAt w v T.rules → Calls Try.prog 16 #[tuV T v, .int .u32 src, .int .i64 fr, .string s] w fun e w' => e = .returned (.tuple #[.string ⟨#[]⟩, .int .i64 k]) ∧ Below w.heap.size w w')) (P1 : Hid (∀ w, Calls Try.prog 14 #[.string s] w fun e w' => e = .returned (.tuple #[none', .int .i64 k]) ∧ Below w.heap.size w w')) : Calls Try.prog 5 #[tuV T v, .string s, .int .u32 src, .int .i64 fr] w fun e w' => e = .returned (.bool true) ∧ Below w.heap.size w w' := by
  have x2 : ¬ (1000 : Int) < (s.size : Int) := by omega
  have x3 : ¬ 1000 < s.size := by omega
  clear h1
  unfold none' hv at P1
  have IT := Lib.hid fun w' (hr : RusAt w' v T.rules) => its_ok T v w' hr hb
  have WK := Lib.hid fun w' => works22_ok fa w'
  obtain ⟨a, n, c, rfl⟩ := h.form
  obtain ⟨tA, bA⟩ := TL.new h 34
  clear hb h fa
  obtain ⟨ip, addr, tp, own, port, rules, rt⟩ := T
  simp only at *
  subst hi
  unfold tuV at *
  obtain ⟨wA, hwA⟩ : ∃ x, x = w.alloc (.cells #[.bool true, .int .u32 addr, .int .i64 tp, .int .u32 own, .int .i64 port, .slice a n c] 34) := ⟨_, rfl⟩
  rw [← hwA] at tA bA
  replace hwA := Lib.hid hwA
  replace bA := Lib.hid bA
  go_enter Try.func5, Try.ntmps5
  go_upto_region 1 with fail
  rw [← hwA.out]
  clear hwA
  go_wp2_with fail
  refine (WK.out wA).mono ?_
  rintro e w1 ⟨rfl, bs⟩
  clear WK
  replace tA := tA.keep bs
  replace bA := Lib.hid (bA.out.trans (bs.mono bA.out.size))
  clear bs
  have a0 := tA.c.cell 0 rfl
  have a1 := tA.c.cell 1 rfl
  have a2 := tA.c.cell 2 rfl
  have a3 := tA.c.cell 3 rfl
  have a4 := tA.c.cell 4 rfl
  have a5 := tA.c.cell 5 rfl
  go_wp2_with fail
  refine (IT.out w1 tA.r).mono ?_
  rintro e w2 ⟨v', rfl, r2, bs⟩
  obtain ⟨a', n', c', rfl⟩ := r2.form
  clear IT a0 a1 a2 a3 a4 a5
  replace tA := tA.keep bs
  replace bA := Lib.hid (bA.out.trans (bs.mono bA.out.size))
  clear bs
  go_wp2_with fail
  refine (DN.out w2 _ r2).mono ?_
  rintro e w3 ⟨rfl, bs⟩
  clear DN r2
  replace tA := tA.keep bs
  replace bA := Lib.hid (bA.out.trans (bs.mono bA.out.size))
  clear bs
  generalize hgA : w.heap.size = gA at tA
  have a0 := tA.c.cell 0 rfl
  have a1 := tA.c.cell 1 rfl
  have a2 := tA.c.cell 2 rfl
  have a3 := tA.c.cell 3 rfl
  have a4 := tA.c.cell 4 rfl
  have a5 := tA.c.cell 5 rfl
  go_wp2_with fail
  refine (P1.out w3).mono ?_
  rintro e w4 ⟨rfl, b⟩
  clear P1 a0 a1 a2 a3 a4 a5
  go_upto_region 10 with fail
  have bz : Below w4.heap.size w4 (w4.alloc (.cells #[.int .i64 0, .int .i64 0, .int .i64 0, .int .i64 0, .int .i64 0, .int .u32 0, .int .u32 0, .string ⟨#[]⟩] 40)) := (Below.refl _ _).alloc (Nat.le_refl _) _
  have H1 : Lies (w4.alloc (.cells #[.int .i64 0, .int .i64 0, .int .i64 0, .int .i64 0, .int .i64 0, .int .u32 0, .int .u32 0, .string ⟨#[]⟩] 40)) w4.heap.size [.int .i64 0, .int .i64 0, .int .i64 0, .int .i64 0, .int .i64 0, .int .u32 0, .int .u32 0, .string ⟨#[]⟩] := Lies.new w4 [.int .i64 0, .int .i64 0, .int .i64 0, .int .i64 0, .int .i64 0, .int .u32 0, .int .u32 0, .string ⟨#[]⟩] _
  have bs := b.trans (bz.mono b.size)
  have neg1 : gA < w4.heap.size := Nat.lt_of_lt_of_le tA.lt b.size
  have log1 : 0 < (Tu.rules ⟨true, addr, tp, own, port, rules, rt⟩).length → ∀ g o n' c', Value.slice a n c = .slice (some ⟨g, o, none⟩) n' c' → g < w4.heap.size := fun h g o n' c' e => Nat.lt_of_lt_of_le (tA.r.low h g o n' c' e) b.size

  generalize w4.alloc (.cells #[.int .i64 0, .int .i64 0, .int .i64 0, .int .i64 0, .int .i64 0, .int .u32 0, .int .u32 0, .string ⟨#[]⟩] 40) = w5 at *
  generalize w4.heap.size = g1 at *
  clear bz b
  replace tA := tA.keep bs
  replace bA := Lib.hid (bA.out.trans (bs.mono bA.out.size))
  clear bs
  have a0 := tA.c.cell 0 rfl
  have a1 := tA.c.cell 1 rfl
  have a2 := tA.c.cell 2 rfl
  have a3 := tA.c.cell 3 rfl
  have a4 := tA.c.cell 4 rfl
  have a5 := tA.c.cell 5 rfl
  have h13 := H1.cell 3 rfl
  have h16 := H1.cell 6 rfl
  clear H1 tA
  go_wp2_with fail
  go_ret
  exact ⟨rfl, by rw [← hgA]; exact bA.out⟩
set_option maxHeartbeats 8000000 in
theorem back_dst (T : Tu) (v : Value) (w : World) (h : RusAt w v T.rules) (hb : TuB T) (fa : TuFace) (s : ByteArray) (src fr : Int) (hi : T.ip = true) (h1 : s.size ≤ 1000) (tos id frag ttl pro sr dst : Int) (dat : ByteArray) (ho : dst ≠ T.own) (DN : Hid (∀ w v, RusAt w v T.rules → Calls Try.prog 16 #[tuV T v, .int .u32 src, .int .i64 fr, .string s] w fun e w' => e = .returned (.tuple #[.string ⟨#[]⟩, .int .i64 15]) ∧ Below w.heap.size w w')) (P1 : Hid (∀ w, Calls Try.prog 14 #[.string s] w fun e w' => e = .returned (.tuple #[hv tos id frag ttl pro sr dst dat, .int .i64 0]) ∧ Below w.heap.size w w')) : Calls Try.prog 5 #[tuV T v, .string s, .int .u32 src, .int .i64 fr] w fun e w' => e = .returned (.bool true) ∧ Below w.heap.size w w' := by
  have x2 : ¬ (1000 : Int) < (s.size : Int) := by omega
  have x3 : ¬ 1000 < s.size := by omega
  clear h1
  have y1 : (dst != T.own) = true := by simp [ho]
  unfold hv at P1
  have IT := Lib.hid fun w' (hr : RusAt w' v T.rules) => its_ok T v w' hr hb
  have WK := Lib.hid fun w' => works22_ok fa w'
  obtain ⟨a, n, c, rfl⟩ := h.form
  obtain ⟨tA, bA⟩ := TL.new h 34
  clear hb h fa
  obtain ⟨ip, addr, tp, own, port, rules, rt⟩ := T
  simp only at *
  subst hi
  unfold tuV at *
  obtain ⟨wA, hwA⟩ : ∃ x, x = w.alloc (.cells #[.bool true, .int .u32 addr, .int .i64 tp, .int .u32 own, .int .i64 port, .slice a n c] 34) := ⟨_, rfl⟩
  rw [← hwA] at tA bA
  replace hwA := Lib.hid hwA
  replace bA := Lib.hid bA
  go_enter Try.func5, Try.ntmps5
  go_upto_region 1 with fail
  rw [← hwA.out]
  clear hwA
  go_wp2_with fail
  refine (WK.out wA).mono ?_
  rintro e w1 ⟨rfl, bs⟩
  clear WK
  replace tA := tA.keep bs
  replace bA := Lib.hid (bA.out.trans (bs.mono bA.out.size))
  clear bs
  have a0 := tA.c.cell 0 rfl
  have a1 := tA.c.cell 1 rfl
  have a2 := tA.c.cell 2 rfl
  have a3 := tA.c.cell 3 rfl
  have a4 := tA.c.cell 4 rfl
  have a5 := tA.c.cell 5 rfl
  go_wp2_with fail
  refine (IT.out w1 tA.r).mono ?_
  rintro e w2 ⟨v', rfl, r2, bs⟩
  obtain ⟨a', n', c', rfl⟩ := r2.form
  clear IT a0 a1 a2 a3 a4 a5
  replace tA := tA.keep bs
  replace bA := Lib.hid (bA.out.trans (bs.mono bA.out.size))
  clear bs
  go_wp2_with fail
  refine (DN.out w2 _ r2).mono ?_
  rintro e w3 ⟨rfl, bs⟩
  clear DN r2
  replace tA := tA.keep bs
  replace bA := Lib.hid (bA.out.trans (bs.mono bA.out.size))
  clear bs
  generalize hgA : w.heap.size = gA at tA
  have a0 := tA.c.cell 0 rfl
  have a1 := tA.c.cell 1 rfl
  have a2 := tA.c.cell 2 rfl
  have a3 := tA.c.cell 3 rfl
  have a4 := tA.c.cell 4 rfl
  have a5 := tA.c.cell 5 rfl
  go_wp2_with fail
  refine (P1.out w3).mono ?_
  rintro e w4 ⟨rfl, b⟩
  clear P1 a0 a1 a2 a3 a4 a5
  go_upto_region 10 with fail
  have bz : Below w4.heap.size w4 (w4.alloc (.cells #[.int .i64 tos, .int .i64 id, .int .i64 frag, .int .i64 ttl, .int .i64 pro, .int .u32 sr, .int .u32 dst, .string dat] 40)) := (Below.refl _ _).alloc (Nat.le_refl _) _
  have H1 : Lies (w4.alloc (.cells #[.int .i64 tos, .int .i64 id, .int .i64 frag, .int .i64 ttl, .int .i64 pro, .int .u32 sr, .int .u32 dst, .string dat] 40)) w4.heap.size [.int .i64 tos, .int .i64 id, .int .i64 frag, .int .i64 ttl, .int .i64 pro, .int .u32 sr, .int .u32 dst, .string dat] := Lies.new w4 [.int .i64 tos, .int .i64 id, .int .i64 frag, .int .i64 ttl, .int .i64 pro, .int .u32 sr, .int .u32 dst, .string dat] _
  have bs := b.trans (bz.mono b.size)
  have neg1 : gA < w4.heap.size := Nat.lt_of_lt_of_le tA.lt b.size
  have log1 : 0 < (Tu.rules ⟨true, addr, tp, own, port, rules, rt⟩).length → ∀ g o n' c', Value.slice a n c = .slice (some ⟨g, o, none⟩) n' c' → g < w4.heap.size := fun h g o n' c' e => Nat.lt_of_lt_of_le (tA.r.low h g o n' c' e) b.size

  generalize w4.alloc (.cells #[.int .i64 tos, .int .i64 id, .int .i64 frag, .int .i64 ttl, .int .i64 pro, .int .u32 sr, .int .u32 dst, .string dat] 40) = w5 at *
  generalize w4.heap.size = g1 at *
  clear bz b
  replace tA := tA.keep bs
  replace bA := Lib.hid (bA.out.trans (bs.mono bA.out.size))
  clear bs
  have a0 := tA.c.cell 0 rfl
  have a1 := tA.c.cell 1 rfl
  have a2 := tA.c.cell 2 rfl
  have a3 := tA.c.cell 3 rfl
  have a4 := tA.c.cell 4 rfl
  have a5 := tA.c.cell 5 rfl
  have h13 := H1.cell 3 rfl
  have h16 := H1.cell 6 rfl
  clear H1 tA
  go_wp2_with fail
  go_ret
  exact ⟨rfl, by rw [← hgA]; exact bA.out⟩
set_option maxHeartbeats 8000000 in
theorem back_ttl (T : Tu) (v : Value) (w : World) (h : RusAt w v T.rules) (hb : TuB T) (fa : TuFace) (s : ByteArray) (src fr : Int) (hi : T.ip = true) (h1 : s.size ≤ 1000) (tos id frag ttl pro sr dst : Int) (dat : ByteArray) (ho : dst = T.own) (ht : ttl < 2) (DN : Hid (∀ w v, RusAt w v T.rules → Calls Try.prog 16 #[tuV T v, .int .u32 src, .int .i64 fr, .string s] w fun e w' => e = .returned (.tuple #[.string ⟨#[]⟩, .int .i64 2]) ∧ Below w.heap.size w w')) (P1 : Hid (∀ w, Calls Try.prog 14 #[.string s] w fun e w' => e = .returned (.tuple #[hv tos id frag ttl pro sr dst dat, .int .i64 0]) ∧ Below w.heap.size w w')) : Calls Try.prog 5 #[tuV T v, .string s, .int .u32 src, .int .i64 fr] w fun e w' => e = .returned (.bool true) ∧ Below w.heap.size w w' := by
  have x2 : ¬ (1000 : Int) < (s.size : Int) := by omega
  have x3 : ¬ 1000 < s.size := by omega
  clear h1
  subst ho
  unfold hv at P1
  have IT := Lib.hid fun w' (hr : RusAt w' v T.rules) => its_ok T v w' hr hb
  have WK := Lib.hid fun w' => works22_ok fa w'
  obtain ⟨a, n, c, rfl⟩ := h.form
  obtain ⟨tA, bA⟩ := TL.new h 34
  clear hb h fa
  obtain ⟨ip, addr, tp, own, port, rules, rt⟩ := T
  simp only at *
  subst hi
  unfold tuV at *
  obtain ⟨wA, hwA⟩ : ∃ x, x = w.alloc (.cells #[.bool true, .int .u32 addr, .int .i64 tp, .int .u32 own, .int .i64 port, .slice a n c] 34) := ⟨_, rfl⟩
  rw [← hwA] at tA bA
  replace hwA := Lib.hid hwA
  replace bA := Lib.hid bA
  go_enter Try.func5, Try.ntmps5
  go_upto_region 1 with fail
  rw [← hwA.out]
  clear hwA
  go_wp2_with fail
  refine (WK.out wA).mono ?_
  rintro e w1 ⟨rfl, bs⟩
  clear WK
  replace tA := tA.keep bs
  replace bA := Lib.hid (bA.out.trans (bs.mono bA.out.size))
  clear bs
  have a0 := tA.c.cell 0 rfl
  have a1 := tA.c.cell 1 rfl
  have a2 := tA.c.cell 2 rfl
  have a3 := tA.c.cell 3 rfl
  have a4 := tA.c.cell 4 rfl
  have a5 := tA.c.cell 5 rfl
  go_wp2_with fail
  refine (IT.out w1 tA.r).mono ?_
  rintro e w2 ⟨v', rfl, r2, bs⟩
  obtain ⟨a', n', c', rfl⟩ := r2.form
  clear IT a0 a1 a2 a3 a4 a5
  replace tA := tA.keep bs
  replace bA := Lib.hid (bA.out.trans (bs.mono bA.out.size))
  clear bs
  go_wp2_with fail
  refine (DN.out w2 _ r2).mono ?_
  rintro e w3 ⟨rfl, bs⟩
  clear DN r2
  replace tA := tA.keep bs
  replace bA := Lib.hid (bA.out.trans (bs.mono bA.out.size))
  clear bs
  generalize hgA : w.heap.size = gA at tA
  have a0 := tA.c.cell 0 rfl
  have a1 := tA.c.cell 1 rfl
  have a2 := tA.c.cell 2 rfl
  have a3 := tA.c.cell 3 rfl
  have a4 := tA.c.cell 4 rfl
  have a5 := tA.c.cell 5 rfl
  go_wp2_with fail
  refine (P1.out w3).mono ?_
  rintro e w4 ⟨rfl, b⟩
  clear P1 a0 a1 a2 a3 a4 a5
  go_upto_region 10 with fail
  have bz : Below w4.heap.size w4 (w4.alloc (.cells #[.int .i64 tos, .int .i64 id, .int .i64 frag, .int .i64 ttl, .int .i64 pro, .int .u32 sr, .int .u32 own, .string dat] 40)) := (Below.refl _ _).alloc (Nat.le_refl _) _
  have H1 : Lies (w4.alloc (.cells #[.int .i64 tos, .int .i64 id, .int .i64 frag, .int .i64 ttl, .int .i64 pro, .int .u32 sr, .int .u32 own, .string dat] 40)) w4.heap.size [.int .i64 tos, .int .i64 id, .int .i64 frag, .int .i64 ttl, .int .i64 pro, .int .u32 sr, .int .u32 own, .string dat] := Lies.new w4 [.int .i64 tos, .int .i64 id, .int .i64 frag, .int .i64 ttl, .int .i64 pro, .int .u32 sr, .int .u32 own, .string dat] _
  have bs := b.trans (bz.mono b.size)
  have neg1 : gA < w4.heap.size := Nat.lt_of_lt_of_le tA.lt b.size
  have log1 : 0 < (Tu.rules ⟨true, addr, tp, own, port, rules, rt⟩).length → ∀ g o n' c', Value.slice a n c = .slice (some ⟨g, o, none⟩) n' c' → g < w4.heap.size := fun h g o n' c' e => Nat.lt_of_lt_of_le (tA.r.low h g o n' c' e) b.size

  generalize w4.alloc (.cells #[.int .i64 tos, .int .i64 id, .int .i64 frag, .int .i64 ttl, .int .i64 pro, .int .u32 sr, .int .u32 own, .string dat] 40) = w5 at *
  generalize w4.heap.size = g1 at *
  clear bz b
  replace tA := tA.keep bs
  replace bA := Lib.hid (bA.out.trans (bs.mono bA.out.size))
  clear bs
  have a0 := tA.c.cell 0 rfl
  have a1 := tA.c.cell 1 rfl
  have a2 := tA.c.cell 2 rfl
  have a3 := tA.c.cell 3 rfl
  have a4 := tA.c.cell 4 rfl
  have a5 := tA.c.cell 5 rfl
  have h13 := H1.cell 3 rfl
  have h16 := H1.cell 6 rfl
  clear H1 tA
  go_wp2_with fail
  go_ret
  exact ⟨rfl, by rw [← hgA]; exact bA.out⟩
set_option maxHeartbeats 16000000 in
theorem back_go (T : Tu) (v : Value) (w : World) (h : RusAt w v T.rules) (hb : TuB T) (fa : TuFace) (s : ByteArray) (src fr : Int) (hi : T.ip = true) (h1 : s.size ≤ 1000) (tos id frag ttl pro sr dst : Int) (dat : ByteArray) (t1 : Int) (x : ByteArray) (ho : dst = T.own) (ht : ¬ ttl < 2) (wt : wrap64 (ttl - 1) = t1) (DN : Hid (∀ w v, RusAt w v T.rules → Calls Try.prog 16 #[tuV T v, .int .u32 src, .int .i64 fr, .string s] w fun e w' => e = .returned (.tuple #[.string x, .int .i64 0]) ∧ Below w.heap.size w w')) (P1 : Hid (∀ w, Calls Try.prog 14 #[.string s] w fun e w' => e = .returned (.tuple #[hv tos id frag ttl pro sr dst dat, .int .i64 0]) ∧ Below w.heap.size w w')) (P2 : Hid (∀ w, Calls Try.prog 14 #[.string x] w fun e w' => e = .returned (.tuple #[hv tos id frag t1 pro sr dst dat, .int .i64 0]) ∧ Below w.heap.size w w')) : Calls Try.prog 5 #[tuV T v, .string s, .int .u32 src, .int .i64 fr] w fun e w' => e = .returned (.bool true) ∧ Below w.heap.size w w' := by
  have x2 : ¬ (1000 : Int) < (s.size : Int) := by omega
  have x3 : ¬ 1000 < s.size := by omega
  clear h1
  subst ho
  unfold hv at P1 P2
  replace wt := Lib.hid wt
  have IT := Lib.hid fun w' (hr : RusAt w' v T.rules) => its_ok T v w' hr hb
  have WK := Lib.hid fun w' => works22_ok fa w'
  obtain ⟨a, n, c, rfl⟩ := h.form
  obtain ⟨tA, bA⟩ := TL.new h 34
  clear hb h fa
  obtain ⟨ip, addr, tp, own, port, rules, rt⟩ := T
  simp only at *
  subst hi
  unfold tuV at *
  obtain ⟨wA, hwA⟩ : ∃ x, x = w.alloc (.cells #[.bool true, .int .u32 addr, .int .i64 tp, .int .u32 own, .int .i64 port, .slice a n c] 34) := ⟨_, rfl⟩
  rw [← hwA] at tA bA
  replace hwA := Lib.hid hwA
  replace bA := Lib.hid bA
  go_enter Try.func5, Try.ntmps5
  go_upto_region 1 with fail
  rw [← hwA.out]
  clear hwA
  go_wp2_with fail
  refine (WK.out wA).mono ?_
  rintro e w1 ⟨rfl, bs⟩
  clear WK
  replace tA := tA.keep bs
  replace bA := Lib.hid (bA.out.trans (bs.mono bA.out.size))
  clear bs
  have a0 := tA.c.cell 0 rfl
  have a1 := tA.c.cell 1 rfl
  have a2 := tA.c.cell 2 rfl
  have a3 := tA.c.cell 3 rfl
  have a4 := tA.c.cell 4 rfl
  have a5 := tA.c.cell 5 rfl
  go_wp2_with fail
  refine (IT.out w1 tA.r).mono ?_
  rintro e w2 ⟨v', rfl, r2, bs⟩
  obtain ⟨a', n', c', rfl⟩ := r2.form
  clear IT a0 a1 a2 a3 a4 a5
  replace tA := tA.keep bs
  replace bA := Lib.hid (bA.out.trans (bs.mono bA.out.size))
  clear bs
  go_wp2_with fail
  refine (DN.out w2 _ r2).mono ?_
  rintro e w3 ⟨rfl, bs⟩
  clear DN r2
  replace tA := tA.keep bs
  replace bA := Lib.hid (bA.out.trans (bs.mono bA.out.size))
  clear bs
  generalize hgA : w.heap.size = gA at tA
  have a0 := tA.c.cell 0 rfl
  have a1 := tA.c.cell 1 rfl
  have a2 := tA.c.cell 2 rfl
  have a3 := tA.c.cell 3 rfl
  have a4 := tA.c.cell 4 rfl
  have a5 := tA.c.cell 5 rfl
  go_wp2_with fail
  refine (P1.out w3).mono ?_
  rintro e w4 ⟨rfl, b⟩
  clear P1 a0 a1 a2 a3 a4 a5
  go_upto_region 10 with fail
  have bz : Below w4.heap.size w4 (w4.alloc (.cells #[.int .i64 tos, .int .i64 id, .int .i64 frag, .int .i64 ttl, .int .i64 pro, .int .u32 sr, .int .u32 own, .string dat] 40)) := (Below.refl _ _).alloc (Nat.le_refl _) _
  have H1 : Lies (w4.alloc (.cells #[.int .i64 tos, .int .i64 id, .int .i64 frag, .int .i64 ttl, .int .i64 pro, .int .u32 sr, .int .u32 own, .string dat] 40)) w4.heap.size [.int .i64 tos, .int .i64 id, .int .i64 frag, .int .i64 ttl, .int .i64 pro, .int .u32 sr, .int .u32 own, .string dat] := Lies.new w4 [.int .i64 tos, .int .i64 id, .int .i64 frag, .int .i64 ttl, .int .i64 pro, .int .u32 sr, .int .u32 own, .string dat] _
  have bs := b.trans (bz.mono b.size)
  have neg1 : gA < w4.heap.size := Nat.lt_of_lt_of_le tA.lt b.size
  have log1 : 0 < (Tu.rules ⟨true, addr, tp, own, port, rules, rt⟩).length → ∀ g o n' c', Value.slice a n c = .slice (some ⟨g, o, none⟩) n' c' → g < w4.heap.size := fun h g o n' c' e => Nat.lt_of_lt_of_le (tA.r.low h g o n' c' e) b.size

  generalize w4.alloc (.cells #[.int .i64 tos, .int .i64 id, .int .i64 frag, .int .i64 ttl, .int .i64 pro, .int .u32 sr, .int .u32 own, .string dat] 40) = w5 at *
  generalize w4.heap.size = g1 at *
  clear bz b
  replace tA := tA.keep bs
  replace bA := Lib.hid (bA.out.trans (bs.mono bA.out.size))
  clear bs
  have a0 := tA.c.cell 0 rfl
  have a1 := tA.c.cell 1 rfl
  have a2 := tA.c.cell 2 rfl
  have a3 := tA.c.cell 3 rfl
  have a4 := tA.c.cell 4 rfl
  have a5 := tA.c.cell 5 rfl
  have h13 := H1.cell 3 rfl
  have h16 := H1.cell 6 rfl
  go_wp2_with fail
  refine (P2.out w5).mono ?_
  rintro e w6 ⟨rfl, b⟩
  clear P2 a0 a1 a2 a3 a4 a5 h13 h16
  go_upto_region 13 with fail
  have bz : Below w6.heap.size w6 (w6.alloc (.cells #[.int .i64 tos, .int .i64 id, .int .i64 frag, .int .i64 t1, .int .i64 pro, .int .u32 sr, .int .u32 own, .string dat] 40)) := (Below.refl _ _).alloc (Nat.le_refl _) _
  have H2 : Lies (w6.alloc (.cells #[.int .i64 tos, .int .i64 id, .int .i64 frag, .int .i64 t1, .int .i64 pro, .int .u32 sr, .int .u32 own, .string dat] 40)) w6.heap.size [.int .i64 tos, .int .i64 id, .int .i64 frag, .int .i64 t1, .int .i64 pro, .int .u32 sr, .int .u32 own, .string dat] := Lies.new w6 [.int .i64 tos, .int .i64 id, .int .i64 frag, .int .i64 t1, .int .i64 pro, .int .u32 sr, .int .u32 own, .string dat] _
  have bs := b.trans (bz.mono b.size)
  have neg2 : gA < w6.heap.size := Nat.lt_of_lt_of_le tA.lt b.size
  have log2 : 0 < (Tu.rules ⟨true, addr, tp, own, port, rules, rt⟩).length → ∀ g o n' c', Value.slice a n c = .slice (some ⟨g, o, none⟩) n' c' → g < w6.heap.size := fun h g o n' c' e => Nat.lt_of_lt_of_le (tA.r.low h g o n' c' e) b.size
  have nH1g2 := Nat.lt_of_lt_of_le (H1.lt (by show 0 < 8; decide)) b.size
  generalize w6.alloc (.cells #[.int .i64 tos, .int .i64 id, .int .i64 frag, .int .i64 t1, .int .i64 pro, .int .u32 sr, .int .u32 own, .string dat] 40) = w7 at *
  generalize w6.heap.size = g2 at *
  clear bz b
  replace tA := tA.keep bs
  replace H1 := H1.keep (by show 0 < 8; decide) bs
  replace bA := Lib.hid (bA.out.trans (bs.mono bA.out.size))
  clear bs
  have h3 := H1.cell 3 rfl
  have f3 := H1.free 3 (by show 3 < 8; decide)
  go_upto_region 14 with fail
  rw [wt.out]
  have H3 := H1.put 3 (by show 3 < 8; decide) (.int .i64 t1)
  have kk : Kept (fun k => k = g1) w7 (w7.setCell ⟨g1, 3, none⟩ (.int .i64 t1)) := (Kept.refl (fun k => k = g1) w7).set ⟨g1, 3, none⟩ rfl _
  have lH := H2.lt (by show 0 < 8; decide)
  replace H2 := H2.of_block (kk.block g2 lH (by omega))
  replace bA := Lib.hid (bA.out.trans (kk.below bA.out.size (fun k q => by rw [q, hgA]; exact Nat.le_of_lt neg1)))
  simp only [List.set_cons_succ, List.set_cons_zero] at H3
  clear kk H1 h3 f3 lH wt neg1 neg2 log1 log2 nH1g2 tA
  generalize w7.setCell ⟨g1, 3, none⟩ (.int .i64 t1) = w8 at *
  have k0 := H2.cell 0 rfl
  have q0 := H3.cell 0 rfl
  have k1 := H2.cell 1 rfl
  have q1 := H3.cell 1 rfl
  have k2 := H2.cell 2 rfl
  have q2 := H3.cell 2 rfl
  have k3 := H2.cell 3 rfl
  have q3 := H3.cell 3 rfl
  have k4 := H2.cell 4 rfl
  have q4 := H3.cell 4 rfl
  have k5 := H2.cell 5 rfl
  have q5 := H3.cell 5 rfl
  have k6 := H2.cell 6 rfl
  have q6 := H3.cell 6 rfl
  have k7 := H2.cell 7 rfl
  have q7 := H3.cell 7 rfl
  clear H2 H3
  go_wp2_with fail
  go_ret
  exact ⟨rfl, bA.out⟩
theorem walk (fa : TuFace) (T : Tu) (v : Value) (w : World) (h : RusAt w v T.rules) (hb : TuB T) (s : ByteArray) (hs : s.size ≤ 140737488351232) (src fr : Int) : Calls Try.prog 5 #[tuV T v, .string s, .int .u32 src, .int .i64 fr] w fun e w' => e = .returned (.bool true) ∧ Below w.heap.size w w' := by
  have D : ∀ x k, dnS T src fr s = x → dnE T src fr s = k → ∀ w v, RusAt w v T.rules → Calls Try.prog 16 #[tuV T v, .int .u32 src, .int .i64 fr, .string s] w fun e w' => e = .returned (.tuple #[.string x, .int .i64 k]) ∧ Below w.heap.size w w' := fun x k e1 e2 w v hr => by
    have := fa.dn T v w hr hb src fr s hs
    rw [e1, e2] at this
    exact this
  have no : ∀ k, dnE T src fr s = k → k ≠ 0 → dnS T src fr s = ⟨#[]⟩ := fun k e q => by unfold dnS; rw [if_pos (by rw [e]; exact q)]
  by_cases h1 : 1000 < s.size
  · have e : dnE T src fr s = 8 := by unfold dnE; rw [if_pos h1]
    cases hi : T.ip with
    | true => exact back_long_true T v w h hb fa s src fr hi h1 (D _ _ (no _ e (by decide)) e)
    | false => exact back_long_false T v w h hb fa s src fr hi h1 (D _ _ (no _ e (by decide)) e)
  have h2 : s.size ≤ 1000 := by omega
  cases hi : T.ip with
  | false =>
    have e : dnE T src fr s = if src ≠ T.addr ∨ fr ≠ T.tp then 15 else 0 := by unfold dnE; rw [if_neg h1, if_pos hi]
    by_cases ho : src = T.addr
    · by_cases hp : fr = T.tp
      · rw [if_neg (by simp [ho, hp])] at e
        exact back_pay T v w h hb fa s src fr hi h2 ho hp (D _ _ (by unfold dnS; rw [if_neg (by rw [e]; decide), if_pos hi]) e)
      · rw [if_pos (.inr hp)] at e
        exact back_port T v w h hb fa s src fr hi h2 ho hp (D _ _ (no _ e (by decide)) e)
    · rw [if_pos (.inl ho)] at e
      exact back_addr T v w h hb fa s src fr hi h2 ho (D _ _ (no _ e (by decide)) e)
  | true =>
    have e : dnE T src fr s = if errOf s ≠ 0 then errOf s else if dstP s ≠ T.own then 15 else hopE s := by unfold dnE; rw [if_neg h1, if_neg (by rw [hi]; decide)]
    by_cases hE : errOf s ≠ 0
    · rw [if_pos hE] at e
      exact back_bad T v w h hb fa s src fr hi h2 _ (by simpa using hE) (D _ _ (no _ e hE) e) fun w => rparse_none s w (by omega) hE
    rw [if_neg hE] at e
    have hE : errOf s = 0 := by simpa using hE
    have PA : ∀ w, Calls Try.prog 14 #[.string s] w fun e w' => e = .returned (.tuple #[hv (num (byt s) 1 1) (num (byt s) 4 2) (num (byt s) 6 2) (ttlP s) (proP s) (srcP s) (dstP s) (datP s), .int .i64 0]) ∧ Below w.heap.size w w' := fun w => rparse_hd s w (by omega) hE
    by_cases ho : dstP s = T.own
    · rw [if_neg (by simpa using ho)] at e
      by_cases ht : ttlP s < 2
      · rw [hopE_low hE ht] at e
        exact back_ttl T v w h hb fa s src fr hi h2 _ _ _ _ _ _ _ _ ho ht (D _ _ (no _ e (by decide)) e) PA
      · have hz := hopE_go hE ht
        rw [hz] at e
        obtain ⟨n1, n2, n3⟩ := hop_next hz
        have tb := ttl_bd s
        exact back_go T v w h hb fa s src fr hi h2 _ _ _ _ _ _ _ _ (ttlP s - 1) (hopS s) ho ht (wrap_in rfl (by omega) (by omega)) (D _ _ (by unfold dnS; rw [if_neg (by rw [e]; decide), if_neg (by rw [hi]; decide)]) e) PA fun w => by
          have := rparse_ok (hopS s) w (by omega)
          rw [n1, n2] at this
          exact this
    · rw [if_pos ho] at e
      exact back_dst T v w h hb fa s src fr hi h2 _ _ _ _ _ _ _ _ ho (D _ _ (no _ e (by decide)) e) PA

theorem contract (H : Type) (enc : TypeId × Value → H) (W : World) (base : Nat) (args : Array Value) (ds gs : List (DataW H)) (before : List MemPlace)
    (hval : ∀ (j : Nat) t v, Try.f5.params[j]? = some t → args[j]? = some v → Value.okWide Try.prog W .any base t v)
    (hW : DataW.Whole enc Try.prog Try.f5.params.toList Rows.tunnelBackSpec.vars false W args.toList ds gs before)
    (hsz : (DataW.weightsEach Try.prog (Try.f5.params.toList ++ (OpenSpec.ofChange Rows.tunnelBackSpec).bare.plain.varTypes Try.prog) (ds ++ gs)).all (· ≤ reachBytes) = true) :
    Calls Try.prog 5 args W fun e W' => ∃ v, e = .returned v ∧ Rows.tunnelBackSpec.post enc Try.prog Try.f5 false true false false W args v W' := by
  have hW' := hW
  obtain ⟨p, q, hA0, hV, rfl, hfz, hnd⟩ := hW
  have hA : DataW.TrodAll enc Try.prog W 0 (fun _ => true) true Try.f5.params.toList args.toList ds p := hA0
  rw [Try.params5] at hA hval hsz
  obtain ⟨v0, vs0, d0, ds0, p0, q0, hargs, rfl, rfl, h0, r0⟩ := trodAll_cons hA
  obtain ⟨v1, vs1, d1, ds1, p1, q1, rfl, rfl, rfl, h1, r1⟩ := trodAll_cons r0
  obtain ⟨v2, vs2, d2, ds2, p2, q2, rfl, rfl, rfl, h2, r2⟩ := trodAll_cons r1
  obtain ⟨v3, vs3, d3, ds3, p3, q3, rfl, rfl, rfl, h3, r3⟩ := trodAll_cons r2
  obtain ⟨rfl, rfl, rfl⟩ := trodAll_nil r3
  obtain rfl : args = #[v0, v1, v2, v3] := by cases args; simp_all
  obtain ⟨rfl, rfl⟩ := trodVars_none hV
  have k0 := h0
  have lt0 : ∀ x ∈ p0, x.block < W.heap.size := by obtain ⟨m, hm⟩ := k0; exact DataW.trod_lt m _ _ _ hm
  obtain ⟨rtf0, hrt0⟩ := some_rt
  obtain ⟨T0, g0, rfl, hs0, hb0, hr0⟩ := open_tun rtf0 (hval 0 34 v0 rfl rfl) h0 (fun n hn => by simpa using List.all_eq_true.1 hsz _ (DataW.weights_mem_each (j := 0) (t := 34) rfl rfl n hn))
  obtain ⟨a1, rfl, rfl, rfl, w1⟩ := open_string Try.underlying9 (hval 1 9 v1 rfl rfl) h1
  obtain ⟨a2, rfl, rfl, rfl, w2⟩ := open_int Try.underlying22 (hval 2 22 v2 rfl rfl) h2
  have b2 := bounds_u32 w2
  obtain ⟨a3, rfl, rfl, rfl, w3⟩ := open_int Try.underlying3 (hval 3 3 v3 rfl rfl) h3
  have b3 := bounds_i64 w3
  have z1 : a1.size ≤ 140737488351232 := by
    have hz := sized_string hsz (j := 1) (t := 9) (bytes := a1.data.toList) rfl rfl
    simpa [reachBytes] using hz
  clear hA0
  simp only [List.append_nil] at hW'
  refine (walk face22 T0 g0 W hs0 hb0 a1 z1 a2 a3).mono fun e W' ⟨he, bel⟩ => ?_
  subst he
  exact ⟨_, rfl, _, _, _, [], _, [], hW', trodAll_mk1 (shut_bool Try.underlying4 _), (trodAll_cons_mk (Below.trod laidOut (by kernel_rfl) (of_decide_eq_true (by kernel_rfl)) k0 bel lt0) (trodAll_cons_mk (shut_string Try.underlying9 w1) (trodAll_cons_mk (shut_int Try.underlying22 w2) (trodAll_cons_mk (shut_int Try.underlying3 w3) trodAll_mk0)))), rfl, bel.frame _, fun h => by cases h⟩

theorem laid_met (os : Os) : laidMet Try.prog Rows.tunnelBackRow.laid ((startWorld Try.prog os).forCall (fun _ _ => 0) ⟨#[], #[.agg #[.bool false, .int .u32 0, .int .i64 0, .int .u32 0, .int .i64 0, .slice none 0 0], .string ByteArray.empty, .int .u32 0, .int .i64 0], []⟩).memory :=
  laidMet_of_run' 8 (by kernel_rfl) (by kernel_rfl)
theorem reads (os : Os) {H : Type} (enc : TypeId × Value → H) : ∃ places, DataW.whole enc Try.prog ((startWorld Try.prog os).forCall (fun _ _ => 0) ⟨#[], #[.agg #[.bool false, .int .u32 0, .int .i64 0, .int .u32 0, .int .i64 0, .slice none 0 0], .string ByteArray.empty, .int .u32 0, .int .i64 0], []⟩).memory Try.f5.params.toList Rows.tunnelBackSpec.vars false #[Value.agg #[.bool false, .int .u32 0, .int .i64 0, .int .u32 0, .int .i64 0, .slice none 0 0], Value.string ByteArray.empty, Value.int .u32 0, Value.int .i64 0].toList 8 = some ([.agg [.agg [.lit (.bool false), .lit (.int .u32 0), .lit (.int .i64 0)], .lit (.int .u32 0), .lit (.int .i64 0), .nil], .lit (.string []), .lit (.int .u32 0), .lit (.int .i64 0)], [], places) :=
  ⟨[], by kernel_rfl⟩

set_option maxRecDepth 100000 in
theorem lifted (os : Os) (started : os.Started) (H : Type) (enc : TypeId × Value → H) (F : Stop.Interp) :
    ReturnsInHanded {} Try.checked os 5 .any ((OpenSpec.ofChange Rows.tunnelBackSpec).preRow enc Try.prog Try.f5 Rows.tunnelBackRow.domain false Rows.tunnelBackRow.laid) (((OpenSpec.ofChange Rows.tunnelBackSpec).at F).post enc Try.prog Try.f5 false true false false) := by
  obtain ⟨places, hx⟩ := reads os enc
  refine returnsInHanded_of_row (C := Try.checked) (s := OpenSpec.ofChange Rows.tunnelBackSpec) own started (by kernel_rfl) Try.func5
    (witness_row_at (enc := enc) (C := Try.checked) false (startWorld Try.prog os) #[.agg #[.bool false, .int .u32 0, .int .i64 0, .int .u32 0, .int .i64 0, .slice none 0 0], .string ByteArray.empty, .int .u32 0, .int .i64 0] rfl (by kernel_rfl) (by kernel_rfl) (by kernel_rfl)
      (OpenSpec.preRow_of_cond 8 hx (by kernel_rfl) (fun k hk => by cases hk) (by kernel_rfl) (laid_met os))) ?_
  intro W base args ds gs before hval hW _ _ hsz _ _ _
  exact contract H enc W base args ds gs before hval hW hsz

theorem said : Rows.TunnelBackSaid :=
  OpenClaim.holds_of_cond 5 Try.f5 rfl rfl rfl rfl rfl rfl rfl ⟨rfl, rfl, rfl, rfl, rfl⟩ rfl rfl rfl rfl rfl (by kernel_rfl) Try.func5 (by kernel_rfl)
    (of_decide_eq_true (by kernel_rfl)) (by unfold Func.isWrapper; first | (rw [if_pos (by decide +kernel)]; kernel_rfl) | (rw [if_neg (by decide +kernel)]; exact ⟨rfl, rfl⟩))
    (fun os started H enc _ F => by rw [OpenClaim.pre_eq_preRow]; exact lifted os started H enc F)
end Go.Proofs.Ytndaohiecpdmlaa.tunnelBack
namespace Go.Proofs.Ytndaohiecpdmlaa
theorem tunnelBack_said : Rows.TunnelBackSaid := tunnelBack.said
end Go.Proofs.Ytndaohiecpdmlaa
