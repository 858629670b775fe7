/-
  The law TunnelPolicy returns true for every tunnel and all bytes: to whatever goes up the rules say yes, as it stands in what goes; of packets its source is the tenant's own address, and it is what came, a hop further. No condition but the statement's own bound of an argument's bytes.
-/
import Derived.Test.YtndaohiecpdmlaaTuPgU
import Derived.Test.YtndaohiecpdmlaaTuWk
import Derived.Test.YtndaohiecpdmlaaTuPorts
import Derived.Test.YtndaohiecpdmlaaPoRefA
import Derived.Test.YtndaohiecpdmlaaTuOpen
import Derived.LaidLaws
namespace Go.Proofs.Ytndaohiecpdmlaa.tunnelPolicy
set_option maxRecDepth 100000
open Go.ChangeShapes Go.WideShapes Go.ChangeAt Go.RowKit Go.Sort
open Go.ChangeMaps (open_string shut_string)
theorem some_rt : ∃ rt : List Ru → Bool, rt [] = false := ⟨fun _ => false, rfl⟩

set_option maxHeartbeats 8000000 in
theorem pol_no_true (T : Tu) (v : Value) (w : World) (h : RusAt w v T.rules) (hb : TuB T) (fa : TuFace) (s : ByteArray) (hi : T.ip = true) (k : Int) (hk : (k != 0) = true) (UP : Hid (∀ w v, RusAt w v T.rules → Calls Try.prog 12 #[tuV T v, .string s] w fun e w' => e = .returned (.tuple #[.agg #[.bool false, .int .i64 0, .int .u32 0, .int .i64 0, .string ⟨#[]⟩], .int .i64 k]) ∧ Below w.heap.size w w')) : Calls Try.prog 4 #[tuV T v, .string s] w fun e w' => e = .returned (.bool true) ∧ Below w.heap.size w w' := by
  have IT := Lib.hid fun w' (hr : RusAt w' v T.rules) => its_ok T v w' hr hb
  have WK := Lib.hid fun w' => works22_ok fa w'
  obtain ⟨a, n, c, rfl⟩ := h.form
  obtain ⟨tA, bA⟩ := TL.new h 34
  clear hb h fa
  obtain ⟨ip, addr, tp, own, port, rules, rt⟩ := T
  simp only at *
  subst hi
  unfold tuV at *
  obtain ⟨wA, hwA⟩ : ∃ x, x = w.alloc (.cells #[.bool true, .int .u32 addr, .int .i64 tp, .int .u32 own, .int .i64 port, .slice a n c] 34) := ⟨_, rfl⟩
  rw [← hwA] at tA bA
  replace hwA := Lib.hid hwA
  replace bA := Lib.hid bA
  go_enter Try.func4, Try.ntmps4
  go_upto_region 1 with fail
  rw [← hwA.out]
  clear hwA
  go_wp2_with fail
  refine (WK.out wA).mono ?_
  rintro e w1 ⟨rfl, bs⟩
  clear WK
  replace tA := tA.keep bs
  replace bA := Lib.hid (bA.out.trans (bs.mono bA.out.size))
  clear bs
  have a0 := tA.c.cell 0 rfl
  have a1 := tA.c.cell 1 rfl
  have a2 := tA.c.cell 2 rfl
  have a3 := tA.c.cell 3 rfl
  have a4 := tA.c.cell 4 rfl
  have a5 := tA.c.cell 5 rfl
  go_wp2_with fail
  refine (IT.out w1 tA.r).mono ?_
  rintro e w2 ⟨v', rfl, r2, bs⟩
  obtain ⟨a', n', c', rfl⟩ := r2.form
  clear IT a0 a1 a2 a3 a4 a5
  replace tA := tA.keep bs
  replace bA := Lib.hid (bA.out.trans (bs.mono bA.out.size))
  clear bs
  go_wp2_with fail
  refine (UP.out w2 _ r2).mono ?_
  rintro e w3 ⟨rfl, b⟩
  clear UP r2
  go_upto_region 4 with fail
  have bz : Below w3.heap.size w3 (w3.alloc (.cells #[.bool false, .int .i64 0, .int .u32 0, .int .i64 0, .string ⟨#[]⟩] 24)) := (Below.refl _ _).alloc (Nat.le_refl _) _
  have E1 : Lies (w3.alloc (.cells #[.bool false, .int .i64 0, .int .u32 0, .int .i64 0, .string ⟨#[]⟩] 24)) w3.heap.size [.bool false, .int .i64 0, .int .u32 0, .int .i64 0, .string ⟨#[]⟩] := Lies.new w3 [.bool false, .int .i64 0, .int .u32 0, .int .i64 0, .string ⟨#[]⟩] _
  have bs := b.trans (bz.mono b.size)
  generalize w3.alloc (.cells #[.bool false, .int .i64 0, .int .u32 0, .int .i64 0, .string ⟨#[]⟩] 24) = w4 at *
  generalize w3.heap.size = gE at *
  clear bz b
  replace tA := tA.keep bs
  replace bA := Lib.hid (bA.out.trans (bs.mono bA.out.size))
  clear bs
  have e0 := E1.cell 0 rfl
  have e1 := E1.cell 1 rfl
  have e2 := E1.cell 2 rfl
  have e3 := E1.cell 3 rfl
  have e4 := E1.cell 4 rfl
  clear tA E1
  go_wp2_with fail
  go_ret
  exact ⟨rfl, bA.out⟩
set_option maxHeartbeats 8000000 in
theorem pol_no_false (T : Tu) (v : Value) (w : World) (h : RusAt w v T.rules) (hb : TuB T) (fa : TuFace) (s : ByteArray) (hi : T.ip = false) (k : Int) (hk : (k != 0) = true) (UP : Hid (∀ w v, RusAt w v T.rules → Calls Try.prog 12 #[tuV T v, .string s] w fun e w' => e = .returned (.tuple #[.agg #[.bool false, .int .i64 0, .int .u32 0, .int .i64 0, .string ⟨#[]⟩], .int .i64 k]) ∧ Below w.heap.size w w')) : Calls Try.prog 4 #[tuV T v, .string s] w fun e w' => e = .returned (.bool true) ∧ Below w.heap.size w w' := by
  have IT := Lib.hid fun w' (hr : RusAt w' v T.rules) => its_ok T v w' hr hb
  have WK := Lib.hid fun w' => works22_ok fa w'
  obtain ⟨a, n, c, rfl⟩ := h.form
  obtain ⟨tA, bA⟩ := TL.new h 34
  clear hb h fa
  obtain ⟨ip, addr, tp, own, port, rules, rt⟩ := T
  simp only at *
  subst hi
  unfold tuV at *
  obtain ⟨wA, hwA⟩ : ∃ x, x = w.alloc (.cells #[.bool false, .int .u32 addr, .int .i64 tp, .int .u32 own, .int .i64 port, .slice a n c] 34) := ⟨_, rfl⟩
  rw [← hwA] at tA bA
  replace hwA := Lib.hid hwA
  replace bA := Lib.hid bA
  go_enter Try.func4, Try.ntmps4
  go_upto_region 1 with fail
  rw [← hwA.out]
  clear hwA
  go_wp2_with fail
  refine (WK.out wA).mono ?_
  rintro e w1 ⟨rfl, bs⟩
  clear WK
  replace tA := tA.keep bs
  replace bA := Lib.hid (bA.out.trans (bs.mono bA.out.size))
  clear bs
  have a0 := tA.c.cell 0 rfl
  have a1 := tA.c.cell 1 rfl
  have a2 := tA.c.cell 2 rfl
  have a3 := tA.c.cell 3 rfl
  have a4 := tA.c.cell 4 rfl
  have a5 := tA.c.cell 5 rfl
  go_wp2_with fail
  refine (IT.out w1 tA.r).mono ?_
  rintro e w2 ⟨v', rfl, r2, bs⟩
  obtain ⟨a', n', c', rfl⟩ := r2.form
  clear IT a0 a1 a2 a3 a4 a5
  replace tA := tA.keep bs
  replace bA := Lib.hid (bA.out.trans (bs.mono bA.out.size))
  clear bs
  go_wp2_with fail
  refine (UP.out w2 _ r2).mono ?_
  rintro e w3 ⟨rfl, b⟩
  clear UP r2
  go_upto_region 4 with fail
  have bz : Below w3.heap.size w3 (w3.alloc (.cells #[.bool false, .int .i64 0, .int .u32 0, .int .i64 0, .string ⟨#[]⟩] 24)) := (Below.refl _ _).alloc (Nat.le_refl _) _
  have E1 : Lies (w3.alloc (.cells #[.bool false, .int .i64 0, .int .u32 0, .int .i64 0, .string ⟨#[]⟩] 24)) w3.heap.size [.bool false, .int .i64 0, .int .u32 0, .int .i64 0, .string ⟨#[]⟩] := Lies.new w3 [.bool false, .int .i64 0, .int .u32 0, .int .i64 0, .string ⟨#[]⟩] _
  have bs := b.trans (bz.mono b.size)
  generalize w3.alloc (.cells #[.bool false, .int .i64 0, .int .u32 0, .int .i64 0, .string ⟨#[]⟩] 24) = w4 at *
  generalize w3.heap.size = gE at *
  clear bz b
  replace tA := tA.keep bs
  replace bA := Lib.hid (bA.out.trans (bs.mono bA.out.size))
  clear bs
  have e0 := E1.cell 0 rfl
  have e1 := E1.cell 1 rfl
  have e2 := E1.cell 2 rfl
  have e3 := E1.cell 3 rfl
  have e4 := E1.cell 4 rfl
  clear tA E1
  go_wp2_with fail
  go_ret
  exact ⟨rfl, bA.out⟩
set_option maxHeartbeats 8000000 in
theorem pol_pay (T : Tu) (v : Value) (w : World) (h : RusAt w v T.rules) (hb : TuB T) (fa : TuFace) (s : ByteArray) (hi : T.ip = false) (UP : Hid (∀ w v, RusAt w v T.rules → Calls Try.prog 12 #[tuV T v, .string s] w fun e w' => e = .returned (.tuple #[.agg #[.bool false, .int .i64 T.port, .int .u32 T.addr, .int .i64 T.tp, .string s], .int .i64 0]) ∧ Below w.heap.size w w')) (AL : Hid (∀ w, RusAt w v T.rules → Calls Try.prog 13 #[v, .int .i64 17, .int .u32 T.addr, .int .i64 T.tp] w fun e w' => e = .returned (.bool true) ∧ Below w.heap.size w w')) : Calls Try.prog 4 #[tuV T v, .string s] w fun e w' => e = .returned (.bool true) ∧ Below w.heap.size w w' := by
  have IT := Lib.hid fun w' (hr : RusAt w' v T.rules) => its_ok T v w' hr hb
  have WK := Lib.hid fun w' => works22_ok fa w'
  obtain ⟨a, n, c, rfl⟩ := h.form
  obtain ⟨tA, bA⟩ := TL.new h 34
  clear hb h fa
  obtain ⟨ip, addr, tp, own, port, rules, rt⟩ := T
  simp only at *
  subst hi
  unfold tuV at *
  obtain ⟨wA, hwA⟩ : ∃ x, x = w.alloc (.cells #[.bool false, .int .u32 addr, .int .i64 tp, .int .u32 own, .int .i64 port, .slice a n c] 34) := ⟨_, rfl⟩
  rw [← hwA] at tA bA
  replace hwA := Lib.hid hwA
  replace bA := Lib.hid bA
  go_enter Try.func4, Try.ntmps4
  go_upto_region 1 with fail
  rw [← hwA.out]
  clear hwA
  go_wp2_with fail
  refine (WK.out wA).mono ?_
  rintro e w1 ⟨rfl, bs⟩
  clear WK
  replace tA := tA.keep bs
  replace bA := Lib.hid (bA.out.trans (bs.mono bA.out.size))
  clear bs
  have a0 := tA.c.cell 0 rfl
  have a1 := tA.c.cell 1 rfl
  have a2 := tA.c.cell 2 rfl
  have a3 := tA.c.cell 3 rfl
  have a4 := tA.c.cell 4 rfl
  have a5 := tA.c.cell 5 rfl
  go_wp2_with fail
  refine (IT.out w1 tA.r).mono ?_
  rintro e w2 ⟨v', rfl, r2, bs⟩
  obtain ⟨a', n', c', rfl⟩ := r2.form
  clear IT a0 a1 a2 a3 a4 a5
  replace tA := tA.keep bs
  replace bA := Lib.hid (bA.out.trans (bs.mono bA.out.size))
  clear bs
  go_wp2_with fail
  refine (UP.out w2 _ r2).mono ?_
  rintro e w3 ⟨rfl, b⟩
  clear UP r2
  go_upto_region 4 with fail
  have bz : Below w3.heap.size w3 (w3.alloc (.cells #[.bool false, .int .i64 port, .int .u32 addr, .int .i64 tp, .string s] 24)) := (Below.refl _ _).alloc (Nat.le_refl _) _
  have E1 : Lies (w3.alloc (.cells #[.bool false, .int .i64 port, .int .u32 addr, .int .i64 tp, .string s] 24)) w3.heap.size [.bool false, .int .i64 port, .int .u32 addr, .int .i64 tp, .string s] := Lies.new w3 [.bool false, .int .i64 port, .int .u32 addr, .int .i64 tp, .string s] _
  have bs := b.trans (bz.mono b.size)
  generalize w3.alloc (.cells #[.bool false, .int .i64 port, .int .u32 addr, .int .i64 tp, .string s] 24) = w4 at *
  generalize w3.heap.size = gE at *
  clear bz b
  replace tA := tA.keep bs
  replace bA := Lib.hid (bA.out.trans (bs.mono bA.out.size))
  clear bs
  have e0 := E1.cell 0 rfl
  have e1 := E1.cell 1 rfl
  have e2 := E1.cell 2 rfl
  have e3 := E1.cell 3 rfl
  have e4 := E1.cell 4 rfl
  have a0 := tA.c.cell 0 rfl
  have a1 := tA.c.cell 1 rfl
  have a2 := tA.c.cell 2 rfl
  have a3 := tA.c.cell 3 rfl
  have a4 := tA.c.cell 4 rfl
  have a5 := tA.c.cell 5 rfl
  go_wp2_with fail
  refine (AL.out w4 tA.r).mono ?_
  rintro e w5 ⟨rfl, bs⟩
  clear AL a0 a1 a2 a3 a4 a5 e0 e1 e2 e3 e4
  replace tA := tA.keep bs
  replace E1 := E1.keep (by show 0 < 5; decide) bs
  replace bA := Lib.hid (bA.out.trans (bs.mono bA.out.size))
  clear bs
  have e0 := E1.cell 0 rfl
  have e1 := E1.cell 1 rfl
  have e2 := E1.cell 2 rfl
  have e3 := E1.cell 3 rfl
  have e4 := E1.cell 4 rfl
  have a0 := tA.c.cell 0 rfl
  have a1 := tA.c.cell 1 rfl
  have a2 := tA.c.cell 2 rfl
  have a3 := tA.c.cell 3 rfl
  have a4 := tA.c.cell 4 rfl
  have a5 := tA.c.cell 5 rfl
  clear tA E1
  go_wp2_with fail
  go_ret
  exact ⟨rfl, bA.out⟩
set_option maxHeartbeats 16000000 in
theorem pol_pkt (T : Tu) (v : Value) (w : World) (h : RusAt w v T.rules) (hb : TuB T) (fa : TuFace) (s : ByteArray) (hi : T.ip = true) (tos id frag ttl t1 pro dst P : Int) (dat ht : ByteArray) (UP : Hid (∀ w v, RusAt w v T.rules → Calls Try.prog 12 #[tuV T v, .string s] w fun e w' => e = .returned (.tuple #[.agg #[.bool true, .int .i64 0, .int .u32 dst, .int .i64 0, .string ht], .int .i64 0]) ∧ Below w.heap.size w w'))
    (P1 : Hid (∀ w, Calls Try.prog 14 #[.string ht] w fun e w' => e = .returned (.tuple #[hv tos id frag t1 pro T.own dst dat, .int .i64 0]) ∧ Below w.heap.size w w')) (P2 : Hid (∀ w, Calls Try.prog 14 #[.string s] w fun e w' => e = .returned (.tuple #[hv tos id frag ttl pro T.own dst dat, .int .i64 0]) ∧ Below w.heap.size w w')) (wt : wrap64 (ttl - 1) = t1)
    (PT : Hid (∀ w, Calls Try.prog 15 #[hv tos id frag t1 pro T.own dst dat] w fun e w' => e = .returned (.int .i64 P) ∧ Below w.heap.size w w'))
    (AL : Hid (∀ w, RusAt w v T.rules → Calls Try.prog 13 #[v, .int .i64 pro, .int .u32 dst, .int .i64 P] w fun e w' => e = .returned (.bool true) ∧ Below w.heap.size w w')) : Calls Try.prog 4 #[tuV T v, .string s] w fun e w' => e = .returned (.bool true) ∧ Below w.heap.size w w' := by
  unfold hv at *
  have IT := Lib.hid fun w' (hr : RusAt w' v T.rules) => its_ok T v w' hr hb
  have WK := Lib.hid fun w' => works22_ok fa w'
  obtain ⟨a, n, c, rfl⟩ := h.form
  obtain ⟨tA, bA⟩ := TL.new h 34
  clear hb h fa
  obtain ⟨ip, addr, tp, own, port, rules, rt⟩ := T
  simp only at *
  subst hi
  unfold tuV at *
  obtain ⟨wA, hwA⟩ : ∃ x, x = w.alloc (.cells #[.bool true, .int .u32 addr, .int .i64 tp, .int .u32 own, .int .i64 port, .slice a n c] 34) := ⟨_, rfl⟩
  rw [← hwA] at tA bA
  replace hwA := Lib.hid hwA
  replace bA := Lib.hid bA
  go_enter Try.func4, Try.ntmps4
  go_upto_region 1 with fail
  rw [← hwA.out]
  clear hwA
  go_wp2_with fail
  refine (WK.out wA).mono ?_
  rintro e w1 ⟨rfl, bs⟩
  clear WK
  replace tA := tA.keep bs
  replace bA := Lib.hid (bA.out.trans (bs.mono bA.out.size))
  clear bs
  have a0 := tA.c.cell 0 rfl
  have a1 := tA.c.cell 1 rfl
  have a2 := tA.c.cell 2 rfl
  have a3 := tA.c.cell 3 rfl
  have a4 := tA.c.cell 4 rfl
  have a5 := tA.c.cell 5 rfl
  go_wp2_with fail
  refine (IT.out w1 tA.r).mono ?_
  rintro e w2 ⟨v', rfl, r2, bs⟩
  obtain ⟨a', n', c', rfl⟩ := r2.form
  clear IT a0 a1 a2 a3 a4 a5
  replace tA := tA.keep bs
  replace bA := Lib.hid (bA.out.trans (bs.mono bA.out.size))
  clear bs
  go_wp2_with fail
  refine (UP.out w2 _ r2).mono ?_
  rintro e w3 ⟨rfl, b⟩
  clear UP r2
  go_upto_region 4 with fail
  have bz : Below w3.heap.size w3 (w3.alloc (.cells #[.bool true, .int .i64 0, .int .u32 dst, .int .i64 0, .string ht] 24)) := (Below.refl _ _).alloc (Nat.le_refl _) _
  have E1 : Lies (w3.alloc (.cells #[.bool true, .int .i64 0, .int .u32 dst, .int .i64 0, .string ht] 24)) w3.heap.size [.bool true, .int .i64 0, .int .u32 dst, .int .i64 0, .string ht] := Lies.new w3 [.bool true, .int .i64 0, .int .u32 dst, .int .i64 0, .string ht] _
  have bs := b.trans (bz.mono b.size)
  generalize w3.alloc (.cells #[.bool true, .int .i64 0, .int .u32 dst, .int .i64 0, .string ht] 24) = w4 at *
  generalize w3.heap.size = gE at *
  clear bz b
  replace tA := tA.keep bs
  replace bA := Lib.hid (bA.out.trans (bs.mono bA.out.size))
  clear bs
  generalize hgA : w.heap.size = gA at tA
  have e0 := E1.cell 0 rfl
  have e1 := E1.cell 1 rfl
  have e2 := E1.cell 2 rfl
  have e3 := E1.cell 3 rfl
  have e4 := E1.cell 4 rfl
  replace wt := Lib.hid wt
  have a0 := tA.c.cell 0 rfl
  have a1 := tA.c.cell 1 rfl
  have a2 := tA.c.cell 2 rfl
  have a3 := tA.c.cell 3 rfl
  have a4 := tA.c.cell 4 rfl
  have a5 := tA.c.cell 5 rfl
  go_wp2_with fail
  refine (P1.out w4).mono ?_
  rintro e w5 ⟨rfl, b⟩
  clear P1 a0 a1 a2 a3 a4 a5 e0 e1 e2 e3 e4
  go_upto_region 11 with fail
  have bz : Below w5.heap.size w5 (w5.alloc (.cells #[.int .i64 tos, .int .i64 id, .int .i64 frag, .int .i64 t1, .int .i64 pro, .int .u32 own, .int .u32 dst, .string dat] 40)) := (Below.refl _ _).alloc (Nat.le_refl _) _
  have H1 : Lies (w5.alloc (.cells #[.int .i64 tos, .int .i64 id, .int .i64 frag, .int .i64 t1, .int .i64 pro, .int .u32 own, .int .u32 dst, .string dat] 40)) w5.heap.size [.int .i64 tos, .int .i64 id, .int .i64 frag, .int .i64 t1, .int .i64 pro, .int .u32 own, .int .u32 dst, .string dat] := Lies.new w5 [.int .i64 tos, .int .i64 id, .int .i64 frag, .int .i64 t1, .int .i64 pro, .int .u32 own, .int .u32 dst, .string dat] _
  have bs := b.trans (bz.mono b.size)
  have neg1 : gA < w5.heap.size := Nat.lt_of_lt_of_le tA.lt b.size
  have log1 : 0 < (Tu.rules ⟨true, addr, tp, own, port, rules, rt⟩).length → ∀ g o n' c', Value.slice a n c = .slice (some ⟨g, o, none⟩) n' c' → g < w5.heap.size := fun h g o n' c' e => Nat.lt_of_lt_of_le (tA.r.low h g o n' c' e) b.size
  have nE1g1 := Nat.lt_of_lt_of_le (E1.lt (by show 0 < 5; decide)) b.size
  generalize w5.alloc (.cells #[.int .i64 tos, .int .i64 id, .int .i64 frag, .int .i64 t1, .int .i64 pro, .int .u32 own, .int .u32 dst, .string dat] 40) = w6 at *
  generalize w5.heap.size = g1 at *
  clear bz b
  replace tA := tA.keep bs
  replace E1 := E1.keep (by show 0 < 5; decide) bs
  replace bA := Lib.hid (bA.out.trans (bs.mono bA.out.size))
  clear bs
  go_wp2_with fail
  refine (P2.out w6).mono ?_
  rintro e w7 ⟨rfl, b⟩
  clear P2
  go_upto_region 12 with fail
  have bz : Below w7.heap.size w7 (w7.alloc (.cells #[.int .i64 tos, .int .i64 id, .int .i64 frag, .int .i64 ttl, .int .i64 pro, .int .u32 own, .int .u32 dst, .string dat] 40)) := (Below.refl _ _).alloc (Nat.le_refl _) _
  have H2 : Lies (w7.alloc (.cells #[.int .i64 tos, .int .i64 id, .int .i64 frag, .int .i64 ttl, .int .i64 pro, .int .u32 own, .int .u32 dst, .string dat] 40)) w7.heap.size [.int .i64 tos, .int .i64 id, .int .i64 frag, .int .i64 ttl, .int .i64 pro, .int .u32 own, .int .u32 dst, .string dat] := Lies.new w7 [.int .i64 tos, .int .i64 id, .int .i64 frag, .int .i64 ttl, .int .i64 pro, .int .u32 own, .int .u32 dst, .string dat] _
  have bs := b.trans (bz.mono b.size)
  have neg2 : gA < w7.heap.size := Nat.lt_of_lt_of_le tA.lt b.size
  have log2 : 0 < (Tu.rules ⟨true, addr, tp, own, port, rules, rt⟩).length → ∀ g o n' c', Value.slice a n c = .slice (some ⟨g, o, none⟩) n' c' → g < w7.heap.size := fun h g o n' c' e => Nat.lt_of_lt_of_le (tA.r.low h g o n' c' e) b.size
  have nE1g2 := Nat.lt_of_lt_of_le (E1.lt (by show 0 < 5; decide)) b.size
  have nH1g2 := Nat.lt_of_lt_of_le (H1.lt (by show 0 < 8; decide)) b.size
  generalize w7.alloc (.cells #[.int .i64 tos, .int .i64 id, .int .i64 frag, .int .i64 ttl, .int .i64 pro, .int .u32 own, .int .u32 dst, .string dat] 40) = w8 at *
  generalize w7.heap.size = g2 at *
  clear bz b
  replace tA := tA.keep bs
  replace E1 := E1.keep (by show 0 < 5; decide) bs
  replace H1 := H1.keep (by show 0 < 8; decide) bs
  replace bA := Lib.hid (bA.out.trans (bs.mono bA.out.size))
  clear bs
  have h3 := H2.cell 3 rfl
  have f3 := H2.free 3 (by show 3 < 8; decide)
  go_upto_region 13 with fail
  rw [wt.out]
  have H3 := H2.put 3 (by show 3 < 8; decide) (.int .i64 t1)
  have kk : Kept (fun k => k = g2) w8 (w8.setCell ⟨g2, 3, none⟩ (.int .i64 t1)) := (Kept.refl (fun k => k = g2) w8).set ⟨g2, 3, none⟩ rfl _
  replace tA := tA.kept kk (by omega) log2
  have lE := E1.lt (by show 0 < 5; decide)
  have lH := H1.lt (by show 0 < 8; decide)
  replace E1 := E1.of_block (kk.block gE lE (by omega))
  replace H1 := H1.of_block (kk.block g1 lH (by omega))
  have hg2 : gA < g2 := neg2
  replace bA := Lib.hid (bA.out.trans (kk.below bA.out.size (fun k q => by rw [q, hgA]; exact Nat.le_of_lt hg2)))
  clear kk H2 h3 f3 lE lH wt neg1 neg2 log1 log2 nE1g1 nE1g2 nH1g2 hg2
  simp only [List.set_cons_succ, List.set_cons_zero] at H3
  generalize w8.setCell ⟨g2, 3, none⟩ (.int .i64 t1) = w9 at *
  have k0 := fun d os => cell_regrown (w := w9) (H1.cell 0 rfl) d os
  have q0 := fun d os => cell_regrown (w := w9) (H3.cell 0 rfl) d os
  have k1 := fun d os => cell_regrown (w := w9) (H1.cell 1 rfl) d os
  have q1 := fun d os => cell_regrown (w := w9) (H3.cell 1 rfl) d os
  have k2 := fun d os => cell_regrown (w := w9) (H1.cell 2 rfl) d os
  have q2 := fun d os => cell_regrown (w := w9) (H3.cell 2 rfl) d os
  have k3 := fun d os => cell_regrown (w := w9) (H1.cell 3 rfl) d os
  have q3 := fun d os => cell_regrown (w := w9) (H3.cell 3 rfl) d os
  have k4 := fun d os => cell_regrown (w := w9) (H1.cell 4 rfl) d os
  have q4 := fun d os => cell_regrown (w := w9) (H3.cell 4 rfl) d os
  have k5 := fun d os => cell_regrown (w := w9) (H1.cell 5 rfl) d os
  have q5 := fun d os => cell_regrown (w := w9) (H3.cell 5 rfl) d os
  have k6 := fun d os => cell_regrown (w := w9) (H1.cell 6 rfl) d os
  have q6 := fun d os => cell_regrown (w := w9) (H3.cell 6 rfl) d os
  have k7 := fun d os => cell_regrown (w := w9) (H1.cell 7 rfl) d os
  have q7 := fun d os => cell_regrown (w := w9) (H3.cell 7 rfl) d os
  have e2 := fun d os => cell_regrown (w := w9) (E1.cell 2 rfl) d os
  have a3 := fun d os => cell_regrown (w := w9) (tA.c.cell 3 rfl) d os
  have a5 := fun d os => cell_regrown (w := w9) (tA.c.cell 5 rfl) d os
  have C1 : Hid (∀ d os, _) := fun d os => Calls.regrown_of (P := Try.prog) (w := w9) (d := d) (os := os) (PT.out _)
  have C2 : Hid (∀ d os, _) := fun d os => Calls.regrown_of (P := Try.prog) (w := w9) (d := d) (os := os) (AL.out _ (tA.r.keep (below_regrown w9 d os)))
  clear tA E1 H1 H3 PT AL
  refine wp_region_quiet_below (by kernel_rfl) (by kernel_rfl) ?_
  repeat (go_big_quiet_step (first | (go_at_call 15; exact C1.out _ _) | (go_at_call 13; exact C2.out _ _)))
  refine wpQuiet_nil ?_
  intro _ hw'
  obtain ⟨⟨dq, osq⟩, hw''⟩ := hw'
  subst hw''
  have br := below_regrown w9 dq osq
  replace bA := Lib.hid (bA.out.trans (br.mono bA.out.size))
  clear C1 C2 br e2 a3 a5 k0 q0 k1 q1 k2 q2 k3 q3 k4 q4 k5 q5 k6 q6 k7 q7
  simp only
  generalize Go.Sort.grow (redrawn w9 dq) osq = wF at *
  go_wp2_with fail
  go_ret
  exact ⟨rfl, bA.out⟩
theorem walk (fa : TuFace) (T : Tu) (v : Value) (w : World) (h : RusAt w v T.rules) (hb : TuB T) (s : ByteArray) (hs : s.size ≤ 140737488351232) : Calls Try.prog 4 #[tuV T v, .string s] w fun e w' => e = .returned (.bool true) ∧ Below w.heap.size w w' := by
  have hl : T.rules.length ≤ 9223372036854775807 := by have := hb.len; omega
  by_cases hk : upE T s = 0
  · cases hi : T.ip with
    | false =>
      obtain ⟨-, al⟩ := up_plain hk hi
      have em : upM T s = ⟨false, T.port, T.addr, T.tp, s⟩ := by unfold upM; rw [if_neg (by rw [hk]; decide), if_pos hi]
      exact pol_pay T v w h hb fa s hi (fun w v hr => by
        have := fa.up T v w hr hb s hs
        rw [em, hk] at this
        exact this) fun w hr => by
        have := rallow_ok T.rules v 17 T.addr T.tp hb.a0 hb.a1 w hr hb.rs hl
        rw [al] at this
        exact this
    | true =>
      obtain ⟨h1, hz, hsrc, al⟩ := up_good hk hi
      obtain ⟨n1, n2, n3⟩ := hop_next hz
      obtain ⟨g, he, ht, -⟩ := hopE_zero hz
      have em : upM T s = ⟨true, 0, dstP s, 0, hopS s⟩ := by unfold upM; rw [if_neg (by rw [hk]; decide), if_neg (by rw [hi]; decide)]
      have tb := ttl_bd s
      have ds := dat_small g
      refine pol_pkt T v w h hb fa s hi (num (byt s) 1 1) (num (byt s) 4 2) (num (byt s) 6 2) (ttlP s) (ttlP s - 1) (proP s) (dstP s) (toP s) (datP s) (hopS s) (fun w v hr => ?_) (fun w => ?_) (fun w => ?_) (wrap_in rfl (by omega) (by omega)) (fun w => ?_) (fun w hr => ?_)
      · have := fa.up T v w hr hb s hs
        rw [em, hk] at this
        exact this
      · have := rparse_ok (hopS s) w (by omega)
        rw [n1, n2] at this
        unfold hopV at this
        rw [hsrc] at this
        exact this
      · have := rparse_hd s w (by omega) he
        rw [show hdOf s = hv (num (byt s) 1 1) (num (byt s) 4 2) (num (byt s) 6 2) (ttlP s) (proP s) (srcP s) (dstP s) (datP s) from rfl, hsrc] at this
        exact this
      · exact rport_ok _ _ _ _ _ _ _ _ w (num2_bd s 6).1 (by omega)
      · have := rallow_ok T.rules v (proP s) (dstP s) (toP s) (num4_bd s 16).1 (num4_bd s 16).2 w hr hb.rs hl
        rw [al] at this
        exact this
  · have em : upM T s = em0 := by unfold upM; rw [if_pos hk]
    have UP : ∀ w v, RusAt w v T.rules → Calls Try.prog 12 #[tuV T v, .string s] w fun e w' => e = .returned (.tuple #[.agg #[.bool false, .int .i64 0, .int .u32 0, .int .i64 0, .string ⟨#[]⟩], .int .i64 (upE T s)]) ∧ Below w.heap.size w w' := fun w v hr => by
      have := fa.up T v w hr hb s hs
      rw [em] at this
      exact this
    cases hi : T.ip with
    | false => exact pol_no_false T v w h hb fa s hi _ (by simpa using hk) UP
    | true => exact pol_no_true T v w h hb fa s hi _ (by simpa using hk) UP

theorem contract (H : Type) (enc : TypeId × Value → H) (W : World) (base : Nat) (args : Array Value) (ds gs : List (DataW H)) (before : List MemPlace)
    (hval : ∀ (j : Nat) t v, Try.f4.params[j]? = some t → args[j]? = some v → Value.okWide Try.prog W .any base t v)
    (hW : DataW.Whole enc Try.prog Try.f4.params.toList Rows.tunnelPolicySpec.vars false W args.toList ds gs before)
    (hsz : (DataW.weightsEach Try.prog (Try.f4.params.toList ++ (OpenSpec.ofChange Rows.tunnelPolicySpec).bare.plain.varTypes Try.prog) (ds ++ gs)).all (· ≤ reachBytes) = true) :
    Calls Try.prog 4 args W fun e W' => ∃ v, e = .returned v ∧ Rows.tunnelPolicySpec.post enc Try.prog Try.f4 false true false false W args v W' := by
  have hW' := hW
  obtain ⟨p, q, hA0, hV, rfl, hfz, hnd⟩ := hW
  have hA : DataW.TrodAll enc Try.prog W 0 (fun _ => true) true Try.f4.params.toList args.toList ds p := hA0
  rw [Try.params4] at hA hval hsz
  obtain ⟨v0, vs0, d0, ds0, p0, q0, hargs, rfl, rfl, h0, r0⟩ := trodAll_cons hA
  obtain ⟨v1, vs1, d1, ds1, p1, q1, rfl, rfl, rfl, h1, r1⟩ := trodAll_cons r0
  obtain ⟨rfl, rfl, rfl⟩ := trodAll_nil r1
  obtain rfl : args = #[v0, v1] := by cases args; simp_all
  obtain ⟨rfl, rfl⟩ := trodVars_none hV
  have k0 := h0
  have lt0 : ∀ x ∈ p0, x.block < W.heap.size := by obtain ⟨m, hm⟩ := k0; exact DataW.trod_lt m _ _ _ hm
  obtain ⟨rtf0, hrt0⟩ := some_rt
  obtain ⟨T0, g0, rfl, hs0, hb0, hr0⟩ := open_tun rtf0 (hval 0 34 v0 rfl rfl) h0 (fun n hn => by simpa using List.all_eq_true.1 hsz _ (DataW.weights_mem_each (j := 0) (t := 34) rfl rfl n hn))
  obtain ⟨a1, rfl, rfl, rfl, w1⟩ := open_string Try.underlying9 (hval 1 9 v1 rfl rfl) h1
  have z1 : a1.size ≤ 140737488351232 := by
    have hz := sized_string hsz (j := 1) (t := 9) (bytes := a1.data.toList) rfl rfl
    simpa [reachBytes] using hz
  clear hA0
  simp only [List.append_nil] at hW'
  refine (walk face22 T0 g0 W hs0 hb0 a1 z1).mono fun e W' ⟨he, bel⟩ => ?_
  subst he
  exact ⟨_, rfl, _, _, _, [], _, [], hW', trodAll_mk1 (shut_bool Try.underlying4 _), (trodAll_cons_mk (Below.trod laidOut (by kernel_rfl) (of_decide_eq_true (by kernel_rfl)) k0 bel lt0) (trodAll_cons_mk (shut_string Try.underlying9 w1) trodAll_mk0)), rfl, bel.frame _, fun h => by cases h⟩

theorem laid_met (os : Os) : laidMet Try.prog Rows.tunnelPolicyRow.laid ((startWorld Try.prog os).forCall (fun _ _ => 0) ⟨#[], #[.agg #[.bool false, .int .u32 0, .int .i64 0, .int .u32 0, .int .i64 0, .slice none 0 0], .string ByteArray.empty], []⟩).memory :=
  laidMet_of_run' 8 (by kernel_rfl) (by kernel_rfl)
theorem reads (os : Os) {H : Type} (enc : TypeId × Value → H) : ∃ places, DataW.whole enc Try.prog ((startWorld Try.prog os).forCall (fun _ _ => 0) ⟨#[], #[.agg #[.bool false, .int .u32 0, .int .i64 0, .int .u32 0, .int .i64 0, .slice none 0 0], .string ByteArray.empty], []⟩).memory Try.f4.params.toList Rows.tunnelPolicySpec.vars false #[Value.agg #[.bool false, .int .u32 0, .int .i64 0, .int .u32 0, .int .i64 0, .slice none 0 0], Value.string ByteArray.empty].toList 8 = some ([.agg [.agg [.lit (.bool false), .lit (.int .u32 0), .lit (.int .i64 0)], .lit (.int .u32 0), .lit (.int .i64 0), .nil], .lit (.string [])], [], places) :=
  ⟨[], by kernel_rfl⟩

set_option maxRecDepth 100000 in
theorem lifted (os : Os) (started : os.Started) (H : Type) (enc : TypeId × Value → H) (F : Stop.Interp) :
    ReturnsInHanded {} Try.checked os 4 .any ((OpenSpec.ofChange Rows.tunnelPolicySpec).preRow enc Try.prog Try.f4 Rows.tunnelPolicyRow.domain false Rows.tunnelPolicyRow.laid) (((OpenSpec.ofChange Rows.tunnelPolicySpec).at F).post enc Try.prog Try.f4 false true false false) := by
  obtain ⟨places, hx⟩ := reads os enc
  refine returnsInHanded_of_row (C := Try.checked) (s := OpenSpec.ofChange Rows.tunnelPolicySpec) own started (by kernel_rfl) Try.func4
    (witness_row_at (enc := enc) (C := Try.checked) false (startWorld Try.prog os) #[.agg #[.bool false, .int .u32 0, .int .i64 0, .int .u32 0, .int .i64 0, .slice none 0 0], .string ByteArray.empty] rfl (by kernel_rfl) (by kernel_rfl) (by kernel_rfl)
      (OpenSpec.preRow_of_cond 8 hx (by kernel_rfl) (fun k hk => by cases hk) (by kernel_rfl) (laid_met os))) ?_
  intro W base args ds gs before hval hW _ _ hsz _ _ _
  exact contract H enc W base args ds gs before hval hW hsz

theorem said : Rows.TunnelPolicySaid :=
  OpenClaim.holds_of_cond 4 Try.f4 rfl rfl rfl rfl rfl rfl rfl ⟨rfl, rfl, rfl, rfl, rfl⟩ rfl rfl rfl rfl rfl (by kernel_rfl) Try.func4 (by kernel_rfl)
    (of_decide_eq_true (by kernel_rfl)) (by unfold Func.isWrapper; first | (rw [if_pos (by decide +kernel)]; kernel_rfl) | (rw [if_neg (by decide +kernel)]; exact ⟨rfl, rfl⟩))
    (fun os started H enc _ F => by rw [OpenClaim.pre_eq_preRow]; exact lifted os started H enc F)
end Go.Proofs.Ytndaohiecpdmlaa.tunnelPolicy
namespace Go.Proofs.Ytndaohiecpdmlaa
theorem tunnelPolicy_said : Rows.TunnelPolicySaid := tunnelPolicy.said
end Go.Proofs.Ytndaohiecpdmlaa
