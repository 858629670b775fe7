/-
  What the program's own Open of payloads, and what its calls about packets, answer of any tunnel and any bytes. No condition but what the form allows.
-/
import Derived.Test.YtndaohiecpdmlaaGreatTuFace
import Derived.Test.YtndaohiecpdmlaaGreatTuPorts
import Derived.Test.YtndaohiecpdmlaaGreatMgF
import Derived.RegionTactic
import Derived.BigQuiet
import Derived.Deep.Cut
namespace Go.Proofs.YtndaohiecpdmlaaGreat
set_option maxRecDepth 100000
open Go.RowKit Go.Sort

set_option maxHeartbeats 4000000 in
theorem pisopen_ok (T : Tu) (v : Value) (w : World) (h : RusAt w v T.rules) (hb : TuB T) (hi : T.ip = false) : Calls Tryz.prog 19 #[tuV T v] w fun e w' => e = .returned (.bool (alw T.rules 17 T.addr T.tp)) ∧ Below w.heap.size w w' := by
  have hl : T.rules.length ≤ 9223372036854775807 := by have := hb.len; omega
  obtain ⟨t0, bb⟩ := TL.new h 28
  obtain ⟨wb, hwb⟩ : ∃ x, x = w.alloc (.cells #[.bool T.ip, .int .u32 T.addr, .int .i64 T.tp, .int .u32 T.own, .int .i64 T.port, v] 28) := ⟨_, rfl⟩
  rw [← hwb] at t0 bb
  obtain ⟨a, n, c, rfl⟩ := h.form
  have AL := Lib.hid (allow_ok T.rules _ 17 T.addr T.tp hb.a0 hb.a1 wb t0.r hb.rs hl)
  obtain ⟨ip, addr, tp, own, port, rules, rt⟩ := T
  simp only at *
  subst hi
  have a0 := t0.c.cell 0 rfl
  have a1 := t0.c.cell 1 rfl
  have a2 := t0.c.cell 2 rfl
  have a5 := t0.c.cell 5 rfl
  generalize alw rules 17 addr tp = y at AL ⊢
  replace bb := Lib.hid bb
  replace hwb := Lib.hid hwb
  clear h hb hl t0
  unfold tuV
  go_enter Tryz.func19, Tryz.ntmps19
  go_upto_region 1 with fail
  rw [← hwb.out]
  clear hwb
  go_wp2_with fail
  refine AL.out.mono ?_
  rintro e w' ⟨rfl, b⟩
  have b2 := Lib.hid (bb.out.trans (b.mono bb.out.size))
  clear b AL
  go_wp2_with fail
  go_ret
  exact ⟨rfl, b2.out⟩
set_option maxHeartbeats 4000000 in
theorem popen_plain (T : Tu) (v : Value) (w : World) (h : RusAt w v T.rules) (hb : TuB T) (hi : T.ip = false) : Calls Tryz.prog 9 #[tuV T v] w fun e w' => e = .returned (.int .i64 (openE T)) ∧ Below w.heap.size w w' := by
  obtain ⟨t0, bb⟩ := TL.new h 28
  obtain ⟨wb, hwb⟩ : ∃ x, x = w.alloc (.cells #[.bool T.ip, .int .u32 T.addr, .int .i64 T.tp, .int .u32 T.own, .int .i64 T.port, v] 28) := ⟨_, rfl⟩
  rw [← hwb] at t0 bb
  obtain ⟨a, n, c, rfl⟩ := h.form
  have IS := Lib.hid (pisopen_ok T _ wb t0.r hb hi)
  unfold tuV at IS
  obtain ⟨ip, addr, tp, own, port, rules, rt⟩ := T
  simp only at *
  subst hi
  have e0 : openE ⟨false, addr, tp, own, port, rules, rt⟩ = if alw rules 17 addr tp then 0 else 15 := rfl
  rw [e0]
  have a0 := t0.c.cell 0 rfl
  have a1 := t0.c.cell 1 rfl
  have a2 := t0.c.cell 2 rfl
  have a3 := t0.c.cell 3 rfl
  have a4 := t0.c.cell 4 rfl
  have a5 := t0.c.cell 5 rfl
  generalize alw rules 17 addr tp = y at IS ⊢
  replace bb := Lib.hid bb
  replace hwb := Lib.hid hwb
  clear h hb t0 e0
  unfold tuV
  go_enter Tryz.func9, Tryz.ntmps9
  go_upto_region 1 with fail
  rw [← hwb.out]
  clear hwb
  cases y with
  | true =>
    go_wp2_with fail
    refine IS.out.mono ?_
    rintro e w' ⟨rfl, b⟩
    have b2 := Lib.hid (bb.out.trans (b.mono bb.out.size))
    clear b IS
    go_wp2_with fail
    go_ret
    exact ⟨rfl, b2.out⟩
  | false =>
    go_wp2_with fail
    refine IS.out.mono ?_
    rintro e w' ⟨rfl, b⟩
    have b2 := Lib.hid (bb.out.trans (b.mono bb.out.size))
    clear b IS
    go_wp2_with fail
    go_ret
    exact ⟨rfl, b2.out⟩
set_option maxHeartbeats 4000000 in
theorem pallows_ok (T : Tu) (v : Value) (w : World) (h : RusAt w v T.rules) (tos id frag ttl pro src dst : Int) (dat : ByteArray) (P : Int) (y : Bool) (PT : Hid (∀ w, Calls Tryz.prog 35 #[hv tos id frag ttl pro src dst dat] w fun e w' => ∃ a b, e = .returned (.tuple #[.int .i64 a, .int .i64 P, .bool b]) ∧ Below w.heap.size w w')) (AL : Hid (∀ w, RusAt w v T.rules → Calls Tryz.prog 30 #[v, .int .i64 pro, .int .u32 dst, .int .i64 P] w fun e w' => e = .returned (.bool y) ∧ Below w.heap.size w w')) :
    Calls Tryz.prog 22 #[tuV T v, hv tos id frag ttl pro src dst dat] w fun e w' => e = .returned (.bool y) ∧ Below w.heap.size w w' := by
  obtain ⟨t0, bb⟩ := TL.new h 28
  obtain ⟨wb, hwb⟩ : ∃ x, x = w.alloc (.cells #[.bool T.ip, .int .u32 T.addr, .int .i64 T.tp, .int .u32 T.own, .int .i64 T.port, v] 28) := ⟨_, rfl⟩
  rw [← hwb] at t0 bb
  obtain ⟨a, n, c, rfl⟩ := h.form
  obtain ⟨wc, hwc⟩ : ∃ x, x = wb.alloc (.cells #[.int .i64 tos, .int .i64 id, .int .i64 frag, .int .i64 ttl, .int .i64 pro, .int .u32 src, .int .u32 dst, .string dat] 40) := ⟨_, rfl⟩
  have bc : Below wb.heap.size wb wc := by rw [hwc]; exact (Below.refl _ _).alloc (Nat.le_refl _) _
  have LH : Lies wc wb.heap.size [.int .i64 tos, .int .i64 id, .int .i64 frag, .int .i64 ttl, .int .i64 pro, .int .u32 src, .int .u32 dst, .string dat] := by rw [hwc]; exact Lies.new wb [.int .i64 tos, .int .i64 id, .int .i64 frag, .int .i64 ttl, .int .i64 pro, .int .u32 src, .int .u32 dst, .string dat] _
  replace t0 := t0.keep bc
  have b0 := Lib.hid (bb.trans (bc.mono bb.size))
  obtain ⟨g, hg⟩ : ∃ g, g = wb.heap.size := ⟨_, rfl⟩
  have hgw : g = w.heap.size + 1 := by rw [hg, hwb]; simp
  rw [← hg] at LH
  replace hg := Lib.hid hg
  obtain ⟨ip, addr, tp, own, port, rules, rt⟩ := T
  simp only at *
  have a5 := t0.c.cell 5 rfl
  have l5 := Lib.hid t0.c
  have LHH := Lib.hid LH
  have RR := Lib.hid t0.r
  have h0 := LH.cell 0 rfl
  have h1 := LH.cell 1 rfl
  have h2 := LH.cell 2 rfl
  have h3 := LH.cell 3 rfl
  have h4 := LH.cell 4 rfl
  have h5 := LH.cell 5 rfl
  have h6 := LH.cell 6 rfl
  have h7 := LH.cell 7 rfl
  replace hwb := Lib.hid hwb
  replace hwc := Lib.hid hwc
  unfold hv at *
  clear h t0 LH bb bc
  subst hgw
  unfold tuV
  go_enter Tryz.func22, Tryz.ntmps22
  go_upto_region 1 with fail
  rw [← hwb.out, ← hwc.out]
  clear hwb hwc hg
  go_wp2_with fail
  refine (PT.out wc).mono ?_
  rintro e w1 ⟨pa, pb, rfl, b1⟩
  clear PT
  have la := l5.out.keep (by show 0 < 6; decide) b1
  have lh := LHH.out.keep (by show 0 < 8; decide) b1
  clear a5 h0 h1 h2 h3 h4 h5 h6 h7 l5 LHH
  have a5 := la.cell 5 rfl
  have h4 := lh.cell 4 rfl
  have h6 := lh.cell 6 rfl
  have A1 := Lib.hid (AL.out w1 (RR.out.keep b1))
  replace b1 := Lib.hid (b0.out.trans (b1.mono b0.out.size))
  clear b0 la lh RR AL
  go_wp2_with fail
  refine A1.out.mono ?_
  rintro e w2 ⟨rfl, b2⟩
  replace b2 := Lib.hid (b1.out.trans (b2.mono b1.out.size))
  clear b1 A1
  go_wp2_with fail
  go_ret
  exact ⟨rfl, b2.out⟩
set_option maxHeartbeats 4000000 in
theorem phop_stop (w : World) (s : ByteArray) (tos id frag ttl pro src dst : Int) (dat : ByteArray) (hk : Int) (hk0 : (hk != 0) = true) (ht : ByteArray) (HO : Hid (∀ w, Calls Tryz.prog 36 #[.string s] w fun e w' => e = .returned (.tuple #[.string ht, .int .i64 hk]) ∧ Below w.heap.size w w')) : Calls Tryz.prog 23 #[.string s, hv tos id frag ttl pro src dst dat] w fun e w' => e = .returned (.tuple #[.string ⟨#[]⟩, .int .i64 hk]) ∧ Below w.heap.size w w' := by
  obtain ⟨wb, hwb⟩ : ∃ x, x = w.alloc (.cells #[.int .i64 tos, .int .i64 id, .int .i64 frag, .int .i64 ttl, .int .i64 pro, .int .u32 src, .int .u32 dst, .string dat] 40) := ⟨_, rfl⟩
  have b0 : Below w.heap.size w wb := by rw [hwb]; exact (Below.refl _ _).alloc (Nat.le_refl _) _
  have LH : Lies wb w.heap.size [.int .i64 tos, .int .i64 id, .int .i64 frag, .int .i64 ttl, .int .i64 pro, .int .u32 src, .int .u32 dst, .string dat] := by rw [hwb]; exact Lies.new w [.int .i64 tos, .int .i64 id, .int .i64 frag, .int .i64 ttl, .int .i64 pro, .int .u32 src, .int .u32 dst, .string dat] _
  replace b0 := Lib.hid b0
  replace hwb := Lib.hid hwb
  replace LH := Lib.hid LH
  have hE : Hid (w.heap.size ≤ w.heap.size) := Nat.le_refl _
  clear LH hE
  unfold hv at *
  go_enter Tryz.func23, Tryz.ntmps23
  go_upto_region 1 with fail
  rw [← hwb.out]
  clear hwb
  go_wp2_with fail
  refine (HO.out wb).mono ?_
  rintro e w1 ⟨rfl, b1⟩
  clear HO
  replace b1 := Lib.hid (b0.out.trans (b1.mono b0.out.size))
  clear b0
  go_wp2_with fail
  go_ret2
  exact ⟨rfl, b1.out⟩
set_option maxHeartbeats 4000000 in
theorem phop_pass (w : World) (s : ByteArray) (tos id frag ttl pro src dst : Int) (dat : ByteArray) (tw : wrap64 (ttl - 1) = ttl - 1) (ht : ByteArray) (HO : Hid (∀ w, Calls Tryz.prog 36 #[.string s] w fun e w' => e = .returned (.tuple #[.string ht, .int .i64 0]) ∧ Below w.heap.size w w')) (PA : Hid (∀ w, Calls Tryz.prog 21 #[.string ht] w fun e w' => e = .returned (.tuple #[hv tos id frag (ttl - 1) pro src dst dat, .int .i64 0]) ∧ Below w.heap.size w w')) : Calls Tryz.prog 23 #[.string s, hv tos id frag ttl pro src dst dat] w fun e w' => e = .returned (.tuple #[.string ht, .int .i64 0]) ∧ Below w.heap.size w w' := by
  obtain ⟨tt, htt⟩ : ∃ x, x = ttl - 1 := ⟨_, rfl⟩
  rw [← htt] at tw PA
  obtain ⟨wb, hwb⟩ : ∃ x, x = w.alloc (.cells #[.int .i64 tos, .int .i64 id, .int .i64 frag, .int .i64 ttl, .int .i64 pro, .int .u32 src, .int .u32 dst, .string dat] 40) := ⟨_, rfl⟩
  have b0 : Below w.heap.size w wb := by rw [hwb]; exact (Below.refl _ _).alloc (Nat.le_refl _) _
  have LH : Lies wb w.heap.size [.int .i64 tos, .int .i64 id, .int .i64 frag, .int .i64 ttl, .int .i64 pro, .int .u32 src, .int .u32 dst, .string dat] := by rw [hwb]; exact Lies.new w [.int .i64 tos, .int .i64 id, .int .i64 frag, .int .i64 ttl, .int .i64 pro, .int .u32 src, .int .u32 dst, .string dat] _
  replace b0 := Lib.hid b0
  replace hwb := Lib.hid hwb
  replace LH := Lib.hid LH
  have hE : Hid (w.heap.size ≤ w.heap.size) := Nat.le_refl _
  unfold hv at *
  go_enter Tryz.func23, Tryz.ntmps23
  go_upto_region 1 with fail
  rw [← hwb.out]
  clear hwb
  go_wp2_with fail
  refine (HO.out wb).mono ?_
  rintro e w1 ⟨rfl, b1⟩
  clear HO
  have lh := LH.out.keep (by show 0 < 8; decide) b1
  replace b1 := Lib.hid (b0.out.trans (b1.mono b0.out.size))
  clear b0 LH
  have h0 := lh.cell 0 rfl
  have h1 := lh.cell 1 rfl
  have h2 := lh.cell 2 rfl
  have h3 := lh.cell 3 rfl
  have h4 := lh.cell 4 rfl
  have h5 := lh.cell 5 rfl
  have h6 := lh.cell 6 rfl
  have h7 := lh.cell 7 rfl
  have f3 := lh.free 3 (by show 3 < 8; decide)
  have tw2 : wrap64 (ttl - 1) = tt := by rw [htt]; rw [htt] at tw; exact tw
  clear htt tw
  replace lh := Lib.hid lh
  go_wp2_with fail
  have lp : Lies (w1.setCell ⟨w.heap.size, 3, none⟩ (.int .i64 tt)) w.heap.size [.int .i64 tos, .int .i64 id, .int .i64 frag, .int .i64 tt, .int .i64 pro, .int .u32 src, .int .u32 dst, .string dat] := lh.out.put 3 (by show 3 < 8; decide) (.int .i64 tt)
  have b2 := b1.out.setCell (p := ⟨w.heap.size, 3, none⟩) hE.out (.int .i64 tt)
  generalize w1.setCell ⟨w.heap.size, 3, none⟩ (.int .i64 tt) = w2 at *
  clear h0 h1 h2 h3 h4 h5 h6 h7 f3 lh b1
  refine (PA.out _).mono ?_
  rintro e w3 ⟨rfl, b3⟩
  clear PA
  replace lp := lp.keep (by show 0 < 8; decide) b3
  replace b2 := b2.trans (b3.mono b2.size)
  clear b3
  go_upto_region 6 with fail
  have bh : Below w3.heap.size w3 (w3.alloc (.cells #[.int .i64 tos, .int .i64 id, .int .i64 frag, .int .i64 tt, .int .i64 pro, .int .u32 src, .int .u32 dst, .string dat] 40)) := (Below.refl _ _).alloc (Nat.le_refl _) _
  have LH : Lies (w3.alloc (.cells #[.int .i64 tos, .int .i64 id, .int .i64 frag, .int .i64 tt, .int .i64 pro, .int .u32 src, .int .u32 dst, .string dat] 40)) w3.heap.size [.int .i64 tos, .int .i64 id, .int .i64 frag, .int .i64 tt, .int .i64 pro, .int .u32 src, .int .u32 dst, .string dat] := Lies.new w3 [.int .i64 tos, .int .i64 id, .int .i64 frag, .int .i64 tt, .int .i64 pro, .int .u32 src, .int .u32 dst, .string dat] _
  replace lp := lp.keep (by show 0 < 8; decide) bh
  replace b2 := b2.trans (bh.mono b2.size)
  generalize w3.alloc (.cells #[.int .i64 tos, .int .i64 id, .int .i64 frag, .int .i64 tt, .int .i64 pro, .int .u32 src, .int .u32 dst, .string dat] 40) = w4 at *
  generalize w3.heap.size = gh at *
  clear bh
  have h0 := lp.cell 0 rfl
  have k0 := LH.cell 0 rfl
  have h1 := lp.cell 1 rfl
  have k1 := LH.cell 1 rfl
  have h2 := lp.cell 2 rfl
  have k2 := LH.cell 2 rfl
  have h3 := lp.cell 3 rfl
  have k3 := LH.cell 3 rfl
  have h4 := lp.cell 4 rfl
  have k4 := LH.cell 4 rfl
  have h5 := lp.cell 5 rfl
  have k5 := LH.cell 5 rfl
  have h6 := lp.cell 6 rfl
  have k6 := LH.cell 6 rfl
  have h7 := lp.cell 7 rfl
  have k7 := LH.cell 7 rfl
  replace b2 := Lib.hid b2
  clear lp LH hE
  go_wp2_with fail
  go_ret2
  exact ⟨rfl, b2.out⟩
end Go.Proofs.YtndaohiecpdmlaaGreat
