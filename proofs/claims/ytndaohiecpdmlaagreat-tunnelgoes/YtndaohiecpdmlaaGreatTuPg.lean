/-
  What the program's own Open answers of any tunnel. No condition but what the form allows.
-/
import Derived.Test.YtndaohiecpdmlaaGreatTuPgU
import Derived.Test.YtndaohiecpdmlaaGreatTuFaceO
import Derived.Test.YtndaohiecpdmlaaGreatPoFaceR
namespace Go.Proofs.YtndaohiecpdmlaaGreat
set_option maxRecDepth 100000
open Go.RowKit Go.Sort

set_option maxHeartbeats 4000000 in
theorem pisopen_ip (T : Tu) (v : Value) (w : World) (h : RusAt w v T.rules) (hb : TuB T) (hi : T.ip = true) (hrt : T.rt = true ↔ anyR T.rules) : Calls Tryz.prog 19 #[tuV T v] w fun e w' => e = .returned (.bool T.rt) ∧ Below w.heap.size w w' := by
  have hl : T.rules.length ≤ 9223372036854775807 := by have := hb.len; omega
  obtain ⟨t0, bb⟩ := TL.new h 28
  obtain ⟨wb, hwb⟩ : ∃ x, x = w.alloc (.cells #[.bool T.ip, .int .u32 T.addr, .int .i64 T.tp, .int .u32 T.own, .int .i64 T.port, v] 28) := ⟨_, rfl⟩
  rw [← hwb] at t0 bb
  obtain ⟨a, n, c, rfl⟩ := h.form
  have RT := Lib.hid (routes_ok T.rules _ wb t0.r hb.rs hl)
  obtain ⟨ip, addr, tp, own, port, rules, rt⟩ := T
  simp only at *
  subst hi
  have a0 := t0.c.cell 0 rfl
  have a1 := t0.c.cell 1 rfl
  have a2 := t0.c.cell 2 rfl
  have a5 := t0.c.cell 5 rfl
  replace bb := Lib.hid bb
  replace hwb := Lib.hid hwb
  replace hrt := Lib.hid hrt
  clear h hb hl t0
  unfold tuV
  go_enter Tryz.func19, Tryz.ntmps19
  go_upto_region 1 with fail
  rw [← hwb.out]
  clear hwb
  go_wp2_with fail
  refine RT.out.mono ?_
  rintro e w' ⟨vf, fd, rfl, OK, b, ro⟩
  obtain ⟨a', c', hv, -, -⟩ := OK.row kt_ok
  have hA := ro.any
  have b2 := Lib.hid (bb.out.trans (b.mono bb.out.size))
  obtain ⟨m, hm⟩ : ∃ m, m = fd.length := ⟨_, rfl⟩
  rw [← hm] at hv hA
  subst hv
  clear ro b hm RT OK
  by_cases q : 0 < m
  · have e1 : rt = true := hrt.out.2 (hA.1 q)
    subst e1
    have q1 : decide (0 < m) = true := decide_eq_true q
    have q2 : decide ((0 : Int) < (m : Int)) = true := decide_eq_true (by omega)
    clear hA hrt q
    go_wp2_with fail
    go_ret
    exact ⟨rfl, b2.out⟩
  · have e1 : rt = false := by
      cases rt with
      | false => rfl
      | true => exact absurd (hA.2 (hrt.out.1 rfl)) q
    subst e1
    have q1 : decide (0 < m) = false := decide_eq_false q
    have q2 : decide ((0 : Int) < (m : Int)) = false := decide_eq_false (by omega)
    clear hA hrt q
    go_wp2_with fail
    go_ret
    exact ⟨rfl, b2.out⟩
set_option maxHeartbeats 4000000 in
theorem popen_ip (T : Tu) (v : Value) (w : World) (h : RusAt w v T.rules) (hb : TuB T) (hi : T.ip = true) (hrt : T.rt = true ↔ anyR T.rules) : Calls Tryz.prog 9 #[tuV T v] w fun e w' => e = .returned (.int .i64 (openE T)) ∧ Below w.heap.size w w' := by
  obtain ⟨t0, bb⟩ := TL.new h 28
  obtain ⟨wb, hwb⟩ : ∃ x, x = w.alloc (.cells #[.bool T.ip, .int .u32 T.addr, .int .i64 T.tp, .int .u32 T.own, .int .i64 T.port, v] 28) := ⟨_, rfl⟩
  rw [← hwb] at t0 bb
  obtain ⟨a, n, c, rfl⟩ := h.form
  have IS := Lib.hid (pisopen_ip T _ wb t0.r hb hi hrt)
  unfold tuV at IS
  obtain ⟨ip, addr, tp, own, port, rules, rt⟩ := T
  simp only at *
  subst hi
  have e0 : openE ⟨true, addr, tp, own, port, rules, rt⟩ = if rt then 0 else 15 := rfl
  rw [e0]
  have a0 := t0.c.cell 0 rfl
  have a1 := t0.c.cell 1 rfl
  have a2 := t0.c.cell 2 rfl
  have a3 := t0.c.cell 3 rfl
  have a4 := t0.c.cell 4 rfl
  have a5 := t0.c.cell 5 rfl
  replace bb := Lib.hid bb
  replace hwb := Lib.hid hwb
  clear h hb t0 e0 hrt
  unfold tuV
  go_enter Tryz.func9, Tryz.ntmps9
  go_upto_region 1 with fail
  rw [← hwb.out]
  clear hwb
  cases rt with
  | true =>
    go_wp2_with fail
    refine IS.out.mono ?_
    rintro e w' ⟨rfl, b⟩
    have b2 := Lib.hid (bb.out.trans (b.mono bb.out.size))
    clear b IS
    go_wp2_with fail
    go_ret
    exact ⟨rfl, b2.out⟩
  | false =>
    go_wp2_with fail
    refine IS.out.mono ?_
    rintro e w' ⟨rfl, b⟩
    have b2 := Lib.hid (bb.out.trans (b.mono bb.out.size))
    clear b IS
    go_wp2_with fail
    go_ret
    exact ⟨rfl, b2.out⟩
theorem open22 : TuOpenF := ⟨fun T v w h hb hrt => by
  cases hi : T.ip with
  | true => exact popen_ip T v w h hb hi hrt
  | false => exact popen_plain T v w h hb hi⟩
end Go.Proofs.YtndaohiecpdmlaaGreat
