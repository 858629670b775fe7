/-
  What the document's own Open answers of any tunnel. No condition but what the form allows.
-/
import Derived.Test.YtndaohiecpdmlaaGreatTuOpen
import Derived.Test.YtndaohiecpdmlaaGreatPoFaceR
import Derived.Lib.Hide
import Derived.Tactics
import Derived.Tactics2
import Derived.RegionTactic
import Derived.BigQuiet
import Derived.Deep.Cut
namespace Go.Proofs.YtndaohiecpdmlaaGreat
set_option maxRecDepth 100000
open Go.RowKit Go.Sort

/-- Some route there is. -/
def anyR (l : List Ru) : Prop := ∃ fd, RtsOf l fd ∧ 0 < fd.length
theorem RtsOf.any {l : List Ru} {fd : List (Int × Int)} (h : RtsOf l fd) : 0 < fd.length ↔ anyR l :=
  ⟨fun q => ⟨fd, h, q⟩, fun ⟨f2, h2, q⟩ => by rw [h.same h2]; exact q⟩
def tuC (T : Tu) (v : Value) : List Value := [.bool T.ip, .int .u32 T.addr, .int .i64 T.tp, .int .u32 T.own, .int .i64 T.port, v]
set_option maxHeartbeats 4000000 in
theorem ropen_ok (T : Tu) (v : Value) (w : World) (h : RusAt w v T.rules) (hb : TuB T) (hrt : T.rt = true ↔ anyR T.rules) :
    Calls Tryz.prog 10 #[tuV T v] w fun e w' => e = .returned (.int .i64 (openE T)) ∧ Below w.heap.size w w' := by
  obtain ⟨wb, hwb⟩ : ∃ x, x = w.alloc (.cells #[.bool T.ip, .int .u32 T.addr, .int .i64 T.tp, .int .u32 T.own, .int .i64 T.port, v] 27) := ⟨_, rfl⟩
  have bb : Below w.heap.size w wb := by rw [hwb]; exact (Below.refl _ _).alloc (Nat.le_refl _) _
  have lb : Lies wb w.heap.size (tuC T v) := by rw [hwb]; exact Lies.new w (tuC T v) _
  have hl : T.rules.length ≤ 9223372036854775807 := by have := hb.len; omega
  have RT := Lib.hid (rroutes_ok T.rules v wb (h.keep bb) hb.rs hl)
  have AL := Lib.hid (rallow_ok T.rules v 17 T.addr T.tp hb.a0 hb.a1 wb (h.keep bb) hb.rs hl)
  have c0 := lb.cell 0 rfl
  have c1 := lb.cell 1 rfl
  have c2 := lb.cell 2 rfl
  have c5 := lb.cell 5 rfl
  have hsl : ∃ a n c, v = .slice a n c := by obtain ⟨a, c, e, -, -⟩ := h; exact ⟨a, _, c, e⟩
  obtain ⟨a, n, c, rfl⟩ := hsl
  have lt0 : w.heap.size < wb.heap.size := lb.lt (by show 0 < 6; decide)
  clear h hb hl lb
  obtain ⟨ip, addr, tp, own, port, rules, rt⟩ := T
  unfold tuV
  simp only at *
  replace bb := Lib.hid bb
  replace hwb := Lib.hid hwb
  replace hrt := Lib.hid hrt
  cases ip with
  | true =>
    go_enter Tryz.func10, Tryz.ntmps10
    go_upto_region 1 with fail
    rw [← hwb.out]
    clear hwb AL
    go_wp2_with fail
    refine RT.out.mono ?_
    rintro e w' ⟨vf, fd, rfl, ⟨a', c', hv, -, -⟩, b, ro⟩
    have hA := ro.any
    have k0 : w'.cell? ⟨w.heap.size, 0, none⟩ = some (.bool true) := (b.cell (p := ⟨w.heap.size, 0, none⟩) lt0).trans c0
    have b2 := Lib.hid (bb.out.trans (b.mono bb.out.size))
    obtain ⟨m, hm⟩ : ∃ m, m = fd.length := ⟨_, rfl⟩
    rw [← hm] at hv hA
    subst hv
    clear ro b hm RT
    by_cases q : 0 < m
    · have e1 : rt = true := hrt.out.2 (hA.1 q)
      subst e1
      have q1 : decide (0 < m) = true := decide_eq_true q
      have q2 : decide ((0 : Int) < (m : Int)) = true := decide_eq_true (by omega)
      clear hA hrt q
      go_wp2_with fail
      go_ret
      exact ⟨rfl, b2.out⟩
    · have e1 : rt = false := by
        cases rt with
        | false => rfl
        | true => exact absurd (hA.2 (hrt.out.1 rfl)) q
      subst e1
      have q1 : decide (0 < m) = false := decide_eq_false q
      have q2 : decide ((0 : Int) < (m : Int)) = false := decide_eq_false (by omega)
      clear hA hrt q
      go_wp2_with fail
      go_ret
      exact ⟨rfl, b2.out⟩
  | false =>
    have e0 : openE ⟨false, addr, tp, own, port, rules, rt⟩ = if alw rules 17 addr tp then 0 else 15 := rfl
    rw [e0]
    generalize alw rules 17 addr tp = y at AL ⊢
    clear RT hrt e0
    go_enter Tryz.func10, Tryz.ntmps10
    go_upto_region 1 with fail
    rw [← hwb.out]
    clear hwb
    cases y with
    | true =>
      go_wp2_with fail
      refine AL.out.mono ?_
      rintro e w' ⟨rfl, b⟩
      have b2 := Lib.hid (bb.out.trans (b.mono bb.out.size))
      clear b AL
      go_wp2_with fail
      go_ret
      exact ⟨rfl, b2.out⟩
    | false =>
      go_wp2_with fail
      refine AL.out.mono ?_
      rintro e w' ⟨rfl, b⟩
      have b2 := Lib.hid (bb.out.trans (b.mono bb.out.size))
      clear b AL
      go_wp2_with fail
      go_ret
      exact ⟨rfl, b2.out⟩
end Go.Proofs.YtndaohiecpdmlaaGreat
