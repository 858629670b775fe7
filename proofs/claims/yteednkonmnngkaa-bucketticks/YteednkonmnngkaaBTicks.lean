/-
  The law BucketTicks returns true for every rate, burst, number of ticks and of bytes: ticks one by one, or all at once, fill as much; nothing that is asked for and refused takes anything. No condition.
-/
import Derived.Test.YteednkonmnngkaaBkTwo
import Derived.Test.YteednkonmnngkaaBkOpen
import Derived.Deep.Cut
import Derived.Test.YteednkonmnngkaaBkOpen
import Derived.LaidLaws
namespace Go.Proofs.Yteednkonmnngkaa.bucketTicks
set_option maxRecDepth 100000
open Go.ChangeShapes Go.WideShapes Go.ChangeAt Go.RowKit
open Go.ChangeMaps (open_string shut_string)
theorem rem_at (a : Int) (N : Nat) (h0 : 0 < N) (hN : N < 1000000) : ∃ k : Nat, wrap64 ((IntKind.u64.wrap a).tmod (N : Int)) = (k : Int) ∧ k < N := by
  have h : 0 ≤ IntKind.u64.wrap a := by unfold IntKind.wrap; simp [IntKind.bits, IntKind.signed]; omega
  rw [Int.tmod_eq_emod_of_nonneg h]
  have h1 := Int.emod_nonneg (IntKind.u64.wrap a) (show (N : Int) ≠ 0 by omega)
  have h2 := Int.emod_lt_of_pos (IntKind.u64.wrap a) (show (0 : Int) < N by omega)
  refine ⟨((IntKind.u64.wrap a) % (N : Int)).toNat, ?_, by omega⟩
  unfold wrap64
  omega
theorem tick_more {s : Bkt} (h : s.Ok) (i : Nat) (hi : i < 1000) : bkTick (bkTick s i) 1 = bkTick s ((i + 1 : Nat) : Int) := by
  have h0 := h.r0
  have h1 := h.l1
  have c1 : cutB 1 = 1 := by decide
  have c2 : cutB (i : Int) = i := cutB_in (by omega) (by omega)
  have c3 : cutB ((i + 1 : Nat) : Int) = (i : Int) + 1 := by rw [cutB_in (by omega) (by omega)]; omega
  have hm : 0 ≤ s.r * (i : Int) := Int.mul_nonneg h0 (by omega)
  unfold bkTick bkFill
  simp only [c1, c2, c3, Int.mul_add, Int.mul_one]
  congr 1
  generalize s.r * (i : Int) = m at *
  split <;> split <;> (try split) <;> omega
theorem tick_none {s : Bkt} (h : s.Ok) : bkTick s ((0 : Nat) : Int) = s := by
  have h1 := h.l1
  have c : cutB ((0 : Nat) : Int) = 0 := by decide
  unfold bkTick bkFill
  rw [c]
  simp only [Int.mul_zero, Int.add_zero]
  rw [if_neg (by omega)]
theorem take_lv {s : Bkt} {n : Int} (h : bkYes s n = false) : (bkTake s n).lv = s.lv := by
  unfold bkYes at h
  unfold bkTake
  simp at h
  split
  · rfl
  split
  · rfl
  · omega
set_option maxHeartbeats 4000000 in
theorem walk (r b n t : Int) (w : World) (ht : -9223372036854775808 ≤ t ∧ t ≤ 9223372036854775807) :
    Calls Try.prog 5 #[.int .i64 r, .int .i64 b, .int .i64 n, .int .i64 t] w fun e w' => e = .returned (.bool true) ∧ Below w.heap.size w w' := by
  obtain ⟨N, hN, hN2⟩ := rem_at n 50 (by decide) (by decide)
  replace hN : wrap64 ((IntKind.u64.wrap n).tmod 50) = (N : Int) := hN
  have WK := Lib.hid (works19_ok w)
  have N1 := Lib.hid fun w' (b' : Below w.heap.size w w') => one_new r b w w' b'
  have N2 := Lib.hid fun (w' : World) (A : Nat) (s : Bkt) (h : One w w' A s) => two_new r b h
  have K := Lib.hid fun (w' : World) (A B : Nat) (s u : Bkt) (h : Two w w' A s B u) (n : Int) (hn : -9223372036854775808 ≤ n ∧ n ≤ 9223372036854775807) => two_take h n hn
  have T := Lib.hid fun (w' : World) (A B : Nat) (s u : Bkt) (h : Two w w' A s B u) (n : Int) => two_tick h n
  have L := Lib.hid fun (w' : World) (A B : Nat) (s u : Bkt) (h : Two w w' A s B u) => two_level h
  go_enter Try.func5, Try.ntmps5
  go_wp2_with fail
  refine WK.out.mono ?_
  rintro e w0 ⟨rfl, B0⟩
  replace B0 := Lib.hid B0
  go_wp2_with fail
  refine (N1.out _ B0.out).mono ?_
  rintro e w1 ⟨A, rfl, o⟩
  replace o := Lib.hid o
  clear N1 WK B0
  generalize bkNew r b = s0 at *
  go_wp2_with fail
  refine (N2.out _ _ _ o.out).mono ?_
  rintro e w2 ⟨B, rfl, o2⟩
  replace o2 := Lib.hid o2
  clear N2 o
  go_wp2_with fail
  refine (K.out _ _ _ _ _ o2.out t ht).mono ?_
  rintro e w3 ⟨rfl, o3⟩
  replace o3 := Lib.hid o3
  clear o2
  go_wp2_with fail
  refine (K.out _ _ _ _ _ o3.out.symm t ht).mono ?_
  rintro e w4 ⟨rfl, o4⟩
  clear o3
  generalize bkTake s0 t = s at *
  have TM := Lib.hid fun i hi => tick_more o4.ob i hi
  have o5 : Two w w4 A (bkTick s ((0 : Nat) : Int)) B s := by rw [tick_none o4.ob]; exact o4.symm
  replace o5 := Lib.hid o5
  clear o4
  go_wp2_with fail
  rw [hN]
  clear hN
  go_loopg [11] N (fun g iv wr => ∃ i : Nat, i + g = N ∧ iv = .int .i64 i ∧ Hid (Two w wr A (bkTick s (i : Int)) B s))
  case atStart => exact ⟨0, by omega, rfl, o5⟩
  case round =>
    clear o5
    obtain ⟨i, hi, rfl, o⟩ := hrel
    by_cases hlt : i < N
    · have q1 : decide (i < N) = true := decide_eq_true hlt
      have q2 : decide ((i : Int) < (N : Int)) = true := decide_eq_true (by omega)
      have tm := Lib.hid (TM.out i (by omega))
      have C := Lib.hid (T.out _ _ _ _ _ o.out 1)
      rw [tm.out] at C
      clear o
      go_wp2_with fail
      refine C.out.mono ?_
      rintro e w5 ⟨rfl, o⟩
      replace o := Lib.hid o
      go_wp2_with fail
      go_roundg (N - (i + 1))
      case measure => omega
      case rel => exact ⟨i + 1, by omega, by go_num, o.out⟩
    · obtain rfl : i = N := by omega
      have q1 : decide (i < i) = false := decide_eq_false (by omega)
      have q2 : decide ((i : Int) < (i : Int)) = false := decide_eq_false (by omega)
      clear TM hlt
      go_wp2_with fail
      refine (T.out _ _ _ _ _ o.out.symm (i : Int)).mono ?_
      rintro e w5 ⟨rfl, o⟩
      clear q1 q2
      generalize bkTick s (i : Int) = u at *
      have l0 := o.oa.l0
      have l1 := o.oa.l1
      have l2 := o.oa.b1
      have y1 : bkYes u (u.lv + 1) = false := by unfold bkYes; simp; omega
      have y2 : bkYes (bkTake u (u.lv + 1)) (-1) = false := rfl
      have v1 := take_lv y1
      have y3 : bkYes (bkTake (bkTake u (u.lv + 1)) (-1)) 0 = true := by
        have := take_lv y2
        unfold bkYes
        rw [this, v1]
        simp
        exact l0
      have ew : wrap64 (u.lv + 1) = u.lv + 1 := by unfold wrap64; omega
      have C1 := Lib.hid fun w' (h : Two w w' A u B u) => K.out w' A B u u h (u.lv + 1) (by omega)
      rw [y1] at C1
      have C2 := Lib.hid fun w' (h : Two w w' A (bkTake u (u.lv + 1)) B u) => L.out w' A B _ u h
      rw [v1] at C2
      have C3 := Lib.hid fun w' (h : Two w w' A (bkTake u (u.lv + 1)) B u) => K.out w' A B _ u h (-1) (by decide)
      rw [y2] at C3
      have C4 := Lib.hid fun w' (h : Two w w' A (bkTake (bkTake u (u.lv + 1)) (-1)) B u) => K.out w' A B _ u h 0 (by decide)
      rw [y3] at C4
      have C0 := Lib.hid fun w' (A B : Nat) (v : Bkt) (h : Two w w' A u B v) => L.out w' A B u v h
      have o := Lib.hid o.symm
      clear K T L y1 y2 y3 v1 l0 l1 l2
      generalize bkTake u (u.lv + 1) = u1 at *
      generalize bkTake u1 (-1) = u2 at *
      generalize u.lv = x at *
      have ex : (x == x) = true := by simp
      have ex1 : decide (x = x) = true := by simp
      go_wp2_with fail
      refine (C0.out _ _ _ _ o.out).mono ?_
      rintro e w6 ⟨rfl, rfl⟩
      go_wp2_with fail
      refine (C1.out _ o.out).mono ?_
      rintro e w6 ⟨rfl, o1⟩
      replace o1 := Lib.hid o1
      go_wp2_with fail
      refine (C0.out _ _ _ _ o1.out.symm).mono ?_
      rintro e w7 ⟨rfl, rfl⟩
      go_wp2_with fail
      refine (C2.out _ o1.out).mono ?_
      rintro e w7 ⟨rfl, rfl⟩
      go_wp2_with fail
      refine (C3.out _ o1.out).mono ?_
      rintro e w7 ⟨rfl, o2⟩
      replace o2 := Lib.hid o2
      go_wp2_with fail
      refine (C4.out _ o2.out).mono ?_
      rintro e w8 ⟨rfl, o3⟩
      replace o3 := Lib.hid o3
      go_wp2_with fail
      go_ret
      exact ⟨by simp, o3.out.bel⟩

theorem contract (H : Type) (enc : TypeId × Value → H) (W : World) (base : Nat) (args : Array Value) (ds gs : List (DataW H)) (before : List MemPlace)
    (hval : ∀ (j : Nat) t v, Try.f5.params[j]? = some t → args[j]? = some v → Value.okWide Try.prog W .any base t v)
    (hW : DataW.Whole enc Try.prog Try.f5.params.toList Rows.bucketTicksSpec.vars false W args.toList ds gs before) :
    Calls Try.prog 5 args W fun e W' => ∃ v, e = .returned v ∧ Rows.bucketTicksSpec.post enc Try.prog Try.f5 false true false false W args v W' := by
  have hW' := hW
  obtain ⟨p, q, hA0, hV, rfl, hfz, hnd⟩ := hW
  have hA : DataW.TrodAll enc Try.prog W 0 (fun _ => true) true Try.f5.params.toList args.toList ds p := hA0
  rw [Try.params5] at hA hval
  obtain ⟨v0, vs0, d0, ds0, p0, q0, hargs, rfl, rfl, h0, r0⟩ := trodAll_cons hA
  obtain ⟨v1, vs1, d1, ds1, p1, q1, rfl, rfl, rfl, h1, r1⟩ := trodAll_cons r0
  obtain ⟨v2, vs2, d2, ds2, p2, q2, rfl, rfl, rfl, h2, r2⟩ := trodAll_cons r1
  obtain ⟨v3, vs3, d3, ds3, p3, q3, rfl, rfl, rfl, h3, r3⟩ := trodAll_cons r2
  obtain ⟨rfl, rfl, rfl⟩ := trodAll_nil r3
  obtain rfl : args = #[v0, v1, v2, v3] := by cases args; simp_all
  obtain ⟨rfl, rfl⟩ := trodVars_none hV
  obtain ⟨a0, rfl, rfl, rfl, w0⟩ := open_int Try.underlying3 (hval 0 3 v0 rfl rfl) h0
  have b0 := bounds_i64 w0
  obtain ⟨a1, rfl, rfl, rfl, w1⟩ := open_int Try.underlying3 (hval 1 3 v1 rfl rfl) h1
  have b1 := bounds_i64 w1
  obtain ⟨a2, rfl, rfl, rfl, w2⟩ := open_int Try.underlying3 (hval 2 3 v2 rfl rfl) h2
  have b2 := bounds_i64 w2
  obtain ⟨a3, rfl, rfl, rfl, w3⟩ := open_int Try.underlying3 (hval 3 3 v3 rfl rfl) h3
  have b3 := bounds_i64 w3
  clear hA0
  simp only [List.append_nil] at hW'
  refine (walk a0 a1 a2 a3 W b3).mono fun e W' ⟨he, bel⟩ => ?_
  subst he
  exact ⟨_, rfl, _, _, _, [], _, [], hW', trodAll_mk1 (shut_bool Try.underlying4 _), (trodAll_cons_mk (shut_int Try.underlying3 w0) (trodAll_cons_mk (shut_int Try.underlying3 w1) (trodAll_cons_mk (shut_int Try.underlying3 w2) (trodAll_cons_mk (shut_int Try.underlying3 w3) trodAll_mk0)))), rfl, bel.frame _, fun h => by cases h⟩

theorem laid_met (os : Os) : laidMet Try.prog Rows.bucketTicksRow.laid ((startWorld Try.prog os).forCall (fun _ _ => 0) ⟨#[], #[.int .i64 0, .int .i64 0, .int .i64 0, .int .i64 0], []⟩).memory :=
  laidMet_of_run' 8 (by kernel_rfl) (by kernel_rfl)
theorem reads (os : Os) {H : Type} (enc : TypeId × Value → H) : ∃ places, DataW.whole enc Try.prog ((startWorld Try.prog os).forCall (fun _ _ => 0) ⟨#[], #[.int .i64 0, .int .i64 0, .int .i64 0, .int .i64 0], []⟩).memory Try.f5.params.toList Rows.bucketTicksSpec.vars false #[Value.int .i64 0, Value.int .i64 0, Value.int .i64 0, Value.int .i64 0].toList 8 = some ([.lit (.int .i64 0), .lit (.int .i64 0), .lit (.int .i64 0), .lit (.int .i64 0)], [], places) :=
  ⟨[], by kernel_rfl⟩

set_option maxRecDepth 100000 in
theorem lifted (os : Os) (started : os.Started) (H : Type) (enc : TypeId × Value → H) (F : Stop.Interp) :
    ReturnsInHanded {} Try.checked os 5 .any ((OpenSpec.ofChange Rows.bucketTicksSpec).preRow enc Try.prog Try.f5 Rows.bucketTicksRow.domain false Rows.bucketTicksRow.laid) (((OpenSpec.ofChange Rows.bucketTicksSpec).at F).post enc Try.prog Try.f5 false true false false) := by
  obtain ⟨places, hx⟩ := reads os enc
  refine returnsInHanded_of_row (C := Try.checked) (s := OpenSpec.ofChange Rows.bucketTicksSpec) own started (by kernel_rfl) Try.func5
    (witness_row_at (enc := enc) (C := Try.checked) false (startWorld Try.prog os) #[.int .i64 0, .int .i64 0, .int .i64 0, .int .i64 0] rfl (by kernel_rfl) (by kernel_rfl) (by kernel_rfl)
      (OpenSpec.preRow_of_cond 8 hx (by kernel_rfl) (fun k hk => by cases hk) (by kernel_rfl) (laid_met os))) ?_
  intro W base args ds gs before hval hW _ _ _ _ _ _
  exact contract H enc W base args ds gs before hval hW

theorem said : Rows.BucketTicksSaid :=
  OpenClaim.holds_of_cond 5 Try.f5 rfl rfl rfl rfl rfl rfl rfl ⟨rfl, rfl, rfl, rfl, rfl⟩ rfl rfl rfl rfl rfl (by kernel_rfl) Try.func5 (by kernel_rfl)
    (of_decide_eq_true (by kernel_rfl)) (by unfold Func.isWrapper; first | (rw [if_pos (by decide +kernel)]; kernel_rfl) | (rw [if_neg (by decide +kernel)]; exact ⟨rfl, rfl⟩))
    (fun os started H enc _ F => by rw [OpenClaim.pre_eq_preRow]; exact lifted os started H enc F)
end Go.Proofs.Yteednkonmnngkaa.bucketTicks
namespace Go.Proofs.Yteednkonmnngkaa
theorem bucketTicks_said : Rows.BucketTicksSaid := bucketTicks.said
end Go.Proofs.Yteednkonmnngkaa
