/-
  The law PolicyAllows returns true for every rules and every packet: rules say of it, and what is wrong with rules is told, as the chapter says. No condition.
-/
import Derived.Test.YtnlocjjnginjeaaPoRefA
import Derived.Test.YtnlocjjnginjeaaPoOpen
import Derived.Test.YtnlocjjnginjeaaPoOpen
import Derived.LaidLaws
namespace Go.Proofs.Ytnlocjjnginjeaa.policyAllows
set_option maxRecDepth 100000
open Go.ChangeShapes Go.WideShapes Go.ChangeAt Go.RowKit
open Go.ChangeMaps (open_string shut_string)

set_option maxHeartbeats 8000000 in
theorem walk (v : Value) (l : List Ru) (p a q : Int) (w : World) (h : RusAt w v l) (hz : l.length * 48 ≤ 140737488351232) (HB : ∀ r ∈ l, RuB r) (b0 : 0 ≤ a) (b1 : a < 4294967296) :
    Calls Try.prog 3 #[v, .int .i64 p, .int .u32 a, .int .i64 q] w fun e w' => e = .returned (.bool true) ∧ Below w.heap.size w w' := by
  have hl : l.length ≤ 9223372036854775807 := by omega
  have O := Lib.hid fun w' (b : Below w.heap.size w w') => own_ok l v w' (h.keep b) (by omega)
  have P1 := Lib.hid fun v' w' (h' : RusAt w' v' l) => pchk18_ok l v' w' h' HB hl
  have P2 := Lib.hid fun w' (b : Below w.heap.size w w') => rchk18_ok l v w' (h.keep b) HB hl
  have A1 := Lib.hid fun v' w' (h' : RusAt w' v' l) => allow_ok l v' p a q b0 b1 w' h' HB hl
  have A2 := Lib.hid fun w' (b : Below w.heap.size w w') => rallow_ok l v p a q b0 b1 w' (h.keep b) HB hl
  obtain ⟨ad, cap, hv, -, -⟩ := h
  have K : Hid (∃ K, K = ruK l) := ⟨_, rfl⟩
  obtain ⟨K, hK⟩ := K.out
  obtain ⟨Y, hY⟩ : ∃ Y, Y = alw l p a q := ⟨_, rfl⟩
  rw [← hK] at P1 P2
  rw [← hY] at A1 A2
  clear hK hY HB hz hl
  generalize l.length = n at hv
  subst hv
  go_enter Try.func3, Try.ntmps3
  go_wp2_with fail
  refine (O.out w (Below.refl _ _)).mono ?_
  rintro e w1 ⟨v1, rfl, o1, n1, b1⟩
  obtain ⟨x1, c1, rfl⟩ := o1.slice
  replace o1 := Lib.hid o1.rus
  go_wp2_with fail
  refine (P1.out _ w1 o1.out).mono ?_
  rintro e w2 ⟨rfl, b2⟩
  have B2 := Lib.hid (b1.trans (b2.mono b1.size))
  clear b1 b2 n1 o1
  go_wp2_with fail
  refine (P2.out w2 B2.out).mono ?_
  rintro e w3 ⟨rfl, b3⟩
  have B3 := Lib.hid (B2.out.trans (b3.mono B2.out.size))
  clear B2 b3
  have ek : (K == K) = true := by simp
  go_wp2_with fail
  refine (O.out w3 B3.out).mono ?_
  rintro e w4 ⟨v4, rfl, o4, n4, b4⟩
  obtain ⟨x4, c4, rfl⟩ := o4.slice
  replace o4 := Lib.hid o4.rus
  have B4 := Lib.hid (B3.out.trans (b4.mono B3.out.size))
  clear B3 b4 n4
  go_wp2_with fail
  refine (A1.out _ w4 o4.out).mono ?_
  rintro e w5 ⟨rfl, b5⟩
  have B5 := Lib.hid (B4.out.trans (b5.mono B4.out.size))
  clear B4 b5 o4
  go_wp2_with fail
  refine (A2.out w5 B5.out).mono ?_
  rintro e w6 ⟨rfl, b6⟩
  have B6 := Lib.hid (B5.out.trans (b6.mono B5.out.size))
  clear B5 b6
  have ey : (Y == Y) = true := by simp
  go_wp2_with fail
  go_ret
  exact ⟨by first | rfl | simp, B6.out⟩

theorem contract (H : Type) (enc : TypeId × Value → H) (W : World) (base : Nat) (args : Array Value) (ds gs : List (DataW H)) (before : List MemPlace)
    (hval : ∀ (j : Nat) t v, Try.f3.params[j]? = some t → args[j]? = some v → Value.okWide Try.prog W .any base t v)
    (hW : DataW.Whole enc Try.prog Try.f3.params.toList Rows.policyAllowsSpec.vars false W args.toList ds gs before)
    (hsz : (DataW.weightsEach Try.prog (Try.f3.params.toList ++ (OpenSpec.ofChange Rows.policyAllowsSpec).bare.plain.varTypes Try.prog) (ds ++ gs)).all (· ≤ reachBytes) = true) :
    Calls Try.prog 3 args W fun e W' => ∃ v, e = .returned v ∧ Rows.policyAllowsSpec.post enc Try.prog Try.f3 false true false false W args v W' := by
  have hW' := hW
  obtain ⟨p, q, hA0, hV, rfl, hfz, hnd⟩ := hW
  have hA : DataW.TrodAll enc Try.prog W 0 (fun _ => true) true Try.f3.params.toList args.toList ds p := hA0
  rw [Try.params3] at hA hval hsz
  obtain ⟨v0, vs0, d0, ds0, p0, q0, hargs, rfl, rfl, h0, r0⟩ := trodAll_cons hA
  obtain ⟨v1, vs1, d1, ds1, p1, q1, rfl, rfl, rfl, h1, r1⟩ := trodAll_cons r0
  obtain ⟨v2, vs2, d2, ds2, p2, q2, rfl, rfl, rfl, h2, r2⟩ := trodAll_cons r1
  obtain ⟨v3, vs3, d3, ds3, p3, q3, rfl, rfl, rfl, h3, r3⟩ := trodAll_cons r2
  obtain ⟨rfl, rfl, rfl⟩ := trodAll_nil r3
  obtain rfl : args = #[v0, v1, v2, v3] := by cases args; simp_all
  obtain ⟨rfl, rfl⟩ := trodVars_none hV
  have k0 := h0
  have lt0 : ∀ x ∈ p0, x.block < W.heap.size := by obtain ⟨m, hm⟩ := k0; exact DataW.trod_lt m _ _ _ hm
  obtain ⟨l0, hs0, hz0, hb0⟩ := open_rus (hval 0 22 v0 rfl rfl) h0 (fun n hn => by simpa using List.all_eq_true.1 hsz _ (DataW.weights_mem_each (j := 0) (t := 22) rfl rfl n hn))
  obtain ⟨a1, rfl, rfl, rfl, w1⟩ := open_int Try.underlying3 (hval 1 3 v1 rfl rfl) h1
  have b1 := bounds_i64 w1
  obtain ⟨a2, rfl, rfl, rfl, w2⟩ := open_int Try.underlying23 (hval 2 23 v2 rfl rfl) h2
  have b2 := bounds_u32 w2
  obtain ⟨a3, rfl, rfl, rfl, w3⟩ := open_int Try.underlying3 (hval 3 3 v3 rfl rfl) h3
  have b3 := bounds_i64 w3
  clear hA0
  simp only [List.append_nil] at hW'
  refine (walk v0 l0 a1 a2 a3 W hs0 hz0 hb0 b2.1 (by omega)).mono fun e W' ⟨he, bel⟩ => ?_
  subst he
  exact ⟨_, rfl, _, _, _, [], _, [], hW', trodAll_mk1 (shut_bool Try.underlying4 _), (trodAll_cons_mk (Below.trod laidOut (by kernel_rfl) (of_decide_eq_true (by kernel_rfl)) k0 bel lt0) (trodAll_cons_mk (shut_int Try.underlying3 w1) (trodAll_cons_mk (shut_int Try.underlying23 w2) (trodAll_cons_mk (shut_int Try.underlying3 w3) trodAll_mk0)))), rfl, bel.frame _, fun h => by cases h⟩

theorem laid_met (os : Os) : laidMet Try.prog Rows.policyAllowsRow.laid ((startWorld Try.prog os).forCall (fun _ _ => 0) ⟨#[], #[.slice none 0 0, .int .i64 0, .int .u32 0, .int .i64 0], []⟩).memory :=
  laidMet_of_run' 8 (by kernel_rfl) (by kernel_rfl)
theorem reads (os : Os) {H : Type} (enc : TypeId × Value → H) : ∃ places, DataW.whole enc Try.prog ((startWorld Try.prog os).forCall (fun _ _ => 0) ⟨#[], #[.slice none 0 0, .int .i64 0, .int .u32 0, .int .i64 0], []⟩).memory Try.f3.params.toList Rows.policyAllowsSpec.vars false #[Value.slice none 0 0, Value.int .i64 0, Value.int .u32 0, Value.int .i64 0].toList 8 = some ([.nil, .lit (.int .i64 0), .lit (.int .u32 0), .lit (.int .i64 0)], [], places) :=
  ⟨[], by kernel_rfl⟩

set_option maxRecDepth 100000 in
theorem lifted (os : Os) (started : os.Started) (H : Type) (enc : TypeId × Value → H) (F : Stop.Interp) :
    ReturnsInHanded {} Try.checked os 3 .any ((OpenSpec.ofChange Rows.policyAllowsSpec).preRow enc Try.prog Try.f3 Rows.policyAllowsRow.domain false Rows.policyAllowsRow.laid) (((OpenSpec.ofChange Rows.policyAllowsSpec).at F).post enc Try.prog Try.f3 false true false false) := by
  obtain ⟨places, hx⟩ := reads os enc
  refine returnsInHanded_of_row (C := Try.checked) (s := OpenSpec.ofChange Rows.policyAllowsSpec) own started (by kernel_rfl) Try.func3
    (witness_row_at (enc := enc) (C := Try.checked) false (startWorld Try.prog os) #[.slice none 0 0, .int .i64 0, .int .u32 0, .int .i64 0] rfl (by kernel_rfl) (by kernel_rfl) (by kernel_rfl)
      (OpenSpec.preRow_of_cond 8 hx (by kernel_rfl) (fun k hk => by cases hk) (by kernel_rfl) (laid_met os))) ?_
  intro W base args ds gs before hval hW _ _ hsz _ _ _
  exact contract H enc W base args ds gs before hval hW hsz

theorem said : Rows.PolicyAllowsSaid :=
  OpenClaim.holds_of_cond 3 Try.f3 rfl rfl rfl rfl rfl rfl rfl ⟨rfl, rfl, rfl, rfl, rfl⟩ rfl rfl rfl rfl rfl (by kernel_rfl) Try.func3 (by kernel_rfl)
    (of_decide_eq_true (by kernel_rfl)) (by unfold Func.isWrapper; first | (rw [if_pos (by decide +kernel)]; kernel_rfl) | (rw [if_neg (by decide +kernel)]; exact ⟨rfl, rfl⟩))
    (fun os started H enc _ F => by rw [OpenClaim.pre_eq_preRow]; exact lifted os started H enc F)
end Go.Proofs.Ytnlocjjnginjeaa.policyAllows
namespace Go.Proofs.Ytnlocjjnginjeaa
theorem policyAllows_said : Rows.PolicyAllowsSaid := policyAllows.said
end Go.Proofs.Ytnlocjjnginjeaa
