/-
  The law PrefixHas returns true for every prefix and address: whether the prefix is right, whether the address is in it, and its ends are what the chapter says. No condition but the form's own reach.
-/
import Derived.Test.YtnkhafkdmlfdbaaPfOwn
import Derived.Test.YtnkhafkdmlfdbaaPfRefB
import Derived.Test.YtnkhafkdmlfdbaaPfHalf
import Derived.Test.YtnkhafkdmlfdbaaPfOpen
import Derived.LaidLaws
namespace Go.Proofs.Ytnkhafkdmlfdbaa.prefixHas
open Go.ChangeShapes Go.WideShapes Go.ChangeAt Go.RowKit Go.Sort
open Go.ChangeMaps (open_string shut_string)

set_option maxHeartbeats 2000000 in
theorem walk (addr bits a : Int) (w : World) (s0 : 0 ≤ addr) (s1 : addr < 4294967296) (d0 : 0 ≤ a) (d1 : a < 4294967296) :
    Calls Try.prog 3 #[pv addr bits, .int .u32 a] w fun e w' => e = .returned (.bool true) ∧ Below w.heap.size w w' := by
  obtain ⟨x, y, E, R⟩ : ∃ x y, Hid (∀ w, Calls Try.prog 5 #[pv addr bits] w fun e w' => e = .returned (.tuple #[.int .u32 x, .int .u32 y]) ∧ Below w.heap.size w w') ∧ Hid (∀ w, Calls Try.prog 6 #[pv addr bits] w fun e w' => e = .returned (.tuple #[.int .u32 x, .int .u32 y]) ∧ Below w.heap.size w w') := by
    by_cases h : rt addr bits = true
    · exact ⟨_, _, fun w => ends_ok addr bits w s0 s1 h, fun w => rends_ok addr bits w s0 s1 h (rt_room h s1)⟩
    · have h' : rt addr bits = false := by simpa using h
      exact ⟨_, _, fun w => ends_no addr bits w s0 s1 h', fun w => rends_no addr bits w s0 s1 h'⟩
  have C1 : Hid (∀ w, _) := fun w => check_ok addr bits w s0 s1
  have C2 : Hid (∀ w, _) := fun w => rcheck_ok addr bits w s0 s1
  have H1 : Hid (∀ w, _) := fun w => has_ok addr bits a w s0 s1 d0 d1
  have H2 : Hid (∀ w, _) := fun w => rhas_ok addr bits a w s0 s1 d0 d1
  generalize rt addr bits = q at *
  generalize inP addr bits a = q2 at *
  have t1 : (q == q) = true := by cases q <;> rfl
  have t2 : (q2 == q2) = true := by cases q2 <;> rfl
  have lt : ∀ o, w.heap.size < (w.alloc o).heap.size := fun o => by simp
  have le : ∀ (w : World) o, w.heap.size ≤ (w.alloc o).heap.size := fun w o => by simp
  have X0 : Hid _ := pbox_new w addr bits
  unfold pv at *
  go_enter Try.func3, Try.ntmps3
  go_wp2_with (first
    | (go_at_call 5; refine (E.out _).mono ?_; rintro e w1 ⟨rfl, b1⟩; have X1 := X0.out.keep (lt _) b1; obtain ⟨l1, c0, c1⟩ := X1; have Y1 : Hid _ := PBox.mk l1 c0 c1; have Z1 : Hid _ := ((Below.refl w.heap.size w).alloc (Nat.le_refl _) _).trans (b1.mono (le w _)); clear b1 X0)
    | (go_at_call 6; refine (R.out _).mono ?_; rintro e w2 ⟨rfl, b2⟩; have X2 := Y1.out.keep Y1.out.lt b2; have Z2 : Hid _ := Z1.out.trans (b2.mono Z1.out.size); clear b2 Z1 Y1 c0 c1; have k0 := cell_regrown X2.c0; have k1 := cell_regrown X2.c1; clear X2))
  refine wp_region_quiet_below (by kernel_rfl) (by kernel_rfl) ?_
  repeat (go_big_quiet_step (first | (go_at_call 7; exact Calls.regrown_of (C1.out _)) | (go_at_call 8; exact Calls.regrown_of (C2.out _)) | (go_at_call 9; exact Calls.regrown_of (H1.out _)) | (go_at_call 10; exact Calls.regrown_of (H2.out _))))
  refine wpQuiet_nil ?_
  intro _ hw'
  obtain ⟨⟨dq, osq⟩, hw''⟩ := hw'
  subst hw''
  go_wp2
  go_ret
  exact ⟨rfl, Z2.out.trans ((below_regrown _ dq osq).mono Z2.out.size)⟩

theorem contract (H : Type) (enc : TypeId × Value → H) (W : World) (base : Nat) (args : Array Value) (ds gs : List (DataW H)) (before : List MemPlace)
    (hval : ∀ (j : Nat) t v, Try.f3.params[j]? = some t → args[j]? = some v → Value.okWide Try.prog W .any base t v)
    (hW : DataW.Whole enc Try.prog Try.f3.params.toList Rows.prefixHasSpec.vars false W args.toList ds gs before) :
    Calls Try.prog 3 args W fun e W' => ∃ v, e = .returned v ∧ Rows.prefixHasSpec.post enc Try.prog Try.f3 false true false false W args v W' := by
  have hW' := hW
  obtain ⟨p, q, hA0, hV, rfl, hfz, hnd⟩ := hW
  have hA : DataW.TrodAll enc Try.prog W 0 (fun _ => true) true Try.f3.params.toList args.toList ds p := hA0
  rw [Try.params3] at hA hval
  obtain ⟨v0, vs0, d0, ds0, p0, q0, hargs, rfl, rfl, h0, r0⟩ := trodAll_cons hA
  obtain ⟨v1, vs1, d1, ds1, p1, q1, rfl, rfl, rfl, h1, r1⟩ := trodAll_cons r0
  obtain ⟨rfl, rfl, rfl⟩ := trodAll_nil r1
  obtain rfl : args = #[v0, v1] := by cases args; simp_all
  obtain ⟨rfl, rfl⟩ := trodVars_none hV
  have k0 := h0
  have lt0 : ∀ x ∈ p0, x.block < W.heap.size := by obtain ⟨m, hm⟩ := k0; exact DataW.trod_lt m _ _ _ hm
  obtain ⟨addr, bits, rfl, s0, s1, z0, y0⟩ := open_pfx (hval 0 24 v0 rfl rfl) h0
  obtain ⟨a1, rfl, rfl, rfl, w1⟩ := open_int Try.underlying22 (hval 1 22 v1 rfl rfl) h1
  have b1 := bounds_u32 w1
  clear hA0
  simp only [List.append_nil] at hW'
  refine (walk addr bits a1 W s0 s1 (by omega) (by omega)).mono fun e W' ⟨he, bel⟩ => ?_
  subst he
  exact ⟨_, rfl, _, _, _, [], _, [], hW', trodAll_mk1 (shut_bool Try.underlying4 _), (trodAll_cons_mk (Below.trod laidOut (by kernel_rfl) (of_decide_eq_true (by kernel_rfl)) k0 bel lt0) (trodAll_cons_mk (shut_int Try.underlying22 w1) trodAll_mk0)), rfl, bel.frame _, fun h => by cases h⟩

theorem laid_met (os : Os) : laidMet Try.prog Rows.prefixHasRow.laid ((startWorld Try.prog os).forCall (fun _ _ => 0) ⟨#[], #[.agg #[.int .u32 0, .int .i64 0], .int .u32 0], []⟩).memory :=
  laidMet_of_run' 8 (by kernel_rfl) (by kernel_rfl)
theorem reads (os : Os) {H : Type} (enc : TypeId × Value → H) : ∃ places, DataW.whole enc Try.prog ((startWorld Try.prog os).forCall (fun _ _ => 0) ⟨#[], #[.agg #[.int .u32 0, .int .i64 0], .int .u32 0], []⟩).memory Try.f3.params.toList Rows.prefixHasSpec.vars false #[Value.agg #[.int .u32 0, .int .i64 0], Value.int .u32 0].toList 8 = some ([.agg [.lit (.int .u32 0), .lit (.int .i64 0)], .lit (.int .u32 0)], [], places) :=
  ⟨[], by kernel_rfl⟩

set_option maxRecDepth 100000 in
theorem lifted (os : Os) (started : os.Started) (H : Type) (enc : TypeId × Value → H) (F : Stop.Interp) :
    ReturnsInHanded {} Try.checked os 3 .any ((OpenSpec.ofChange Rows.prefixHasSpec).preRow enc Try.prog Try.f3 Rows.prefixHasRow.domain false Rows.prefixHasRow.laid) (((OpenSpec.ofChange Rows.prefixHasSpec).at F).post enc Try.prog Try.f3 false true false false) := by
  obtain ⟨places, hx⟩ := reads os enc
  refine returnsInHanded_of_row (C := Try.checked) (s := OpenSpec.ofChange Rows.prefixHasSpec) own started (by kernel_rfl) Try.func3
    (witness_row_at (enc := enc) (C := Try.checked) false (startWorld Try.prog os) #[.agg #[.int .u32 0, .int .i64 0], .int .u32 0] rfl (by kernel_rfl) (by kernel_rfl) (by kernel_rfl)
      (OpenSpec.preRow_of_cond 8 hx (by kernel_rfl) (fun k hk => by cases hk) (by kernel_rfl) (laid_met os))) ?_
  intro W base args ds gs before hval hW _ _ _ _ _ _
  exact contract H enc W base args ds gs before hval hW

theorem said : Rows.PrefixHasSaid :=
  OpenClaim.holds_of_cond 3 Try.f3 rfl rfl rfl rfl rfl rfl rfl ⟨rfl, rfl, rfl, rfl, rfl⟩ rfl rfl rfl rfl rfl (by kernel_rfl) Try.func3 (by kernel_rfl)
    (of_decide_eq_true (by kernel_rfl)) (by unfold Func.isWrapper; first | (rw [if_pos (by decide +kernel)]; kernel_rfl) | (rw [if_neg (by decide +kernel)]; exact ⟨rfl, rfl⟩))
    (fun os started H enc _ F => by rw [OpenClaim.pre_eq_preRow]; exact lifted os started H enc F)
end Go.Proofs.Ytnkhafkdmlfdbaa.prefixHas
namespace Go.Proofs.Ytnkhafkdmlfdbaa
theorem prefixHas_said : Rows.PrefixHasSaid := prefixHas.said
end Go.Proofs.Ytnkhafkdmlfdbaa
