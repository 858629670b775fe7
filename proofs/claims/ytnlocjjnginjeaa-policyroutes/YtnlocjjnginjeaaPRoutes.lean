/-
  The law PolicyRoutes returns true for every rules: the addresses to which some packet may go are told, in as few routes as can be, as the chapter says. No condition.
-/
import Derived.Test.YtnlocjjnginjeaaPoFace
import Derived.BigQuiet
import Derived.Deep.LoopGhost
import Derived.Test.YtnlocjjnginjeaaPoOpen
import Derived.LaidLaws
namespace Go.Proofs.Ytnlocjjnginjeaa.policyRoutes
set_option maxRecDepth 100000
open Go.ChangeShapes Go.WideShapes Go.ChangeAt Go.RowKit
open Go.ChangeMaps (open_string shut_string)

set_option maxHeartbeats 16000000 in
theorem walk (v : Value) (l : List Ru) (w : World) (h : RusAt w v l) (hz : l.length * 48 ≤ 140737488351232) (HB : ∀ r ∈ l, RuB r) :
    Calls Try.prog 4 #[v] w fun e w' => e = .returned (.bool true) ∧ Below w.heap.size w w' := by
  have hl : l.length ≤ 9223372036854775807 := by omega
  have O := Lib.hid (own_ok l v w h (by omega))
  have P1 := Lib.hid fun v' w' (h' : RusAt w' v' l) => routes_ok l v' w' h' HB hl
  have P2 := Lib.hid fun w' (b : Below w.heap.size w w') => rroutes_ok l v w' (h.keep b) HB hl
  obtain ⟨ad, cap, hv, -, -⟩ := h
  clear HB hz hl
  generalize l.length = nl at hv
  subst hv
  go_enter Try.func4, Try.ntmps4
  go_wp2_with fail
  refine O.out.mono ?_
  rintro e w1 ⟨v1, rfl, o1, n1, b1⟩
  obtain ⟨x1, c1, rfl⟩ := o1.slice
  replace o1 := Lib.hid o1.rus
  go_wp2_with fail
  refine (P1.out _ w1 o1.out).mono ?_
  rintro e w2 ⟨v2, fd, rfl, O2, b2, rt⟩
  have B2 := Lib.hid (b1.trans (b2.mono b1.size))
  obtain ⟨a2, c2, rfl⟩ := O2.slice
  have R2 := Lib.hid (O2.row kt_ok)
  clear b1 b2 n1 o1 O2 O P1
  go_wp2_with fail
  refine (P2.out w2 B2.out).mono ?_
  rintro e w3 ⟨v3, fd3, rfl, R3, b3, rt3⟩
  obtain rfl : fd = fd3 := rt.same rt3
  obtain ⟨a3, c3, rfl, -, -⟩ := id R3
  have S2 := Lib.hid (R2.out.keep b3)
  replace R3 := Lib.hid R3
  have B3 := Lib.hid (B2.out.trans (b3.mono B2.out.size))
  have n16 := rt.len
  clear R2 B2 b3 rt rt3 P2
  obtain ⟨n, hn⟩ : ∃ n, n = fd.length := ⟨_, rfl⟩
  rw [← hn] at S2 R3 n16 ⊢
  have L2 : Hid (0 < n → ∃ g o, a2 = some ⟨g, o, none⟩ ∧ ∀ w', Below w3.heap.size w3 w' → ∀ i, i < n → w'.cell? ⟨g, o + 3 * i, none⟩ = some (.int .u32 (fd.getD i (0, 0)).1) ∧ w'.cell? ⟨g, o + 3 * i + 1, none⟩ = some (.int .u32 (fd.getD i (0, 0)).2) ∧ w'.cell? ⟨g, o + 3 * i + 2, none⟩ = some (.int .i64 0)) := fun h0 => by
    obtain ⟨g, o, e, hg, c⟩ := rt_cells S2.out (by rw [← hn]; exact h0)
    exact ⟨g, o, e, fun w' b' i hi => ⟨(b'.cell hg).trans (c i (by rw [← hn]; exact hi)).1, (b'.cell hg).trans (c i (by rw [← hn]; exact hi)).2.1, (b'.cell hg).trans (c i (by rw [← hn]; exact hi)).2.2⟩⟩
  have L3 : Hid (0 < n → ∃ g o, a3 = some ⟨g, o, none⟩ ∧ ∀ w', Below w3.heap.size w3 w' → ∀ i, i < n → w'.cell? ⟨g, o + 3 * i, none⟩ = some (.int .u32 (fd.getD i (0, 0)).1) ∧ w'.cell? ⟨g, o + 3 * i + 1, none⟩ = some (.int .u32 (fd.getD i (0, 0)).2) ∧ w'.cell? ⟨g, o + 3 * i + 2, none⟩ = some (.int .i64 0)) := fun h0 => by
    obtain ⟨g, o, e, hg, c⟩ := rt_cells R3.out (by rw [← hn]; exact h0)
    exact ⟨g, o, e, fun w' b' i hi => ⟨(b'.cell hg).trans (c i (by rw [← hn]; exact hi)).1, (b'.cell hg).trans (c i (by rw [← hn]; exact hi)).2.1, (b'.cell hg).trans (c i (by rw [← hn]; exact hi)).2.2⟩⟩
  clear S2 R3 hn
  have z0 : ((n : Int) != (n : Int)) = false := by simp
  have z1 : (n != n) = false := by simp
  go_wp2_with fail
  go_loopg [5] n (fun g' s5 wr => ∃ k : Nat, s5 = .int .i64 (k : Int) ∧ k + g' = n ∧ Hid (Below w3.heap.size w3 wr))
  case atStart => exact ⟨0, rfl, by omega, Below.refl _ _⟩
  case round =>
    obtain ⟨k, rfl, hkg, b⟩ := hrel
    by_cases hlt : k < n
    · have g1 : decide ((k : Int) < (n : Int)) = true := decide_eq_true (by omega)
      have g1' : decide (k < n) = true := decide_eq_true hlt
      obtain ⟨ga, oa, rfl, CA⟩ := L2.out (by omega)
      obtain ⟨gb, ob, rfl, CB⟩ := L3.out (by omega)
      obtain ⟨m0, m1, m2⟩ := CA wr b.out k hlt
      obtain ⟨r0, r1, r2⟩ := CB wr b.out k hlt
      have ia := fun w' => at_ro ga oa n c2 k w' hlt (k : Int) rfl (oa + 3 * k) rfl
      have ib := fun w' => at_rd gb ob n c3 k w' hlt (k : Int) rfl (ob + 3 * k) rfl
      generalize (fd.getD k (0, 0)).1 = lo at *
      generalize (fd.getD k (0, 0)).2 = hi at *
      have y0 : (lo != lo) = false := by simp
      have y1 : (hi != hi) = false := by simp
      have y2 : ((0 : Int) != 0) = false := by decide
      have bd : Hid (∀ m, Below w3.heap.size w3 (wr.drewN m)) := fun m => b.out.trans ⟨rfl, rfl, rfl, Nat.le_refl _, fun _ _ => rfl⟩
      clear CA CB
      go_upto_region 7 with fail
      go_quiet (fail)
      go_wp2_with fail
      go_roundg (n - (k + 1))
      case measure => omega
      case rel => exact ⟨k + 1, by go_num, by omega, bd.out _⟩
    · obtain rfl : k = n := by omega
      have g1 : decide ((k : Int) < (k : Int)) = false := decide_eq_false (by omega)
      have g1' : decide (k < k) = false := decide_eq_false hlt
      have B5 := Lib.hid (B3.out.trans (b.out.mono B3.out.size))
      clear L2 L3 b
      go_wp2_with fail
      go_ret
      exact ⟨rfl, B5.out⟩

theorem contract (H : Type) (enc : TypeId × Value → H) (W : World) (base : Nat) (args : Array Value) (ds gs : List (DataW H)) (before : List MemPlace)
    (hval : ∀ (j : Nat) t v, Try.f4.params[j]? = some t → args[j]? = some v → Value.okWide Try.prog W .any base t v)
    (hW : DataW.Whole enc Try.prog Try.f4.params.toList Rows.policyRoutesSpec.vars false W args.toList ds gs before)
    (hsz : (DataW.weightsEach Try.prog (Try.f4.params.toList ++ (OpenSpec.ofChange Rows.policyRoutesSpec).bare.plain.varTypes Try.prog) (ds ++ gs)).all (· ≤ reachBytes) = true) :
    Calls Try.prog 4 args W fun e W' => ∃ v, e = .returned v ∧ Rows.policyRoutesSpec.post enc Try.prog Try.f4 false true false false W args v W' := by
  have hW' := hW
  obtain ⟨p, q, hA0, hV, rfl, hfz, hnd⟩ := hW
  have hA : DataW.TrodAll enc Try.prog W 0 (fun _ => true) true Try.f4.params.toList args.toList ds p := hA0
  rw [Try.params4] at hA hval hsz
  obtain ⟨v0, vs0, d0, ds0, p0, q0, hargs, rfl, rfl, h0, r0⟩ := trodAll_cons hA
  obtain ⟨rfl, rfl, rfl⟩ := trodAll_nil r0
  obtain rfl : args = #[v0] := by cases args; simp_all
  obtain ⟨rfl, rfl⟩ := trodVars_none hV
  have k0 := h0
  have lt0 : ∀ x ∈ p0, x.block < W.heap.size := by obtain ⟨m, hm⟩ := k0; exact DataW.trod_lt m _ _ _ hm
  obtain ⟨l0, hs0, hz0, hb0⟩ := open_rus (hval 0 22 v0 rfl rfl) h0 (fun n hn => by simpa using List.all_eq_true.1 hsz _ (DataW.weights_mem_each (j := 0) (t := 22) rfl rfl n hn))
  clear hA0
  simp only [List.append_nil] at hW'
  refine (walk v0 l0 W hs0 hz0 hb0).mono fun e W' ⟨he, bel⟩ => ?_
  subst he
  exact ⟨_, rfl, _, _, _, [], _, [], hW', trodAll_mk1 (shut_bool Try.underlying4 _), (trodAll_cons_mk (Below.trod laidOut (by kernel_rfl) (of_decide_eq_true (by kernel_rfl)) k0 bel lt0) trodAll_mk0), rfl, bel.frame _, fun h => by cases h⟩

theorem laid_met (os : Os) : laidMet Try.prog Rows.policyRoutesRow.laid ((startWorld Try.prog os).forCall (fun _ _ => 0) ⟨#[], #[.slice none 0 0], []⟩).memory :=
  laidMet_of_run' 8 (by kernel_rfl) (by kernel_rfl)
theorem reads (os : Os) {H : Type} (enc : TypeId × Value → H) : ∃ places, DataW.whole enc Try.prog ((startWorld Try.prog os).forCall (fun _ _ => 0) ⟨#[], #[.slice none 0 0], []⟩).memory Try.f4.params.toList Rows.policyRoutesSpec.vars false #[Value.slice none 0 0].toList 8 = some ([.nil], [], places) :=
  ⟨[], by kernel_rfl⟩

set_option maxRecDepth 100000 in
theorem lifted (os : Os) (started : os.Started) (H : Type) (enc : TypeId × Value → H) (F : Stop.Interp) :
    ReturnsInHanded {} Try.checked os 4 .any ((OpenSpec.ofChange Rows.policyRoutesSpec).preRow enc Try.prog Try.f4 Rows.policyRoutesRow.domain false Rows.policyRoutesRow.laid) (((OpenSpec.ofChange Rows.policyRoutesSpec).at F).post enc Try.prog Try.f4 false true false false) := by
  obtain ⟨places, hx⟩ := reads os enc
  refine returnsInHanded_of_row (C := Try.checked) (s := OpenSpec.ofChange Rows.policyRoutesSpec) own started (by kernel_rfl) Try.func4
    (witness_row_at (enc := enc) (C := Try.checked) false (startWorld Try.prog os) #[.slice none 0 0] rfl (by kernel_rfl) (by kernel_rfl) (by kernel_rfl)
      (OpenSpec.preRow_of_cond 8 hx (by kernel_rfl) (fun k hk => by cases hk) (by kernel_rfl) (laid_met os))) ?_
  intro W base args ds gs before hval hW _ _ hsz _ _ _
  exact contract H enc W base args ds gs before hval hW hsz

theorem said : Rows.PolicyRoutesSaid :=
  OpenClaim.holds_of_cond 4 Try.f4 rfl rfl rfl rfl rfl rfl rfl ⟨rfl, rfl, rfl, rfl, rfl⟩ rfl rfl rfl rfl rfl (by kernel_rfl) Try.func4 (by kernel_rfl)
    (of_decide_eq_true (by kernel_rfl)) (by unfold Func.isWrapper; first | (rw [if_pos (by decide +kernel)]; kernel_rfl) | (rw [if_neg (by decide +kernel)]; exact ⟨rfl, rfl⟩))
    (fun os started H enc _ F => by rw [OpenClaim.pre_eq_preRow]; exact lifted os started H enc F)
end Go.Proofs.Ytnlocjjnginjeaa.policyRoutes
namespace Go.Proofs.Ytnlocjjnginjeaa
theorem policyRoutes_said : Rows.PolicyRoutesSaid := policyRoutes.said
end Go.Proofs.Ytnlocjjnginjeaa
