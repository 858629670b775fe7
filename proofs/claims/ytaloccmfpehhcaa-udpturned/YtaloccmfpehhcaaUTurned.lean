/-
  The law UdpTurned returns true for every datagram: with its addresses told the other way round it has the same bytes. No condition but the form's own reach.
-/
import Derived.Test.YtaloccmfpehhcaaUdpMath
import Derived.Test.YtaloccmfpehhcaaUdpWorks
import Derived.Test.YtaloccmfpehhcaaUdpOpen
import Derived.Test.YtaloccmfpehhcaaIpOpen
import Derived.LaidLaws
namespace Go.Proofs.Ytaloccmfpehhcaa.udpTurned
open Go.ChangeShapes Go.WideShapes Go.ChangeAt Go.RowKit
open Go.ChangeMaps (open_string shut_string)

set_option maxHeartbeats 2000000 in
theorem walk (src dst fr to : Int) (data : ByteArray) (w : World) (s0 : 0 ≤ src) (s1 : src < 4294967296) (d0 : 0 ≤ dst) (d1 : dst < 4294967296) :
    Calls Try.prog 6 #[gv src dst fr to data] w fun e w' => e = .returned (.bool true) ∧ Below w.heap.size w w' := by
  obtain ⟨t, x, B, R⟩ : ∃ t x, Hid (∀ w, Calls Try.prog 9 #[.int .u32 src, .int .u32 dst, .int .i64 fr, .int .i64 to, .string data] w fun e w' => e = .returned (.tuple #[.string t, .int .i64 x]) ∧ Below w.heap.size w w') ∧ Hid (∀ w, Calls Try.prog 9 #[.int .u32 dst, .int .u32 src, .int .i64 fr, .int .i64 to, .string data] w fun e w' => e = .returned (.tuple #[.string t, .int .i64 x]) ∧ Below w.heap.size w w') := by
    by_cases hk : (0 ≤ fr ∧ fr ≤ 65535) ∧ (0 ≤ to ∧ to ≤ 65535)
    · by_cases hl : data.size ≤ 65507
      · refine ⟨_, _, fun w => ub_ok src dst fr to data w s0 s1 d0 d1 hk.1 hk.2 hl, fun w => ?_⟩
        have := ub_ok dst src fr to data w d0 d1 s0 s1 hk.1 hk.2 hl
        unfold gram at this ⊢
        rwa [cks_swap] at this
      · exact ⟨_, _, fun w => ub_long src dst fr to data w hk.1 hk.2 (by omega), fun w => ub_long dst src fr to data w hk.1 hk.2 (by omega)⟩
    · exact ⟨_, _, fun w => ub_range src dst fr to data w hk, fun w => ub_range dst src fr to data w hk⟩
  have lt : ∀ o, w.heap.size < (w.alloc o).heap.size := fun o => by simp
  have le : ∀ (w : World) o, w.heap.size ≤ (w.alloc o).heap.size := fun w o => by simp
  have X0 : Hid _ := gbox_new w src dst fr to data
  unfold gv at *
  go_enter Try.func6, Try.ntmps6
  go_wp2_with (first
    | (go_at_call 15; refine (works_ok _).mono ?_; rintro e w1 ⟨rfl, b1⟩; have X1 := X0.out.keep (lt _) b1; obtain ⟨l1, c0, c1, c2, c3, c4⟩ := X1; have Y1 : Hid _ := GBox.mk l1 c0 c1 c2 c3 c4; have Z1 : Hid _ := ((Below.refl w.heap.size w).alloc (Nat.le_refl _) _).trans (b1.mono (le w _)); clear b1 X0)
    | (go_at_call 9; refine (B.out _).mono ?_; rintro e w2 ⟨rfl, b2⟩; obtain ⟨l2, k0, k1, k2, k3, k4⟩ := Y1.out.keep Y1.out.lt b2; have Z2 : Hid _ := Z1.out.trans (b2.mono Z1.out.size); clear b2 Z1 Y1 c0 c1 c2 c3 c4 B)
    | (go_at_call 9; refine (R.out _).mono ?_; rintro e w3 ⟨rfl, b3⟩; have Z3 : Hid _ := Z2.out.trans (b3.mono Z2.out.size); clear b3 Z2))
  go_ret
  exact ⟨rfl, Z3.out⟩

theorem contract (H : Type) (enc : TypeId × Value → H) (W : World) (base : Nat) (args : Array Value) (ds gs : List (DataW H)) (before : List MemPlace)
    (hval : ∀ (j : Nat) t v, Try.f6.params[j]? = some t → args[j]? = some v → Value.okWide Try.prog W .any base t v)
    (hW : DataW.Whole enc Try.prog Try.f6.params.toList Rows.udpTurnedSpec.vars false W args.toList ds gs before) :
    Calls Try.prog 6 args W fun e W' => ∃ v, e = .returned v ∧ Rows.udpTurnedSpec.post enc Try.prog Try.f6 false true false false W args v W' := by
  have hW' := hW
  obtain ⟨p, q, hA0, hV, rfl, hfz, hnd⟩ := hW
  have hA : DataW.TrodAll enc Try.prog W 0 (fun _ => true) true Try.f6.params.toList args.toList ds p := hA0
  rw [Try.params6] at hA hval
  obtain ⟨v0, vs0, d0, ds0, p0, q0, hargs, rfl, rfl, h0, r0⟩ := trodAll_cons hA
  obtain ⟨rfl, rfl, rfl⟩ := trodAll_nil r0
  obtain rfl : args = #[v0] := by cases args; simp_all
  obtain ⟨rfl, rfl⟩ := trodVars_none hV
  have k0 := h0
  have lt0 : ∀ x ∈ p0, x.block < W.heap.size := by obtain ⟨m, hm⟩ := k0; exact DataW.trod_lt m _ _ _ hm
  obtain ⟨src, dst, fr, to, data, rfl, s0, s1, d0', d1', z0⟩ := open_gram (hval 0 24 v0 rfl rfl) h0
  clear hA0
  simp only [List.append_nil] at hW'
  refine (walk src dst fr to data W s0 s1 d0' d1').mono fun e W' ⟨he, bel⟩ => ?_
  subst he
  exact ⟨_, rfl, _, _, _, [], _, [], hW', trodAll_mk1 (shut_bool Try.underlying4 _), (trodAll_cons_mk (Below.trod laidOut (by kernel_rfl) (of_decide_eq_true (by kernel_rfl)) k0 bel lt0) trodAll_mk0), rfl, bel.frame _, fun h => by cases h⟩

theorem laid_met (os : Os) : laidMet Try.prog Rows.udpTurnedRow.laid ((startWorld Try.prog os).forCall (fun _ _ => 0) ⟨#[], #[.agg #[.int .u32 0, .int .u32 0, .int .i64 0, .int .i64 0, .string ByteArray.empty]], []⟩).memory :=
  laidMet_of_run' 8 (by kernel_rfl) (by kernel_rfl)
theorem reads (os : Os) {H : Type} (enc : TypeId × Value → H) : ∃ places, DataW.whole enc Try.prog ((startWorld Try.prog os).forCall (fun _ _ => 0) ⟨#[], #[.agg #[.int .u32 0, .int .u32 0, .int .i64 0, .int .i64 0, .string ByteArray.empty]], []⟩).memory Try.f6.params.toList Rows.udpTurnedSpec.vars false #[Value.agg #[.int .u32 0, .int .u32 0, .int .i64 0, .int .i64 0, .string ByteArray.empty]].toList 8 = some ([.agg [.lit (.int .u32 0), .lit (.int .u32 0), .lit (.int .i64 0), .lit (.int .i64 0), .lit (.string [])]], [], places) :=
  ⟨[], by kernel_rfl⟩

set_option maxRecDepth 100000 in
theorem lifted (os : Os) (started : os.Started) (H : Type) (enc : TypeId × Value → H) (F : Stop.Interp) :
    ReturnsInHanded {} Try.checked os 6 .any ((OpenSpec.ofChange Rows.udpTurnedSpec).preRow enc Try.prog Try.f6 Rows.udpTurnedRow.domain false Rows.udpTurnedRow.laid) (((OpenSpec.ofChange Rows.udpTurnedSpec).at F).post enc Try.prog Try.f6 false true false false) := by
  obtain ⟨places, hx⟩ := reads os enc
  refine returnsInHanded_of_row (C := Try.checked) (s := OpenSpec.ofChange Rows.udpTurnedSpec) own started (by kernel_rfl) Try.func6
    (witness_row_at (enc := enc) (C := Try.checked) false (startWorld Try.prog os) #[.agg #[.int .u32 0, .int .u32 0, .int .i64 0, .int .i64 0, .string ByteArray.empty]] rfl (by kernel_rfl) (by kernel_rfl) (by kernel_rfl)
      (OpenSpec.preRow_of_cond 8 hx (by kernel_rfl) (fun k hk => by cases hk) (by kernel_rfl) (laid_met os))) ?_
  intro W base args ds gs before hval hW _ _ _ _ _ _
  exact contract H enc W base args ds gs before hval hW

theorem said : Rows.UdpTurnedSaid :=
  OpenClaim.holds_of_cond 6 Try.f6 rfl rfl rfl rfl rfl rfl rfl ⟨rfl, rfl, rfl, rfl, rfl⟩ rfl rfl rfl rfl rfl (by kernel_rfl) Try.func6 (by kernel_rfl)
    (of_decide_eq_true (by kernel_rfl)) (by unfold Func.isWrapper; first | (rw [if_pos (by decide +kernel)]; kernel_rfl) | (rw [if_neg (by decide +kernel)]; exact ⟨rfl, rfl⟩))
    (fun os started H enc _ F => by rw [OpenClaim.pre_eq_preRow]; exact lifted os started H enc F)
end Go.Proofs.Ytaloccmfpehhcaa.udpTurned
namespace Go.Proofs.Ytaloccmfpehhcaa
theorem udpTurned_said : Rows.UdpTurnedSaid := udpTurned.said
end Go.Proofs.Ytaloccmfpehhcaa
