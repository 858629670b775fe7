/-
  The law UdpBuilds returns true for every datagram: the program's Build answers what the document's own Build answers. No condition but the form's own reach.
-/
import Derived.Test.YtaloccmfpehhcaaUdpRefBuild
import Derived.Test.YtaloccmfpehhcaaUdpOpen
import Derived.Test.YtaloccmfpehhcaaIpOpen
import Derived.LaidLaws
namespace Go.Proofs.Ytaloccmfpehhcaa.udpBuilds
open Go.ChangeShapes Go.WideShapes Go.ChangeAt Go.RowKit
open Go.ChangeMaps (open_string shut_string)

set_option maxHeartbeats 2000000 in
theorem walk (src dst fr to : Int) (data : ByteArray) (w : World) (s0 : 0 ≤ src) (s1 : src < 4294967296) (d0 : 0 ≤ dst) (d1 : dst < 4294967296) :
    Calls Try.prog 3 #[gv src dst fr to data] w fun e w' => e = .returned (.bool true) ∧ Below w.heap.size w w' := by
  obtain ⟨t, x, B, R⟩ : ∃ t x, Hid (∀ w, Calls Try.prog 9 #[.int .u32 src, .int .u32 dst, .int .i64 fr, .int .i64 to, .string data] w fun e w' => e = .returned (.tuple #[.string t, .int .i64 x]) ∧ Below w.heap.size w w') ∧ Hid (∀ w, Calls Try.prog 10 #[.int .u32 src, .int .u32 dst, .int .i64 fr, .int .i64 to, .string data] w fun e w' => e = .returned (.tuple #[.string t, .int .i64 x]) ∧ Below w.heap.size w w') := by
    by_cases hk : (0 ≤ fr ∧ fr ≤ 65535) ∧ (0 ≤ to ∧ to ≤ 65535)
    · by_cases hl : data.size ≤ 65507
      · exact ⟨_, _, fun w => ub_ok src dst fr to data w s0 s1 d0 d1 hk.1 hk.2 hl, fun w => rub_ok src dst fr to data w s0 s1 d0 d1 hk.1 hk.2 hl⟩
      · exact ⟨_, _, fun w => ub_long src dst fr to data w hk.1 hk.2 (by omega), fun w => rub_long src dst fr to data w hk.1 hk.2 (by omega)⟩
    · exact ⟨_, _, fun w => ub_range src dst fr to data w hk, fun w => rub_range src dst fr to data w hk⟩
  have lt : ∀ o, w.heap.size < (w.alloc o).heap.size := fun o => by simp
  unfold gv at *
  go_enter Try.func3, Try.ntmps3
  go_wp2_with (first | (go_at_call 9; refine (B.out _).mono ?_; rintro e w1 ⟨rfl, hb1⟩; obtain ⟨x, c0, c1, c2, c3, c4⟩ := (gbox_new w src dst fr to data).keep (lt _) hb1) | (go_at_call 10; refine (R.out _).mono ?_; rintro e w2 ⟨rfl, hb2⟩))
  go_ret
  exact ⟨rfl, ((Below.refl _ _).alloc (Nat.le_refl _) _).trans ((hb1.mono (by simp)).trans (hb2.mono (Nat.le_trans (by simp) hb1.size)))⟩

theorem contract (H : Type) (enc : TypeId × Value → H) (W : World) (base : Nat) (args : Array Value) (ds gs : List (DataW H)) (before : List MemPlace)
    (hval : ∀ (j : Nat) t v, Try.f3.params[j]? = some t → args[j]? = some v → Value.okWide Try.prog W .any base t v)
    (hW : DataW.Whole enc Try.prog Try.f3.params.toList Rows.udpBuildsSpec.vars false W args.toList ds gs before) :
    Calls Try.prog 3 args W fun e W' => ∃ v, e = .returned v ∧ Rows.udpBuildsSpec.post enc Try.prog Try.f3 false true false false W args v W' := by
  have hW' := hW
  obtain ⟨p, q, hA0, hV, rfl, hfz, hnd⟩ := hW
  have hA : DataW.TrodAll enc Try.prog W 0 (fun _ => true) true Try.f3.params.toList args.toList ds p := hA0
  rw [Try.params3] at hA hval
  obtain ⟨v0, vs0, d0, ds0, p0, q0, hargs, rfl, rfl, h0, r0⟩ := trodAll_cons hA
  obtain ⟨rfl, rfl, rfl⟩ := trodAll_nil r0
  obtain rfl : args = #[v0] := by cases args; simp_all
  obtain ⟨rfl, rfl⟩ := trodVars_none hV
  have k0 := h0
  have lt0 : ∀ x ∈ p0, x.block < W.heap.size := by obtain ⟨m, hm⟩ := k0; exact DataW.trod_lt m _ _ _ hm
  obtain ⟨src, dst, fr, to, data, rfl, s0, s1, d0', d1', z0⟩ := open_gram (hval 0 24 v0 rfl rfl) h0
  clear hA0
  simp only [List.append_nil] at hW'
  refine (walk src dst fr to data W s0 s1 d0' d1').mono fun e W' ⟨he, bel⟩ => ?_
  subst he
  exact ⟨_, rfl, _, _, _, [], _, [], hW', trodAll_mk1 (shut_bool Try.underlying4 _), (trodAll_cons_mk (Below.trod laidOut (by kernel_rfl) (of_decide_eq_true (by kernel_rfl)) k0 bel lt0) trodAll_mk0), rfl, bel.frame _, fun h => by cases h⟩

theorem laid_met (os : Os) : laidMet Try.prog Rows.udpBuildsRow.laid ((startWorld Try.prog os).forCall (fun _ _ => 0) ⟨#[], #[.agg #[.int .u32 0, .int .u32 0, .int .i64 0, .int .i64 0, .string ByteArray.empty]], []⟩).memory :=
  laidMet_of_run' 8 (by kernel_rfl) (by kernel_rfl)
theorem reads (os : Os) {H : Type} (enc : TypeId × Value → H) : ∃ places, DataW.whole enc Try.prog ((startWorld Try.prog os).forCall (fun _ _ => 0) ⟨#[], #[.agg #[.int .u32 0, .int .u32 0, .int .i64 0, .int .i64 0, .string ByteArray.empty]], []⟩).memory Try.f3.params.toList Rows.udpBuildsSpec.vars false #[Value.agg #[.int .u32 0, .int .u32 0, .int .i64 0, .int .i64 0, .string ByteArray.empty]].toList 8 = some ([.agg [.lit (.int .u32 0), .lit (.int .u32 0), .lit (.int .i64 0), .lit (.int .i64 0), .lit (.string [])]], [], places) :=
  ⟨[], by kernel_rfl⟩

set_option maxRecDepth 100000 in
theorem lifted (os : Os) (started : os.Started) (H : Type) (enc : TypeId × Value → H) (F : Stop.Interp) :
    ReturnsInHanded {} Try.checked os 3 .any ((OpenSpec.ofChange Rows.udpBuildsSpec).preRow enc Try.prog Try.f3 Rows.udpBuildsRow.domain false Rows.udpBuildsRow.laid) (((OpenSpec.ofChange Rows.udpBuildsSpec).at F).post enc Try.prog Try.f3 false true false false) := by
  obtain ⟨places, hx⟩ := reads os enc
  refine returnsInHanded_of_row (C := Try.checked) (s := OpenSpec.ofChange Rows.udpBuildsSpec) own started (by kernel_rfl) Try.func3
    (witness_row_at (enc := enc) (C := Try.checked) false (startWorld Try.prog os) #[.agg #[.int .u32 0, .int .u32 0, .int .i64 0, .int .i64 0, .string ByteArray.empty]] rfl (by kernel_rfl) (by kernel_rfl) (by kernel_rfl)
      (OpenSpec.preRow_of_cond 8 hx (by kernel_rfl) (fun k hk => by cases hk) (by kernel_rfl) (laid_met os))) ?_
  intro W base args ds gs before hval hW _ _ _ _ _ _
  exact contract H enc W base args ds gs before hval hW

theorem said : Rows.UdpBuildsSaid :=
  OpenClaim.holds_of_cond 3 Try.f3 rfl rfl rfl rfl rfl rfl rfl ⟨rfl, rfl, rfl, rfl, rfl⟩ rfl rfl rfl rfl rfl (by kernel_rfl) Try.func3 (by kernel_rfl)
    (of_decide_eq_true (by kernel_rfl)) (by unfold Func.isWrapper; first | (rw [if_pos (by decide +kernel)]; kernel_rfl) | (rw [if_neg (by decide +kernel)]; exact ⟨rfl, rfl⟩))
    (fun os started H enc _ F => by rw [OpenClaim.pre_eq_preRow]; exact lifted os started H enc F)
end Go.Proofs.Ytaloccmfpehhcaa.udpBuilds
namespace Go.Proofs.Ytaloccmfpehhcaa
theorem udpBuilds_said : Rows.UdpBuildsSaid := udpBuilds.said
end Go.Proofs.Ytaloccmfpehhcaa
