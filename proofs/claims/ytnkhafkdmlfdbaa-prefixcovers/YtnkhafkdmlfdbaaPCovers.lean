/-
  The law PrefixCovers returns true for every two addresses: those from the one to the other are covered by the fewest prefixes, as the chapter says. No condition but the form's own reach.
-/
import Derived.Test.YtnkhafkdmlfdbaaPfOwnCov
import Derived.Test.YtnkhafkdmlfdbaaPfCover
import Derived.Test.YtnkhafkdmlfdbaaPfOpen
import Derived.LaidLaws
namespace Go.Proofs.Ytnkhafkdmlfdbaa.prefixCovers
open Go.ChangeShapes Go.WideShapes Go.ChangeAt Go.RowKit
open Go.ChangeMaps (open_string shut_string)

set_option maxHeartbeats 2000000 in
theorem walk (low high : Int) (w : World) (a0 : 0 ≤ low) (a1 : low < 4294967296) (b0 : 0 ≤ high) (b1 : high < 4294967296) :
    Calls Try.prog 4 #[.int .u32 low, .int .u32 high] w fun e w' => e = .returned (.bool true) ∧ Below w.heap.size w w' := by
  obtain ⟨l, hl⟩ := cov_some high (high + 1 - low).toNat low (by omega)
  have hn := cov_len high l low hl
  have C : Hid (∀ w, _) := fun w => cover_ok low high w l a0 a1 b0 b1 hl
  have R : Hid (∀ w, _) := fun w => rcover_ok low high w l a0 a1 b0 b1 hl
  clear hl
  have hn' : l.length ≤ 4294967296 := by omega
  clear hn
  go_enter Try.func4, Try.ntmps4
  go_wp2_with (first
    | (go_at_call 11; refine (C.out _).mono ?_; rintro e w1 ⟨v1, rfl, o1, b1⟩; have O1 : Hid (w1.ownsRow w.heap.size 24 2 v1 l.length (pc l)) := o1; have Z1 : Hid (Below w.heap.size w w1) := b1; clear o1 b1)
    | (go_at_call 12; refine (R.out _).mono ?_; rintro e w2 ⟨v2, rfl, o2, b2⟩; have O2 : Hid (w2.ownsRow w1.heap.size 24 2 v2 l.length (pc l)) := o2; have O3 : Hid (w2.ownsRow w.heap.size 24 2 v1 l.length (pc l)) := ownsRow_keep O1.out b2; have Z2 : Hid (Below w.heap.size w w2) := Z1.out.trans (b2.mono Z1.out.size); clear o2 b2 O1 Z1; obtain ⟨p1, q1, rfl, D1⟩ := own_slice O3.out; obtain ⟨p2, q2, rfl, D2⟩ := own_slice O2.out; clear O2 O3))
  generalize hN : l.length = N at *
  go_loopw [7] (fun i wr => ∃ k : Nat, k ≤ N ∧ i = .int .i64 k ∧ Hid (Below w2.heap.size w2 wr)) (fun i _ => N - (intOf i).toNat)
  case atStart => exact ⟨0, Nat.zero_le _, rfl, Below.refl _ _⟩
  case round =>
    obtain ⟨k, hk, rfl, bel⟩ := hrel
    by_cases hkN : k < N
    · have hlt : decide ((k : Int) < N) = true := decide_eq_true (by omega)
      obtain ⟨g1, rfl, l1, _, _, c1⟩ := D1.out (by omega)
      obtain ⟨g2, rfl, l2, _, _, c2⟩ := D2.out (by omega)
      have hget : l[k]? = some (l[k]'(by omega)) := List.getElem?_eq_getElem (by omega)
      generalize l[k]'(by omega) = ab at hget
      obtain ⟨a, b⟩ := ab
      have hp := pc_get l k a b hget
      have x1 : wr.cell? ⟨g1, k * 2, none⟩ = some (.int .u32 a) := (bel.out.cell l1).trans ((c1 _ (by omega)).trans hp.1)
      have x2 : wr.cell? ⟨g1, k * 2 + 1, none⟩ = some (.int .i64 b) := (bel.out.cell l1).trans ((c1 _ (by omega)).trans hp.2)
      have y1 : wr.cell? ⟨g2, k * 2, none⟩ = some (.int .u32 a) := (bel.out.cell l2).trans ((c2 _ (by omega)).trans hp.1)
      have y2 : wr.cell? ⟨g2, k * 2 + 1, none⟩ = some (.int .i64 b) := (bel.out.cell l2).trans ((c2 _ (by omega)).trans hp.2)
      clear c1 c2 hp hget D1 D2
      go_wp2
      go_quiet (fail)
      go_wp2
      refine ⟨⟨k + 1, by omega, congrArg (Value.int .i64) (by omega), bel.out.trans ⟨rfl, rfl, rfl, Nat.le_refl _, fun _ _ => rfl⟩⟩, ?_⟩
      simp [intOf]
      omega
    · have hlt : decide ((k : Int) < N) = false := decide_eq_false (by omega)
      go_wp2
      go_ret
      exact ⟨rfl, Z2.out.trans (bel.out.mono Z2.out.size)⟩

theorem contract (H : Type) (enc : TypeId × Value → H) (W : World) (base : Nat) (args : Array Value) (ds gs : List (DataW H)) (before : List MemPlace)
    (hval : ∀ (j : Nat) t v, Try.f4.params[j]? = some t → args[j]? = some v → Value.okWide Try.prog W .any base t v)
    (hW : DataW.Whole enc Try.prog Try.f4.params.toList Rows.prefixCoversSpec.vars false W args.toList ds gs before) :
    Calls Try.prog 4 args W fun e W' => ∃ v, e = .returned v ∧ Rows.prefixCoversSpec.post enc Try.prog Try.f4 false true false false W args v W' := by
  have hW' := hW
  obtain ⟨p, q, hA0, hV, rfl, hfz, hnd⟩ := hW
  have hA : DataW.TrodAll enc Try.prog W 0 (fun _ => true) true Try.f4.params.toList args.toList ds p := hA0
  rw [Try.params4] at hA hval
  obtain ⟨v0, vs0, d0, ds0, p0, q0, hargs, rfl, rfl, h0, r0⟩ := trodAll_cons hA
  obtain ⟨v1, vs1, d1, ds1, p1, q1, rfl, rfl, rfl, h1, r1⟩ := trodAll_cons r0
  obtain ⟨rfl, rfl, rfl⟩ := trodAll_nil r1
  obtain rfl : args = #[v0, v1] := by cases args; simp_all
  obtain ⟨rfl, rfl⟩ := trodVars_none hV
  obtain ⟨a0, rfl, rfl, rfl, w0⟩ := open_int Try.underlying22 (hval 0 22 v0 rfl rfl) h0
  have b0 := bounds_u32 w0
  obtain ⟨a1, rfl, rfl, rfl, w1⟩ := open_int Try.underlying22 (hval 1 22 v1 rfl rfl) h1
  have b1 := bounds_u32 w1
  clear hA0
  simp only [List.append_nil] at hW'
  refine (walk a0 a1 W (by omega) (by omega) (by omega) (by omega)).mono fun e W' ⟨he, bel⟩ => ?_
  subst he
  exact ⟨_, rfl, _, _, _, [], _, [], hW', trodAll_mk1 (shut_bool Try.underlying4 _), (trodAll_cons_mk (shut_int Try.underlying22 w0) (trodAll_cons_mk (shut_int Try.underlying22 w1) trodAll_mk0)), rfl, bel.frame _, fun h => by cases h⟩

theorem laid_met (os : Os) : laidMet Try.prog Rows.prefixCoversRow.laid ((startWorld Try.prog os).forCall (fun _ _ => 0) ⟨#[], #[.int .u32 0, .int .u32 0], []⟩).memory :=
  laidMet_of_run' 8 (by kernel_rfl) (by kernel_rfl)
theorem reads (os : Os) {H : Type} (enc : TypeId × Value → H) : ∃ places, DataW.whole enc Try.prog ((startWorld Try.prog os).forCall (fun _ _ => 0) ⟨#[], #[.int .u32 0, .int .u32 0], []⟩).memory Try.f4.params.toList Rows.prefixCoversSpec.vars false #[Value.int .u32 0, Value.int .u32 0].toList 8 = some ([.lit (.int .u32 0), .lit (.int .u32 0)], [], places) :=
  ⟨[], by kernel_rfl⟩

set_option maxRecDepth 100000 in
theorem lifted (os : Os) (started : os.Started) (H : Type) (enc : TypeId × Value → H) (F : Stop.Interp) :
    ReturnsInHanded {} Try.checked os 4 .any ((OpenSpec.ofChange Rows.prefixCoversSpec).preRow enc Try.prog Try.f4 Rows.prefixCoversRow.domain false Rows.prefixCoversRow.laid) (((OpenSpec.ofChange Rows.prefixCoversSpec).at F).post enc Try.prog Try.f4 false true false false) := by
  obtain ⟨places, hx⟩ := reads os enc
  refine returnsInHanded_of_row (C := Try.checked) (s := OpenSpec.ofChange Rows.prefixCoversSpec) own started (by kernel_rfl) Try.func4
    (witness_row_at (enc := enc) (C := Try.checked) false (startWorld Try.prog os) #[.int .u32 0, .int .u32 0] rfl (by kernel_rfl) (by kernel_rfl) (by kernel_rfl)
      (OpenSpec.preRow_of_cond 8 hx (by kernel_rfl) (fun k hk => by cases hk) (by kernel_rfl) (laid_met os))) ?_
  intro W base args ds gs before hval hW _ _ _ _ _ _
  exact contract H enc W base args ds gs before hval hW

theorem said : Rows.PrefixCoversSaid :=
  OpenClaim.holds_of_cond 4 Try.f4 rfl rfl rfl rfl rfl rfl rfl ⟨rfl, rfl, rfl, rfl, rfl⟩ rfl rfl rfl rfl rfl (by kernel_rfl) Try.func4 (by kernel_rfl)
    (of_decide_eq_true (by kernel_rfl)) (by unfold Func.isWrapper; first | (rw [if_pos (by decide +kernel)]; kernel_rfl) | (rw [if_neg (by decide +kernel)]; exact ⟨rfl, rfl⟩))
    (fun os started H enc _ F => by rw [OpenClaim.pre_eq_preRow]; exact lifted os started H enc F)
end Go.Proofs.Ytnkhafkdmlfdbaa.prefixCovers
namespace Go.Proofs.Ytnkhafkdmlfdbaa
theorem prefixCovers_said : Rows.PrefixCoversSaid := prefixCovers.said
end Go.Proofs.Ytnkhafkdmlfdbaa
