/-
  The law Ipv4Parses returns true for every string: the program's Parse and Hop answer what the document's own Parse and Hop answer. No condition but the form's own reach.
-/
import Derived.Test.YthegfidmkenkeaaIpRefParseB
import Derived.Test.YthegfidmkenkeaaIpHop
import Derived.Test.YthegfidmkenkeaaIpRefHop
import Derived.Test.YthegfidmkenkeaaIpOpen
import Derived.LaidLaws
namespace Go.Proofs.Ythegfidmkenkeaa.ipv4Parses
open Go.ChangeShapes Go.WideShapes Go.ChangeAt Go.RowKit
open Go.ChangeMaps (open_string shut_string)

set_option maxHeartbeats 2000000 in
theorem core (s : ByteArray) (w : World) (f0 f1 f2 f3 f4 f5 f6 : Int) (f7 : ByteArray) (x : Int) (t : ByteArray) (y : Int) (A1 : Hid (∀ w, Calls Try.prog 13 #[.string s] w fun e w' => e = .returned (.tuple #[hv f0 f1 f2 f3 f4 f5 f6 f7, .int .i64 x]) ∧ Below w.heap.size w w')) (A2 : Hid (∀ w, Calls Try.prog 14 #[.string s] w fun e w' => e = .returned (.tuple #[hv f0 f1 f2 f3 f4 f5 f6 f7, .int .i64 x]) ∧ Below w.heap.size w w')) (A3 : Hid (∀ w, Calls Try.prog 15 #[.string s] w fun e w' => e = .returned (.tuple #[.string t, .int .i64 y]) ∧ Below w.heap.size w w')) (A4 : Hid (∀ w, Calls Try.prog 16 #[.string s] w fun e w' => e = .returned (.tuple #[.string t, .int .i64 y]) ∧ Below w.heap.size w w')) :
    Calls Try.prog 4 #[.string s] w fun e w' => e = .returned (.bool true) ∧ Below w.heap.size w w' := by
  have lt : ∀ (w : World) o, w.heap.size < (w.alloc o).heap.size := fun w o => by simp
  unfold hv at *
  go_enter Try.func4, Try.ntmps4
  go_wp2_with (first
    | (go_at_call 13; refine (A1.out _).mono ?_; rintro e w1 ⟨rfl, b1⟩; have X1 := box_new w1 f0 f1 f2 f3 f4 f5 f6 f7; replace X1 : Hid _ := X1; replace b1 : Hid _ := b1)
    | (go_at_call 14; refine (A2.out _).mono ?_; rintro e w2 ⟨rfl, b2⟩; have Z2 : Hid _ := (b1.out.alloc b1.out.size _).trans (b2.mono (b1.out.alloc b1.out.size _).size); have X2 := X1.out.keep (lt _ _) b2; have Y2 : Hid _ := box_new w2 f0 f1 f2 f3 f4 f5 f6 f7; replace X2 : Hid _ := X2; clear b1 b2 X1)
    | (go_at_call 15; refine (A3.out _).mono ?_; rintro e w3 ⟨rfl, b3⟩; have Z3 : Hid _ := (Z2.out.alloc Z2.out.size _).trans (b3.mono (Z2.out.alloc Z2.out.size _).size); have X3 : Hid _ := (X2.out.keep (B := w2.heap.size) X2.out.lt ((Below.refl _ _).alloc (Nat.le_refl _) _)).keep (B := (w2.alloc _).heap.size) (Nat.lt_trans X2.out.lt (lt _ _)) b3; have Y3 : Hid _ := Y2.out.keep (lt _ _) b3; clear b3 X2 Y2 Z2)
    | (go_at_call 16; refine (A4.out _).mono ?_; rintro e w4 ⟨rfl, b4⟩; have Z4 : Hid _ := Z3.out.trans (b4.mono Z3.out.size); have X4 := X3.out.keep X3.out.lt b4; have Y4 := Y3.out.keep Y3.out.lt b4; obtain ⟨l, c0, c1, c2, c3, c4, c5, c6, c7⟩ := X4; obtain ⟨l', d0, d1, d2, d3, d4, d5, d6, d7⟩ := Y4; clear b4 X3 Y3 Z3))
  go_ret
  exact ⟨rfl, Z4.out⟩
theorem walk (s : ByteArray) (w : World) (hs : s.size ≤ 9223372036854775807) :
    Calls Try.prog 4 #[.string s] w fun e w' => e = .returned (.bool true) ∧ Below w.heap.size w w' := by
  have P := fun w => parse_ok s w hs
  have R := fun w => rparse_ok s w hs
  unfold valOf at P R
  by_cases g : Good s
  · rw [err_good s g, if_pos rfl] at P R
    have s1 := num4_bd s 12
    have d1 := num4_bd s 16
    have a8 := num1_bd s 8
    have hok := hok_of s
    have hsm := (data_small s g.2.2.1).resolve_right (by have := g.1; omega)
    unfold hdOf at P R
    by_cases h2 : num (byt s) 8 1 < 2
    · exact core s w _ _ _ _ _ _ _ _ _ _ _ P R (fun w => hop_stop s w _ _ _ _ _ _ _ _ h2 P) (fun w => rhop_stop s w _ _ _ _ _ _ _ _ h2 R)
    · have hok' : HOK (num (byt s) 1 1) (num (byt s) 4 2) (num (byt s) 6 2) (num (byt s) 8 1 - 1) (num (byt s) 9 1) := ⟨hok.1, by omega, hok.2.2⟩
      exact core s w _ _ _ _ _ _ _ _ _ _ _ P R
        (fun w => hop_go s _ w _ _ _ _ _ _ _ _ (by omega) (by omega) P (fun w => build_ok _ _ _ _ _ _ _ _ w hok' hsm s1.1 s1.2 d1.1 d1.2))
        (fun w => rhop_go s _ w _ _ _ _ _ _ _ _ (by omega) (by omega) R (fun w => rbuild_ok _ _ _ _ _ _ _ _ w hok' hsm s1.1 s1.2 d1.1 d1.2))
  · have e0 : errOf s ≠ 0 := fun e => g (good_err s e)
    rw [if_neg e0] at P R
    have e0' : (errOf s != 0) = true := by simp [e0]
    exact core s w _ _ _ _ _ _ _ _ _ _ _ P R (fun w => hop_err s w _ e0' P) (fun w => rhop_err s w _ e0' R)

theorem contract (H : Type) (enc : TypeId × Value → H) (W : World) (base : Nat) (args : Array Value) (ds gs : List (DataW H)) (before : List MemPlace)
    (hval : ∀ (j : Nat) t v, Try.f4.params[j]? = some t → args[j]? = some v → Value.okWide Try.prog W .any base t v)
    (hW : DataW.Whole enc Try.prog Try.f4.params.toList Rows.ipv4ParsesSpec.vars false W args.toList ds gs before) :
    Calls Try.prog 4 args W fun e W' => ∃ v, e = .returned v ∧ Rows.ipv4ParsesSpec.post enc Try.prog Try.f4 false true false false W args v W' := by
  have hW' := hW
  obtain ⟨p, q, hA0, hV, rfl, hfz, hnd⟩ := hW
  have hA : DataW.TrodAll enc Try.prog W 0 (fun _ => true) true Try.f4.params.toList args.toList ds p := hA0
  rw [Try.params4] at hA hval
  obtain ⟨v0, vs0, d0, ds0, p0, q0, hargs, rfl, rfl, h0, r0⟩ := trodAll_cons hA
  obtain ⟨rfl, rfl, rfl⟩ := trodAll_nil r0
  obtain rfl : args = #[v0] := by cases args; simp_all
  obtain ⟨rfl, rfl⟩ := trodVars_none hV
  obtain ⟨a0, rfl, rfl, rfl, w0⟩ := open_string Try.underlying9 (hval 0 9 v0 rfl rfl) h0
  clear hA0
  simp only [List.append_nil] at hW'
  refine (walk a0 W w0).mono fun e W' ⟨he, bel⟩ => ?_
  subst he
  exact ⟨_, rfl, _, _, _, [], _, [], hW', trodAll_mk1 (shut_bool Try.underlying4 _), (trodAll_cons_mk (shut_string Try.underlying9 w0) trodAll_mk0), rfl, bel.frame _, fun h => by cases h⟩

theorem laid_met (os : Os) : laidMet Try.prog Rows.ipv4ParsesRow.laid ((startWorld Try.prog os).forCall (fun _ _ => 0) ⟨#[], #[.string ByteArray.empty], []⟩).memory :=
  laidMet_of_run' 8 (by kernel_rfl) (by kernel_rfl)
theorem reads (os : Os) {H : Type} (enc : TypeId × Value → H) : ∃ places, DataW.whole enc Try.prog ((startWorld Try.prog os).forCall (fun _ _ => 0) ⟨#[], #[.string ByteArray.empty], []⟩).memory Try.f4.params.toList Rows.ipv4ParsesSpec.vars false #[Value.string ByteArray.empty].toList 8 = some ([.lit (.string [])], [], places) :=
  ⟨[], by kernel_rfl⟩

set_option maxRecDepth 100000 in
theorem lifted (os : Os) (started : os.Started) (H : Type) (enc : TypeId × Value → H) (F : Stop.Interp) :
    ReturnsInHanded {} Try.checked os 4 .any ((OpenSpec.ofChange Rows.ipv4ParsesSpec).preRow enc Try.prog Try.f4 Rows.ipv4ParsesRow.domain false Rows.ipv4ParsesRow.laid) (((OpenSpec.ofChange Rows.ipv4ParsesSpec).at F).post enc Try.prog Try.f4 false true false false) := by
  obtain ⟨places, hx⟩ := reads os enc
  refine returnsInHanded_of_row (C := Try.checked) (s := OpenSpec.ofChange Rows.ipv4ParsesSpec) own started (by kernel_rfl) Try.func4
    (witness_row_at (enc := enc) (C := Try.checked) false (startWorld Try.prog os) #[.string ByteArray.empty] rfl (by kernel_rfl) (by kernel_rfl) (by kernel_rfl)
      (OpenSpec.preRow_of_cond 8 hx (by kernel_rfl) (fun k hk => by cases hk) (by kernel_rfl) (laid_met os))) ?_
  intro W base args ds gs before hval hW _ _ _ _ _ _
  exact contract H enc W base args ds gs before hval hW

theorem said : Rows.Ipv4ParsesSaid :=
  OpenClaim.holds_of_cond 4 Try.f4 rfl rfl rfl rfl rfl rfl rfl ⟨rfl, rfl, rfl, rfl, rfl⟩ rfl rfl rfl rfl rfl (by kernel_rfl) Try.func4 (by kernel_rfl)
    (of_decide_eq_true (by kernel_rfl)) (by unfold Func.isWrapper; first | (rw [if_pos (by decide +kernel)]; kernel_rfl) | (rw [if_neg (by decide +kernel)]; exact ⟨rfl, rfl⟩))
    (fun os started H enc _ F => by rw [OpenClaim.pre_eq_preRow]; exact lifted os started H enc F)
end Go.Proofs.Ythegfidmkenkeaa.ipv4Parses
namespace Go.Proofs.Ythegfidmkenkeaa
theorem ipv4Parses_said : Rows.Ipv4ParsesSaid := ipv4Parses.said
end Go.Proofs.Ythegfidmkenkeaa
