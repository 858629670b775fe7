/-
  The law ShaSums returns true for every text, key and label: the digest, the code and the key that is made are what the chapter says. No condition but the form's own reach.
-/
import Derived.Test.YtabaeehjmmblpaaDoorShOwn
import Derived.Test.YtabaeehjmmblpaaDoorShTab
import Derived.Test.YtabaeehjmmblpaaDoorShOpen
import Derived.LaidLaws
namespace Go.Proofs.YtabaeehjmmblpaaDoor.shaSums
open Go.ChangeShapes Go.WideShapes Go.ChangeAt Go.RowKit
open Go.ChangeMaps (open_string shut_string)

set_option maxHeartbeats 2000000 in
theorem walk_in (s key label : ByteArray) (w : World) (t : DTab w) (h0 : s.size ≤ 2000) (h1 : key.size ≤ 2000) (h2 : label.size ≤ 2000) :
    Calls Tryd.prog 3 #[.string s, .string key, .string label] w fun e w' => e = .returned (.bool true) ∧ Below w.heap.size w w' := by
  have A : Hid (∀ w, DTab w → _) := fun w t => sum_ok s w t.c (by omega)
  have B : Hid (∀ w, _) := fun w => rsum_ok s w (by omega)
  have C : Hid (∀ w, DTab w → _) := fun w t => hmac_ok key s w t.c (by omega) (by omega)
  have D : Hid (∀ w, _) := fun w => rhmac_ok key s w (by omega) (by omega)
  have E : Hid (∀ w, DTab w → _) := fun w t => derive_ok key label s w t.c t.v (by omega) (by omega) (by omega)
  have F : Hid (∀ w, _) := fun w => rderive_ok key label s w (by omega) (by omega) (by omega)
  generalize bstr (dig (nb s)) = X at *
  generalize bstr (hm (nb key) (nb s)) = Y at *
  generalize der key label s = V at *
  have g0 : decide ((2000 : Int) < (s.size : Int)) = false := decide_eq_false (by omega)
  have g1 : decide ((2000 : Int) < (key.size : Int)) = false := decide_eq_false (by omega)
  have g2 : decide ((2000 : Int) < (label.size : Int)) = false := decide_eq_false (by omega)
  go_enter Tryd.func3, Tryd.ntmps3
  go_wp2_with fail
  refine (A.out _ t).mono ?_
  rintro e w1 ⟨rfl, b1⟩
  have t1 := t.keep b1
  have Z1 : Hid (Below w.heap.size w w1) := b1
  clear b1 A t
  go_wp2_with fail
  refine (B.out _).mono ?_
  rintro e w2 ⟨rfl, b2⟩
  have t2 := t1.keep b2
  have Z2 : Hid (Below w.heap.size w w2) := Z1.out.trans (b2.mono Z1.out.size)
  clear b2 B Z1 t1
  go_wp2_with fail
  refine (C.out _ t2).mono ?_
  rintro e w3 ⟨rfl, b3⟩
  have t3 := t2.keep b3
  have Z3 : Hid (Below w.heap.size w w3) := Z2.out.trans (b3.mono Z2.out.size)
  clear b3 C Z2 t2
  go_wp2_with fail
  refine (D.out _).mono ?_
  rintro e w4 ⟨rfl, b4⟩
  have t4 := t3.keep b4
  have Z4 : Hid (Below w.heap.size w w4) := Z3.out.trans (b4.mono Z3.out.size)
  clear b4 D Z3 t3
  go_wp2_with fail
  refine (E.out _ t4).mono ?_
  rintro e w5 ⟨rfl, b5⟩
  have t5 := t4.keep b5
  have Z5 : Hid (Below w.heap.size w w5) := Z4.out.trans (b5.mono Z4.out.size)
  clear b5 E Z4 t4
  go_wp2_with fail
  refine (F.out _).mono ?_
  rintro e w6 ⟨rfl, b6⟩
  have Z6 : Hid (Below w.heap.size w w6) := Z5.out.trans (b6.mono Z5.out.size)
  clear b6 F Z5 t5
  go_wp2_with fail
  go_ret
  exact ⟨rfl, Z6.out⟩
set_option maxHeartbeats 1000000 in
theorem walk_out (s key label : ByteArray) (w : World) (h : 2000 < s.size ∨ 2000 < key.size ∨ 2000 < label.size) :
    Calls Tryd.prog 3 #[.string s, .string key, .string label] w fun e w' => e = .returned (.bool true) ∧ Below w.heap.size w w' := by
  by_cases g0 : 2000 < s.size
  · have g0 : decide ((2000 : Int) < (s.size : Int)) = true := decide_eq_true (by omega)
    go_enter Tryd.func3, Tryd.ntmps3
    go_wp2_with fail
    go_ret
    exact ⟨rfl, Below.refl _ _⟩
  · have k0 : decide ((2000 : Int) < (s.size : Int)) = false := decide_eq_false (by omega)
    by_cases g1 : 2000 < key.size
    · have g1 : decide ((2000 : Int) < (key.size : Int)) = true := decide_eq_true (by omega)
      go_enter Tryd.func3, Tryd.ntmps3
      go_wp2_with fail
      go_ret
      exact ⟨rfl, Below.refl _ _⟩
    · have k1 : decide ((2000 : Int) < (key.size : Int)) = false := decide_eq_false (by omega)
      have g2 : decide ((2000 : Int) < (label.size : Int)) = true := decide_eq_true (by omega)
      go_enter Tryd.func3, Tryd.ntmps3
      go_wp2_with fail
      go_ret
      exact ⟨rfl, Below.refl _ _⟩
theorem walk (s key label : ByteArray) (w : World) (t : DTab w) :
    Calls Tryd.prog 3 #[.string s, .string key, .string label] w fun e w' => e = .returned (.bool true) ∧ Below w.heap.size w w' := by
  by_cases h : 2000 < s.size ∨ 2000 < key.size ∨ 2000 < label.size
  · exact walk_out s key label w h
  · exact walk_in s key label w t (by omega) (by omega) (by omega)

set_option maxRecDepth 100000 in
theorem contract (H : Type) (enc : TypeId × Value → H) (W : World) (base : Nat) (args : Array Value) (ds gs : List (DataW H)) (before : List MemPlace)
    (hval : ∀ (j : Nat) t v, Tryd.f3.params[j]? = some t → args[j]? = some v → Value.okWide Tryd.prog W .any base t v)
    (hW : DataW.Whole enc Tryd.prog Tryd.f3.params.toList Rows.shaSumsSpec.vars false W args.toList ds gs before) (hT : DTab W) :
    Calls Tryd.prog 3 args W fun e W' => ∃ v, e = .returned v ∧ Rows.shaSumsSpec.post enc Tryd.prog Tryd.f3 false true false false W args v W' := by
  have hW' := hW
  obtain ⟨p, q, hA0, hV, rfl, hfz, hnd⟩ := hW
  have hA : DataW.TrodAll enc Tryd.prog W 0 (fun _ => true) true Tryd.f3.params.toList args.toList ds p := hA0
  rw [Tryd.params3] at hA hval
  obtain ⟨v0, vs0, d0, ds0, p0, q0, hargs, rfl, rfl, h0, r0⟩ := trodAll_cons hA
  obtain ⟨v1, vs1, d1, ds1, p1, q1, rfl, rfl, rfl, h1, r1⟩ := trodAll_cons r0
  obtain ⟨v2, vs2, d2, ds2, p2, q2, rfl, rfl, rfl, h2, r2⟩ := trodAll_cons r1
  obtain ⟨rfl, rfl, rfl⟩ := trodAll_nil r2
  obtain rfl : args = #[v0, v1, v2] := by cases args; simp_all
  obtain ⟨rfl, rfl⟩ := trodVars_none hV
  obtain ⟨a0, rfl, rfl, rfl, w0⟩ := open_string Tryd.underlying9 (hval 0 9 v0 rfl rfl) h0
  obtain ⟨a1, rfl, rfl, rfl, w1⟩ := open_string Tryd.underlying9 (hval 1 9 v1 rfl rfl) h1
  obtain ⟨a2, rfl, rfl, rfl, w2⟩ := open_string Tryd.underlying9 (hval 2 9 v2 rfl rfl) h2
  clear hA0
  simp only [List.append_nil] at hW'
  refine (walk a0 a1 a2 W hT).mono fun e W' ⟨he, bel⟩ => ?_
  subst he
  exact ⟨_, rfl, _, _, _, [], _, [], hW', trodAll_mk1 (shut_bool Tryd.underlying4 _), (trodAll_cons_mk (shut_string Tryd.underlying9 w0) (trodAll_cons_mk (shut_string Tryd.underlying9 w1) (trodAll_cons_mk (shut_string Tryd.underlying9 w2) trodAll_mk0))), rfl, bel.frame _, fun h => by cases h⟩

set_option maxRecDepth 100000 in
theorem lifted (os : Os) (started : os.Started) (H : Type) (enc : TypeId × Value → H) :
    ReturnsInHanded {} Tryd.checked os 3 .any (fun w args => (Rows.shaSumsSpec.pre enc Tryd.prog Tryd.f3 Rows.shaSumsRow.domain false w args ∧ laidMetH Tryd.prog Rows.shaSumsRow.laid w) ∧ sizedMet enc Tryd.prog Tryd.f3 (OpenSpec.ofChange Rows.shaSumsSpec) false w args)
      (Rows.shaSumsSpec.post enc Tryd.prog Tryd.f3 false true false false) := by
  refine returnsInHanded_of_change_and (C := Tryd.checked) (X := fun w _ => laidMetH Tryd.prog Rows.shaSumsRow.laid w) (fun _ _ _ hh h => h.of_heap hh) own started (by kernel_rfl) Tryd.func3
    (ChangeSpec.witness_shaped (enc := enc) (C := Tryd.checked) (os := os) (X := fun w _ => laidMetH Tryd.prog Rows.shaSumsRow.laid w) false (World.laidAll Tryd.prog os Rows.shaSumsRow.laid) #[.string ByteArray.empty, .string ByteArray.empty, .string ByteArray.empty] 8 (World.laidAll_os _ _ _)
      (World.shaped_of_ZipB (by kernel_rfl) (by kernel_rfl)) (by kernel_rfl) (by kernel_rfl) (by kernel_rfl)
      (by rw [MakeChecks.laidMetH_plain _ _ _ (by kernel_rfl)]; exact laidMet_laidAll _ (by kernel_rfl) (by kernel_rfl))) ?_
  intro W base args ds gs before hval hW _ _ hL _
  have hL' : laidMet Tryd.prog Rows.shaSumsRow.laid W := by
    rw [MakeChecks.laidMetH_plain _ _ _ (by kernel_rfl)] at hL
    exact hL
  exact contract H enc W base args ds gs before hval hW (tabOf2 rfl hL')

theorem said : Rows.ShaSumsSaid :=
  OpenClaim.holds_of_wide 3 Tryd.f3 rfl rfl rfl rfl rfl rfl rfl ⟨rfl, rfl, rfl, rfl, rfl⟩ rfl rfl rfl rfl rfl (by kernel_rfl) Tryd.func3 (by kernel_rfl)
    (of_decide_eq_true (by kernel_rfl)) (by unfold Func.isWrapper; first | (rw [if_pos (by decide +kernel)]; kernel_rfl) | (rw [if_neg (by decide +kernel)]; exact ⟨rfl, rfl⟩))
    (fun os started H enc _ => lifted os started H enc)

theorem plain (f : FuncId) (fn : Func) (hf : Tryd.pinned.checked.prog.funcNamed Rows.shaSumsRow.func = some f) (hfn : Tryd.pinned.checked.prog.funcs[f]? = some fn) :
    (Tryd.pinned.checked.prog.looks [] = Tryd.pinned.checked.prog.looks []) ∧ ∀ (j : Nat) t, fn.params[j]? = some t → Tryd.pinned.checked.prog.wantsStandIn t = false := by
  obtain rfl : f = 3 := Option.some.inj ((show Tryd.prog.funcNamed Rows.shaSumsRow.func = some 3 by kernel_rfl).symm.trans hf) |>.symm
  obtain rfl : fn = Tryd.f3 := (Option.some.inj (Tryd.func3.symm.trans hfn)).symm
  refine ⟨rfl, fun j t ht => ?_⟩
  rw [Tryd.params3] at ht
  have hm : t ∈ [9, 9, 9] := by simpa using Array.mem_of_getElem? ht
  have hall : ([9, 9, 9].all fun u => !Tryd.prog.wantsStandIn u) = true := by kernel_rfl
  exact (show Tryd.prog.wantsStandIn t = false by simpa using List.all_eq_true.1 hall t hm)
theorem card : Rows.ShaSumsCardSaid :=
  Claim7.holds_tied_plain_at .later [] _ _ _ _ said (fun _ h => by cases h) (by kernel_rfl) (fun _ h => by cases h) shaSums_row_tie rfl ⟨rfl, rfl⟩ (by kernel_rfl) rfl (fun f fn hf hfn => ⟨by kernel_rfl, (plain f fn hf hfn).2⟩) (by kernel_rfl)
end Go.Proofs.YtabaeehjmmblpaaDoor.shaSums
namespace Go.Proofs.YtabaeehjmmblpaaDoor
theorem shaSums_card : Rows.ShaSumsCardSaid := shaSums.card
end Go.Proofs.YtabaeehjmmblpaaDoor
