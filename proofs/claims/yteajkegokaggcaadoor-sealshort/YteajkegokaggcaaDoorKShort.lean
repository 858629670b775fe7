/-
  The law SealShort returns true for every secret, number, head and text: fewer than 16 bytes are too short. No condition but the form's own reach.
-/
import Derived.Test.YteajkegokaggcaaDoorSeWorks
import Derived.Test.YteajkegokaggcaaDoorSeTab
import Derived.Test.YteajkegokaggcaaDoorShOpen
import Derived.LaidLaws
namespace Go.Proofs.YteajkegokaggcaaDoor.sealShort
set_option maxRecDepth 100000
open Go.ChangeShapes Go.WideShapes Go.ChangeAt Go.RowKit
open Go.ChangeMaps (open_string shut_string)

theorem short_is (secret : ByteArray) (n : Int) (head s : ByteArray) (h : s.size < 16) : opv secret n head s = ⟨#[]⟩ ∧ ope secret n head s = 1 := ⟨if_pos h, if_pos h⟩
set_option maxHeartbeats 2000000 in
theorem walk (secret : ByteArray) (n : Int) (head s : ByteArray) (w : World) (t : STab w) :
    Calls Tryd.prog 7 #[.string secret, .int .i64 n, .string head, .string s] w fun e w' => e = .returned (.bool true) ∧ Below w.heap.size w w' := by
  have WO : Hid (∀ w, STab w → _) := works_ok
  by_cases hin : secret.size ≤ 300 ∧ head.size ≤ 300 ∧ s.size < 16
  · obtain ⟨h1, h2, h3⟩ := hin
    have q1 : decide ((300 : Int) < (secret.size : Int)) = false := decide_eq_false (by omega)
    have q2 : decide ((300 : Int) < (head.size : Int)) = false := decide_eq_false (by omega)
    have q3 : decide ((16 : Int) ≤ (s.size : Int)) = false := decide_eq_false (by omega)
    obtain ⟨o1, o2⟩ := short_is secret n head s h3
    have NW : Hid (∀ w', Below w.heap.size w w' → _) := fun w' b => sinv_new secret w w' b t
    have OP : Hid (∀ w' v, SInv w w' v secret 0 0 → _) := fun w' v h => sinv_open t n head s h (by omega) (by omega) (by omega) (by decide) (by decide)
    rw [o1, o2] at OP
    clear o1 o2
    go_enter Tryd.func7, Tryd.ntmps7
    go_wp2_with fail
    refine (WO.out _ t).mono ?_
    rintro e w1 ⟨rfl, b1⟩
    have Z1 := Lib.hid b1
    clear b1 WO
    go_wp2_with fail
    refine (NW.out _ Z1.out).mono ?_
    rintro e w2 ⟨a, rfl, n2⟩
    have N2 := Lib.hid n2
    clear NW n2 Z1
    go_wp2_with fail
    refine (OP.out _ _ N2.out).mono ?_
    rintro e w3 ⟨rfl, n3⟩
    have Z3 := Lib.hid n3.below
    clear OP n3 N2
    go_wp2_with fail
    go_ret
    exact ⟨rfl, Z3.out⟩
  · have Q : decide ((300 : Int) < (secret.size : Int)) = true ∨ (decide ((300 : Int) < (secret.size : Int)) = false ∧ decide ((300 : Int) < (head.size : Int)) = true) ∨ (decide ((300 : Int) < (secret.size : Int)) = false ∧ decide ((300 : Int) < (head.size : Int)) = false ∧ decide ((16 : Int) ≤ (s.size : Int)) = true) := by
      simp only [decide_eq_true_eq, decide_eq_false_iff_not]
      omega
    rcases Q with q | ⟨q, q2⟩ | ⟨q, q2, q3⟩
    · go_enter Tryd.func7, Tryd.ntmps7
      go_wp2_with fail
      refine (WO.out _ t).mono ?_
      rintro e w1 ⟨rfl, b1⟩
      have Z1 := Lib.hid b1
      clear b1 WO
      go_wp2_with fail
      go_ret
      exact ⟨rfl, Z1.out⟩
    · go_enter Tryd.func7, Tryd.ntmps7
      go_wp2_with fail
      refine (WO.out _ t).mono ?_
      rintro e w1 ⟨rfl, b1⟩
      have Z1 := Lib.hid b1
      clear b1 WO
      go_wp2_with fail
      go_ret
      exact ⟨rfl, Z1.out⟩
    · go_enter Tryd.func7, Tryd.ntmps7
      go_wp2_with fail
      refine (WO.out _ t).mono ?_
      rintro e w1 ⟨rfl, b1⟩
      have Z1 := Lib.hid b1
      clear b1 WO
      go_wp2_with fail
      go_ret
      exact ⟨rfl, Z1.out⟩

set_option maxRecDepth 100000 in
theorem contract (H : Type) (enc : TypeId × Value → H) (W : World) (base : Nat) (args : Array Value) (ds gs : List (DataW H)) (before : List MemPlace)
    (hval : ∀ (j : Nat) t v, Tryd.f7.params[j]? = some t → args[j]? = some v → Value.okWide Tryd.prog W .any base t v)
    (hW : DataW.Whole enc Tryd.prog Tryd.f7.params.toList Rows.sealShortSpec.vars false W args.toList ds gs before) (hT : STab W) :
    Calls Tryd.prog 7 args W fun e W' => ∃ v, e = .returned v ∧ Rows.sealShortSpec.post enc Tryd.prog Tryd.f7 false true false false W args v W' := by
  have hW' := hW
  obtain ⟨p, q, hA0, hV, rfl, hfz, hnd⟩ := hW
  have hA : DataW.TrodAll enc Tryd.prog W 0 (fun _ => true) true Tryd.f7.params.toList args.toList ds p := hA0
  rw [Tryd.params7] at hA hval
  obtain ⟨v0, vs0, d0, ds0, p0, q0, hargs, rfl, rfl, h0, r0⟩ := trodAll_cons hA
  obtain ⟨v1, vs1, d1, ds1, p1, q1, rfl, rfl, rfl, h1, r1⟩ := trodAll_cons r0
  obtain ⟨v2, vs2, d2, ds2, p2, q2, rfl, rfl, rfl, h2, r2⟩ := trodAll_cons r1
  obtain ⟨v3, vs3, d3, ds3, p3, q3, rfl, rfl, rfl, h3, r3⟩ := trodAll_cons r2
  obtain ⟨rfl, rfl, rfl⟩ := trodAll_nil r3
  obtain rfl : args = #[v0, v1, v2, v3] := by cases args; simp_all
  obtain ⟨rfl, rfl⟩ := trodVars_none hV
  obtain ⟨a0, rfl, rfl, rfl, w0⟩ := open_string Tryd.underlying9 (hval 0 9 v0 rfl rfl) h0
  obtain ⟨a1, rfl, rfl, rfl, w1⟩ := open_int Tryd.underlying2 (hval 1 2 v1 rfl rfl) h1
  have b1 := bounds_i64 w1
  obtain ⟨a2, rfl, rfl, rfl, w2⟩ := open_string Tryd.underlying9 (hval 2 9 v2 rfl rfl) h2
  obtain ⟨a3, rfl, rfl, rfl, w3⟩ := open_string Tryd.underlying9 (hval 3 9 v3 rfl rfl) h3
  clear hA0
  simp only [List.append_nil] at hW'
  refine (walk a0 a1 a2 a3 W hT).mono fun e W' ⟨he, bel⟩ => ?_
  subst he
  exact ⟨_, rfl, _, _, _, [], _, [], hW', trodAll_mk1 (shut_bool Tryd.underlying4 _), (trodAll_cons_mk (shut_string Tryd.underlying9 w0) (trodAll_cons_mk (shut_int Tryd.underlying2 w1) (trodAll_cons_mk (shut_string Tryd.underlying9 w2) (trodAll_cons_mk (shut_string Tryd.underlying9 w3) trodAll_mk0)))), rfl, bel.frame _, fun h => by cases h⟩

set_option maxRecDepth 100000 in
theorem lifted (os : Os) (started : os.Started) (H : Type) (enc : TypeId × Value → H) :
    ReturnsInHanded {} Tryd.checked os 7 .any (fun w args => (Rows.sealShortSpec.pre enc Tryd.prog Tryd.f7 Rows.sealShortRow.domain false w args ∧ laidMetH Tryd.prog Rows.sealShortRow.laid w) ∧ sizedMet enc Tryd.prog Tryd.f7 (OpenSpec.ofChange Rows.sealShortSpec) false w args)
      (Rows.sealShortSpec.post enc Tryd.prog Tryd.f7 false true false false) := by
  refine returnsInHanded_of_change_and (C := Tryd.checked) (X := fun w _ => laidMetH Tryd.prog Rows.sealShortRow.laid w) (fun _ _ _ hh h => h.of_heap hh) own started (by kernel_rfl) Tryd.func7
    (ChangeSpec.witness_shaped (enc := enc) (C := Tryd.checked) (os := os) (X := fun w _ => laidMetH Tryd.prog Rows.sealShortRow.laid w) false (World.laidAll Tryd.prog os Rows.sealShortRow.laid) #[.string ByteArray.empty, .int .i64 0, .string ByteArray.empty, .string ByteArray.empty] 8 (World.laidAll_os _ _ _)
      (World.shaped_of_ZipB (by kernel_rfl) (by kernel_rfl)) (by kernel_rfl) (by kernel_rfl) (by kernel_rfl)
      (by rw [MakeChecks.laidMetH_plain _ _ _ (by kernel_rfl)]; exact laidMet_laidAll _ (by kernel_rfl) (by kernel_rfl))) ?_
  intro W base args ds gs before hval hW _ _ hL _
  have hL' : laidMet Tryd.prog Rows.sealShortRow.laid W := by
    rw [MakeChecks.laidMetH_plain _ _ _ (by kernel_rfl)] at hL
    exact hL
  exact contract H enc W base args ds gs before hval hW (stabOf rfl hL')

theorem said : Rows.SealShortSaid :=
  OpenClaim.holds_of_wide 7 Tryd.f7 rfl rfl rfl rfl rfl rfl rfl ⟨rfl, rfl, rfl, rfl, rfl⟩ rfl rfl rfl rfl rfl (by kernel_rfl) Tryd.func7 (by kernel_rfl)
    (of_decide_eq_true (by kernel_rfl)) (by unfold Func.isWrapper; first | (rw [if_pos (by decide +kernel)]; kernel_rfl) | (rw [if_neg (by decide +kernel)]; exact ⟨rfl, rfl⟩))
    (fun os started H enc _ => lifted os started H enc)

theorem plain (f : FuncId) (fn : Func) (hf : Tryd.pinned.checked.prog.funcNamed Rows.sealShortRow.func = some f) (hfn : Tryd.pinned.checked.prog.funcs[f]? = some fn) :
    (Tryd.pinned.checked.prog.looks [] = Tryd.pinned.checked.prog.looks []) ∧ ∀ (j : Nat) t, fn.params[j]? = some t → Tryd.pinned.checked.prog.wantsStandIn t = false := by
  obtain rfl : f = 7 := Option.some.inj ((show Tryd.prog.funcNamed Rows.sealShortRow.func = some 7 by kernel_rfl).symm.trans hf) |>.symm
  obtain rfl : fn = Tryd.f7 := (Option.some.inj (Tryd.func7.symm.trans hfn)).symm
  refine ⟨rfl, fun j t ht => ?_⟩
  rw [Tryd.params7] at ht
  have hm : t ∈ [9, 2, 9, 9] := by simpa using Array.mem_of_getElem? ht
  have hall : ([9, 2, 9, 9].all fun u => !Tryd.prog.wantsStandIn u) = true := by kernel_rfl
  exact (show Tryd.prog.wantsStandIn t = false by simpa using List.all_eq_true.1 hall t hm)
theorem card : Rows.SealShortCardSaid :=
  Claim7.holds_tied_plain_at .later [] _ _ _ _ said (fun _ h => by cases h) (by kernel_rfl) (fun _ h => by cases h) sealShort_row_tie rfl ⟨rfl, rfl⟩ (by kernel_rfl) rfl (fun f fn hf hfn => ⟨by kernel_rfl, (plain f fn hf hfn).2⟩) (by kernel_rfl)
end Go.Proofs.YteajkegokaggcaaDoor.sealShort
namespace Go.Proofs.YteajkegokaggcaaDoor
theorem sealShort_card : Rows.SealShortCardSaid := sealShort.card
end Go.Proofs.YteajkegokaggcaaDoor
