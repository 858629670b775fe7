/-
  The law FramesWrites returns true for every row of frames: any frames are written as the chapter says, or refused; they stay as they are. The arguments are of bulk at most 1048576, and within the form's own reach.
-/
import Derived.Test.YtmngpkkpkjnejaaDoorFrO
import Derived.Test.YtmngpkkpkjnejaaDoorFrBulk
import Derived.Deep.DeepHandedRow
import Derived.Test.YtmngpkkpkjnejaaDoorFrCopy
import Derived.Test.YtmngpkkpkjnejaaDoorFrTab
import Derived.Test.YtmngpkkpkjnejaaDoorFrOpen
import Derived.LaidLaws
namespace Go.Proofs.YtmngpkkpkjnejaaDoor.framesWrites
set_option maxRecDepth 100000
open Go.ChangeShapes Go.WideShapes Go.ChangeAt Go.RowKit
open Go.ChangeMaps (open_string shut_string)

theorem frb_small {f : Fr} (h : FrB f) : f.rg.length < 9223372036854775807 ∧ f.data.length < 4611686018427387904 := ⟨by have := h.rgs; omega, by have := h.data; omega⟩
set_option maxHeartbeats 4000000 in
theorem walk (fs : List Fr) (v : Value) (w : World) (t : VTab w) (hv : FrsAt w v fs) (hl : fs.length ≤ 1048576) (hb : ∀ f ∈ fs, FrB f) :
    Calls Tryd.prog 4 #[v] w fun e w' => e = .returned (.bool true) ∧ Below w.heap.size w w' := by
  have CP : Hid (Calls Tryd.prog 15 #[v] w fun e w' => ∃ u xs, e = .returned u ∧ xs.map (·.1) = fs ∧ FRow w' w.heap.size u xs (fun k => u.ownBlock = some k) ∧ Below w.heap.size w w') := copy_ok hv (by omega) hb
  have W1 : Hid (∀ u w', Below w.heap.size w w' → FrsAt w' u fs → Calls Tryd.prog 16 #[u] w' fun e w'' => e = wrE fs ∧ Below w'.heap.size w' w'') := fun u w' b hu => fwriteAll_ok (t.below b) hu (by omega) hb
  have W2 : Hid (∀ w', Below w.heap.size w w' → Calls Tryd.prog 17 #[v] w' fun e w'' => e = wrE fs ∧ Below w'.heap.size w' w'') := fun w' b => rwriteAll_ok (hv.keep b) (by omega) (fun f hf => frb_small (hb f hf))
  have SA : Hid (∀ u w', Below w.heap.size w w' → FrsAt w' u fs → Calls Tryd.prog 18 #[u, v] w' fun e w'' => e = .returned (.bool true) ∧ Below w'.heap.size w' w'') := fun u w' b hu => by
    have := rsameAll_ok hu (hv.keep b) (by omega) (by omega) (fun f hf => (frb_small (hb f hf)).1) (fun f hf => (frb_small (hb f hf)).1)
    rw [eqFs_true rfl] at this
    exact this
  unfold wrE at W1 W2
  generalize (if bad1 fs = 0 then strL (wrAll fs) else ⟨#[]⟩) = Y at *
  generalize bad1 fs = y at *
  clear t hv hl hb
  go_enter Tryd.func4, Tryd.ntmps4
  go_wp2_with fail
  refine CP.out.mono ?_
  rintro _ w1 ⟨u, xs, rfl, hx, row, b1⟩
  have B1 : Hid (Below w.heap.size w w1) := b1
  have A1 : Hid (FrsAt w1 u fs) := by unfold Hid; rw [← hx]; exact row.at
  have C1 := W1.out u w1 b1 A1.out
  replace C1 : Hid (Calls _ _ _ _ _) := C1
  clear hx row b1 CP W1
  go_wp2_with fail
  refine C1.out.mono ?_
  rintro _ w2 ⟨rfl, b2⟩
  have B2 : Hid (Below w.heap.size w w2) := B1.out.trans (b2.mono B1.out.size)
  have A2 : Hid (FrsAt w2 u fs) := A1.out.keep b2
  have C2 := W2.out w2 B2.out
  replace C2 : Hid (Calls _ _ _ _ _) := C2
  clear b2 C1 A1 B1 W2
  go_wp2_with fail
  refine C2.out.mono ?_
  rintro _ w3 ⟨rfl, b3⟩
  have B3 : Hid (Below w.heap.size w w3) := B2.out.trans (b3.mono B2.out.size)
  have A3 : Hid (FrsAt w3 u fs) := A2.out.keep b3
  have C3 := SA.out u w3 B3.out A3.out
  replace C3 : Hid (Calls _ _ _ _ _) := C3
  clear b3 C2 A2 B2 SA
  go_wp2_with fail
  refine C3.out.mono ?_
  rintro _ w4 ⟨rfl, b4⟩
  have B4 : Hid (Below w.heap.size w w4) := B3.out.trans (b4.mono B3.out.size)
  clear b4 C3 A3 B3
  go_wp2_with fail
  go_ret
  exact ⟨rfl, B4.out⟩

set_option maxRecDepth 100000 in
theorem contract (H : Type) (enc : TypeId × Value → H) (W : World) (base : Nat) (args : Array Value) (ds gs : List (DataW H)) (before : List MemPlace)
    (hval : ∀ (j : Nat) t v, Tryd.f4.params[j]? = some t → args[j]? = some v → Value.okWide Tryd.prog W .any base t v)
    (hW : DataW.Whole enc Tryd.prog Tryd.f4.params.toList Rows.framesWritesSpec.vars false W args.toList ds gs before) (hT : VTab W)
    (hsz : (DataW.weightsEach Tryd.prog (Tryd.f4.params.toList ++ (Rows.OpenSpec.upto Rows.framesWritesSpec).bare.plain.varTypes Tryd.prog) (ds ++ gs)).all (· ≤ reachBytes) = true) (hk0 : Rows.uptoSmall H (ds ++ gs) = true) :
    Calls Tryd.prog 4 args W fun e W' => ∃ v, e = .returned v ∧ Rows.framesWritesSpec.post enc Tryd.prog Tryd.f4 false true false false W args v W' := by
  have hW' := hW
  obtain ⟨p, q, hA0, hV, rfl, hfz, hnd⟩ := hW
  have hA : DataW.TrodAll enc Tryd.prog W 0 (fun _ => true) true Tryd.f4.params.toList args.toList ds p := hA0
  rw [Tryd.params4] at hA hval hsz
  obtain ⟨v0, vs0, d0, ds0, p0, q0, hargs, rfl, rfl, h0, r0⟩ := trodAll_cons hA
  obtain ⟨rfl, rfl, rfl⟩ := trodAll_nil r0
  obtain rfl : args = #[v0] := by cases args; simp_all
  obtain ⟨rfl, rfl⟩ := trodVars_none hV
  have k0 := h0
  have lt0 : ∀ x ∈ p0, x.block < W.heap.size := by obtain ⟨m, hm⟩ := k0; exact DataW.trod_lt m _ _ _ hm
  obtain ⟨f0, fi0, fb0⟩ := open_frms (hval 0 29 v0 rfl rfl) h0 (fun n hn => by simpa using List.all_eq_true.1 hsz _ (DataW.weights_mem_each (j := 0) (t := 29) rfl rfl n hn))
  clear hA0
  simp only [List.append_nil] at hW'
  refine (walk f0 v0 W hT fi0 (frs_len fi0 k0 hk0 (by simp)) fb0.2).mono fun e W' ⟨he, bel⟩ => ?_
  subst he
  exact ⟨_, rfl, _, _, _, [], _, [], hW', trodAll_mk1 (shut_bool Tryd.underlying4 _), (trodAll_cons_mk (Below.trod laidOut (by kernel_rfl) (of_decide_eq_true (by kernel_rfl)) k0 bel lt0) trodAll_mk0), rfl, bel.frame _, fun h => by cases h⟩

theorem reads (os : Os) {H : Type} (enc : TypeId × Value → H) : ∃ places, DataW.whole enc Tryd.prog ((World.laidAll Tryd.prog os Rows.framesWritesUptoRow.laid).forCall (fun _ _ => 0) ⟨#[], #[.slice none 0 0], []⟩).memory Tryd.f4.params.toList Rows.framesWritesSpec.vars false #[Value.slice none 0 0].toList 8 = some ([.nil], [], places) :=
  ⟨[], by kernel_rfl⟩
set_option maxRecDepth 100000 in
theorem lifted (os : Os) (started : os.Started) (H : Type) (enc : TypeId × Value → H) (F : Stop.Interp) :
    ReturnsInHanded {} Tryd.checked os 4 .any ((Rows.OpenSpec.upto Rows.framesWritesSpec).preRow enc Tryd.prog Tryd.f4 Rows.framesWritesUptoRow.domain false Rows.framesWritesUptoRow.laid) (((Rows.OpenSpec.upto Rows.framesWritesSpec).at F).post enc Tryd.prog Tryd.f4 false true false false) := by
  obtain ⟨places, hx⟩ := reads os enc
  refine returnsInHanded_of_row (C := Tryd.checked) (s := Rows.OpenSpec.upto Rows.framesWritesSpec) own started (by kernel_rfl) Tryd.func4
    (witness_row_at (enc := enc) (C := Tryd.checked) false (World.laidAll Tryd.prog os Rows.framesWritesUptoRow.laid) #[.slice none 0 0] (World.laidAll_os _ _ _) (by kernel_rfl) (by kernel_rfl) (by kernel_rfl)
      (OpenSpec.preRow_of_cond 8 hx (by kernel_rfl) (fun k hk => by cases hk; kernel_rfl) (by kernel_rfl) (laidMet_laidAll _ (by kernel_rfl) (by kernel_rfl)))) ?_
  intro W base args ds gs before hval hW _ hcond hsz hL _ _
  have hL' : laidMet Tryd.prog Rows.framesWritesUptoRow.laid W := by
    rw [MakeChecks.laidMetH_plain _ _ _ (by kernel_rfl)] at hL
    exact hL
  exact contract H enc W base args ds gs before hval hW (vtabOf rfl hL') hsz (hcond _ rfl)

theorem said : Rows.FramesWritesUptoSaid :=
  OpenClaim.holds_of_cond 4 Tryd.f4 rfl rfl rfl rfl rfl rfl rfl ⟨rfl, rfl, rfl, rfl, rfl⟩ rfl rfl rfl rfl rfl (by kernel_rfl) Tryd.func4 (by kernel_rfl)
    (of_decide_eq_true (by kernel_rfl)) (by unfold Func.isWrapper; first | (rw [if_pos (by decide +kernel)]; kernel_rfl) | (rw [if_neg (by decide +kernel)]; exact ⟨rfl, rfl⟩))
    (fun os started H enc _ F => by rw [OpenClaim.pre_eq_preRow]; exact lifted os started H enc F)

theorem plain (f : FuncId) (fn : Func) (hf : Tryd.pinned.checked.prog.funcNamed Rows.framesWritesUptoRow.func = some f) (hfn : Tryd.pinned.checked.prog.funcs[f]? = some fn) :
    (Tryd.pinned.checked.prog.looks [] = Tryd.pinned.checked.prog.looks []) ∧ ∀ (j : Nat) t, fn.params[j]? = some t → Tryd.pinned.checked.prog.wantsStandIn t = false := by
  obtain rfl : f = 4 := Option.some.inj ((show Tryd.prog.funcNamed Rows.framesWritesUptoRow.func = some 4 by kernel_rfl).symm.trans hf) |>.symm
  obtain rfl : fn = Tryd.f4 := (Option.some.inj (Tryd.func4.symm.trans hfn)).symm
  refine ⟨rfl, fun j t ht => ?_⟩
  rw [Tryd.params4] at ht
  have hm : t ∈ [29] := by simpa using Array.mem_of_getElem? ht
  have hall : ([29].all fun u => !Tryd.prog.wantsStandIn u) = true := by kernel_rfl
  exact (show Tryd.prog.wantsStandIn t = false by simpa using List.all_eq_true.1 hall t hm)
theorem card : Rows.FramesWritesUptoCardSaid :=
  Claim7.holds_tied_plain_at .later [] _ _ _ _ said (fun _ h => by cases h) (by kernel_rfl) (fun _ h => by cases h) framesWritesUpto_row_tie rfl ⟨rfl, rfl⟩ (by kernel_rfl) rfl (fun f fn hf hfn => ⟨by kernel_rfl, (plain f fn hf hfn).2⟩) (by kernel_rfl)
end Go.Proofs.YtmngpkkpkjnejaaDoor.framesWrites
namespace Go.Proofs.YtmngpkkpkjnejaaDoor
theorem framesWritesUpto_card : Rows.FramesWritesUptoCardSaid := framesWrites.card
end Go.Proofs.YtmngpkkpkjnejaaDoor
