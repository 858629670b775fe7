/-
  The law FramesChecks returns true for every frame: of any frame it is told what is wrong with it, how many bytes it has, whether it asks for an answer. No condition but the form's own reach.
-/
import Derived.Test.YtmngpkkpkjnejaaDoorFrO
import Derived.Test.YtmngpkkpkjnejaaDoorFrTab
import Derived.Test.YtmngpkkpkjnejaaDoorFrOpen
import Derived.LaidLaws
namespace Go.Proofs.YtmngpkkpkjnejaaDoor.framesChecks
set_option maxRecDepth 100000
open Go.ChangeShapes Go.WideShapes Go.ChangeAt Go.RowKit
open Go.ChangeMaps (open_string shut_string)

theorem frb_small {f : Fr} (h : FrB f) : f.rg.length < 9223372036854775807 ∧ f.data.length < 4611686018427387904 := ⟨by have := h.rgs; omega, by have := h.data; omega⟩
set_option maxHeartbeats 4000000 in
theorem walk (f : Fr) (v : Value) (w : World) (t : VTab w) (hf : FrIs w v f) (hb : FrB f) :
    Calls Tryd.prog 3 #[v] w fun e w' => e = .returned (.bool true) ∧ Below w.heap.size w w' := by
  obtain ⟨d, a, cp, rfl, hd, hr⟩ := hf
  have b0 := (Below.refl w.heap.size w).alloc (Nat.le_refl _) (.cells #[.int .i64 f.kind, .int .i64 f.id, .int .i64 f.off, .bool f.fin, .int .i64 f.code, .string d, .slice a f.rg.length cp] 24)
  have l := Lies.new w [.int .i64 f.kind, .int .i64 f.id, .int .i64 f.off, .bool f.fin, .int .i64 f.code, .string d, .slice a f.rg.length cp] 24
  have HS : Hid (C7b (w.alloc (.cells #[.int .i64 f.kind, .int .i64 f.id, .int .i64 f.off, .bool f.fin, .int .i64 f.code, .string d, .slice a f.rg.length cp] 24)) w.heap.size f.kind f.id f.off f.fin f.code d (.slice a f.rg.length cp)) := ⟨l.cell 0 rfl, l.cell 1 rfl, l.cell 2 rfl, l.cell 3 rfl, l.cell 4 rfl, l.cell 5 rfl, l.cell 6 rfl⟩
  have IS0 : FrIs (w.alloc (.cells #[.int .i64 f.kind, .int .i64 f.id, .int .i64 f.off, .bool f.fin, .int .i64 f.code, .string d, .slice a f.rg.length cp] 24)) (frV f d (.slice a f.rg.length cp)) f := ⟨d, a, cp, rfl, hd, hr.keep b0⟩
  have T0 := t.below b0
  have sm := frb_small hb
  obtain ⟨W0, hW0⟩ : ∃ W0, W0 = w.alloc (.cells #[.int .i64 f.kind, .int .i64 f.id, .int .i64 f.off, .bool f.fin, .int .i64 f.code, .string d, .slice a f.rg.length cp] 24) := ⟨_, rfl⟩
  rw [← hW0] at HS IS0 T0 b0
  have C1 : Hid (∀ w', Below W0.heap.size W0 w' → Calls Tryd.prog 9 #[.agg #[.int .i64 f.kind, .int .i64 f.id, .int .i64 f.off, .bool f.fin, .int .i64 f.code, .string d, .slice a f.rg.length cp]] w' fun e w'' => e = .returned (.int .i64 (chkF f)) ∧ Below w'.heap.size w' w'') := fun w' b => fcheck_ok (T0.below b) (IS0.keep b) hb
  have C2 : Hid (∀ w', Below W0.heap.size W0 w' → Calls Tryd.prog 10 #[.agg #[.int .i64 f.kind, .int .i64 f.id, .int .i64 f.off, .bool f.fin, .int .i64 f.code, .string d, .slice a f.rg.length cp]] w' fun e w'' => e = .returned (.int .i64 (chkF f)) ∧ Below w'.heap.size w' w'') := fun w' b => rchkF_ok (IS0.keep b) sm.1 sm.2
  have Z1 : Hid (∀ w', Below W0.heap.size W0 w' → Calls Tryd.prog 11 #[.agg #[.int .i64 f.kind, .int .i64 f.id, .int .i64 f.off, .bool f.fin, .int .i64 f.code, .string d, .slice a f.rg.length cp]] w' fun e w'' => e = .returned (.int .i64 (sizF f : Nat)) ∧ Below w'.heap.size w' w'') := fun w' b => fsize_ok (T0.below b) (IS0.keep b) hb
  have Z2 : Hid (∀ w', Below W0.heap.size W0 w' → Calls Tryd.prog 12 #[.agg #[.int .i64 f.kind, .int .i64 f.id, .int .i64 f.off, .bool f.fin, .int .i64 f.code, .string d, .slice a f.rg.length cp]] w' fun e w'' => e = .returned (.int .i64 (sizF f : Nat)) ∧ Below w'.heap.size w' w'') := fun w' b => rsizeF_ok (IS0.keep b) sm.1 sm.2
  have E1 : Hid (∀ w', Below W0.heap.size W0 w' → Calls Tryd.prog 13 #[.agg #[.int .i64 f.kind, .int .i64 f.id, .int .i64 f.off, .bool f.fin, .int .i64 f.code, .string d, .slice a f.rg.length cp]] w' fun e w'' => e = .returned (.bool (elic f)) ∧ Below w'.heap.size w' w'') := fun w' b => felic_ok (T0.below b) (IS0.keep b) hb
  have E2 : Hid (∀ w', Below W0.heap.size W0 w' → Calls Tryd.prog 14 #[.agg #[.int .i64 f.kind, .int .i64 f.id, .int .i64 f.off, .bool f.fin, .int .i64 f.code, .string d, .slice a f.rg.length cp]] w' fun e w'' => e = .returned (.bool (elic f)) ∧ Below w'.heap.size w' w'') := fun w' b => relic_ok (IS0.keep b)
  replace b0 : Hid (Below w.heap.size w W0) := b0
  clear l hd hr IS0 T0 sm hb t
  generalize chkF f = y at *
  generalize sizF f = z at *
  generalize elic f = el at *
  unfold frV
  subst hW0
  go_enter Tryd.func3, Tryd.ntmps3
  go_wp2_with fail
  generalize w.alloc (.cells #[.int .i64 f.kind, .int .i64 f.id, .int .i64 f.off, .bool f.fin, .int .i64 f.code, .string d, .slice a f.rg.length cp] 24) = W0 at *
  refine wp_region_held (S := fun w' => C7b w' w.heap.size f.kind f.id f.off f.fin f.code d (.slice a f.rg.length cp)) (by kernel_rfl) ?_
  change wpAnyH _ .any _ _ _ 20 (Array.replicate 20 false) _ W0.drew
  have Q0 : Hid (Below W0.heap.size W0 W0.drew) := drewB _ _
  have hS : (fun w' => C7b w' w.heap.size f.kind f.id f.off f.fin f.code d (.slice a f.rg.length cp)) W0.drew := HS.out.keep (drewB _ _)
  refine obTakeH (i := 0) (d := 3) (v := .agg #[.int .i64 f.kind, .int .i64 f.id, .int .i64 f.off, .bool f.fin, .int .i64 f.code, .string d, .slice a f.rg.length cp]) rfl rfl (by kernel_rfl) (by kernel_rfl) (by kernel_rfl) (fun _ _ _ h => h) rfl (fun w hS => by obtain ⟨s0, s1, s2, s3, s4, s5, s6⟩ := hS; go_simp) hS ?_
  refine obTakeH (i := 2) (d := 5) (v := .agg #[.int .i64 f.kind, .int .i64 f.id, .int .i64 f.off, .bool f.fin, .int .i64 f.code, .string d, .slice a f.rg.length cp]) rfl rfl (by kernel_rfl) (by kernel_rfl) (by kernel_rfl) (fun _ _ _ h => h) rfl (fun w hS => by obtain ⟨s0, s1, s2, s3, s4, s5, s6⟩ := hS; go_simp) hS ?_
  simp only [Act.put, List.setIfInBounds_toArray, List.set_cons_succ, List.set_cons_zero]
  refine wpAnyH_all (rs := [1]) (by kernel_rfl) (by simp) (fun i' hi' => ?_)
  obtain rfl : i' = 1 := by simpa using hi'
  refine wpOp_step rfl (fun K' hK => ?_)
  clear hi'
  simp only [Region.wanted]
  refine obCall1 9 _ (k1 := 3) (d := 4) rfl rfl _ _ _ _ (fun w => by simp [go_sem]) rfl (C1.out _ Q0.out) ?_
  rintro _ V1 ⟨rfl, q1⟩
  have hS1 : (fun w' => C7b w' w.heap.size f.kind f.id f.off f.fin f.code d (.slice a f.rg.length cp)) V1 := C7b.keep hS q1
  refine ⟨_, rfl, hK _ _ ⟨hS1, ?_⟩⟩
  clear hK K'
  have Q1 : Hid (Below W0.heap.size W0 V1) := Q0.out.trans (q1.mono Q0.out.size)
  clear q1
  simp only [Act.put, List.setIfInBounds_toArray, List.set_cons_succ, List.set_cons_zero]
  refine wpAnyH_all (rs := [3]) (by kernel_rfl) (by simp) (fun i' hi' => ?_)
  obtain rfl : i' = 3 := by simpa using hi'
  refine wpOp_step rfl (fun K' hK => ?_)
  clear hi'
  simp only [Region.wanted]
  refine obCall1 10 _ (k1 := 5) (d := 6) rfl rfl _ _ _ _ (fun w => by simp [go_sem]) rfl (C2.out _ Q1.out) ?_
  rintro _ V2 ⟨rfl, q2⟩
  have hS2 : (fun w' => C7b w' w.heap.size f.kind f.id f.off f.fin f.code d (.slice a f.rg.length cp)) V2 := C7b.keep hS1 q2
  refine ⟨_, rfl, hK _ _ ⟨hS2, ?_⟩⟩
  clear hK K'
  have Q2 : Hid (Below W0.heap.size W0 V2) := Q1.out.trans (q2.mono Q1.out.size)
  clear q2
  refine obTakeH (i := 4) (d := 7) (v := .bool true) rfl rfl (by kernel_rfl) (by kernel_rfl) (by kernel_rfl) (fun _ _ _ h => h) rfl (fun w hS => by obtain ⟨s0, s1, s2, s3, s4, s5, s6⟩ := hS; go_simp) hS2 ?_
  refine obTakeH (i := 5) (d := 8) (v := .bool true) rfl rfl (by kernel_rfl) (by kernel_rfl) (by kernel_rfl) (fun _ _ _ h => h) rfl (fun w hS => by obtain ⟨s0, s1, s2, s3, s4, s5, s6⟩ := hS; go_simp) hS2 ?_
  simp only [Act.put, List.setIfInBounds_toArray, List.set_cons_succ, List.set_cons_zero]
  refine obTakeHG (i := 6) (d := 9) (v := .agg #[.int .i64 f.kind, .int .i64 f.id, .int .i64 f.off, .bool f.fin, .int .i64 f.code, .string d, .slice a f.rg.length cp]) rfl rfl (by kernel_rfl) (by kernel_rfl) (by kernel_rfl) (fun _ _ _ h => h) (by kernel_rfl) (fun w hS => by obtain ⟨s0, s1, s2, s3, s4, s5, s6⟩ := hS; go_simp) hS2 ?_
  refine obTakeHG (i := 8) (d := 11) (v := .agg #[.int .i64 f.kind, .int .i64 f.id, .int .i64 f.off, .bool f.fin, .int .i64 f.code, .string d, .slice a f.rg.length cp]) rfl rfl (by kernel_rfl) (by kernel_rfl) (by kernel_rfl) (fun _ _ _ h => h) (by kernel_rfl) (fun w hS => by obtain ⟨s0, s1, s2, s3, s4, s5, s6⟩ := hS; go_simp) hS2 ?_
  simp only [Act.put, List.setIfInBounds_toArray, List.set_cons_succ, List.set_cons_zero]
  refine wpAnyH_all (rs := [7]) (by kernel_rfl) (by simp) (fun i' hi' => ?_)
  obtain rfl : i' = 7 := by simpa using hi'
  refine wpOp_step rfl (fun K' hK => ?_)
  clear hi'
  rw [if_pos (by kernel_rfl)]
  refine obCall1 11 _ (k1 := 9) (d := 10) rfl rfl _ _ _ _ (fun w => by simp [go_sem]) rfl (Z1.out _ Q2.out) ?_
  rintro _ V3 ⟨rfl, q3⟩
  have hS3 : (fun w' => C7b w' w.heap.size f.kind f.id f.off f.fin f.code d (.slice a f.rg.length cp)) V3 := C7b.keep hS2 q3
  refine ⟨_, rfl, hK _ _ ⟨hS3, ?_⟩⟩
  clear hK K'
  have Q3 : Hid (Below W0.heap.size W0 V3) := Q2.out.trans (q3.mono Q2.out.size)
  clear q3
  simp only [Act.put, List.setIfInBounds_toArray, List.set_cons_succ, List.set_cons_zero]
  refine wpAnyH_all (rs := [9]) (by kernel_rfl) (by simp) (fun i' hi' => ?_)
  obtain rfl : i' = 9 := by simpa using hi'
  refine wpOp_step rfl (fun K' hK => ?_)
  clear hi'
  rw [if_pos (by kernel_rfl)]
  refine obCall1 12 _ (k1 := 11) (d := 12) rfl rfl _ _ _ _ (fun w => by simp [go_sem]) rfl (Z2.out _ Q3.out) ?_
  rintro _ V4 ⟨rfl, q4⟩
  have hS4 : (fun w' => C7b w' w.heap.size f.kind f.id f.off f.fin f.code d (.slice a f.rg.length cp)) V4 := C7b.keep hS3 q4
  refine ⟨_, rfl, hK _ _ ⟨hS4, ?_⟩⟩
  clear hK K'
  have Q4 : Hid (Below W0.heap.size W0 V4) := Q3.out.trans (q4.mono Q3.out.size)
  clear q4
  refine obTakeHG (i := 10) (d := 13) (v := .bool true) rfl rfl (by kernel_rfl) (by kernel_rfl) (by kernel_rfl) (fun _ _ _ h => h) (by kernel_rfl) (fun w hS => by obtain ⟨s0, s1, s2, s3, s4, s5, s6⟩ := hS; go_simp) hS4 ?_
  refine obTakeH (i := 11) (d := 14) (v := .bool true) rfl rfl (by kernel_rfl) (by kernel_rfl) (by kernel_rfl) (fun _ _ _ h => h) rfl (fun w hS => by obtain ⟨s0, s1, s2, s3, s4, s5, s6⟩ := hS; go_simp) hS4 ?_
  refine obTakeH (i := 12) (d := 15) (v := .bool true) rfl rfl (by kernel_rfl) (by kernel_rfl) (by kernel_rfl) (fun _ _ _ h => h) rfl (fun w hS => by obtain ⟨s0, s1, s2, s3, s4, s5, s6⟩ := hS; go_simp) hS4 ?_
  simp only [Act.put, List.setIfInBounds_toArray, List.set_cons_succ, List.set_cons_zero]
  refine obTakeHG (i := 13) (d := 16) (v := .agg #[.int .i64 f.kind, .int .i64 f.id, .int .i64 f.off, .bool f.fin, .int .i64 f.code, .string d, .slice a f.rg.length cp]) rfl rfl (by kernel_rfl) (by kernel_rfl) (by kernel_rfl) (fun _ _ _ h => h) (by kernel_rfl) (fun w hS => by obtain ⟨s0, s1, s2, s3, s4, s5, s6⟩ := hS; go_simp) hS4 ?_
  refine obTakeHG (i := 15) (d := 18) (v := .agg #[.int .i64 f.kind, .int .i64 f.id, .int .i64 f.off, .bool f.fin, .int .i64 f.code, .string d, .slice a f.rg.length cp]) rfl rfl (by kernel_rfl) (by kernel_rfl) (by kernel_rfl) (fun _ _ _ h => h) (by kernel_rfl) (fun w hS => by obtain ⟨s0, s1, s2, s3, s4, s5, s6⟩ := hS; go_simp) hS4 ?_
  simp only [Act.put, List.setIfInBounds_toArray, List.set_cons_succ, List.set_cons_zero]
  refine wpAnyH_all (rs := [14]) (by kernel_rfl) (by simp) (fun i' hi' => ?_)
  obtain rfl : i' = 14 := by simpa using hi'
  refine wpOp_step rfl (fun K' hK => ?_)
  clear hi'
  rw [if_pos (by kernel_rfl)]
  refine obCall1 13 _ (k1 := 16) (d := 17) rfl rfl _ _ _ _ (fun w => by simp [go_sem]) rfl (E1.out _ Q4.out) ?_
  rintro _ V5 ⟨rfl, q5⟩
  have hS5 : (fun w' => C7b w' w.heap.size f.kind f.id f.off f.fin f.code d (.slice a f.rg.length cp)) V5 := C7b.keep hS4 q5
  refine ⟨_, rfl, hK _ _ ⟨hS5, ?_⟩⟩
  clear hK K'
  have Q5 : Hid (Below W0.heap.size W0 V5) := Q4.out.trans (q5.mono Q4.out.size)
  clear q5
  simp only [Act.put, List.setIfInBounds_toArray, List.set_cons_succ, List.set_cons_zero]
  refine wpAnyH_all (rs := [16]) (by kernel_rfl) (by simp) (fun i' hi' => ?_)
  obtain rfl : i' = 16 := by simpa using hi'
  refine wpOp_step rfl (fun K' hK => ?_)
  clear hi'
  rw [if_pos (by kernel_rfl)]
  refine obCall1 14 _ (k1 := 18) (d := 19) rfl rfl _ _ _ _ (fun w => by simp [go_sem]) rfl (E2.out _ Q5.out) ?_
  rintro _ V6 ⟨rfl, q6⟩
  have hS6 : (fun w' => C7b w' w.heap.size f.kind f.id f.off f.fin f.code d (.slice a f.rg.length cp)) V6 := C7b.keep hS5 q6
  refine ⟨_, rfl, hK _ _ ⟨hS6, ?_⟩⟩
  clear hK K'
  have Q6 : Hid (Below W0.heap.size W0 V6) := Q5.out.trans (q6.mono Q5.out.size)
  clear q6
  refine obTakeHG (i := 17) (d := 20) (v := .bool true) rfl rfl (by kernel_rfl) (by kernel_rfl) (by kernel_rfl) (fun _ _ _ h => h) (by kernel_rfl) (fun w hS => by obtain ⟨s0, s1, s2, s3, s4, s5, s6⟩ := hS; go_simp) hS6 ?_
  refine obTakeH (i := 18) (d := 21) (v := .bool true) rfl rfl (by kernel_rfl) (by kernel_rfl) (by kernel_rfl) (fun _ _ _ h => h) rfl (fun w hS => by obtain ⟨s0, s1, s2, s3, s4, s5, s6⟩ := hS; go_simp) hS6 ?_
  simp only [Act.put, List.setIfInBounds_toArray, List.set_cons_succ, List.set_cons_zero]
  refine wpAnyH_all (rs := [19]) (by kernel_rfl) (by simp) (fun i' hi' => ?_)
  obtain rfl : i' = 19 := by simpa using hi'
  refine wpOp_step rfl (fun K' hK => ?_)
  clear hi'
  go_simp
  refine hK _ _ ⟨hS6, ?_⟩
  clear hK K'
  refine wpAnyH_done (by kernel_rfl) ?_ 0
  have QQ : Hid (Below w.heap.size w V6) := b0.out.trans (Q6.out.mono b0.out.size)
  clear Q0 Q1 Q2 Q3 Q4 Q5 Q6 hS hS1 hS2 hS3 hS4 hS5 hS6 HS
  go_wp2
  go_ret
  exact ⟨rfl, QQ.out⟩

set_option maxRecDepth 100000 in
theorem contract (H : Type) (enc : TypeId × Value → H) (W : World) (base : Nat) (args : Array Value) (ds gs : List (DataW H)) (before : List MemPlace)
    (hval : ∀ (j : Nat) t v, Tryd.f3.params[j]? = some t → args[j]? = some v → Value.okWide Tryd.prog W .any base t v)
    (hW : DataW.Whole enc Tryd.prog Tryd.f3.params.toList Rows.framesChecksSpec.vars false W args.toList ds gs before) (hT : VTab W)
    (hsz : (DataW.weightsEach Tryd.prog (Tryd.f3.params.toList ++ (OpenSpec.ofChange Rows.framesChecksSpec).bare.plain.varTypes Tryd.prog) (ds ++ gs)).all (· ≤ reachBytes) = true) :
    Calls Tryd.prog 3 args W fun e W' => ∃ v, e = .returned v ∧ Rows.framesChecksSpec.post enc Tryd.prog Tryd.f3 false true false false W args v W' := by
  have hW' := hW
  obtain ⟨p, q, hA0, hV, rfl, hfz, hnd⟩ := hW
  have hA : DataW.TrodAll enc Tryd.prog W 0 (fun _ => true) true Tryd.f3.params.toList args.toList ds p := hA0
  rw [Tryd.params3] at hA hval hsz
  obtain ⟨v0, vs0, d0, ds0, p0, q0, hargs, rfl, rfl, h0, r0⟩ := trodAll_cons hA
  obtain ⟨rfl, rfl, rfl⟩ := trodAll_nil r0
  obtain rfl : args = #[v0] := by cases args; simp_all
  obtain ⟨rfl, rfl⟩ := trodVars_none hV
  have k0 := h0
  have lt0 : ∀ x ∈ p0, x.block < W.heap.size := by obtain ⟨m, hm⟩ := k0; exact DataW.trod_lt m _ _ _ hm
  obtain ⟨f0, fi0, fb0⟩ := open_frm (hval 0 24 v0 rfl rfl) h0 (fun n hn => by simpa using List.all_eq_true.1 hsz _ (DataW.weights_mem_each (j := 0) (t := 24) rfl rfl n hn))
  clear hA0
  simp only [List.append_nil] at hW'
  refine (walk f0 v0 W hT fi0 fb0).mono fun e W' ⟨he, bel⟩ => ?_
  subst he
  exact ⟨_, rfl, _, _, _, [], _, [], hW', trodAll_mk1 (shut_bool Tryd.underlying4 _), (trodAll_cons_mk (Below.trod laidOut (by kernel_rfl) (of_decide_eq_true (by kernel_rfl)) k0 bel lt0) trodAll_mk0), rfl, bel.frame _, fun h => by cases h⟩

set_option maxRecDepth 100000 in
theorem lifted (os : Os) (started : os.Started) (H : Type) (enc : TypeId × Value → H) :
    ReturnsInHanded {} Tryd.checked os 3 .any (fun w args => (Rows.framesChecksSpec.pre enc Tryd.prog Tryd.f3 Rows.framesChecksRow.domain false w args ∧ laidMetH Tryd.prog Rows.framesChecksRow.laid w) ∧ sizedMet enc Tryd.prog Tryd.f3 (OpenSpec.ofChange Rows.framesChecksSpec) false w args)
      (Rows.framesChecksSpec.post enc Tryd.prog Tryd.f3 false true false false) := by
  refine returnsInHanded_of_change_and (C := Tryd.checked) (X := fun w _ => laidMetH Tryd.prog Rows.framesChecksRow.laid w) (fun _ _ _ hh h => h.of_heap hh) own started (by kernel_rfl) Tryd.func3
    (ChangeSpec.witness_shaped (enc := enc) (C := Tryd.checked) (os := os) (X := fun w _ => laidMetH Tryd.prog Rows.framesChecksRow.laid w) false (World.laidAll Tryd.prog os Rows.framesChecksRow.laid) #[.agg #[.int .i64 0, .int .i64 0, .int .i64 0, .bool false, .int .i64 0, .string ByteArray.empty, .slice none 0 0]] 8 (World.laidAll_os _ _ _)
      (World.shaped_of_ZipB (by kernel_rfl) (by kernel_rfl)) (by kernel_rfl) (by kernel_rfl) (by kernel_rfl)
      (by rw [MakeChecks.laidMetH_plain _ _ _ (by kernel_rfl)]; exact laidMet_laidAll _ (by kernel_rfl) (by kernel_rfl))) ?_
  intro W base args ds gs before hval hW _ hsz hL _
  have hL' : laidMet Tryd.prog Rows.framesChecksRow.laid W := by
    rw [MakeChecks.laidMetH_plain _ _ _ (by kernel_rfl)] at hL
    exact hL
  exact contract H enc W base args ds gs before hval hW (vtabOf rfl hL') hsz

theorem said : Rows.FramesChecksSaid :=
  OpenClaim.holds_of_wide 3 Tryd.f3 rfl rfl rfl rfl rfl rfl rfl ⟨rfl, rfl, rfl, rfl, rfl⟩ rfl rfl rfl rfl rfl (by kernel_rfl) Tryd.func3 (by kernel_rfl)
    (of_decide_eq_true (by kernel_rfl)) (by unfold Func.isWrapper; first | (rw [if_pos (by decide +kernel)]; kernel_rfl) | (rw [if_neg (by decide +kernel)]; exact ⟨rfl, rfl⟩))
    (fun os started H enc _ => lifted os started H enc)

theorem plain (f : FuncId) (fn : Func) (hf : Tryd.pinned.checked.prog.funcNamed Rows.framesChecksRow.func = some f) (hfn : Tryd.pinned.checked.prog.funcs[f]? = some fn) :
    (Tryd.pinned.checked.prog.looks [] = Tryd.pinned.checked.prog.looks []) ∧ ∀ (j : Nat) t, fn.params[j]? = some t → Tryd.pinned.checked.prog.wantsStandIn t = false := by
  obtain rfl : f = 3 := Option.some.inj ((show Tryd.prog.funcNamed Rows.framesChecksRow.func = some 3 by kernel_rfl).symm.trans hf) |>.symm
  obtain rfl : fn = Tryd.f3 := (Option.some.inj (Tryd.func3.symm.trans hfn)).symm
  refine ⟨rfl, fun j t ht => ?_⟩
  rw [Tryd.params3] at ht
  have hm : t ∈ [24] := by simpa using Array.mem_of_getElem? ht
  have hall : ([24].all fun u => !Tryd.prog.wantsStandIn u) = true := by kernel_rfl
  exact (show Tryd.prog.wantsStandIn t = false by simpa using List.all_eq_true.1 hall t hm)
theorem card : Rows.FramesChecksCardSaid :=
  Claim7.holds_tied_plain_at .later [] _ _ _ _ said (fun _ h => by cases h) (by kernel_rfl) (fun _ h => by cases h) framesChecks_row_tie rfl ⟨rfl, rfl⟩ (by kernel_rfl) rfl (fun f fn hf hfn => ⟨by kernel_rfl, (plain f fn hf hfn).2⟩) (by kernel_rfl)
end Go.Proofs.YtmngpkkpkjnejaaDoor.framesChecks
namespace Go.Proofs.YtmngpkkpkjnejaaDoor
theorem framesChecks_card : Rows.FramesChecksCardSaid := framesChecks.card
end Go.Proofs.YtmngpkkpkjnejaaDoor
