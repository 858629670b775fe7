/-
  The law PrefixWrites returns true for every address, prefix and string: the program writes and reads addresses and prefixes as the chapter says, or refuses. The card ties the tables and sentinels of Go's library to the program's text. No condition but the form's own reach.
-/
import Derived.Test.YtnkhafkdmlfdbaaDoorPfRd
import Derived.Test.YtnkhafkdmlfdbaaDoorPfReadB
import Derived.Test.YtnkhafkdmlfdbaaDoorPfTab
import Derived.Test.YtnkhafkdmlfdbaaDoorPfOpen
import Derived.LaidLaws
namespace Go.Proofs.YtnkhafkdmlfdbaaDoor.prefixWrites
open Go.ChangeShapes Go.WideShapes Go.ChangeAt Go.RowKit Go.Sort
open Go.ChangeMaps (open_string shut_string)

theorem sides (s : ByteArray) (hs : s.size ≤ 281474976710656) : (∃ (x : Int) (ok : Bool), Hid (∀ w, Tab w → Calls Tryd.prog 7 #[.string s] w fun e w' => e = .returned (.tuple #[.int .u32 x, .bool ok]) ∧ Below w.heap.size w w') ∧ Hid (∀ w, Calls Tryd.prog 8 #[.string s] w fun e w' => e = .returned (.tuple #[.int .u32 x, .bool ok]) ∧ Below w.heap.size w w')) ∧
    (∃ (x y : Int) (ok : Bool), Hid (∀ w, Tab w → Calls Tryd.prog 9 #[.string s] w fun e w' => e = .returned (.tuple #[pv x y, .bool ok]) ∧ Below w.heap.size w w') ∧ Hid (∀ w, Calls Tryd.prog 10 #[.string s] w fun e w' => e = .returned (.tuple #[pv x y, .bool ok]) ∧ Below w.heap.size w w')) := by
  refine ⟨?_, ?_⟩
  · by_cases h : ∃ x : Int, (0 ≤ x ∧ x < 4294967296) ∧ txt x = s
    · obtain ⟨x, hx, rfl⟩ := h
      refine ⟨x, true, fun w t => parse_yes x w t hx.1 hx.2, fun w => ?_⟩
      have := rparse_ok (txt x) w
      rwa [cand_txt x hx.1 hx.2, if_pos (by simp)] at this
    · have h' : ∀ x : Int, 0 ≤ x → x < 4294967296 → txt x ≠ s := fun x h0 h1 e => h ⟨x, ⟨h0, h1⟩, e⟩
      refine ⟨0, false, fun w t => parse_no s w t hs h', fun w => ?_⟩
      have := rparse_ok s w
      have cb := cand_bd s
      rwa [if_neg (by
        intro e
        exact h' _ cb.1 cb.2 (pf_list_eq _ _ (by simpa using e)))] at this
  · by_cases h : ∃ x y : Int, IsP s x y
    · obtain ⟨x, y, hp⟩ := h
      exact ⟨x, y, true, fun w t => read_is s w t hs x y hp, fun w => rread_yes s w x y hp⟩
    · exact ⟨0, 0, false, fun w t => read_not s w t hs (fun a b e => h ⟨a, b, e⟩), fun w => rread_no s w (by omega) (fun a b e => h ⟨a, b, e⟩)⟩
set_option maxHeartbeats 4000000 in
theorem walk (a addr bits : Int) (s : ByteArray) (w : World) (t : Tab w) (a0 : 0 ≤ a) (a1 : a < 4294967296) (s0 : 0 ≤ addr) (s1 : addr < 4294967296) (hs : s.size ≤ 281474976710656) :
    Calls Tryd.prog 3 #[.int .u32 a, pv addr bits, .string s] w fun e w' => e = .returned (.bool true) ∧ Below w.heap.size w w' := by
  obtain ⟨⟨x, ok, PA, RA⟩, ⟨u, v, ok2, PR, RR⟩⟩ := sides s hs
  have T1 : Hid (∀ w, Tab w → _) := fun w t => text_ok a w t a0 a1
  have T2 : Hid (∀ w, _) := fun w => rtext_ok a w a0 a1
  have P1 : Hid (∀ w, Tab w → _) := fun w t => print_any addr bits w t s0 s1
  have P2 : Hid (∀ w, _) := fun w => rprint_any addr bits w s0 s1
  generalize txt a = X at *
  generalize prs addr bits = Y at *
  have e1 : (X.toList == X.toList) = true := by simp
  have e2 : (Y.toList == Y.toList) = true := by simp
  have e3 : (ok == ok) = true := by simp
  have e4 : (ok2 == ok2) = true := by simp
  unfold pv at *
  have lt : ∀ (w : World) o, w.heap.size < (w.alloc o).heap.size := fun w o => by simp
  have al : ∀ (w : World) o, Below w.heap.size w (w.alloc o) := fun w o => (Below.refl _ _).alloc (Nat.le_refl _) _
  have B0 : Hid (PBox (w.alloc (.cells #[.int .u32 addr, .int .i64 bits] 24)) w.heap.size addr bits) := pbox_new w addr bits
  have T0 : Hid (∀ o, Tab (w.alloc o)) := fun o => t.alloc o
  clear t
  go_enter Tryd.func3, Tryd.ntmps3
  go_wp2_with (first
    | (go_at_call 7; refine (PA.out _ (T0.out _)).mono ?_; rintro e w1 ⟨rfl, b1⟩; have t1 := (T0.out _).keep b1; have B1 : Hid (PBox w1 w.heap.size addr bits) := B0.out.keep (lt _ _) b1; have Z1 : Hid (Below w.heap.size w w1) := (al w _).trans (b1.mono (al w _).size); clear b1 T0 B0)
    | (go_at_call 8; refine (RA.out _).mono ?_; rintro e w2 ⟨rfl, b2⟩; have t2 := t1.keep b2; have B2 : Hid (PBox w2 w.heap.size addr bits) := B1.out.keep B1.out.lt b2; have Z2 : Hid (Below w.heap.size w w2) := Z1.out.trans (b2.mono Z1.out.size); clear b2 t1 B1 Z1)
    | (go_at_call 9; refine (PR.out _ t2).mono ?_; rintro e w3 ⟨rfl, b3⟩; have t3 := t2.keep b3; have B3 : Hid (∀ o, PBox (w3.alloc o) w.heap.size addr bits) := (fun o => (B2.out.keep B2.out.lt b3).keep (B2.out.keep B2.out.lt b3).lt (al w3 o)); have Q3 : Hid (PBox (w3.alloc (.cells #[.int .u32 u, .int .i64 v] 24)) w3.heap.size u v) := pbox_new w3 u v; have Z3 : Hid (∀ o, Below w.heap.size w (w3.alloc o)) := (fun o => (Z2.out.trans (b3.mono Z2.out.size)).trans ((al w3 o).mono (Z2.out.trans (b3.mono Z2.out.size)).size)); clear b3 t2 B2 Z2)
    | (go_at_call 10; refine (RR.out _).mono ?_; rintro e w4 ⟨rfl, b4⟩; have t4 := (t3.alloc _).keep b4; have X4 := (B3.out _).keep (B3.out _).lt b4; have Q4 := Q3.out.keep (lt _ _) b4; have X5 := X4.keep X4.lt (al w4 (.cells #[.int .u32 u, .int .i64 v] 24)); have Q5 := Q4.keep Q4.lt (al w4 (.cells #[.int .u32 u, .int .i64 v] 24)); have R5 := pbox_new w4 u v; have k0 := cell_regrown X5.c0; have k1 := cell_regrown X5.c1; have k2 := cell_regrown Q5.c0; have k3 := cell_regrown Q5.c1; have k4 := cell_regrown R5.c0; have k5 := cell_regrown R5.c1; have TR : Hid (∀ d os, Tab (grow (redrawn (w4.alloc (.cells #[.int .u32 u, .int .i64 v] 24)) d) os)) := (fun d os => (t4.alloc _).keep (below_regrown _ d os)); have Z4 : Hid (∀ o, Below w.heap.size w (w4.alloc o)) := (fun o => ((Z3.out _).trans (b4.mono (Z3.out _).size)).trans ((al w4 o).mono ((Z3.out _).trans (b4.mono (Z3.out _).size)).size)); clear b4 t3 t4 B3 Q3 Z3 X4 Q4 X5 Q5 R5))
  refine wp_region_quiet_below (by kernel_rfl) (by kernel_rfl) ?_
  repeat (go_big_quiet_step (first | (go_at_call 11; exact Calls.regrown_of (T1.out _ (TR.out _ _))) | (go_at_call 12; exact Calls.regrown_of (T2.out _)) | (go_at_call 13; exact Calls.regrown_of (P1.out _ (TR.out _ _))) | (go_at_call 14; exact Calls.regrown_of (P2.out _))))
  refine wpQuiet_nil ?_
  intro _ hw'
  obtain ⟨⟨dq, osq⟩, hw''⟩ := hw'
  subst hw''
  go_wp2
  go_ret
  exact ⟨rfl, (Z4.out _).trans ((below_regrown _ dq osq).mono (Z4.out _).size)⟩

set_option maxRecDepth 100000 in
theorem contract (H : Type) (enc : TypeId × Value → H) (W : World) (base : Nat) (args : Array Value) (ds gs : List (DataW H)) (before : List MemPlace)
    (hval : ∀ (j : Nat) t v, Tryd.f3.params[j]? = some t → args[j]? = some v → Value.okWide Tryd.prog W .any base t v)
    (hW : DataW.Whole enc Tryd.prog Tryd.f3.params.toList Rows.prefixWritesSpec.vars false W args.toList ds gs before) (hT : Tab W)
    (hsz : (DataW.weightsEach Tryd.prog (Tryd.f3.params.toList ++ (OpenSpec.ofChange Rows.prefixWritesSpec).bare.plain.varTypes Tryd.prog) (ds ++ gs)).all (· ≤ reachBytes) = true) :
    Calls Tryd.prog 3 args W fun e W' => ∃ v, e = .returned v ∧ Rows.prefixWritesSpec.post enc Tryd.prog Tryd.f3 false true false false W args v W' := by
  have hW' := hW
  obtain ⟨p, q, hA0, hV, rfl, hfz, hnd⟩ := hW
  have hA : DataW.TrodAll enc Tryd.prog W 0 (fun _ => true) true Tryd.f3.params.toList args.toList ds p := hA0
  rw [Tryd.params3] at hA hval hsz
  obtain ⟨v0, vs0, d0, ds0, p0, q0, hargs, rfl, rfl, h0, r0⟩ := trodAll_cons hA
  obtain ⟨v1, vs1, d1, ds1, p1, q1, rfl, rfl, rfl, h1, r1⟩ := trodAll_cons r0
  obtain ⟨v2, vs2, d2, ds2, p2, q2, rfl, rfl, rfl, h2, r2⟩ := trodAll_cons r1
  obtain ⟨rfl, rfl, rfl⟩ := trodAll_nil r2
  obtain rfl : args = #[v0, v1, v2] := by cases args; simp_all
  obtain ⟨rfl, rfl⟩ := trodVars_none hV
  obtain ⟨a0, rfl, rfl, rfl, w0⟩ := open_int Tryd.underlying22 (hval 0 22 v0 rfl rfl) h0
  have b0 := bounds_u32 w0
  have k1 := h1
  have lt1 : ∀ x ∈ p1, x.block < W.heap.size := by obtain ⟨m, hm⟩ := k1; exact DataW.trod_lt m _ _ _ hm
  obtain ⟨addr, bits, rfl, s0, s1, z1, y1⟩ := open_pfx (hval 1 24 v1 rfl rfl) h1
  obtain ⟨a2, rfl, rfl, rfl, w2⟩ := open_string Tryd.underlying9 (hval 2 9 v2 rfl rfl) h2
  have z2 : a2.size ≤ 140737488351232 := by
    have hz := sized_string hsz (j := 2) (t := 9) (bytes := a2.data.toList) rfl rfl
    simpa [reachBytes] using hz
  clear hA0
  simp only [List.append_nil] at hW'
  refine (walk a0 addr bits a2 W hT (by omega) (by omega) s0 s1 (by omega)).mono fun e W' ⟨he, bel⟩ => ?_
  subst he
  exact ⟨_, rfl, _, _, _, [], _, [], hW', trodAll_mk1 (shut_bool Tryd.underlying4 _), (trodAll_cons_mk (shut_int Tryd.underlying22 w0) (trodAll_cons_mk (Below.trod laidOut (by kernel_rfl) (of_decide_eq_true (by kernel_rfl)) k1 bel lt1) (trodAll_cons_mk (shut_string Tryd.underlying9 w2) trodAll_mk0))), rfl, bel.frame _, fun h => by cases h⟩

set_option maxRecDepth 100000 in
theorem lifted (os : Os) (started : os.Started) (H : Type) (enc : TypeId × Value → H) :
    ReturnsInHanded {} Tryd.checked os 3 .any (fun w args => (Rows.prefixWritesSpec.pre enc Tryd.prog Tryd.f3 Rows.prefixWritesRow.domain false w args ∧ laidMetH Tryd.prog Rows.prefixWritesRow.laid w) ∧ sizedMet enc Tryd.prog Tryd.f3 (OpenSpec.ofChange Rows.prefixWritesSpec) false w args)
      (Rows.prefixWritesSpec.post enc Tryd.prog Tryd.f3 false true false false) := by
  refine returnsInHanded_of_change_and (C := Tryd.checked) (X := fun w _ => laidMetH Tryd.prog Rows.prefixWritesRow.laid w) (fun _ _ _ hh h => h.of_heap hh) own started (by kernel_rfl) Tryd.func3
    (ChangeSpec.witness_shaped (enc := enc) (C := Tryd.checked) (os := os) (X := fun w _ => laidMetH Tryd.prog Rows.prefixWritesRow.laid w) false (World.laidAll Tryd.prog os Rows.prefixWritesRow.laid) #[.int .u32 0, .agg #[.int .u32 0, .int .i64 0], .string ByteArray.empty] 8 (World.laidAll_os _ _ _)
      (World.shaped_of_ZipB (by kernel_rfl) (by kernel_rfl)) (by kernel_rfl) (by kernel_rfl) (by kernel_rfl)
      (by rw [MakeChecks.laidMetH_plain _ _ _ (by kernel_rfl)]; exact laidMet_laidAll _ (by kernel_rfl) (by kernel_rfl))) ?_
  intro W base args ds gs before hval hW _ hsz hL _
  have hL' : laidMet Tryd.prog Rows.prefixWritesRow.laid W := by
    rw [MakeChecks.laidMetH_plain _ _ _ (by kernel_rfl)] at hL
    exact hL
  exact contract H enc W base args ds gs before hval hW (tabOf rfl hL') hsz

theorem said : Rows.PrefixWritesSaid :=
  OpenClaim.holds_of_wide 3 Tryd.f3 rfl rfl rfl rfl rfl rfl rfl ⟨rfl, rfl, rfl, rfl, rfl⟩ rfl rfl rfl rfl rfl (by kernel_rfl) Tryd.func3 (by kernel_rfl)
    (of_decide_eq_true (by kernel_rfl)) (by unfold Func.isWrapper; first | (rw [if_pos (by decide +kernel)]; kernel_rfl) | (rw [if_neg (by decide +kernel)]; exact ⟨rfl, rfl⟩))
    (fun os started H enc _ => lifted os started H enc)

theorem plain (f : FuncId) (fn : Func) (hf : Tryd.pinned.checked.prog.funcNamed Rows.prefixWritesRow.func = some f) (hfn : Tryd.pinned.checked.prog.funcs[f]? = some fn) :
    (Tryd.pinned.checked.prog.looks [] = Tryd.pinned.checked.prog.looks []) ∧ ∀ (j : Nat) t, fn.params[j]? = some t → Tryd.pinned.checked.prog.wantsStandIn t = false := by
  obtain rfl : f = 3 := Option.some.inj ((show Tryd.prog.funcNamed Rows.prefixWritesRow.func = some 3 by kernel_rfl).symm.trans hf) |>.symm
  obtain rfl : fn = Tryd.f3 := (Option.some.inj (Tryd.func3.symm.trans hfn)).symm
  refine ⟨rfl, fun j t ht => ?_⟩
  rw [Tryd.params3] at ht
  have hm : t ∈ [22, 24, 9] := by simpa using Array.mem_of_getElem? ht
  have hall : ([22, 24, 9].all fun u => !Tryd.prog.wantsStandIn u) = true := by kernel_rfl
  exact (show Tryd.prog.wantsStandIn t = false by simpa using List.all_eq_true.1 hall t hm)
theorem card : Rows.PrefixWritesCardSaid :=
  Claim7.holds_tied_plain_at .later [] _ _ _ _ said (fun _ h => by cases h) (by kernel_rfl) (fun _ h => by cases h) prefixWrites_row_tie rfl ⟨rfl, rfl⟩ (by kernel_rfl) rfl (fun f fn hf hfn => ⟨by kernel_rfl, (plain f fn hf hfn).2⟩) (by kernel_rfl)
end Go.Proofs.YtnkhafkdmlfdbaaDoor.prefixWrites
namespace Go.Proofs.YtnkhafkdmlfdbaaDoor
theorem prefixWrites_card : Rows.PrefixWritesCardSaid := prefixWrites.card
end Go.Proofs.YtnkhafkdmlfdbaaDoor
