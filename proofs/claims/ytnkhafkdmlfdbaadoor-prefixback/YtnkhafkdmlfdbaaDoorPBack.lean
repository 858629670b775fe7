/-
  The law PrefixBack returns true for every address and prefix: what is written of them is read as it was. The card ties the tables and sentinels of Go's library to the program's text. No condition but the form's own reach.
-/
import Derived.Test.YtnkhafkdmlfdbaaDoorPfRd
import Derived.Test.YtnkhafkdmlfdbaaDoorPfWorks
import Derived.Test.YtnkhafkdmlfdbaaDoorPfTab
import Derived.Test.YtnkhafkdmlfdbaaDoorPfOpen
import Derived.LaidLaws
namespace Go.Proofs.YtnkhafkdmlfdbaaDoor.prefixBack
open Go.ChangeShapes Go.WideShapes Go.ChangeAt Go.RowKit Go.Sort
open Go.ChangeMaps (open_string shut_string)

theorem back (addr bits : Int) (s0 : 0 ≤ addr) (s1 : addr < 4294967296) (h : rt addr bits = true) : IsP (prn addr bits) addr bits := ⟨⟨s0, s1⟩, h, rfl⟩
theorem prn_size (addr bits : Int) : (prn addr bits).size ≤ 281474976710656 := by
  unfold prn
  rw [strOfNums_size]
  have h1 := tl_len addr
  have h2 := dd_len bits
  simp only [List.length_append, List.length_cons, List.length_nil]
  omega
theorem empty_no (a b : Int) : ¬ IsP ⟨#[]⟩ a b := fun h => by
  have := isP_size h
  have e : (⟨#[]⟩ : ByteArray).size = 0 := rfl
  omega
set_option maxHeartbeats 4000000 in
theorem walk_yes (a addr bits : Int) (w : World) (t : Tab w) (a0 : 0 ≤ a) (a1 : a < 4294967296) (s0 : 0 ≤ addr) (s1 : addr < 4294967296) (h : rt addr bits = true) :
    Calls Tryd.prog 4 #[.int .u32 a, pv addr bits] w fun e w' => e = .returned (.bool true) ∧ Below w.heap.size w w' := by
  have WK : Hid (∀ w, Tab w → _) := works_ok
  have TX : Hid (∀ w, Tab w → _) := fun w t => text_ok a w t a0 a1
  have PA : Hid (∀ w, Tab w → _) := fun w t => parse_yes a w t a0 a1
  have PR : Hid (∀ w, Tab w → _) := fun w t => print_ok addr bits w t s0 s1 h
  have RD : Hid (∀ w, Tab w → _) := fun w t => read_is (prn addr bits) w t (prn_size addr bits) addr bits (back addr bits s0 s1 h)
  have CK : Hid (∀ w, Calls Tryd.prog 16 #[pv addr bits] w fun e w' => e = .returned (.bool true) ∧ Below w.heap.size w w') := fun w => by
    have := check_ok addr bits w s0 s1
    rwa [h] at this
  clear h
  generalize txt a = X at *
  generalize prn addr bits = Y at *
  unfold pv at *
  have lt : ∀ (w : World) o, w.heap.size < (w.alloc o).heap.size := fun w o => by simp
  have al : ∀ (w : World) o, Below w.heap.size w (w.alloc o) := fun w o => (Below.refl _ _).alloc (Nat.le_refl _) _
  have B0 : Hid (PBox (w.alloc (.cells #[.int .u32 addr, .int .i64 bits] 24)) w.heap.size addr bits) := pbox_new w addr bits
  have T0 : Hid (∀ o, Tab (w.alloc o)) := fun o => t.alloc o
  clear t
  go_enter Tryd.func4, Tryd.ntmps4
  go_wp2_with (first
    | (go_at_call 15; refine (WK.out _ (T0.out _)).mono ?_; rintro e w1 ⟨rfl, b1⟩; have t1 := (T0.out _).keep b1; have B1 : Hid (PBox w1 w.heap.size addr bits) := B0.out.keep (lt _ _) b1; have Z1 : Hid (Below w.heap.size w w1) := (al w _).trans (b1.mono (al w _).size); clear b1 T0 B0)
    | (go_at_call 11; refine (TX.out _ t1).mono ?_; rintro e w2 ⟨rfl, b2⟩; have t2 := t1.keep b2; have B2 : Hid (PBox w2 w.heap.size addr bits) := B1.out.keep B1.out.lt b2; have Z2 : Hid (Below w.heap.size w w2) := Z1.out.trans (b2.mono Z1.out.size); clear b2 t1 B1 Z1)
    | (go_at_call 7; refine (PA.out _ t2).mono ?_; rintro e w3 ⟨rfl, b3⟩; have t3 := t2.keep b3; have B3 := B2.out.keep B2.out.lt b3; obtain ⟨l3, c0, c1⟩ := B3; have B3 : Hid (PBox w3 w.heap.size addr bits) := PBox.mk l3 c0 c1; have Z3 : Hid (Below w.heap.size w w3) := Z2.out.trans (b3.mono Z2.out.size); clear b3 t2 B2 Z2)
    | (go_at_call 13; refine (PR.out _ t3).mono ?_; rintro e w4 ⟨rfl, b4⟩; have t4 := t3.keep b4; have B4 : Hid (PBox w4 w.heap.size addr bits) := B3.out.keep B3.out.lt b4; have Z4 : Hid (Below w.heap.size w w4) := Z3.out.trans (b4.mono Z3.out.size); clear b4 t3 B3 Z3 c0 c1)
    | (go_at_call 9; refine (RD.out _ t4).mono ?_; rintro e w5 ⟨rfl, b5⟩; have B5 := B4.out.keep B4.out.lt b5; have B6 : Hid (∀ o, PBox (w5.alloc o) w.heap.size addr bits) := (fun o => B5.keep B5.lt (al w5 o)); have d0 : (∀ o, (w5.alloc o).cell? ⟨w.heap.size, 0, none⟩ = some (.int .u32 addr)) := (fun o => (B6.out o).c0); have d1 : (∀ o, (w5.alloc o).cell? ⟨w.heap.size, 1, none⟩ = some (.int .i64 bits)) := (fun o => (B6.out o).c1); have Q6 : Hid (PBox (w5.alloc (.cells #[.int .u32 addr, .int .i64 bits] 24)) w5.heap.size addr bits) := pbox_new w5 addr bits; have Z5 : Hid (∀ o, Below w.heap.size w (w5.alloc o)) := (fun o => (Z4.out.trans (b5.mono Z4.out.size)).trans ((al w5 o).mono (Z4.out.trans (b5.mono Z4.out.size)).size)); clear b5 t4 B4 Z4 B5)
    | (go_at_call 16; refine (CK.out _).mono ?_; rintro e w7 ⟨rfl, b7⟩; obtain ⟨l7, f0, f1⟩ := (B6.out _).keep (B6.out _).lt b7; obtain ⟨m7, g0, g1⟩ := Q6.out.keep (lt _ _) b7; have Z7 : Hid (Below w.heap.size w w7) := (Z5.out _).trans (b7.mono (Z5.out _).size); clear b7 B6 Q6 Z5 d0 d1))
  go_ret
  exact ⟨rfl, Z7.out⟩
set_option maxHeartbeats 4000000 in
theorem walk_no (a addr bits : Int) (w : World) (t : Tab w) (a0 : 0 ≤ a) (a1 : a < 4294967296) (s0 : 0 ≤ addr) (s1 : addr < 4294967296) (h : rt addr bits = false) :
    Calls Tryd.prog 4 #[.int .u32 a, pv addr bits] w fun e w' => e = .returned (.bool true) ∧ Below w.heap.size w w' := by
  have WK : Hid (∀ w, Tab w → _) := works_ok
  have TX : Hid (∀ w, Tab w → _) := fun w t => text_ok a w t a0 a1
  have PA : Hid (∀ w, Tab w → _) := fun w t => parse_yes a w t a0 a1
  have PR : Hid (∀ w, _) := fun w => print_no addr bits w s0 s1 h
  have RD : Hid (∀ w, Tab w → _) := fun w t => read_not ⟨#[]⟩ w t (Nat.zero_le _) empty_no
  have CK : Hid (∀ w, Calls Tryd.prog 16 #[pv addr bits] w fun e w' => e = .returned (.bool false) ∧ Below w.heap.size w w') := fun w => by
    have := check_ok addr bits w s0 s1
    rwa [h] at this
  clear h
  generalize txt a = X at *
  unfold pv at *
  have lt : ∀ (w : World) o, w.heap.size < (w.alloc o).heap.size := fun w o => by simp
  have al : ∀ (w : World) o, Below w.heap.size w (w.alloc o) := fun w o => (Below.refl _ _).alloc (Nat.le_refl _) _
  have B0 : Hid (PBox (w.alloc (.cells #[.int .u32 addr, .int .i64 bits] 24)) w.heap.size addr bits) := pbox_new w addr bits
  have T0 : Hid (∀ o, Tab (w.alloc o)) := fun o => t.alloc o
  clear t
  go_enter Tryd.func4, Tryd.ntmps4
  go_wp2_with (first
    | (go_at_call 15; refine (WK.out _ (T0.out _)).mono ?_; rintro e w1 ⟨rfl, b1⟩; have t1 := (T0.out _).keep b1; have B1 : Hid (PBox w1 w.heap.size addr bits) := B0.out.keep (lt _ _) b1; have Z1 : Hid (Below w.heap.size w w1) := (al w _).trans (b1.mono (al w _).size); clear b1 T0 B0)
    | (go_at_call 11; refine (TX.out _ t1).mono ?_; rintro e w2 ⟨rfl, b2⟩; have t2 := t1.keep b2; have B2 : Hid (PBox w2 w.heap.size addr bits) := B1.out.keep B1.out.lt b2; have Z2 : Hid (Below w.heap.size w w2) := Z1.out.trans (b2.mono Z1.out.size); clear b2 t1 B1 Z1)
    | (go_at_call 7; refine (PA.out _ t2).mono ?_; rintro e w3 ⟨rfl, b3⟩; have t3 := t2.keep b3; have B3 := B2.out.keep B2.out.lt b3; obtain ⟨l3, c0, c1⟩ := B3; have B3 : Hid (PBox w3 w.heap.size addr bits) := PBox.mk l3 c0 c1; have Z3 : Hid (Below w.heap.size w w3) := Z2.out.trans (b3.mono Z2.out.size); clear b3 t2 B2 Z2)
    | (go_at_call 13; refine (PR.out _).mono ?_; rintro e w4 ⟨rfl, b4⟩; have t4 := t3.keep b4; have B4 : Hid (PBox w4 w.heap.size addr bits) := B3.out.keep B3.out.lt b4; have Z4 : Hid (Below w.heap.size w w4) := Z3.out.trans (b4.mono Z3.out.size); clear b4 t3 B3 Z3 c0 c1)
    | (go_at_call 9; refine (RD.out _ t4).mono ?_; rintro e w5 ⟨rfl, b5⟩; have B5 := B4.out.keep B4.out.lt b5; have B6 : Hid (∀ o, PBox (w5.alloc o) w.heap.size addr bits) := (fun o => B5.keep B5.lt (al w5 o)); have d0 : (∀ o, (w5.alloc o).cell? ⟨w.heap.size, 0, none⟩ = some (.int .u32 addr)) := (fun o => (B6.out o).c0); have d1 : (∀ o, (w5.alloc o).cell? ⟨w.heap.size, 1, none⟩ = some (.int .i64 bits)) := (fun o => (B6.out o).c1); have Z5 : Hid (∀ o, Below w.heap.size w (w5.alloc o)) := (fun o => (Z4.out.trans (b5.mono Z4.out.size)).trans ((al w5 o).mono (Z4.out.trans (b5.mono Z4.out.size)).size)); clear b5 t4 B4 Z4 B5)
    | (go_at_call 16; refine (CK.out _).mono ?_; rintro e w7 ⟨rfl, b7⟩; have Z7 : Hid (Below w.heap.size w w7) := (Z5.out _).trans (b7.mono (Z5.out _).size); clear b7 B6 Z5 d0 d1))
  go_ret
  exact ⟨rfl, Z7.out⟩
theorem walk (a addr bits : Int) (w : World) (t : Tab w) (a0 : 0 ≤ a) (a1 : a < 4294967296) (s0 : 0 ≤ addr) (s1 : addr < 4294967296) :
    Calls Tryd.prog 4 #[.int .u32 a, pv addr bits] w fun e w' => e = .returned (.bool true) ∧ Below w.heap.size w w' := by
  cases h : rt addr bits with
  | false => exact walk_no a addr bits w t a0 a1 s0 s1 h
  | true => exact walk_yes a addr bits w t a0 a1 s0 s1 h

set_option maxRecDepth 100000 in
theorem contract (H : Type) (enc : TypeId × Value → H) (W : World) (base : Nat) (args : Array Value) (ds gs : List (DataW H)) (before : List MemPlace)
    (hval : ∀ (j : Nat) t v, Tryd.f4.params[j]? = some t → args[j]? = some v → Value.okWide Tryd.prog W .any base t v)
    (hW : DataW.Whole enc Tryd.prog Tryd.f4.params.toList Rows.prefixBackSpec.vars false W args.toList ds gs before) (hT : Tab W) :
    Calls Tryd.prog 4 args W fun e W' => ∃ v, e = .returned v ∧ Rows.prefixBackSpec.post enc Tryd.prog Tryd.f4 false true false false W args v W' := by
  have hW' := hW
  obtain ⟨p, q, hA0, hV, rfl, hfz, hnd⟩ := hW
  have hA : DataW.TrodAll enc Tryd.prog W 0 (fun _ => true) true Tryd.f4.params.toList args.toList ds p := hA0
  rw [Tryd.params4] at hA hval
  obtain ⟨v0, vs0, d0, ds0, p0, q0, hargs, rfl, rfl, h0, r0⟩ := trodAll_cons hA
  obtain ⟨v1, vs1, d1, ds1, p1, q1, rfl, rfl, rfl, h1, r1⟩ := trodAll_cons r0
  obtain ⟨rfl, rfl, rfl⟩ := trodAll_nil r1
  obtain rfl : args = #[v0, v1] := by cases args; simp_all
  obtain ⟨rfl, rfl⟩ := trodVars_none hV
  obtain ⟨a0, rfl, rfl, rfl, w0⟩ := open_int Tryd.underlying22 (hval 0 22 v0 rfl rfl) h0
  have b0 := bounds_u32 w0
  have k1 := h1
  have lt1 : ∀ x ∈ p1, x.block < W.heap.size := by obtain ⟨m, hm⟩ := k1; exact DataW.trod_lt m _ _ _ hm
  obtain ⟨addr, bits, rfl, s0, s1, z1, y1⟩ := open_pfx (hval 1 24 v1 rfl rfl) h1
  clear hA0
  simp only [List.append_nil] at hW'
  refine (walk a0 addr bits W hT (by omega) (by omega) s0 s1).mono fun e W' ⟨he, bel⟩ => ?_
  subst he
  exact ⟨_, rfl, _, _, _, [], _, [], hW', trodAll_mk1 (shut_bool Tryd.underlying4 _), (trodAll_cons_mk (shut_int Tryd.underlying22 w0) (trodAll_cons_mk (Below.trod laidOut (by kernel_rfl) (of_decide_eq_true (by kernel_rfl)) k1 bel lt1) trodAll_mk0)), rfl, bel.frame _, fun h => by cases h⟩

set_option maxRecDepth 100000 in
theorem lifted (os : Os) (started : os.Started) (H : Type) (enc : TypeId × Value → H) :
    ReturnsInHanded {} Tryd.checked os 4 .any (fun w args => (Rows.prefixBackSpec.pre enc Tryd.prog Tryd.f4 Rows.prefixBackRow.domain false w args ∧ laidMetH Tryd.prog Rows.prefixBackRow.laid w) ∧ sizedMet enc Tryd.prog Tryd.f4 (OpenSpec.ofChange Rows.prefixBackSpec) false w args)
      (Rows.prefixBackSpec.post enc Tryd.prog Tryd.f4 false true false false) := by
  refine returnsInHanded_of_change_and (C := Tryd.checked) (X := fun w _ => laidMetH Tryd.prog Rows.prefixBackRow.laid w) (fun _ _ _ hh h => h.of_heap hh) own started (by kernel_rfl) Tryd.func4
    (ChangeSpec.witness_shaped (enc := enc) (C := Tryd.checked) (os := os) (X := fun w _ => laidMetH Tryd.prog Rows.prefixBackRow.laid w) false (World.laidAll Tryd.prog os Rows.prefixBackRow.laid) #[.int .u32 0, .agg #[.int .u32 0, .int .i64 0]] 8 (World.laidAll_os _ _ _)
      (World.shaped_of_ZipB (by kernel_rfl) (by kernel_rfl)) (by kernel_rfl) (by kernel_rfl) (by kernel_rfl)
      (by rw [MakeChecks.laidMetH_plain _ _ _ (by kernel_rfl)]; exact laidMet_laidAll _ (by kernel_rfl) (by kernel_rfl))) ?_
  intro W base args ds gs before hval hW _ _ hL _
  have hL' : laidMet Tryd.prog Rows.prefixBackRow.laid W := by
    rw [MakeChecks.laidMetH_plain _ _ _ (by kernel_rfl)] at hL
    exact hL
  exact contract H enc W base args ds gs before hval hW (tabOf rfl hL')

theorem said : Rows.PrefixBackSaid :=
  OpenClaim.holds_of_wide 4 Tryd.f4 rfl rfl rfl rfl rfl rfl rfl ⟨rfl, rfl, rfl, rfl, rfl⟩ rfl rfl rfl rfl rfl (by kernel_rfl) Tryd.func4 (by kernel_rfl)
    (of_decide_eq_true (by kernel_rfl)) (by unfold Func.isWrapper; first | (rw [if_pos (by decide +kernel)]; kernel_rfl) | (rw [if_neg (by decide +kernel)]; exact ⟨rfl, rfl⟩))
    (fun os started H enc _ => lifted os started H enc)

theorem plain (f : FuncId) (fn : Func) (hf : Tryd.pinned.checked.prog.funcNamed Rows.prefixBackRow.func = some f) (hfn : Tryd.pinned.checked.prog.funcs[f]? = some fn) :
    (Tryd.pinned.checked.prog.looks [] = Tryd.pinned.checked.prog.looks []) ∧ ∀ (j : Nat) t, fn.params[j]? = some t → Tryd.pinned.checked.prog.wantsStandIn t = false := by
  obtain rfl : f = 4 := Option.some.inj ((show Tryd.prog.funcNamed Rows.prefixBackRow.func = some 4 by kernel_rfl).symm.trans hf) |>.symm
  obtain rfl : fn = Tryd.f4 := (Option.some.inj (Tryd.func4.symm.trans hfn)).symm
  refine ⟨rfl, fun j t ht => ?_⟩
  rw [Tryd.params4] at ht
  have hm : t ∈ [22, 24] := by simpa using Array.mem_of_getElem? ht
  have hall : ([22, 24].all fun u => !Tryd.prog.wantsStandIn u) = true := by kernel_rfl
  exact (show Tryd.prog.wantsStandIn t = false by simpa using List.all_eq_true.1 hall t hm)
theorem card : Rows.PrefixBackCardSaid :=
  Claim7.holds_tied_plain_at .later [] _ _ _ _ said (fun _ h => by cases h) (by kernel_rfl) (fun _ h => by cases h) prefixBack_row_tie rfl ⟨rfl, rfl⟩ (by kernel_rfl) rfl (fun f fn hf hfn => ⟨by kernel_rfl, (plain f fn hf hfn).2⟩) (by kernel_rfl)
end Go.Proofs.YtnkhafkdmlfdbaaDoor.prefixBack
namespace Go.Proofs.YtnkhafkdmlfdbaaDoor
theorem prefixBack_card : Rows.PrefixBackCardSaid := prefixBack.card
end Go.Proofs.YtnkhafkdmlfdbaaDoor
