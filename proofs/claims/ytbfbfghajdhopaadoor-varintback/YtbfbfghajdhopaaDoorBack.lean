/-
  The law VarintBack returns true for every number, every two strings and every place: what is written is got again, whatever follows, and what is cut off anywhere is too short. The card ties the table of sizes to the program's text.
-/
import Derived.Test.YtbfbfghajdhopaaDoorVarBack
import Derived.Test.YtbfbfghajdhopaaDoorVarTab
import Derived.Test.YtbfbfghajdhopaaDoorCards
namespace Go.Proofs.YtbfbfghajdhopaaDoor.varintBack
open Go.ChangeShapes Go.WideShapes Go.ChangeAt Go.RowKit
open Go.ChangeMaps (open_string shut_string)
theorem place (a : Int) (c : Int) (hc : 0 < c) (hc2 : c < 4611686018427387904) : ∃ x : Nat, wrap64 ((IntKind.u64.wrap a).tmod c) = x ∧ (x : Int) < c := by
  have h : 0 ≤ IntKind.u64.wrap a := by rw [IntKind.wrap_u64]; omega
  rw [Int.tmod_eq_emod_of_nonneg h]
  have h1 := Int.emod_nonneg (IntKind.u64.wrap a) (by omega : c ≠ 0)
  have h2 := Int.emod_lt_of_pos (IntKind.u64.wrap a) hc
  refine ⟨(IntKind.u64.wrap a % c).toNat, ?_, by omega⟩
  rw [w64 _ (by omega)]
  omega
theorem some_bytes (a : ByteArray) (h : 0 < a.size) : a.toList.isEmpty = false := by
  rw [ByteArray.toList_eq]
  cases hl : a.data.toList with
  | nil =>
    have h0 : a.data.toList.length = a.size := by simp
    rw [hl] at h0
    have h1 : 0 = a.size := h0
    omega
  | cons => rfl
set_option maxHeartbeats 1000000 in
theorem walk_yes (n : Int) (s more : ByteArray) (at_ : Int) (w : World) (t : Tab w) (hs : s.size ≤ 140737488351232) (hm : more.size ≤ 140737488351232) (m k m' k' : Nat) (h : Cl n m k) (h' : Cl s.size m' k') :
    Calls Tryd.prog 5 #[.int .i64 n, .string s, .string more, .int .i64 at_] w fun e w' => e = .returned (.bool true) ∧ Below w.heap.size w w' := by
  have X : Hid (∀ w, Tab w → Calls Tryd.prog 18 #[.string s] w fun e w' => e = .returned (.string (strOfNums (puts s.size m' k') ++ s)) ∧ Below w.heap.size w w') := fun w t => text_any s w t m' k' h'
  have L : Hid (∀ w, Tab w → Calls Tryd.prog 11 #[.int .i64 s.size] w fun e w' => e = .returned (.string (strOfNums (puts s.size m' k'))) ∧ Below w.heap.size w w') := fun w t => put_yes s.size m' k' w t h'
  have T1 : Hid (∀ w, Tab w → Calls Tryd.prog 15 #[.string (strOfNums (puts s.size m' k') ++ s ++ more)] w fun e w' => e = .returned (.tuple #[.string s, .int .i64 (k' + s.size), .int .i64 0]) ∧ w = w') := fun w t => text_take s more w t m' k' h' (by have := h'.lo; omega)
  have T2 : Hid (∀ (x : Nat) w, x < k' + s.size → Tab w → Calls Tryd.prog 15 #[.string ((strOfNums (puts s.size m' k') ++ s).extract 0 x)] w fun e w' => e = .returned (.tuple #[.string ⟨#[]⟩, .int .i64 0, .int .i64 1]) ∧ w = w') := fun x w hx t => text_cut s w t m' k' x h' (by have := h'.lo; omega) hx
  have hk := h.lo; have hk' := h'.lo
  have zP : (strOfNums (puts s.size m' k')).size = k' := by rw [strOfNums_size, puts_length]
  generalize strOfNums (puts s.size m' k') = P0 at *
  have P1 : Hid (∀ w, Tab w → Calls Tryd.prog 11 #[.int .i64 n] w fun e w' => e = .returned (.string (strOfNums (puts n m k))) ∧ Below w.heap.size w w') := fun w t => put_yes n m k w t h
  have G1 : Hid (∀ w, Tab w → Calls Tryd.prog 13 #[.string (strOfNums (puts n m k) ++ more)] w fun e w' => e = .returned (.tuple #[.int .i64 n, .int .i64 k, .int .i64 0]) ∧ w = w') := fun w t => put_get n more w t m k h (by omega)
  have G2 : Hid (∀ (x : Nat) w, x < k → Tab w → Calls Tryd.prog 13 #[.string ((strOfNums (puts n m k)).extract 0 x)] w fun e w' => e = .returned (.tuple #[.int .i64 0, .int .i64 0, .int .i64 1]) ∧ w = w') := fun x w hx t => put_cut n w t m k x h hx
  have zQ : (strOfNums (puts n m k)).size = k := by rw [strOfNums_size, puts_length]
  generalize strOfNums (puts n m k) = P2 at *
  have i1 : (P0 ++ s).toList.isEmpty = false := some_bytes _ (by rw [ByteArray.size_append]; omega)
  have i2 : P2.toList.isEmpty = false := some_bytes _ (by omega)
  obtain ⟨x1, ex1, lx1⟩ := place at_ ((k' : Int) + s.size) (by omega) (by omega)
  obtain ⟨x2, ex2, lx2⟩ := place at_ (k : Int) (by omega) (by omega)
  clear h h'
  go_enter Tryd.func5, Tryd.ntmps5
  go_wp2_with (first | (go_at_call 17; refine (works _ t).mono ?_; rintro e w1 ⟨rfl, hb1⟩; have t1 := t.below hb1) | (go_at_call 18; refine (X.out _ t1).mono ?_; rintro e w2 ⟨rfl, hb2⟩; have t2 := t1.below hb2) | (go_at_call_of 15 (P0 ++ s ++ more); refine (T1.out _ t2).mono ?_; rintro e w' ⟨rfl, rfl⟩))
  refine (L.out _ t2).mono ?_; rintro e w3 ⟨rfl, hb3⟩; have t3 := t2.below hb3
  go_wp2_with fail
  refine (T2.out x1 _ (by omega) t3).mono ?_; rintro e w' ⟨rfl, rfl⟩
  go_wp2_with (first | (go_at_call 11; refine (P1.out _ t3).mono ?_; rintro e w4 ⟨rfl, hb4⟩; have t4 := t3.below hb4) | (go_at_call_of 13 (P2 ++ more); refine (G1.out _ t4).mono ?_; rintro e w' ⟨rfl, rfl⟩))
  refine (G2.out x2 _ (by omega) t4).mono ?_; rintro e w' ⟨rfl, rfl⟩
  go_wp2_with fail
  go_ret
  exact ⟨rfl, ((hb1.trans (hb2.mono hb1.size)).trans (hb3.mono (Nat.le_trans hb1.size hb2.size))).trans (hb4.mono (Nat.le_trans hb1.size (Nat.le_trans hb2.size hb3.size)))⟩
set_option maxHeartbeats 1000000 in
theorem walk_no (n : Int) (s more : ByteArray) (at_ : Int) (w : World) (t : Tab w) (hs : s.size ≤ 140737488351232) (hm : more.size ≤ 140737488351232) (m' k' : Nat) (h : No n) (h' : Cl s.size m' k') :
    Calls Tryd.prog 5 #[.int .i64 n, .string s, .string more, .int .i64 at_] w fun e w' => e = .returned (.bool true) ∧ Below w.heap.size w w' := by
  have X : Hid (∀ w, Tab w → Calls Tryd.prog 18 #[.string s] w fun e w' => e = .returned (.string (strOfNums (puts s.size m' k') ++ s)) ∧ Below w.heap.size w w') := fun w t => text_any s w t m' k' h'
  have L : Hid (∀ w, Tab w → Calls Tryd.prog 11 #[.int .i64 s.size] w fun e w' => e = .returned (.string (strOfNums (puts s.size m' k'))) ∧ Below w.heap.size w w') := fun w t => put_yes s.size m' k' w t h'
  have T1 : Hid (∀ w, Tab w → Calls Tryd.prog 15 #[.string (strOfNums (puts s.size m' k') ++ s ++ more)] w fun e w' => e = .returned (.tuple #[.string s, .int .i64 (k' + s.size), .int .i64 0]) ∧ w = w') := fun w t => text_take s more w t m' k' h' (by have := h'.lo; omega)
  have T2 : Hid (∀ (x : Nat) w, x < k' + s.size → Tab w → Calls Tryd.prog 15 #[.string ((strOfNums (puts s.size m' k') ++ s).extract 0 x)] w fun e w' => e = .returned (.tuple #[.string ⟨#[]⟩, .int .i64 0, .int .i64 1]) ∧ w = w') := fun x w hx t => text_cut s w t m' k' x h' (by have := h'.lo; omega) hx
  have hk' := h'.lo
  have zP : (strOfNums (puts s.size m' k')).size = k' := by rw [strOfNums_size, puts_length]
  generalize strOfNums (puts s.size m' k') = P0 at *
  have P1 : Hid (∀ w, Tab w → Calls Tryd.prog 11 #[.int .i64 n] w fun e w' => e = .returned (.string (strOfNums [])) ∧ Below w.heap.size w w') := fun w t => put_no n w t h
  have i1 : (P0 ++ s).toList.isEmpty = false := some_bytes _ (by rw [ByteArray.size_append]; omega)
  obtain ⟨x1, ex1, lx1⟩ := place at_ ((k' : Int) + s.size) (by omega) (by omega)
  clear h'
  have q0 : (strOfNums []).toList.isEmpty = true := by rw [ByteArray.toList_eq, strOfNums_data]; rfl
  rcases h with h | h
  all_goals
    go_enter Tryd.func5, Tryd.ntmps5
    go_wp2_with (first | (go_at_call 17; refine (works _ t).mono ?_; rintro e w1 ⟨rfl, hb1⟩; have t1 := t.below hb1) | (go_at_call 18; refine (X.out _ t1).mono ?_; rintro e w2 ⟨rfl, hb2⟩; have t2 := t1.below hb2) | (go_at_call_of 15 (P0 ++ s ++ more); refine (T1.out _ t2).mono ?_; rintro e w' ⟨rfl, rfl⟩))
    refine (L.out _ t2).mono ?_; rintro e w3 ⟨rfl, hb3⟩; have t3 := t2.below hb3
    go_wp2_with fail
    refine (T2.out x1 _ (by omega) t3).mono ?_; rintro e w' ⟨rfl, rfl⟩
    go_wp2_with ((go_at_call 11; refine (P1.out _ t3).mono ?_; rintro e w4 ⟨rfl, hb4⟩; skip))
    go_ret
    exact ⟨rfl, ((hb1.trans (hb2.mono hb1.size)).trans (hb3.mono (Nat.le_trans hb1.size hb2.size))).trans (hb4.mono (Nat.le_trans hb1.size (Nat.le_trans hb2.size hb3.size)))⟩
theorem walk (n : Int) (s more : ByteArray) (at_ : Int) (w : World) (t : Tab w) (hs : s.size ≤ 140737488351232) (hm : more.size ≤ 140737488351232) :
    Calls Tryd.prog 5 #[.int .i64 n, .string s, .string more, .int .i64 at_] w fun e w' => e = .returned (.bool true) ∧ Below w.heap.size w w' := by
  rcases cl_or_no s.size with ⟨m', k', h'⟩ | h'
  rotate_left
  · unfold No at h'; omega
  rcases cl_or_no n with ⟨m, k, h⟩ | h
  · exact walk_yes n s more at_ w t hs hm m k m' k' h h'
  · exact walk_no n s more at_ w t hs hm m' k' h h'

theorem contract (H : Type) (enc : TypeId × Value → H) (W : World) (base : Nat) (args : Array Value) (ds gs : List (DataW H)) (before : List MemPlace)
    (hval : ∀ (j : Nat) t v, Tryd.f5.params[j]? = some t → args[j]? = some v → Value.okWide Tryd.prog W .any base t v)
    (hW : DataW.Whole enc Tryd.prog Tryd.f5.params.toList Rows.varintBackSpec.vars false W args.toList ds gs before) (hL : laidMetH Tryd.prog Rows.varintBackRow.laid W)
    (hsz : (DataW.weightsEach Tryd.prog (Tryd.f5.params.toList ++ (OpenSpec.ofChange Rows.varintBackSpec).bare.plain.varTypes Tryd.prog) (ds ++ gs)).all (· ≤ reachBytes) = true) :
    Calls Tryd.prog 5 args W fun e W' => ∃ v, e = .returned v ∧ Rows.varintBackSpec.post enc Tryd.prog Tryd.f5 false true false false W args v W' := by
  have hW' := hW
  obtain ⟨p, q, hA0, hV, rfl, hfz, hnd⟩ := hW
  have hA : DataW.TrodAll enc Tryd.prog W 0 (fun _ => true) true Tryd.f5.params.toList args.toList ds p := hA0
  rw [Tryd.params5] at hA hval hsz
  obtain ⟨v0, vs0, d0, ds0, p0, q0, hargs, rfl, rfl, h0, r0⟩ := trodAll_cons hA
  obtain ⟨v1, vs1, d1, ds1, p1, q1, rfl, rfl, rfl, h1, r1⟩ := trodAll_cons r0
  obtain ⟨v2, vs2, d2, ds2, p2, q2, rfl, rfl, rfl, h2, r2⟩ := trodAll_cons r1
  obtain ⟨v3, vs3, d3, ds3, p3, q3, rfl, rfl, rfl, h3, r3⟩ := trodAll_cons r2
  obtain ⟨rfl, rfl, rfl⟩ := trodAll_nil r3
  obtain rfl : args = #[v0, v1, v2, v3] := by cases args; simp_all
  obtain ⟨rfl, rfl⟩ := trodVars_none hV
  obtain ⟨a0, rfl, rfl, rfl, w0⟩ := open_int Tryd.underlying2 (hval 0 2 v0 rfl rfl) h0
  obtain ⟨a1, rfl, rfl, rfl, w1⟩ := open_string Tryd.underlying9 (hval 1 9 v1 rfl rfl) h1
  obtain ⟨a2, rfl, rfl, rfl, w2⟩ := open_string Tryd.underlying9 (hval 2 9 v2 rfl rfl) h2
  obtain ⟨a3, rfl, rfl, rfl, w3⟩ := open_int Tryd.underlying3 (hval 3 3 v3 rfl rfl) h3
  have z1 : a1.size ≤ 140737488351232 := by
    have hz := sized_string hsz (j := 1) (t := 9) (bytes := a1.data.toList) rfl rfl
    simpa [reachBytes] using hz
  have z2 : a2.size ≤ 140737488351232 := by
    have hz := sized_string hsz (j := 2) (t := 9) (bytes := a2.data.toList) rfl rfl
    simpa [reachBytes] using hz
  clear hA0
  simp only [List.append_nil] at hW'
  refine (walk a0 a1 a2 a3 W (tabOf hL) z1 z2).mono fun e W' ⟨he, bel⟩ => ?_
  subst he
  exact ⟨_, rfl, _, _, _, [], _, [], hW', trodAll_mk1 (shut_bool Tryd.underlying4 _), (trodAll_cons_mk (shut_int Tryd.underlying2 w0) (trodAll_cons_mk (shut_string Tryd.underlying9 w1) (trodAll_cons_mk (shut_string Tryd.underlying9 w2) (trodAll_cons_mk (shut_int Tryd.underlying3 w3) trodAll_mk0)))), rfl, bel.frame _, fun h => by cases h⟩

theorem laid_met (os : Os) : laidMet Tryd.prog Rows.varintBackRow.laid ((laidWorld Tryd.prog os).forCall (fun _ _ => 0) ⟨#[], #[.int .i64 0, .string ByteArray.empty, .string ByteArray.empty, .int .i64 0], []⟩).memory :=
  laidMet_of_run' 8 (by kernel_rfl) (by kernel_rfl)
theorem reads (os : Os) {H : Type} (enc : TypeId × Value → H) : ∃ places, DataW.whole enc Tryd.prog ((laidWorld Tryd.prog os).forCall (fun _ _ => 0) ⟨#[], #[.int .i64 0, .string ByteArray.empty, .string ByteArray.empty, .int .i64 0], []⟩).memory Tryd.f5.params.toList Rows.varintBackSpec.vars false #[Value.int .i64 0, Value.string ByteArray.empty, Value.string ByteArray.empty, Value.int .i64 0].toList 8 = some ([.lit (.int .i64 0), .lit (.string []), .lit (.string []), .lit (.int .i64 0)], [], places) :=
  ⟨[], by kernel_rfl⟩

set_option maxRecDepth 100000 in
theorem lifted (os : Os) (started : os.Started) (H : Type) (enc : TypeId × Value → H) (F : Stop.Interp) :
    ReturnsInHanded {} Tryd.checked os 5 .any ((OpenSpec.ofChange Rows.varintBackSpec).preRow enc Tryd.prog Tryd.f5 Rows.varintBackRow.domain false Rows.varintBackRow.laid) (((OpenSpec.ofChange Rows.varintBackSpec).at F).post enc Tryd.prog Tryd.f5 false true false false) := by
  obtain ⟨places, hx⟩ := reads os enc
  refine returnsInHanded_of_row (C := Tryd.checked) (s := OpenSpec.ofChange Rows.varintBackSpec) own started (by kernel_rfl) Tryd.func5
    (witness_row_at (enc := enc) (C := Tryd.checked) false (laidWorld Tryd.prog os) #[.int .i64 0, .string ByteArray.empty, .string ByteArray.empty, .int .i64 0] rfl (by kernel_rfl) (by kernel_rfl) (by kernel_rfl)
      (OpenSpec.preRow_of_cond 8 hx (by kernel_rfl) (fun k hk => by cases hk) (by kernel_rfl) (laid_met os))) ?_
  intro W base args ds gs before hval hW _ _ hsz hL _ _
  exact contract H enc W base args ds gs before hval hW hL hsz

theorem said : Rows.VarintBackSaid :=
  OpenClaim.holds_of_cond 5 Tryd.f5 rfl rfl rfl rfl rfl rfl rfl ⟨rfl, rfl, rfl, rfl, rfl⟩ rfl rfl rfl rfl rfl (by kernel_rfl) Tryd.func5 (by kernel_rfl)
    (of_decide_eq_true (by kernel_rfl)) (by unfold Func.isWrapper; first | (rw [if_pos (by decide +kernel)]; kernel_rfl) | (rw [if_neg (by decide +kernel)]; exact ⟨rfl, rfl⟩))
    (fun os started H enc _ F => by rw [OpenClaim.pre_eq_preRow]; exact lifted os started H enc F)

theorem plain (f : FuncId) (fn : Func) (hf : Tryd.pinned.checked.prog.funcNamed Rows.varintBackRow.func = some f) (hfn : Tryd.pinned.checked.prog.funcs[f]? = some fn) :
    false = Tryd.pinned.checked.prog.looks [] ∧ ∀ (j : Nat) t, fn.params[j]? = some t → Tryd.pinned.checked.prog.wantsStandIn t = false := by
  obtain rfl : f = 5 := Option.some.inj ((show Tryd.prog.funcNamed Rows.varintBackRow.func = some 5 by kernel_rfl).symm.trans hf) |>.symm
  obtain rfl : fn = Tryd.f5 := (Option.some.inj (Tryd.func5.symm.trans hfn)).symm
  refine ⟨by kernel_rfl, fun j t ht => ?_⟩
  rw [Tryd.params5] at ht
  have hm : t ∈ #[2, 9, 9, 3] := Array.mem_of_getElem? ht
  have hm' : t = 2 ∨ t = 9 ∨ t = 9 ∨ t = 3 := by simpa using hm
  rcases hm' with rfl | rfl | rfl | rfl
  · exact (show Tryd.prog.wantsStandIn 2 = false by kernel_rfl)
  · exact (show Tryd.prog.wantsStandIn 9 = false by kernel_rfl)
  · exact (show Tryd.prog.wantsStandIn 9 = false by kernel_rfl)
  · exact (show Tryd.prog.wantsStandIn 3 = false by kernel_rfl)

theorem card : Rows.VarintBackCardSaid :=
  Claim7.holds_tied_plain_at .later [] _ _ _ _ said (fun _ h => by cases h) (by kernel_rfl) (fun _ h => by cases h) varintBack_row_tie rfl ⟨rfl, rfl⟩ (by kernel_rfl) rfl plain (by kernel_rfl)
end Go.Proofs.YtbfbfghajdhopaaDoor.varintBack
namespace Go.Proofs.YtbfbfghajdhopaaDoor
theorem varintBack_card : Rows.VarintBackCardSaid := varintBack.card
end Go.Proofs.YtbfbfghajdhopaaDoor
