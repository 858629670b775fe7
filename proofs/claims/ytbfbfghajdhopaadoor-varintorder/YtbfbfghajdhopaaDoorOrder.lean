/-
  The law VarintOrder returns true for every two numbers: of two numbers the greater one has no fewer bytes and, of as many, the greater writing. The card ties the table of sizes to the program's text.
-/
import Derived.Test.YtbfbfghajdhopaaDoorVarWorks
import Derived.Test.YtbfbfghajdhopaaDoorVarOrd
import Derived.Test.YtbfbfghajdhopaaDoorVarTab
import Derived.Test.YtbfbfghajdhopaaDoorCards
namespace Go.Proofs.YtbfbfghajdhopaaDoor.varintOrder
open Go.ChangeShapes Go.WideShapes Go.ChangeAt Go.RowKit
open Go.ChangeMaps (open_string shut_string)

theorem cl_le {a b : Int} {m k m' k' : Nat} (ha : Cl a m k) (hb : Cl b m' k') (h : a < b) : k < k' ∨ (m = m' ∧ k = k') := by
  unfold Cl at ha hb; omega
theorem str_toList (l : List Int) : (strOfNums l).toList = toB l := by
  rw [ByteArray.toList_eq, strOfNums_data]; rfl

set_option maxHeartbeats 1000000 in
theorem walk_no (a b : Int) (w : World) (t : Tab w) (h : a < 0 ∨ 4611686018427387904 ≤ b ∨ b ≤ a) :
    Calls Tryd.prog 6 #[.int .i64 a, .int .i64 b] w fun e w' => e = .returned (.bool true) ∧ Below w.heap.size w w' := by
  by_cases h1 : a < 0
  · go_enter Tryd.func6, Tryd.ntmps6
    go_wp2_with (go_at_call 17; refine (works _ t).mono ?_; rintro e w1 ⟨rfl, hb1⟩)
    go_ret
    exact ⟨rfl, hb1⟩
  by_cases h2 : 4611686018427387903 < b
  · have h1' : 0 ≤ a := by omega
    clear h
    go_enter Tryd.func6, Tryd.ntmps6
    go_wp2_with (go_at_call 17; refine (works _ t).mono ?_; rintro e w1 ⟨rfl, hb1⟩)
    go_ret
    exact ⟨rfl, hb1⟩
  · have h1' : 0 ≤ a := by omega
    have h2' : b ≤ 4611686018427387903 := by omega
    have h3 : b ≤ a := by omega
    clear h h1 h2
    go_enter Tryd.func6, Tryd.ntmps6
    go_wp2_with (go_at_call 17; refine (works _ t).mono ?_; rintro e w1 ⟨rfl, hb1⟩)
    go_ret
    exact ⟨rfl, hb1⟩

set_option maxHeartbeats 1000000 in
theorem walk_yes (a b : Int) (w : World) (t : Tab w) (h0 : 0 ≤ a) (h1 : b < 4611686018427387904) (h2 : a < b) :
    Calls Tryd.prog 6 #[.int .i64 a, .int .i64 b] w fun e w' => e = .returned (.bool true) ∧ Below w.heap.size w w' := by
  rcases cl_or_no a with ⟨m, k, ha⟩ | h
  rotate_left
  · unfold No at h; omega
  rcases cl_or_no b with ⟨m', k', hb⟩ | h
  rotate_left
  · unfold No at h; omega
  have A : Hid (∀ w, Tab w → Calls Tryd.prog 11 #[.int .i64 a] w fun e w' => e = .returned (.string (strOfNums (puts a m k))) ∧ Below w.heap.size w w') := fun w t => put_yes a m k w t ha
  have B : Hid (∀ w, Tab w → Calls Tryd.prog 11 #[.int .i64 b] w fun e w' => e = .returned (.string (strOfNums (puts b m' k'))) ∧ Below w.heap.size w w') := fun w t => put_yes b m' k' w t hb
  have za : (strOfNums (puts a m k)).size = k := by rw [strOfNums_size, puts_length]
  have zb : (strOfNums (puts b m' k')).size = k' := by rw [strOfNums_size, puts_length]
  have ka := ha.lo; have kb := hb.lo
  rcases cl_le ha hb h2 with hk | ⟨rfl, rfl⟩
  · clear ha hb
    go_enter Tryd.func6, Tryd.ntmps6
    go_wp2_with (first | (go_at_call 17; refine (works _ t).mono ?_; rintro e w1 ⟨rfl, hb1⟩) | (go_at_call_of 11 a; refine (A.out _ (t.below hb1)).mono ?_; rintro e w2 ⟨rfl, hb2⟩) | (go_at_call_of 11 b; refine (B.out _ ((t.below hb1).below hb2)).mono ?_; rintro e w3 ⟨rfl, hb3⟩))
    go_ret
    exact ⟨rfl, (hb1.trans (hb2.mono hb1.size)).trans (hb3.mono (Nat.le_trans hb1.size hb2.size))⟩
  · have L : Op.bytesLess (strOfNums (puts a m k)).toList (strOfNums (puts b m k)).toList = true := by
      rw [str_toList, str_toList]; exact puts_less a b m k ha hb h2
    clear ha hb
    go_enter Tryd.func6, Tryd.ntmps6
    go_wp2_with (first | (go_at_call 17; refine (works _ t).mono ?_; rintro e w1 ⟨rfl, hb1⟩) | (go_at_call_of 11 a; refine (A.out _ (t.below hb1)).mono ?_; rintro e w2 ⟨rfl, hb2⟩) | (go_at_call_of 11 b; refine (B.out _ ((t.below hb1).below hb2)).mono ?_; rintro e w3 ⟨rfl, hb3⟩))
    go_ret
    exact ⟨rfl, (hb1.trans (hb2.mono hb1.size)).trans (hb3.mono (Nat.le_trans hb1.size hb2.size))⟩
theorem walk (a b : Int) (w : World) (t : Tab w) :
    Calls Tryd.prog 6 #[.int .i64 a, .int .i64 b] w fun e w' => e = .returned (.bool true) ∧ Below w.heap.size w w' := by
  by_cases h : a < 0 ∨ 4611686018427387904 ≤ b ∨ b ≤ a
  · exact walk_no a b w t h
  · exact walk_yes a b w t (by omega) (by omega) (by omega)

theorem contract (H : Type) (enc : TypeId × Value → H) (W : World) (base : Nat) (args : Array Value) (ds gs : List (DataW H)) (before : List MemPlace)
    (hval : ∀ (j : Nat) t v, Tryd.f6.params[j]? = some t → args[j]? = some v → Value.okWide Tryd.prog W .any base t v)
    (hW : DataW.Whole enc Tryd.prog Tryd.f6.params.toList Rows.varintOrderSpec.vars false W args.toList ds gs before) (hL : laidMetH Tryd.prog Rows.varintOrderRow.laid W) :
    Calls Tryd.prog 6 args W fun e W' => ∃ v, e = .returned v ∧ Rows.varintOrderSpec.post enc Tryd.prog Tryd.f6 false true false false W args v W' := by
  have hW' := hW
  obtain ⟨p, q, hA0, hV, rfl, hfz, hnd⟩ := hW
  have hA : DataW.TrodAll enc Tryd.prog W 0 (fun _ => true) true Tryd.f6.params.toList args.toList ds p := hA0
  rw [Tryd.params6] at hA hval
  obtain ⟨v0, vs0, d0, ds0, p0, q0, hargs, rfl, rfl, h0, r0⟩ := trodAll_cons hA
  obtain ⟨v1, vs1, d1, ds1, p1, q1, rfl, rfl, rfl, h1, r1⟩ := trodAll_cons r0
  obtain ⟨rfl, rfl, rfl⟩ := trodAll_nil r1
  obtain rfl : args = #[v0, v1] := by cases args; simp_all
  obtain ⟨rfl, rfl⟩ := trodVars_none hV
  obtain ⟨a0, rfl, rfl, rfl, w0⟩ := open_int Tryd.underlying2 (hval 0 2 v0 rfl rfl) h0
  obtain ⟨a1, rfl, rfl, rfl, w1⟩ := open_int Tryd.underlying2 (hval 1 2 v1 rfl rfl) h1
  clear hA0
  simp only [List.append_nil] at hW'
  refine (walk a0 a1 W (tabOf hL)).mono fun e W' ⟨he, bel⟩ => ?_
  subst he
  exact ⟨_, rfl, _, _, _, [], _, [], hW', trodAll_mk1 (shut_bool Tryd.underlying4 _), (trodAll_cons_mk (shut_int Tryd.underlying2 w0) (trodAll_cons_mk (shut_int Tryd.underlying2 w1) trodAll_mk0)), rfl, bel.frame _, fun h => by cases h⟩

theorem laid_met (os : Os) : laidMet Tryd.prog Rows.varintOrderRow.laid ((laidWorld Tryd.prog os).forCall (fun _ _ => 0) ⟨#[], #[.int .i64 0, .int .i64 0], []⟩).memory :=
  laidMet_of_run' 8 (by kernel_rfl) (by kernel_rfl)
theorem reads (os : Os) {H : Type} (enc : TypeId × Value → H) : ∃ places, DataW.whole enc Tryd.prog ((laidWorld Tryd.prog os).forCall (fun _ _ => 0) ⟨#[], #[.int .i64 0, .int .i64 0], []⟩).memory Tryd.f6.params.toList Rows.varintOrderSpec.vars false #[Value.int .i64 0, Value.int .i64 0].toList 8 = some ([.lit (.int .i64 0), .lit (.int .i64 0)], [], places) :=
  ⟨[], by kernel_rfl⟩

set_option maxRecDepth 100000 in
theorem lifted (os : Os) (started : os.Started) (H : Type) (enc : TypeId × Value → H) (F : Stop.Interp) :
    ReturnsInHanded {} Tryd.checked os 6 .any ((OpenSpec.ofChange Rows.varintOrderSpec).preRow enc Tryd.prog Tryd.f6 Rows.varintOrderRow.domain false Rows.varintOrderRow.laid) (((OpenSpec.ofChange Rows.varintOrderSpec).at F).post enc Tryd.prog Tryd.f6 false true false false) := by
  obtain ⟨places, hx⟩ := reads os enc
  refine returnsInHanded_of_row (C := Tryd.checked) (s := OpenSpec.ofChange Rows.varintOrderSpec) own started (by kernel_rfl) Tryd.func6
    (witness_row_at (enc := enc) (C := Tryd.checked) false (laidWorld Tryd.prog os) #[.int .i64 0, .int .i64 0] rfl (by kernel_rfl) (by kernel_rfl) (by kernel_rfl)
      (OpenSpec.preRow_of_cond 8 hx (by kernel_rfl) (fun k hk => by cases hk) (by kernel_rfl) (laid_met os))) ?_
  intro W base args ds gs before hval hW _ _ _ hL _ _
  exact contract H enc W base args ds gs before hval hW hL

theorem said : Rows.VarintOrderSaid :=
  OpenClaim.holds_of_cond 6 Tryd.f6 rfl rfl rfl rfl rfl rfl rfl ⟨rfl, rfl, rfl, rfl, rfl⟩ rfl rfl rfl rfl rfl (by kernel_rfl) Tryd.func6 (by kernel_rfl)
    (of_decide_eq_true (by kernel_rfl)) (by unfold Func.isWrapper; first | (rw [if_pos (by decide +kernel)]; kernel_rfl) | (rw [if_neg (by decide +kernel)]; exact ⟨rfl, rfl⟩))
    (fun os started H enc _ F => by rw [OpenClaim.pre_eq_preRow]; exact lifted os started H enc F)

theorem plain (f : FuncId) (fn : Func) (hf : Tryd.pinned.checked.prog.funcNamed Rows.varintOrderRow.func = some f) (hfn : Tryd.pinned.checked.prog.funcs[f]? = some fn) :
    false = Tryd.pinned.checked.prog.looks [] ∧ ∀ (j : Nat) t, fn.params[j]? = some t → Tryd.pinned.checked.prog.wantsStandIn t = false := by
  obtain rfl : f = 6 := Option.some.inj ((show Tryd.prog.funcNamed Rows.varintOrderRow.func = some 6 by kernel_rfl).symm.trans hf) |>.symm
  obtain rfl : fn = Tryd.f6 := (Option.some.inj (Tryd.func6.symm.trans hfn)).symm
  refine ⟨by kernel_rfl, fun j t ht => ?_⟩
  rw [Tryd.params6] at ht
  have hm : t ∈ #[2, 2] := Array.mem_of_getElem? ht
  obtain rfl : t = 2 := by simpa using hm
  exact (show Tryd.prog.wantsStandIn 2 = false by kernel_rfl)

theorem card : Rows.VarintOrderCardSaid :=
  Claim7.holds_tied_plain_at .later [] _ _ _ _ said (fun _ h => by cases h) (by kernel_rfl) (fun _ h => by cases h) varintOrder_row_tie rfl ⟨rfl, rfl⟩ (by kernel_rfl) rfl plain (by kernel_rfl)
end Go.Proofs.YtbfbfghajdhopaaDoor.varintOrder
namespace Go.Proofs.YtbfbfghajdhopaaDoor
theorem varintOrder_card : Rows.VarintOrderCardSaid := varintOrder.card
end Go.Proofs.YtbfbfghajdhopaaDoor
