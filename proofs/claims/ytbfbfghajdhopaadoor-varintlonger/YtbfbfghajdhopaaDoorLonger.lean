/-
  The law VarintLonger returns true for every number and every form: a number that is written in more bytes than it needs is got as the same one. The card ties the table of sizes to the program's text.
-/
import Derived.Test.YtbfbfghajdhopaaDoorVarBack
import Derived.Test.YtbfbfghajdhopaaDoorVarTab
import Derived.Test.YtbfbfghajdhopaaDoorCards
namespace Go.Proofs.YtbfbfghajdhopaaDoor.varintLonger
open Go.ChangeShapes Go.WideShapes Go.ChangeAt Go.RowKit
open Go.ChangeMaps (open_string shut_string)

def Fit (n : Int) (j K : Nat) : Prop := (j = 0 ∧ K = 1 ∧ 0 ≤ n ∧ n < 64) ∨ (j = 1 ∧ K = 2 ∧ 0 ≤ n ∧ n < 16384) ∨ (j = 2 ∧ K = 4 ∧ 0 ≤ n ∧ n < 1073741824) ∨ (j = 3 ∧ K = 8 ∧ 0 ≤ n ∧ n < 4611686018427387904)
theorem Fit.mk {n : Int} {j K : Nat} (h : Fit n j K) : Mk j K := by unfold Fit at h; unfold Mk; omega
theorem fit_digit {n : Int} {j K : Nat} (h : Fit n j K) : ∃ x r, digs n K = x :: r ∧ 0 ≤ x ∧ x < 64 := by
  rcases h with ⟨rfl, rfl, a, b⟩ | ⟨rfl, rfl, a, b⟩ | ⟨rfl, rfl, a, b⟩ | ⟨rfl, rfl, a, b⟩
  all_goals
    simp only [digs, List.nil_append, List.cons_append]
    exact ⟨_, _, rfl, by omega, by omega⟩
theorem fit_num {n : Int} {j K : Nat} (h : Fit n j K) : gva (fun i => (puts n j K).getD i 0) K = n := by
  rcases h with ⟨rfl, rfl, a, b⟩ | ⟨rfl, rfl, a, b⟩ | ⟨rfl, rfl, a, b⟩ | ⟨rfl, rfl, a, b⟩
  · rw [gva1]; simp [puts, digs]; omega
  · rw [gva2]; simp [puts, digs]; omega
  · rw [gva4]; simp [puts, digs]; omega
  · rw [gva8]; simp [puts, digs]; omega
/-- A number in K bytes with the mark of K is got as that number. -/
theorem fit_get {n : Int} {j K : Nat} (h : Fit n j K) (x : Int) (r : List Int) (hd : digs n K = x :: r) (h0 : 0 ≤ x) (h1 : x < 64) (w : World) (t : Tab w) :
    Calls Tryd.prog 13 #[.string (strOfNums ((x + 64 * j) :: r))] w fun e w' => e = .returned (.tuple #[.int .i64 n, .int .i64 K, .int .i64 0]) ∧ w = w' := by
  have e : puts n j K = (x + 64 * j) :: r := by simp only [puts, hd]
  have hm := h.mk
  have hj : j < 4 ∧ 1 ≤ K ∧ K ≤ 8 := by unfold Mk at hm; omega
  have hb : ∀ y ∈ puts n j K, 0 ≤ y ∧ y < 256 := by
    rw [e]
    intro y hy
    rcases List.mem_cons.1 hy with rfl | hy
    · omega
    · exact digs_bd n K y (by rw [hd]; exact List.mem_cons_of_mem _ hy)
  rw [← e]
  have hz : (strOfNums (puts n j K)).size = K := by rw [strOfNums_size, puts_length]
  have hf : ∀ i, i < K → byt (strOfNums (puts n j K)) i = (puts n j K).getD i 0 := fun i hi => by
    have := byt_str (puts n j K) hb ByteArray.empty i (by rw [puts_length]; exact hi)
    rwa [show strOfNums (puts n j K) ++ ByteArray.empty = strOfNums (puts n j K) by simp] at this
  have g : gva (byt (strOfNums (puts n j K))) K = n := by
    rw [gva_congr _ (fun i => (puts n j K).getD i 0) (by rw [hf 0 (by omega)]) K (fun i _ b => hf i b)]
    exact fit_num h
  have f0 : byt (strOfNums (puts n j K)) 0 / 64 = j := by
    rw [hf 0 (by omega), e]
    show (x + 64 * j) / 64 = (j : Int)
    omega
  have := get_ok (strOfNums (puts n j K)) w t j K hm (by omega) (by omega) (by omega) f0
  rwa [g] at this
theorem form_of (form : Int) : ∃ j K : Nat, Mk j K ∧ wrap64 ((IntKind.u64.wrap form).tmod 4) = j := by
  have h : 0 ≤ IntKind.u64.wrap form := by rw [IntKind.wrap_u64]; omega
  rw [Int.tmod_eq_emod_of_nonneg h, w64 _ (by omega)]
  have h1 : IntKind.u64.wrap form % 4 = 0 ∨ IntKind.u64.wrap form % 4 = 1 ∨ IntKind.u64.wrap form % 4 = 2 ∨ IntKind.u64.wrap form % 4 = 3 := by omega
  unfold Mk
  rcases h1 with h1 | h1 | h1 | h1
  · exact ⟨0, 1, by omega, by omega⟩
  · exact ⟨1, 2, by omega, by omega⟩
  · exact ⟨2, 4, by omega, by omega⟩
  · exact ⟨3, 8, by omega, by omega⟩

set_option maxHeartbeats 1000000 in
theorem walk_no (n : Int) (form : Int) (w : World) (t : Tab w) (j K : Nat) (hm : Mk j K) (hj : wrap64 ((IntKind.u64.wrap form).tmod 4) = j) (h : No n) :
    Calls Tryd.prog 7 #[.int .i64 n, .int .i64 form] w fun e w' => e = .returned (.bool true) ∧ Below w.heap.size w w' := by
  rcases hm with ⟨rfl, rfl⟩ | ⟨rfl, rfl⟩ | ⟨rfl, rfl⟩ | ⟨rfl, rfl⟩
  all_goals
    rcases h with h | h
    all_goals
      go_enter Tryd.func7, Tryd.ntmps7
      go_wp2_with (go_at_call 17; refine (works _ t).mono ?_; rintro e w1 ⟨rfl, hb1⟩)
      go_ret
      exact ⟨rfl, hb1.alloc hb1.size _⟩

theorem tab_alloc {w w1 : World} (t : Tab w) (hb1 : Below w.heap.size w w1) (o : Obj) : Tab (w1.alloc o) := t.below (hb1.alloc hb1.size o)
set_option maxHeartbeats 1000000 in
theorem walk_great (n : Int) (form : Int) (w : World) (t : Tab w) (j K : Nat) (hm : Mk j K) (hj : wrap64 ((IntKind.u64.wrap form).tmod 4) = j) (m k : Nat) (h : Cl n m k) (hk : K < k) :
    Calls Tryd.prog 7 #[.int .i64 n, .int .i64 form] w fun e w' => e = .returned (.bool true) ∧ Below w.heap.size w w' := by
  have S : Hid (∀ w, Tab w → Calls Tryd.prog 9 #[.int .i64 n] w fun e w' => e = .returned (.int .i64 k) ∧ w = w') := fun w t => size_yes n m k w t h
  have hl := h.lo
  clear h
  rcases hm with ⟨rfl, rfl⟩ | ⟨rfl, rfl⟩ | ⟨rfl, rfl⟩ | ⟨rfl, rfl⟩
  rotate_right
  · omega
  all_goals
    go_enter Tryd.func7, Tryd.ntmps7
    go_wp2_with (first | (go_at_call 17; refine (works _ t).mono ?_; rintro e w1 ⟨rfl, hb1⟩) | (go_at_call 9; refine (S.out _ (tab_alloc t hb1 _)).mono ?_; rintro e w' ⟨rfl, rfl⟩))
    go_ret
    exact ⟨rfl, hb1.alloc hb1.size _⟩

set_option maxHeartbeats 1000000 in
theorem walk_fit (n : Int) (form : Int) (w : World) (t : Tab w) (j K : Nat) (hj : wrap64 ((IntKind.u64.wrap form).tmod 4) = j) (m k : Nat) (h : Cl n m k) (hk : k ≤ K) (hf : Fit n j K) :
    Calls Tryd.prog 7 #[.int .i64 n, .int .i64 form] w fun e w' => e = .returned (.bool true) ∧ Below w.heap.size w w' := by
  obtain ⟨x, r, hd, h0, h1⟩ := fit_digit hf
  have hl : ∀ y ∈ x :: r, 0 ≤ y ∧ y < 256 := by rw [← hd]; exact digs_bd n K
  have hlen : K = r.length + 1 := by rw [← digs_length n K, hd]; rfl
  have hK : 1 ≤ K ∧ K ≤ 8 := by unfold Fit at hf; omega
  have S : Hid (∀ w, Tab w → Calls Tryd.prog 9 #[.int .i64 n] w fun e w' => e = .returned (.int .i64 k) ∧ w = w') := fun w t => size_yes n m k w t h
  have B : Hid (∀ w, Calls Tryd.prog 19 #[.int .i64 n, .int .i64 K] w fun e w' => e = .returned (.string (strOfNums (x :: r))) ∧ Below w.heap.size w w') := fun w => by
    have := rbytes K hK.2 n w (by have := h.lo; omega) (by have := h.lo; omega)
    rwa [hd] at this
  have G : Hid (∀ w, Tab w → Calls Tryd.prog 13 #[.string (strOfNums ((x + 64 * j) :: r))] w fun e w' => e = .returned (.tuple #[.int .i64 n, .int .i64 K, .int .i64 0]) ∧ w = w') := fun w t => fit_get hf x r hd h0 h1 w t
  have cv := fun w => bw_conv w (strOfNums (x :: r)) K (by rw [strOfNums_size, hlen]; rfl)
  have cc : ∀ w, (Lib.bytesWorld w 5 (strOfNums (x :: r))).cell? ⟨w.heap.size, 0, none⟩ = some (.int .u8 x) := fun w => bw_cell w (x :: r) hl 0 (by simp)
  have cf : ∀ w, (Lib.bytesWorld w 5 (strOfNums (x :: r))).frozen? ⟨w.heap.size, 0, none⟩ = false := fun w => bw_frozen w _ 0 (by rw [strOfNums_size]; simp)
  have cb := fun w v c => bw_back w x r hl v K c hlen
  have hlo := h.lo
  clear hl hlen hd h hK
  rcases hf with ⟨rfl, rfl, a, b⟩ | ⟨rfl, rfl, a, b⟩ | ⟨rfl, rfl, a, b⟩ | ⟨rfl, rfl, a, b⟩
  · have G1 : Hid (∀ w, Tab w → Calls Tryd.prog 13 #[.string (strOfNums (x :: r))] w fun e w' => e = .returned (.tuple #[.int .i64 n, .int .i64 1, .int .i64 0]) ∧ w = w') := by
      have := G.out
      rwa [show x + 64 * ((0 : Nat) : Int) = x by omega] at this
    clear G
    go_enter Tryd.func7, Tryd.ntmps7
    go_wp2_with (first | (go_at_call 17; refine (works _ t).mono ?_; rintro e w1 ⟨rfl, hb1⟩) | (go_at_call 9; refine (S.out _ (tab_alloc t hb1 _)).mono ?_; rintro e w' ⟨rfl, rfl⟩) | (go_at_call 19; refine (B.out _).mono ?_; rintro e w2 ⟨rfl, hb2⟩; have hb3 := (hb1.alloc hb1.size _).trans (hb2.mono (Nat.le_trans hb1.size (by simp)))) | (go_at_call 13; refine (G1.out _ (t.below (bw_end hb3 _ _))).mono ?_; rintro e w' ⟨rfl, rfl⟩))
    go_ret
    exact ⟨rfl, bw_end hb3 _ _⟩
  · have G1 : Hid (∀ w, Tab w → Calls Tryd.prog 13 #[.string (strOfNums ((x + 64) :: r))] w fun e w' => e = .returned (.tuple #[.int .i64 n, .int .i64 2, .int .i64 0]) ∧ w = w') := by
      have := G.out
      rwa [show x + 64 * ((1 : Nat) : Int) = x + 64 by omega] at this
    clear G
    go_enter Tryd.func7, Tryd.ntmps7
    go_wp2_with (first | (go_at_call 17; refine (works _ t).mono ?_; rintro e w1 ⟨rfl, hb1⟩) | (go_at_call 9; refine (S.out _ (tab_alloc t hb1 _)).mono ?_; rintro e w' ⟨rfl, rfl⟩) | (go_at_call 19; refine (B.out _).mono ?_; rintro e w2 ⟨rfl, hb2⟩; have hb3 := (hb1.alloc hb1.size _).trans (hb2.mono (Nat.le_trans hb1.size (by simp)))) | (go_at_call 13; refine (G1.out _ (t.below (bw_end hb3 _ _))).mono ?_; rintro e w' ⟨rfl, rfl⟩))
    go_ret
    exact ⟨rfl, bw_end hb3 _ _⟩
  · have G1 : Hid (∀ w, Tab w → Calls Tryd.prog 13 #[.string (strOfNums ((x + 128) :: r))] w fun e w' => e = .returned (.tuple #[.int .i64 n, .int .i64 4, .int .i64 0]) ∧ w = w') := by
      have := G.out
      rwa [show x + 64 * ((2 : Nat) : Int) = x + 128 by omega] at this
    clear G
    go_enter Tryd.func7, Tryd.ntmps7
    go_wp2_with (first | (go_at_call 17; refine (works _ t).mono ?_; rintro e w1 ⟨rfl, hb1⟩) | (go_at_call 9; refine (S.out _ (tab_alloc t hb1 _)).mono ?_; rintro e w' ⟨rfl, rfl⟩) | (go_at_call 19; refine (B.out _).mono ?_; rintro e w2 ⟨rfl, hb2⟩; have hb3 := (hb1.alloc hb1.size _).trans (hb2.mono (Nat.le_trans hb1.size (by simp)))) | (go_at_call 13; refine (G1.out _ (t.below (bw_end hb3 _ _))).mono ?_; rintro e w' ⟨rfl, rfl⟩))
    go_ret
    exact ⟨rfl, bw_end hb3 _ _⟩
  · have G1 : Hid (∀ w, Tab w → Calls Tryd.prog 13 #[.string (strOfNums ((x + 192) :: r))] w fun e w' => e = .returned (.tuple #[.int .i64 n, .int .i64 8, .int .i64 0]) ∧ w = w') := by
      have := G.out
      rwa [show x + 64 * ((3 : Nat) : Int) = x + 192 by omega] at this
    clear G
    go_enter Tryd.func7, Tryd.ntmps7
    go_wp2_with (first | (go_at_call 17; refine (works _ t).mono ?_; rintro e w1 ⟨rfl, hb1⟩) | (go_at_call 9; refine (S.out _ (tab_alloc t hb1 _)).mono ?_; rintro e w' ⟨rfl, rfl⟩) | (go_at_call 19; refine (B.out _).mono ?_; rintro e w2 ⟨rfl, hb2⟩; have hb3 := (hb1.alloc hb1.size _).trans (hb2.mono (Nat.le_trans hb1.size (by simp)))) | (go_at_call 13; refine (G1.out _ (t.below (bw_end hb3 _ _))).mono ?_; rintro e w' ⟨rfl, rfl⟩))
    go_ret
    exact ⟨rfl, bw_end hb3 _ _⟩

theorem walk (n : Int) (form : Int) (w : World) (t : Tab w) :
    Calls Tryd.prog 7 #[.int .i64 n, .int .i64 form] w fun e w' => e = .returned (.bool true) ∧ Below w.heap.size w w' := by
  obtain ⟨j, K, hm, hj⟩ := form_of form
  rcases cl_or_no n with ⟨m, k, h⟩ | h
  · by_cases hk : K < k
    · exact walk_great n form w t j K hm hj m k h hk
    · exact walk_fit n form w t j K hj m k h (by omega) (by unfold Mk at hm; unfold Cl at h; unfold Fit; omega)
  · exact walk_no n form w t j K hm hj h

theorem contract (H : Type) (enc : TypeId × Value → H) (W : World) (base : Nat) (args : Array Value) (ds gs : List (DataW H)) (before : List MemPlace)
    (hval : ∀ (j : Nat) t v, Tryd.f7.params[j]? = some t → args[j]? = some v → Value.okWide Tryd.prog W .any base t v)
    (hW : DataW.Whole enc Tryd.prog Tryd.f7.params.toList Rows.varintLongerSpec.vars false W args.toList ds gs before) (hL : laidMetH Tryd.prog Rows.varintLongerRow.laid W) :
    Calls Tryd.prog 7 args W fun e W' => ∃ v, e = .returned v ∧ Rows.varintLongerSpec.post enc Tryd.prog Tryd.f7 false true false false W args v W' := by
  have hW' := hW
  obtain ⟨p, q, hA0, hV, rfl, hfz, hnd⟩ := hW
  have hA : DataW.TrodAll enc Tryd.prog W 0 (fun _ => true) true Tryd.f7.params.toList args.toList ds p := hA0
  rw [Tryd.params7] at hA hval
  obtain ⟨v0, vs0, d0, ds0, p0, q0, hargs, rfl, rfl, h0, r0⟩ := trodAll_cons hA
  obtain ⟨v1, vs1, d1, ds1, p1, q1, rfl, rfl, rfl, h1, r1⟩ := trodAll_cons r0
  obtain ⟨rfl, rfl, rfl⟩ := trodAll_nil r1
  obtain rfl : args = #[v0, v1] := by cases args; simp_all
  obtain ⟨rfl, rfl⟩ := trodVars_none hV
  obtain ⟨a0, rfl, rfl, rfl, w0⟩ := open_int Tryd.underlying2 (hval 0 2 v0 rfl rfl) h0
  obtain ⟨a1, rfl, rfl, rfl, w1⟩ := open_int Tryd.underlying3 (hval 1 3 v1 rfl rfl) h1
  clear hA0
  simp only [List.append_nil] at hW'
  refine (walk a0 a1 W (tabOf hL)).mono fun e W' ⟨he, bel⟩ => ?_
  subst he
  exact ⟨_, rfl, _, _, _, [], _, [], hW', trodAll_mk1 (shut_bool Tryd.underlying4 _), (trodAll_cons_mk (shut_int Tryd.underlying2 w0) (trodAll_cons_mk (shut_int Tryd.underlying3 w1) trodAll_mk0)), rfl, bel.frame _, fun h => by cases h⟩

theorem laid_met (os : Os) : laidMet Tryd.prog Rows.varintLongerRow.laid ((laidWorld Tryd.prog os).forCall (fun _ _ => 0) ⟨#[], #[.int .i64 0, .int .i64 0], []⟩).memory :=
  laidMet_of_run' 8 (by kernel_rfl) (by kernel_rfl)
theorem reads (os : Os) {H : Type} (enc : TypeId × Value → H) : ∃ places, DataW.whole enc Tryd.prog ((laidWorld Tryd.prog os).forCall (fun _ _ => 0) ⟨#[], #[.int .i64 0, .int .i64 0], []⟩).memory Tryd.f7.params.toList Rows.varintLongerSpec.vars false #[Value.int .i64 0, Value.int .i64 0].toList 8 = some ([.lit (.int .i64 0), .lit (.int .i64 0)], [], places) :=
  ⟨[], by kernel_rfl⟩

set_option maxRecDepth 100000 in
theorem lifted (os : Os) (started : os.Started) (H : Type) (enc : TypeId × Value → H) (F : Stop.Interp) :
    ReturnsInHanded {} Tryd.checked os 7 .any ((OpenSpec.ofChange Rows.varintLongerSpec).preRow enc Tryd.prog Tryd.f7 Rows.varintLongerRow.domain false Rows.varintLongerRow.laid) (((OpenSpec.ofChange Rows.varintLongerSpec).at F).post enc Tryd.prog Tryd.f7 false true false false) := by
  obtain ⟨places, hx⟩ := reads os enc
  refine returnsInHanded_of_row (C := Tryd.checked) (s := OpenSpec.ofChange Rows.varintLongerSpec) own started (by kernel_rfl) Tryd.func7
    (witness_row_at (enc := enc) (C := Tryd.checked) false (laidWorld Tryd.prog os) #[.int .i64 0, .int .i64 0] rfl (by kernel_rfl) (by kernel_rfl) (by kernel_rfl)
      (OpenSpec.preRow_of_cond 8 hx (by kernel_rfl) (fun k hk => by cases hk) (by kernel_rfl) (laid_met os))) ?_
  intro W base args ds gs before hval hW _ _ _ hL _ _
  exact contract H enc W base args ds gs before hval hW hL

theorem said : Rows.VarintLongerSaid :=
  OpenClaim.holds_of_cond 7 Tryd.f7 rfl rfl rfl rfl rfl rfl rfl ⟨rfl, rfl, rfl, rfl, rfl⟩ rfl rfl rfl rfl rfl (by kernel_rfl) Tryd.func7 (by kernel_rfl)
    (of_decide_eq_true (by kernel_rfl)) (by unfold Func.isWrapper; first | (rw [if_pos (by decide +kernel)]; kernel_rfl) | (rw [if_neg (by decide +kernel)]; exact ⟨rfl, rfl⟩))
    (fun os started H enc _ F => by rw [OpenClaim.pre_eq_preRow]; exact lifted os started H enc F)

theorem plain (f : FuncId) (fn : Func) (hf : Tryd.pinned.checked.prog.funcNamed Rows.varintLongerRow.func = some f) (hfn : Tryd.pinned.checked.prog.funcs[f]? = some fn) :
    false = Tryd.pinned.checked.prog.looks [] ∧ ∀ (j : Nat) t, fn.params[j]? = some t → Tryd.pinned.checked.prog.wantsStandIn t = false := by
  obtain rfl : f = 7 := Option.some.inj ((show Tryd.prog.funcNamed Rows.varintLongerRow.func = some 7 by kernel_rfl).symm.trans hf) |>.symm
  obtain rfl : fn = Tryd.f7 := (Option.some.inj (Tryd.func7.symm.trans hfn)).symm
  refine ⟨by kernel_rfl, fun j t ht => ?_⟩
  rw [Tryd.params7] at ht
  have hm : t ∈ #[2, 3] := Array.mem_of_getElem? ht
  have hm' : t = 2 ∨ t = 3 := by simpa using hm
  rcases hm' with rfl | rfl
  · exact (show Tryd.prog.wantsStandIn 2 = false by kernel_rfl)
  · exact (show Tryd.prog.wantsStandIn 3 = false by kernel_rfl)

theorem card : Rows.VarintLongerCardSaid :=
  Claim7.holds_tied_plain_at .later [] _ _ _ _ said (fun _ h => by cases h) (by kernel_rfl) (fun _ h => by cases h) varintLonger_row_tie rfl ⟨rfl, rfl⟩ (by kernel_rfl) rfl plain (by kernel_rfl)
end Go.Proofs.YtbfbfghajdhopaaDoor.varintLonger
namespace Go.Proofs.YtbfbfghajdhopaaDoor
theorem varintLonger_card : Rows.VarintLongerCardSaid := varintLonger.card
end Go.Proofs.YtbfbfghajdhopaaDoor
