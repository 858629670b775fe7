/-
  The law FramesCuts returns true for every row of frames and every number: frames that are written, cut off within the last one, are too short. The arguments are of bulk at most 1048576, and within the form's own reach.
-/
import Derived.Test.YtmngpkkpkjnejaaDoorFrO
import Derived.Test.YtmngpkkpkjnejaaDoorFrBulk
import Derived.Deep.DeepHandedRow
import Derived.Test.YtmngpkkpkjnejaaDoorFrTab
import Derived.Test.YtmngpkkpkjnejaaDoorFrOpen
import Derived.LaidLaws
namespace Go.Proofs.YtmngpkkpkjnejaaDoor.framesCuts
set_option maxRecDepth 100000
open Go.ChangeShapes Go.WideShapes Go.ChangeAt Go.RowKit
open Go.ChangeMaps (open_string shut_string)

theorem frb_small {f : Fr} (h : FrB f) : f.rg.length < 9223372036854775807 ∧ f.data.length < 4611686018427387904 := ⟨by have := h.rgs; omega, by have := h.data; omega⟩
theorem wrAll_size {l : List Fr} (h : ∀ f ∈ l, Rt f) : (wrAll l).length ≤ 2000 * l.length := by
  induction l with
  | nil => simp [wrAll]
  | cons f l ih =>
    have e : wrAll (f :: l) = wrF f ++ wrAll l := rfl
    have h1 := wrF_le (h f (List.mem_cons_self ..))
    have h2 := ih fun g hg => h g (List.mem_cons_of_mem _ hg)
    rw [e, List.length_append, List.length_cons]
    omega
set_option maxHeartbeats 4000000 in
theorem walk (fs : List Fr) (v : Value) (at' : Int) (w : World) (t : VTab w) (hv : FrsAt w v fs) (hl : fs.length ≤ 1048576) (hb : ∀ f ∈ fs, FrB f) :
    Calls Tryd.prog 8 #[v, .int .i64 at'] w fun e w' => e = .returned (.bool true) ∧ Below w.heap.size w w' := by
  have WO : Hid (Calls Tryd.prog 21 #[] w fun e w' => e = .returned (.bool true) ∧ Below w.heap.size w w') := works_ok w t
  have WR : Hid (∀ w', Below w.heap.size w w' → Calls Tryd.prog 16 #[v] w' fun e w'' => e = wrE fs ∧ Below w'.heap.size w' w'') := fun w' b => fwriteAll_ok (t.below b) (hv.keep b) (by omega) hb
  unfold wrE at WR
  obtain ⟨a, cap, rfl, hc⟩ := hv
  by_cases h0 : bad1 fs = 0
  · rw [h0, if_pos rfl] at WR
    have hR := bad1_zero.1 h0
    have hsz := wrAll_size hR
    by_cases hn : fs = []
    · subst hn
      clear hc h0 hR hb hl hsz
      generalize strL (wrAll []) = X at *
      go_enter Tryd.func8, Tryd.ntmps8
      go_wp2_with fail
      refine WO.out.mono ?_
      rintro _ w1 ⟨rfl, b1⟩
      have B1 : Hid (Below w.heap.size w w1) := b1
      have W1 := WR.out w1 b1
      replace W1 : Hid (Calls _ _ _ _ _) := W1
      clear b1
      go_wp2_with fail
      refine W1.out.mono ?_
      rintro _ w2 ⟨rfl, b2⟩
      have B2 : Hid (Below w.heap.size w w2) := B1.out.trans (b2.mono B1.out.size)
      clear b2 W1
      go_wp2_with fail
      go_ret
      exact ⟨rfl, B2.out⟩
    · by_cases h64 : 64 < fs.length
      · have g0 : ((fs.length : Int) == 0) = false := by simp; omega
        have g1 : decide ((64 : Int) < (fs.length : Int)) = true := decide_eq_true (by omega)
        clear hc h0 hR hb hl hsz hn
        generalize strL (wrAll fs) = X at *
        generalize fs.length = M at *
        go_enter Tryd.func8, Tryd.ntmps8
        go_wp2_with fail
        refine WO.out.mono ?_
        rintro _ w1 ⟨rfl, b1⟩
        have B1 : Hid (Below w.heap.size w w1) := b1
        have W1 := WR.out w1 b1
        replace W1 : Hid (Calls _ _ _ _ _) := W1
        clear b1
        go_wp2_with fail
        refine W1.out.mono ?_
        rintro _ w2 ⟨rfl, b2⟩
        have B2 : Hid (Below w.heap.size w w2) := B1.out.trans (b2.mono B1.out.size)
        clear b2 W1
        go_wp2_with fail
        go_ret
        exact ⟨rfl, B2.out⟩
      · rcases hc with hc | ⟨g, o, rfl, hc⟩
        · exact absurd hc hn
        · have hpos : 0 < fs.length := List.length_pos_iff.2 hn
          have g0 : ((fs.length : Int) == 0) = false := by simp; omega
          have g1 : decide ((64 : Int) < (fs.length : Int)) = false := decide_eq_false (by omega)
          obtain ⟨k, hk⟩ : ∃ k, fs.length = k + 1 := ⟨fs.length - 1, by omega⟩
          have F1 := hc k (by omega)
          have ia := fun w' => at_frs g o fs.length cap k w' (by omega) ((fs.length : Int) - 1) (by omega) (o + 7 * k) rfl
          have hmem : fs.getD k fr0 ∈ fs := by simp [List.getD, List.getElem?_eq_getElem (show k < fs.length by omega)]
          have hRf := hR _ hmem
          have hbf := hb _ hmem
          have hall : wrAll fs = wrAll (fs.take k) ++ wrF (fs.getD k fr0) := by
            have := wrAll_take fs k (by omega)
            rwa [← hk, List.take_length] at this
          have hRk : ∀ f ∈ fs.take k, Rt f := fun f hf => hR f (List.mem_of_mem_take hf)
          have hkk : (kept (fs.take k)).length ≤ 64 := Nat.le_trans (List.length_filter_le _ _) (by rw [List.length_take]; omega)
          have cut := fun j h1 h2 => parse_cut hRk hkk hRf (j := j) h1 h2
          have hsf : sizF (fs.getD k fr0) = (wrF (fs.getD k fr0)).length := by unfold sizF; rw [if_pos (chkF_zero.2 hRf)]
          generalize fs.getD k fr0 = f at *
          obtain ⟨d, sl, cp, d1, d2, d3⟩ := F1
          have SZ : Hid (∀ w', Below w.heap.size w w' → Calls Tryd.prog 11 #[.agg #[.int .i64 f.kind, .int .i64 f.id, .int .i64 f.off, .bool f.fin, .int .i64 f.code, .string d, .slice sl f.rg.length cp]] w' fun e w'' => e = .returned (.int .i64 ((wrF f).length : Nat)) ∧ Below w'.heap.size w' w'') := fun w' b => by
            have := fsize_ok (t.below b) (v := frV f d (.slice sl f.rg.length cp)) (f := f) ⟨d, sl, cp, rfl, d1, d2.keep b⟩ hbf
            rw [hsf] at this
            exact this
          have D3 : Hid (C7 w g (o + 7 * k) f d (.slice sl f.rg.length cp)) := d3
          have PA : Hid (∀ (s : ByteArray) w', Below w.heap.size w w' → s.size < 1099511627776 → parse (toL s) 0 = .error 1 → Calls Tryd.prog 19 #[.string s] w' fun e w'' => e = .returned (.tuple #[.slice none 0 0, .int .i64 1]) ∧ Below w'.heap.size w' w'') := fun s w' b hs hp => (fparse_ok s w' (t.below b) hs).mono fun e w'' h => by
            obtain ⟨bb, ⟨xs, v, h1, rfl, h2⟩ | ⟨x, h1, h2, rfl⟩⟩ := h
            · rw [hp] at h1; cases h1
            · rw [hp] at h1
              injection h1 with h1
              subst h1
              exact ⟨rfl, bb⟩
          have hX : toL (strL (wrAll fs)) = wrAll (fs.take k) ++ wrF f := hall
          have hXs : (strL (wrAll fs)).size = (wrAll (fs.take k)).length + (wrF f).length := by rw [strL_size, hall, List.length_append]
          have hXb : (strL (wrAll fs)).size ≤ 2000 * fs.length := by rw [strL_size]; exact hsz
          clear hc hn h0 hR hb hRf hbf hall hRk hkk hsf d1 d2 d3 hmem hpos hsz hl
          generalize strL (wrAll fs) = X at *
          obtain ⟨p, hpp⟩ : ∃ p, (wrAll (fs.take k)).length = p := ⟨_, rfl⟩
          rw [hpp] at hXs
          replace hpp : Hid _ := hpp
          obtain ⟨n, hnn⟩ : ∃ n, n = (wrF f).length := ⟨_, rfl⟩
          rw [← hnn] at hXs cut SZ
          have hnX : n ≤ X.size := by omega
          have gX : decide ((X.size : Int) < (n : Int)) = false := decide_eq_false (by omega)
          replace cut : Hid _ := cut
          replace hX : Hid _ := hX
          replace hXs : Hid _ := hXs
          replace hnn : Hid _ := hnn
          generalize fs.length = M at *
          replace hk : Hid _ := hk
          by_cases h2 : n < 2
          · have g2 : decide ((n : Int) < 2) = true := decide_eq_true (by omega)
            go_enter Tryd.func8, Tryd.ntmps8
            go_wp2_with fail
            refine WO.out.mono ?_
            rintro _ w1 ⟨rfl, b1⟩
            have B1 : Hid (Below w.heap.size w w1) := b1
            have W1 := WR.out w1 b1
            replace W1 : Hid (Calls _ _ _ _ _) := W1
            clear b1
            go_wp2_with fail
            refine W1.out.mono ?_
            rintro _ w2 ⟨rfl, b2⟩
            have B2 : Hid (Below w.heap.size w w2) := B1.out.trans (b2.mono B1.out.size)
            have S2 := SZ.out w2 B2.out
            replace S2 : Hid (Calls _ _ _ _ _) := S2
            obtain ⟨x0, x1, x2, x3, x4, x5, x6⟩ := D3.out.keep B2.out
            clear b2 W1 B1
            go_wp2_with fail
            refine S2.out.mono ?_
            rintro _ w3 ⟨rfl, b3⟩
            have B3 : Hid (Below w.heap.size w w3) := B2.out.trans (b3.mono B2.out.size)
            clear b3 S2 B2 x0 x1 x2 x3 x4 x5 x6
            go_wp2_with fail
            go_ret
            exact ⟨rfl, B3.out⟩
          · have g2 : decide ((n : Int) < 2) = false := decide_eq_false (by omega)
            go_enter Tryd.func8, Tryd.ntmps8
            go_wp2_with fail
            refine WO.out.mono ?_
            rintro _ w1 ⟨rfl, b1⟩
            have B1 : Hid (Below w.heap.size w w1) := b1
            have W1 := WR.out w1 b1
            replace W1 : Hid (Calls _ _ _ _ _) := W1
            clear b1
            go_wp2_with fail
            refine W1.out.mono ?_
            rintro _ w2 ⟨rfl, b2⟩
            have B2 : Hid (Below w.heap.size w w2) := B1.out.trans (b2.mono B1.out.size)
            have S2 := SZ.out w2 B2.out
            replace S2 : Hid (Calls _ _ _ _ _) := S2
            obtain ⟨x0, x1, x2, x3, x4, x5, x6⟩ := D3.out.keep B2.out
            clear b2 W1 B1
            go_wp2_with fail
            refine S2.out.mono ?_
            rintro _ w3 ⟨rfl, b3⟩
            have B3 : Hid (Below w.heap.size w w3) := B2.out.trans (b3.mono B2.out.size)
            clear b3 S2 B2 x0 x1 x2 x3 x4 x5 x6
            obtain ⟨r, hr⟩ : ∃ r : Nat, (IntKind.u64.wrap at').tmod ((n : Int) - 1) = (r : Int) := ⟨((IntKind.u64.wrap at').tmod ((n : Int) - 1)).toNat, by
              have := Int.tmod_nonneg ((n : Int) - 1) (show (0 : Int) ≤ IntKind.u64.wrap at' by rw [IntKind.wrap_u64]; omega)
              omega⟩
            have hr2 : (r : Int) < (n : Int) - 1 := by
              rw [← hr]
              exact Int.tmod_lt_of_pos _ (by omega)
            obtain ⟨q, hq⟩ : ∃ q : Nat, q = X.size - 1 - r := ⟨_, rfl⟩
            have hXb2 : X.size ≤ 1000000 := by have := hk.out; omega
            have w1' : wrap64 (r : Int) = (r : Int) := by unfold wrap64; omega
            have w2' : wrap64 ((X.size : Int) - 1 - (r : Int)) = (q : Int) := by unfold wrap64; omega
            have hqX : q ≤ X.size := by omega
            have hz3 : ¬ (IntKind.u64.wrap (wrap64 ((n : Int) - 1)) = 0) := by rw [show wrap64 ((n : Int) - 1) = (n : Int) - 1 by unfold wrap64; omega, IntKind.wrap_u64]; omega
            have hE : wrap64 (wrap64 ((X.size : Int) - 1) - wrap64 ((IntKind.u64.wrap at').tmod (IntKind.u64.wrap (wrap64 ((n : Int) - 1))))) = (q : Int) := by
              rw [show wrap64 ((n : Int) - 1) = (n : Int) - 1 by unfold wrap64; omega, show IntKind.u64.wrap ((n : Int) - 1) = (n : Int) - 1 by rw [IntKind.wrap_u64]; omega, hr, w1', show wrap64 ((X.size : Int) - 1) = (X.size : Int) - 1 by unfold wrap64; omega, w2']
            have hz0 : ¬ ((n : Int) - 1 = 0) := by omega
            have hz1 : ¬ ((n : Int) = 1) := by omega
            have hz2 : ¬ (n = 1) := by omega
            have hp : parse (toL (X.extract 0 q)) 0 = .error 1 := by
              have e : toL (X.extract 0 q) = wrAll (fs.take k) ++ (wrF f).take (q - p) := by
                rw [toL_cut, List.drop_zero, hX.out, List.take_append, hpp.out, List.take_of_length_le (by rw [hpp.out]; have := hXs.out; omega)]
              rw [e]
              have := hXs.out
              exact cut.out (q - p) (by omega) (by omega)
            have zq : (X.extract 0 q).size < 1099511627776 := by rw [ByteArray.size_extract]; omega
            have P3 := PA.out (X.extract 0 q) w3 B3.out zq hp
            replace P3 : Hid (Calls _ _ _ _ _) := P3
            clear hr w1' w2' hp zq hq hXb hXb2 hr2 cut hX hXs hpp hnn PA hk
            go_wp2_with fail
            refine P3.out.mono ?_
            rintro _ w4 ⟨rfl, b4⟩
            have B4 : Hid (Below w.heap.size w w4) := B3.out.trans (b4.mono B3.out.size)
            clear b4 P3 B3
            go_wp2_with fail
            go_ret
            exact ⟨rfl, B4.out⟩
  · have gb : (bad1 fs != 0) = true := by simp [h0]
    rw [if_neg h0] at WR
    clear hc hb
    replace h0 : Hid _ := h0
    generalize bad1 fs = y at *
    go_enter Tryd.func8, Tryd.ntmps8
    go_wp2_with fail
    refine WO.out.mono ?_
    rintro _ w1 ⟨rfl, b1⟩
    have B1 : Hid (Below w.heap.size w w1) := b1
    have W1 := WR.out w1 b1
    replace W1 : Hid (Calls _ _ _ _ _) := W1
    clear b1
    go_wp2_with fail
    refine W1.out.mono ?_
    rintro _ w2 ⟨rfl, b2⟩
    have B2 : Hid (Below w.heap.size w w2) := B1.out.trans (b2.mono B1.out.size)
    clear b2 W1
    go_wp2_with fail
    go_ret
    exact ⟨rfl, B2.out⟩

set_option maxRecDepth 100000 in
theorem contract (H : Type) (enc : TypeId × Value → H) (W : World) (base : Nat) (args : Array Value) (ds gs : List (DataW H)) (before : List MemPlace)
    (hval : ∀ (j : Nat) t v, Tryd.f8.params[j]? = some t → args[j]? = some v → Value.okWide Tryd.prog W .any base t v)
    (hW : DataW.Whole enc Tryd.prog Tryd.f8.params.toList Rows.framesCutsSpec.vars false W args.toList ds gs before) (hT : VTab W)
    (hsz : (DataW.weightsEach Tryd.prog (Tryd.f8.params.toList ++ (Rows.OpenSpec.upto Rows.framesCutsSpec).bare.plain.varTypes Tryd.prog) (ds ++ gs)).all (· ≤ reachBytes) = true) (hk0 : Rows.uptoSmall H (ds ++ gs) = true) :
    Calls Tryd.prog 8 args W fun e W' => ∃ v, e = .returned v ∧ Rows.framesCutsSpec.post enc Tryd.prog Tryd.f8 false true false false W args v W' := by
  have hW' := hW
  obtain ⟨p, q, hA0, hV, rfl, hfz, hnd⟩ := hW
  have hA : DataW.TrodAll enc Tryd.prog W 0 (fun _ => true) true Tryd.f8.params.toList args.toList ds p := hA0
  rw [Tryd.params8] at hA hval hsz
  obtain ⟨v0, vs0, d0, ds0, p0, q0, hargs, rfl, rfl, h0, r0⟩ := trodAll_cons hA
  obtain ⟨v1, vs1, d1, ds1, p1, q1, rfl, rfl, rfl, h1, r1⟩ := trodAll_cons r0
  obtain ⟨rfl, rfl, rfl⟩ := trodAll_nil r1
  obtain rfl : args = #[v0, v1] := by cases args; simp_all
  obtain ⟨rfl, rfl⟩ := trodVars_none hV
  have k0 := h0
  have lt0 : ∀ x ∈ p0, x.block < W.heap.size := by obtain ⟨m, hm⟩ := k0; exact DataW.trod_lt m _ _ _ hm
  obtain ⟨f0, fi0, fb0⟩ := open_frms (hval 0 29 v0 rfl rfl) h0 (fun n hn => by simpa using List.all_eq_true.1 hsz _ (DataW.weights_mem_each (j := 0) (t := 29) rfl rfl n hn))
  obtain ⟨a1, rfl, rfl, rfl, w1⟩ := open_int Tryd.underlying3 (hval 1 3 v1 rfl rfl) h1
  have b1 := bounds_i64 w1
  clear hA0
  simp only [List.append_nil] at hW'
  refine (walk f0 v0 a1 W hT fi0 (frs_len fi0 k0 hk0 (by simp)) fb0.2).mono fun e W' ⟨he, bel⟩ => ?_
  subst he
  exact ⟨_, rfl, _, _, _, [], _, [], hW', trodAll_mk1 (shut_bool Tryd.underlying4 _), (trodAll_cons_mk (Below.trod laidOut (by kernel_rfl) (of_decide_eq_true (by kernel_rfl)) k0 bel lt0) (trodAll_cons_mk (shut_int Tryd.underlying3 w1) trodAll_mk0)), rfl, bel.frame _, fun h => by cases h⟩

theorem reads (os : Os) {H : Type} (enc : TypeId × Value → H) : ∃ places, DataW.whole enc Tryd.prog ((World.laidAll Tryd.prog os Rows.framesCutsUptoRow.laid).forCall (fun _ _ => 0) ⟨#[], #[.slice none 0 0, .int .i64 0], []⟩).memory Tryd.f8.params.toList Rows.framesCutsSpec.vars false #[Value.slice none 0 0, Value.int .i64 0].toList 8 = some ([.nil, .lit (.int .i64 0)], [], places) :=
  ⟨[], by kernel_rfl⟩
set_option maxRecDepth 100000 in
theorem lifted (os : Os) (started : os.Started) (H : Type) (enc : TypeId × Value → H) (F : Stop.Interp) :
    ReturnsInHanded {} Tryd.checked os 8 .any ((Rows.OpenSpec.upto Rows.framesCutsSpec).preRow enc Tryd.prog Tryd.f8 Rows.framesCutsUptoRow.domain false Rows.framesCutsUptoRow.laid) (((Rows.OpenSpec.upto Rows.framesCutsSpec).at F).post enc Tryd.prog Tryd.f8 false true false false) := by
  obtain ⟨places, hx⟩ := reads os enc
  refine returnsInHanded_of_row (C := Tryd.checked) (s := Rows.OpenSpec.upto Rows.framesCutsSpec) own started (by kernel_rfl) Tryd.func8
    (witness_row_at (enc := enc) (C := Tryd.checked) false (World.laidAll Tryd.prog os Rows.framesCutsUptoRow.laid) #[.slice none 0 0, .int .i64 0] (World.laidAll_os _ _ _) (by kernel_rfl) (by kernel_rfl) (by kernel_rfl)
      (OpenSpec.preRow_of_cond 8 hx (by kernel_rfl) (fun k hk => by cases hk; kernel_rfl) (by kernel_rfl) (laidMet_laidAll _ (by kernel_rfl) (by kernel_rfl)))) ?_
  intro W base args ds gs before hval hW _ hcond hsz hL _ _
  have hL' : laidMet Tryd.prog Rows.framesCutsUptoRow.laid W := by
    rw [MakeChecks.laidMetH_plain _ _ _ (by kernel_rfl)] at hL
    exact hL
  exact contract H enc W base args ds gs before hval hW (vtabOf rfl hL') hsz (hcond _ rfl)

theorem said : Rows.FramesCutsUptoSaid :=
  OpenClaim.holds_of_cond 8 Tryd.f8 rfl rfl rfl rfl rfl rfl rfl ⟨rfl, rfl, rfl, rfl, rfl⟩ rfl rfl rfl rfl rfl (by kernel_rfl) Tryd.func8 (by kernel_rfl)
    (of_decide_eq_true (by kernel_rfl)) (by unfold Func.isWrapper; first | (rw [if_pos (by decide +kernel)]; kernel_rfl) | (rw [if_neg (by decide +kernel)]; exact ⟨rfl, rfl⟩))
    (fun os started H enc _ F => by rw [OpenClaim.pre_eq_preRow]; exact lifted os started H enc F)

theorem plain (f : FuncId) (fn : Func) (hf : Tryd.pinned.checked.prog.funcNamed Rows.framesCutsUptoRow.func = some f) (hfn : Tryd.pinned.checked.prog.funcs[f]? = some fn) :
    (Tryd.pinned.checked.prog.looks [] = Tryd.pinned.checked.prog.looks []) ∧ ∀ (j : Nat) t, fn.params[j]? = some t → Tryd.pinned.checked.prog.wantsStandIn t = false := by
  obtain rfl : f = 8 := Option.some.inj ((show Tryd.prog.funcNamed Rows.framesCutsUptoRow.func = some 8 by kernel_rfl).symm.trans hf) |>.symm
  obtain rfl : fn = Tryd.f8 := (Option.some.inj (Tryd.func8.symm.trans hfn)).symm
  refine ⟨rfl, fun j t ht => ?_⟩
  rw [Tryd.params8] at ht
  have hm : t ∈ [29, 3] := by simpa using Array.mem_of_getElem? ht
  have hall : ([29, 3].all fun u => !Tryd.prog.wantsStandIn u) = true := by kernel_rfl
  exact (show Tryd.prog.wantsStandIn t = false by simpa using List.all_eq_true.1 hall t hm)
theorem card : Rows.FramesCutsUptoCardSaid :=
  Claim7.holds_tied_plain_at .later [] _ _ _ _ said (fun _ h => by cases h) (by kernel_rfl) (fun _ h => by cases h) framesCutsUpto_row_tie rfl ⟨rfl, rfl⟩ (by kernel_rfl) rfl (fun f fn hf hfn => ⟨by kernel_rfl, (plain f fn hf hfn).2⟩) (by kernel_rfl)
end Go.Proofs.YtmngpkkpkjnejaaDoor.framesCuts
namespace Go.Proofs.YtmngpkkpkjnejaaDoor
theorem framesCutsUpto_card : Rows.FramesCutsUptoCardSaid := framesCuts.card
end Go.Proofs.YtmngpkkpkjnejaaDoor
