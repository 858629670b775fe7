/-
  The law FramesCat returns true for all texts and every number: bytes of frames behind others are the frames of the ones and then of the others; padding between changes nothing. No condition but the form's own reach.
-/
import Derived.Test.YtmngpkkpkjnejaaDoorFrCat
import Derived.Test.YtmngpkkpkjnejaaDoorFrLink
import Derived.Test.YtmngpkkpkjnejaaDoorFrTab
import Derived.Test.YtmngpkkpkjnejaaDoorRpOpen
import Derived.LaidLaws
namespace Go.Proofs.YtmngpkkpkjnejaaDoor.framesCat
set_option maxRecDepth 100000
open Go.ChangeShapes Go.WideShapes Go.ChangeAt Go.RowKit
open Go.ChangeMaps (open_string shut_string)

theorem made_pad (n : Nat) : madeCells (Value.int .u8 0).cells (n * 1) = Array.replicate n (.int .u8 0) := by
  rw [Nat.mul_one]
  apply Array.ext_getElem?
  intro i
  by_cases h : i < n
  · simp [madeCells, h, Nat.mod_one, Value.cells]
  · simp [madeCells, h]
theorem mk_pad (n : Nat) (h : n < 50) (w : World) : (Instr.makeSlice 40 (.int .i64 (n : Int)) (.int .i64 (n : Int))).run Tryd.prog w = .ok (.slice (some ⟨w.heap.size, 0, none⟩) n n) (w.alloc (.cells (Array.replicate n (.int .u8 0)) 5)) := by
  obtain ⟨i, hi, hz, h2, h3⟩ := info_u8
  have := run_make (P := Tryd.prog) w 40 5 i _ Tryd.underlying40 hi hz .i64 .i64 n n (by omega) (by omega) (by rw [h3]; omega) (by omega)
  rw [this, h2, Int.toNat_natCast, made_pad n]
theorem cv_pad (n : Nat) (w : World) : (convert 40 9 (.slice (some ⟨w.heap.size, 0, none⟩) n n)).run Tryd.prog (w.alloc (.cells (Array.replicate n (.int .u8 0)) 5)) = .ok (.string (pad0 n)) (w.alloc (.cells (Array.replicate n (.int .u8 0)) 5)) := by
  have := convN w (List.replicate n (0 : Int)) n
  rw [List.length_replicate] at this
  have e : strOfNums (List.replicate n (0 : Int)) = pad0 n := toL_inj (by rw [toL_nums, toL_pad0, List.map_replicate]; rfl)
  have e2 : ((List.replicate n (0 : Int)).map (Value.int .u8)).toArray = Array.replicate n (.int .u8 0) := by simp
  rw [e, e2] at this
  exact this

set_option maxHeartbeats 8000000 in
theorem walk (a b : ByteArray) (pads : Int) (w : World) (t : VTab w) :
    Calls Tryd.prog 7 #[.string a, .string b, .int .i64 pads] w fun e w' => e = .returned (.bool true) ∧ Below w.heap.size w w' := by
  have WO : Hid (Calls Tryd.prog 21 #[] w fun e w' => e = .returned (.bool true) ∧ Below w.heap.size w w') := works_ok w t
  have PA : Hid (∀ (s : ByteArray) w', Below w.heap.size w w' → s.size < 1099511627776 → Calls Tryd.prog 19 #[.string s] w' fun e w'' => ∃ v x, e = .returned (.tuple #[v, .int .i64 x]) ∧ Ans w'' s v x ∧ Below w'.heap.size w' w'') := fun s w' b hs => (fparse_ok s w' (t.below b) hs).mono fun e w'' h => h.ans
  replace t : Hid (VTab w) := t
  by_cases ha : 2000 < a.size
  · have g1 : decide ((2000 : Int) < (a.size : Int)) = true := decide_eq_true (by omega)
    replace ha : Hid _ := ha
    clear PA
    go_enter Tryd.func7, Tryd.ntmps7
    go_wp2_with fail
    refine WO.out.mono ?_
    rintro _ w1 ⟨rfl, b1⟩
    have B1 : Hid (Below w.heap.size w w1) := b1
    clear b1 WO
    go_wp2_with fail
    go_ret
    exact ⟨rfl, B1.out⟩
  · have g1 : decide ((2000 : Int) < (a.size : Int)) = false := decide_eq_false (by omega)
    by_cases hb : 2000 < b.size
    · have g2 : decide ((2000 : Int) < (b.size : Int)) = true := decide_eq_true (by omega)
      replace ha : Hid _ := ha
      replace hb : Hid _ := hb
      clear PA
      go_enter Tryd.func7, Tryd.ntmps7
      go_wp2_with fail
      refine WO.out.mono ?_
      rintro _ w1 ⟨rfl, b1⟩
      have B1 : Hid (Below w.heap.size w w1) := b1
      clear b1 WO
      go_wp2_with fail
      go_ret
      exact ⟨rfl, B1.out⟩
    · have g2 : decide ((2000 : Int) < (b.size : Int)) = false := decide_eq_false (by omega)
      obtain ⟨r, hr⟩ : ∃ r : Nat, (IntKind.u64.wrap pads).tmod 50 = (r : Int) := ⟨((IntKind.u64.wrap pads).tmod 50).toNat, by
        have := Int.tmod_nonneg 50 (show (0 : Int) ≤ IntKind.u64.wrap pads by rw [IntKind.wrap_u64]; omega)
        omega⟩
      have hr2 : (r : Int) < 50 := by
        rw [← hr]
        exact Int.tmod_lt_of_pos _ (by omega)
      have hw : wrap64 (r : Int) = (r : Int) := by unfold wrap64; omega
      have hmk := fun w => mk_pad r (by omega) w
      have hcv := fun w => cv_pad r w
      have hpz : (pad0 r).size = r := pad0_size r
      have ad1 : a.size + (pad0 r).size ≤ 9223372036854775807 := by omega
      have ad2 : (a ++ pad0 r).size + b.size ≤ 9223372036854775807 := by rw [ByteArray.size_append]; omega
      have zz : Hid ((a ++ pad0 r ++ b).size < 1099511627776) := by unfold Hid; rw [ByteArray.size_append, ByteArray.size_append]; omega
      have za : Hid (a.size < 1099511627776) := by unfold Hid; omega
      have zb : Hid (b.size < 1099511627776) := by unfold Hid; omega
      replace hpz : Hid _ := hpz
      replace ha : Hid _ := ha
      replace hb : Hid _ := hb
      replace hr2 : Hid _ := hr2
      go_enter Tryd.func7, Tryd.ntmps7
      go_wp2_with fail
      refine WO.out.mono ?_
      rintro _ w1 ⟨rfl, b1⟩
      have B1 : Hid (Below w.heap.size w w1) := b1
      clear b1 WO
      go_wp2_with fail
      refine (PA.out a w1 B1.out za.out).mono ?_
      rintro _ w2 ⟨v2, x2, rfl, a2, b2⟩
      have B2 : Hid (Below w.heap.size w w2) := B1.out.trans (b2.mono B1.out.size)
      replace a2 : Hid _ := a2
      clear b2 B1
      go_wp2_with fail
      refine (PA.out b w2 B2.out zb.out).mono ?_
      rintro _ w3 ⟨v3, x3, rfl, a3, b3⟩
      have B3 : Hid (Below w.heap.size w w3) := B2.out.trans (b3.mono B2.out.size)
      have a2' : Hid (Ans w3 a v2 x2) := Ans.keep a2.out b3
      replace a3 : Hid _ := a3
      clear b3 B2 a2
      go_wp2_with fail
      have al : Below w3.heap.size w3 (w3.alloc (.cells (Array.replicate r (.int .u8 0)) 5)) := (Below.refl _ _).alloc (Nat.le_refl _) _
      have B4 : Hid (Below w.heap.size w (w3.alloc (.cells (Array.replicate r (.int .u8 0)) 5))) := B3.out.trans (al.mono B3.out.size)
      have a24 : Hid (Ans (w3.alloc (.cells (Array.replicate r (.int .u8 0)) 5)) a v2 x2) := Ans.keep a2'.out al
      have a34 : Hid (Ans (w3.alloc (.cells (Array.replicate r (.int .u8 0)) 5)) b v3 x3) := Ans.keep a3.out al
      clear al a2' a3 B3
      generalize w3.alloc (.cells (Array.replicate r (.int .u8 0)) 5) = w4 at *
      refine (PA.out (a ++ pad0 r ++ b) w4 B4.out zz.out).mono ?_
      rintro _ w5 ⟨v5, x5, rfl, a5, b5⟩
      have B5 : Hid (Below w.heap.size w w5) := B4.out.trans (b5.mono B4.out.size)
      have a25 := Ans.keep a24.out b5
      have a35 := Ans.keep a34.out b5
      clear b5 B4 a24 a34 PA hmk hcv ad1 ad2 zz za zb hr hw g1 g2
      rcases a25 with ⟨l2, p2, rfl, f2⟩ | ⟨p2, n2, rfl⟩
      · obtain ⟨c2, k2, rfl, -⟩ := id f2
        have sm2 := (parse_small p2).1
        rcases a35 with ⟨l3, p3, rfl, f3⟩ | ⟨p3, n3, rfl⟩
        · obtain ⟨c3, k3, rfl, -⟩ := id f3
          have sm3 := (parse_small p3).1
          have hw2 : wrap64 ((l2.length : Int) + (l3.length : Int)) = (l2.length : Int) + (l3.length : Int) := by unfold wrap64; omega
          by_cases h64 : 64 < l2.length + l3.length
          · have g3 : decide ((64 : Int) < (l2.length : Int) + (l3.length : Int)) = true := decide_eq_true (by omega)
            clear a5 p2 p3 f2 f3
            go_wp2_with fail
            go_ret
            exact ⟨rfl, B5.out⟩
          · have g3 : decide ((64 : Int) < (l2.length : Int) + (l3.length : Int)) = false := decide_eq_false (by omega)
            have pz := cat_ok p2 p3 (by omega) r
            rcases a5 with ⟨l5, p5, rfl, f5⟩ | ⟨p5, n5, rfl⟩
            · obtain rfl : l2 ++ l3 = l5 := by rw [p5] at pz; injection pz with pz; exact pz.symm
              obtain ⟨v7, w7, v8, w8, r7, r8, at8, b8⟩ := cat_rows f2 f3 (by omega) 29 29
              have al : ∀ f ∈ l2 ++ l3, f.rg.length < 9223372036854775807 := fun f hf => by
                rcases List.mem_append.1 hf with q | q
                · exact (rt_small ((parse_small p2).2 f q).1).1
                · exact (rt_small ((parse_small p3).2 f q).1).1
              have SA := rsameAll_ok (f5.keep b8) at8 (by rw [List.length_append]; omega) (by rw [List.length_append]; omega) al al
              rw [eqFs_true rfl] at SA
              have B8 : Hid (Below w.heap.size w w8) := B5.out.trans (b8.mono B5.out.size)
              replace SA : Hid (Calls _ _ _ _ _) := SA
              replace r7 : Hid _ := r7
              replace r8 : Hid _ := r8
              clear al at8 b8 p2 p3 f2 f3 f5 pz p5 B5
              go_wp2_with (at_builtin; first
                | (refine obB2LW _ (by kernel_rfl) .append _ _ 29 29 rfl (.slice (some ⟨w5.heap.size, 0, none⟩) 0 0) (.slice c2 l2.length k2) rfl rfl r7.out ?_; clear r7)
                | (refine obB2LW _ (by kernel_rfl) .append _ _ 29 29 rfl v7 (.slice c3 l3.length k3) rfl rfl r8.out ?_; clear r8))
              refine Calls.mono SA.out ?_
              rintro _ w9 ⟨rfl, b9⟩
              have B9 : Hid (Below w.heap.size w w9) := B8.out.trans (b9.mono B8.out.size)
              clear b9 SA B8
              go_wp2_with fail
              go_ret
              exact ⟨rfl, B9.out⟩
            · rw [pz] at p5; cases p5
        · have hw2 : wrap64 ((l2.length : Int) + 0) = (l2.length : Int) := by unfold wrap64; omega
          have hw3 : wrap64 (l2.length : Int) = (l2.length : Int) := by unfold wrap64; omega
          have g3 : decide ((64 : Int) < (l2.length : Int)) = false := decide_eq_false (by omega)
          have pz := cat_bad p2 p3 r
          have gn : (x3 != 0) = true := by simp [n3]
          have X : x5 = x3 ∨ x5 = 8 := by
            rcases a5 with ⟨l5, p5, -, -⟩ | ⟨p5, -, -⟩
            · rcases pz with q | q <;> (rw [p5] at q; cases q)
            · rcases pz with q | q <;> (rw [p5] at q; injection q with q)
              · exact .inl q
              · exact .inr q
          clear a5 pz p2 p3 f2
          replace n3 : Hid _ := n3
          by_cases e53 : x5 = x3
          · subst e53
            have ge : (x5 == x5) = true := by simp
            clear X
            go_wp2_with fail
            go_ret
            exact ⟨rfl, B5.out⟩
          · obtain rfl : x5 = 8 := X.resolve_left e53
            have ge : ((8 : Int) == x3) = false := by simpa using e53
            clear X e53
            go_wp2_with fail
            go_ret
            exact ⟨rfl, B5.out⟩
      · have gn : (x2 != 0) = true := by simp [n2]
        by_cases e1 : x2 = 1
        · subst e1
          clear a5 a35 p2
          go_wp2_with fail
          go_ret
          exact ⟨rfl, B5.out⟩
        · have ge1 : (x2 == 1) = false := by simp [e1]
          have X : x5 = x2 := by
            have pz := cat_err (b := b) p2 e1 r
            rcases a5 with ⟨l5, p5, -, -⟩ | ⟨p5, -, -⟩
            · rw [p5] at pz; cases pz
            · rw [p5] at pz; injection pz
          subst X
          have ge : (x5 == x5) = true := by simp
          clear a5 a35 p2 e1
          replace n2 : Hid _ := n2
          go_wp2_with fail
          go_ret
          exact ⟨rfl, B5.out⟩

set_option maxRecDepth 100000 in
theorem contract (H : Type) (enc : TypeId × Value → H) (W : World) (base : Nat) (args : Array Value) (ds gs : List (DataW H)) (before : List MemPlace)
    (hval : ∀ (j : Nat) t v, Tryd.f7.params[j]? = some t → args[j]? = some v → Value.okWide Tryd.prog W .any base t v)
    (hW : DataW.Whole enc Tryd.prog Tryd.f7.params.toList Rows.framesCatSpec.vars false W args.toList ds gs before) (hT : VTab W) :
    Calls Tryd.prog 7 args W fun e W' => ∃ v, e = .returned v ∧ Rows.framesCatSpec.post enc Tryd.prog Tryd.f7 false true false false W args v W' := by
  have hW' := hW
  obtain ⟨p, q, hA0, hV, rfl, hfz, hnd⟩ := hW
  have hA : DataW.TrodAll enc Tryd.prog W 0 (fun _ => true) true Tryd.f7.params.toList args.toList ds p := hA0
  rw [Tryd.params7] at hA hval
  obtain ⟨v0, vs0, d0, ds0, p0, q0, hargs, rfl, rfl, h0, r0⟩ := trodAll_cons hA
  obtain ⟨v1, vs1, d1, ds1, p1, q1, rfl, rfl, rfl, h1, r1⟩ := trodAll_cons r0
  obtain ⟨v2, vs2, d2, ds2, p2, q2, rfl, rfl, rfl, h2, r2⟩ := trodAll_cons r1
  obtain ⟨rfl, rfl, rfl⟩ := trodAll_nil r2
  obtain rfl : args = #[v0, v1, v2] := by cases args; simp_all
  obtain ⟨rfl, rfl⟩ := trodVars_none hV
  obtain ⟨a0, rfl, rfl, rfl, w0⟩ := open_string Tryd.underlying9 (hval 0 9 v0 rfl rfl) h0
  obtain ⟨a1, rfl, rfl, rfl, w1⟩ := open_string Tryd.underlying9 (hval 1 9 v1 rfl rfl) h1
  obtain ⟨a2, rfl, rfl, rfl, w2⟩ := open_int Tryd.underlying3 (hval 2 3 v2 rfl rfl) h2
  have b2 := bounds_i64 w2
  clear hA0
  simp only [List.append_nil] at hW'
  refine (walk a0 a1 a2 W hT).mono fun e W' ⟨he, bel⟩ => ?_
  subst he
  exact ⟨_, rfl, _, _, _, [], _, [], hW', trodAll_mk1 (shut_bool Tryd.underlying4 _), (trodAll_cons_mk (shut_string Tryd.underlying9 w0) (trodAll_cons_mk (shut_string Tryd.underlying9 w1) (trodAll_cons_mk (shut_int Tryd.underlying3 w2) trodAll_mk0))), rfl, bel.frame _, fun h => by cases h⟩

set_option maxRecDepth 100000 in
theorem lifted (os : Os) (started : os.Started) (H : Type) (enc : TypeId × Value → H) :
    ReturnsInHanded {} Tryd.checked os 7 .any (fun w args => (Rows.framesCatSpec.pre enc Tryd.prog Tryd.f7 Rows.framesCatRow.domain false w args ∧ laidMetH Tryd.prog Rows.framesCatRow.laid w) ∧ sizedMet enc Tryd.prog Tryd.f7 (OpenSpec.ofChange Rows.framesCatSpec) false w args)
      (Rows.framesCatSpec.post enc Tryd.prog Tryd.f7 false true false false) := by
  refine returnsInHanded_of_change_and (C := Tryd.checked) (X := fun w _ => laidMetH Tryd.prog Rows.framesCatRow.laid w) (fun _ _ _ hh h => h.of_heap hh) own started (by kernel_rfl) Tryd.func7
    (ChangeSpec.witness_shaped (enc := enc) (C := Tryd.checked) (os := os) (X := fun w _ => laidMetH Tryd.prog Rows.framesCatRow.laid w) false (World.laidAll Tryd.prog os Rows.framesCatRow.laid) #[.string ByteArray.empty, .string ByteArray.empty, .int .i64 0] 8 (World.laidAll_os _ _ _)
      (World.shaped_of_ZipB (by kernel_rfl) (by kernel_rfl)) (by kernel_rfl) (by kernel_rfl) (by kernel_rfl)
      (by rw [MakeChecks.laidMetH_plain _ _ _ (by kernel_rfl)]; exact laidMet_laidAll _ (by kernel_rfl) (by kernel_rfl))) ?_
  intro W base args ds gs before hval hW _ _ hL _
  have hL' : laidMet Tryd.prog Rows.framesCatRow.laid W := by
    rw [MakeChecks.laidMetH_plain _ _ _ (by kernel_rfl)] at hL
    exact hL
  exact contract H enc W base args ds gs before hval hW (vtabOf rfl hL')

theorem said : Rows.FramesCatSaid :=
  OpenClaim.holds_of_wide 7 Tryd.f7 rfl rfl rfl rfl rfl rfl rfl ⟨rfl, rfl, rfl, rfl, rfl⟩ rfl rfl rfl rfl rfl (by kernel_rfl) Tryd.func7 (by kernel_rfl)
    (of_decide_eq_true (by kernel_rfl)) (by unfold Func.isWrapper; first | (rw [if_pos (by decide +kernel)]; kernel_rfl) | (rw [if_neg (by decide +kernel)]; exact ⟨rfl, rfl⟩))
    (fun os started H enc _ => lifted os started H enc)

theorem plain (f : FuncId) (fn : Func) (hf : Tryd.pinned.checked.prog.funcNamed Rows.framesCatRow.func = some f) (hfn : Tryd.pinned.checked.prog.funcs[f]? = some fn) :
    (Tryd.pinned.checked.prog.looks [] = Tryd.pinned.checked.prog.looks []) ∧ ∀ (j : Nat) t, fn.params[j]? = some t → Tryd.pinned.checked.prog.wantsStandIn t = false := by
  obtain rfl : f = 7 := Option.some.inj ((show Tryd.prog.funcNamed Rows.framesCatRow.func = some 7 by kernel_rfl).symm.trans hf) |>.symm
  obtain rfl : fn = Tryd.f7 := (Option.some.inj (Tryd.func7.symm.trans hfn)).symm
  refine ⟨rfl, fun j t ht => ?_⟩
  rw [Tryd.params7] at ht
  have hm : t ∈ [9, 9, 3] := by simpa using Array.mem_of_getElem? ht
  have hall : ([9, 9, 3].all fun u => !Tryd.prog.wantsStandIn u) = true := by kernel_rfl
  exact (show Tryd.prog.wantsStandIn t = false by simpa using List.all_eq_true.1 hall t hm)
theorem card : Rows.FramesCatCardSaid :=
  Claim7.holds_tied_plain_at .later [] _ _ _ _ said (fun _ h => by cases h) (by kernel_rfl) (fun _ h => by cases h) framesCat_row_tie rfl ⟨rfl, rfl⟩ (by kernel_rfl) rfl (fun f fn hf hfn => ⟨by kernel_rfl, (plain f fn hf hfn).2⟩) (by kernel_rfl)
end Go.Proofs.YtmngpkkpkjnejaaDoor.framesCat
namespace Go.Proofs.YtmngpkkpkjnejaaDoor
theorem framesCat_card : Rows.FramesCatCardSaid := framesCat.card
end Go.Proofs.YtmngpkkpkjnejaaDoor
