/-
  The law ShaParts returns true for every row of texts: put in in pieces, a text has the digest that it has as a whole, also asked in between. No condition but the form's own reach.
-/
import Derived.Test.YtabaeehjmmblpaaDoorShHash
import Derived.Test.YtabaeehjmmblpaaDoorShTab
import Derived.Test.YtabaeehjmmblpaaDoorShOpen
import Derived.LaidLaws
namespace Go.Proofs.YtabaeehjmmblpaaDoor.shaParts
open Go.ChangeShapes Go.WideShapes Go.ChangeAt Go.RowKit
open Go.ChangeMaps (open_string shut_string)

set_option maxHeartbeats 4000000 in
theorem walk_some (f : Nat → ByteArray) (b off n cap M : Nat) (w : World) (t : Tab w) (hb : b < w.heap.size) (hn : n ≤ 8796093022208) (hM : (M = n ∧ n ≤ 40) ∨ (M = 40 ∧ 40 < n))
    (hc : ∀ i, i < n → w.cell? ⟨b, off + i, none⟩ = some (.string (f i))) :
    Calls Tryd.prog 4 #[.slice (some ⟨b, off, none⟩) n cap] w fun e w' => e = .returned (.bool true) ∧ Below w.heap.size w w' := by
  have hMn : M ≤ n ∧ M ≤ 40 := by omega
  replace hc : Hid _ := hc
  have WO : Hid (∀ w, Tab w → _) := works_ok
  go_enter Tryd.func4, Tryd.ntmps4
  go_wp2_with fail
  refine (WO.out _ t).mono ?_
  rintro e w1 ⟨rfl, b1⟩
  clear WO
  go_wp2_with fail
  refine (inv_new w _ b1 t).mono ?_
  rintro e w2 ⟨v, rfl, n2⟩
  have N2 : Hid (Inv w w2 (.pointer (some v)) []) := n2
  clear n2 b1
  go_wp2_with fail
  go_loopg [4, 5] M (fun g sv iv wr => ∃ i : Nat, i + g = M ∧ sv = .string (cat f i) ∧ iv = .int .i64 i ∧ (cat f i).size ≤ 500 * i ∧ Hid (Inv w wr (.pointer (some v)) (nb (cat f i))))
  case atStart => exact ⟨0, by omega, rfl, rfl, Nat.le_refl _, N2⟩
  case round =>
    clear N2
    obtain ⟨i, hi, rfl, rfl, hz, N⟩ := hrel
    by_cases hlt : i < M
    · have q1 : decide (i < n) = true := decide_eq_true (by omega)
      have q2 : decide ((i : Int) < 40) = true := decide_eq_true (by omega)
      have q3 : decide (i < 40) = true := decide_eq_true (by omega)
      have c1 := (N.out.below.cell (p := ⟨b, off + i, none⟩) hb).trans (hc.out i (by omega))
      by_cases hf : 500 < (f i).size
      · have q4 : decide ((500 : Int) < ((f i).size : Int)) = true := decide_eq_true (by omega)
        go_wp2_with fail
        go_ret
        exact ⟨rfl, N.out.below⟩
      · have q4 : decide ((500 : Int) < ((f i).size : Int)) = false := decide_eq_false (by omega)
        have hz2 : (cat f (i + 1)).size ≤ 500 * (i + 1) := by
          show (cat f i ++ f i).size ≤ _
          rw [ByteArray.size_append]; omega
        have ea : cat f i ++ f i = cat f (i + 1) := rfl
        have ez := ByteArray.size_append (a := cat f i) (b := f i)
        go_wp2_with fail
        refine (inv_write t (f i) N.out (by rw [nb_length]; omega)).mono ?_
        rintro e w3 ⟨rfl, n3⟩
        rw [← nb_append, ea] at n3
        have N3 : Hid (Inv w w3 (.pointer (some v)) (nb (cat f (i + 1)))) := n3
        clear n3 N c1
        have c3 := (N3.out.below.cell (p := ⟨b, off + i, none⟩) hb).trans (hc.out i (by omega))
        by_cases hr : (i : Int) % 3 = 0
        · have q5 : ((i : Int) % 3 == 0) = true := by rw [hr]; rfl
          go_wp2_with fail
          refine (inv_hsum t N3.out (by rw [nb_length]; omega)).mono ?_
          rintro e w4 ⟨rfl, n4⟩
          have N4 : Hid (Inv w w4 (.pointer (some v)) (nb (cat f (i + 1)))) := n4
          clear n4 N3 c3
          go_wp2_with fail
          refine (inv_sum t _ N4.out (by omega)).mono ?_
          rintro e w5 ⟨rfl, n5⟩
          have N5 : Hid (Inv w w5 (.pointer (some v)) (nb (cat f (i + 1)))) := n5
          clear n5 N4
          go_wp2_with fail
          go_roundg (M - (i + 1))
          case measure => omega
          case rel => exact ⟨i + 1, by omega, rfl, by go_num, hz2, N5⟩
        · have q5 : ((i : Int) % 3 == 0) = false := by simpa using hr
          go_wp2_with fail
          go_roundg (M - (i + 1))
          case measure => omega
          case rel => exact ⟨i + 1, by omega, rfl, by go_num, hz2, N3⟩
    · clear hc
      by_cases hin : i < n
      · have q1 : decide (i < n) = true := decide_eq_true hin
        have q2 : decide ((i : Int) < 40) = false := decide_eq_false (by omega)
        have q3 : decide (i < 40) = false := decide_eq_false (by omega)
        go_wp2_with fail
        refine (inv_hsum t N.out (by rw [nb_length]; omega)).mono ?_
        rintro e w7 ⟨rfl, n7⟩
        have N7 : Hid (Inv w w7 (.pointer (some v)) (nb (cat f i))) := n7
        clear n7 N
        go_wp2_with fail
        refine (inv_sum t _ N7.out (by omega)).mono ?_
        rintro e w8 ⟨rfl, n8⟩
        have N8 : Hid (Inv w w8 (.pointer (some v)) (nb (cat f i))) := n8
        clear n8 N7
        generalize bstr (dig (nb (cat f i))) = Y at *
        go_wp2_with fail
        go_ret
        exact ⟨rfl, N8.out.below⟩
      · have q1 : decide (i < n) = false := decide_eq_false hin
        go_wp2_with fail
        refine (inv_hsum t N.out (by rw [nb_length]; omega)).mono ?_
        rintro e w7 ⟨rfl, n7⟩
        have N7 : Hid (Inv w w7 (.pointer (some v)) (nb (cat f i))) := n7
        clear n7 N
        go_wp2_with fail
        refine (inv_sum t _ N7.out (by omega)).mono ?_
        rintro e w8 ⟨rfl, n8⟩
        have N8 : Hid (Inv w w8 (.pointer (some v)) (nb (cat f i))) := n8
        clear n8 N7
        generalize bstr (dig (nb (cat f i))) = Y at *
        go_wp2_with fail
        go_ret
        exact ⟨rfl, N8.out.below⟩

set_option maxHeartbeats 1000000 in
theorem walk_none (f : Nat → ByteArray) (a : Option Addr) (n cap : Nat) (hn : n = 0) (w : World) (t : Tab w) :
    Calls Tryd.prog 4 #[.slice a n cap] w fun e w' => e = .returned (.bool true) ∧ Below w.heap.size w w' := by
  have WO : Hid (∀ w, Tab w → _) := works_ok
  go_enter Tryd.func4, Tryd.ntmps4
  go_wp2_with fail
  refine (WO.out _ t).mono ?_
  rintro e w1 ⟨rfl, b1⟩
  clear WO
  go_wp2_with fail
  refine (inv_new w _ b1 t).mono ?_
  rintro e w2 ⟨v, rfl, n2⟩
  have N2 : Hid (Inv w w2 (.pointer (some v)) []) := n2
  clear n2 b1
  go_wp2_with fail
  go_loopg [4, 5] 0 (fun g sv iv wr => ∃ i : Nat, i + g = 0 ∧ sv = .string (cat f i) ∧ iv = .int .i64 i ∧ (cat f i).size ≤ 500 * i ∧ Hid (Inv w wr (.pointer (some v)) (nb (cat f i))))
  case atStart => exact ⟨0, by omega, rfl, rfl, Nat.le_refl _, N2⟩
  case round =>
    clear N2
    obtain ⟨i, hi, rfl, rfl, hz, N⟩ := hrel
    have q1 : decide (i < n) = false := decide_eq_false (by omega)
    go_wp2_with fail
    refine (inv_hsum t N.out (by rw [nb_length]; omega)).mono ?_
    rintro e w7 ⟨rfl, n7⟩
    have N7 : Hid (Inv w w7 (.pointer (some v)) (nb (cat f i))) := n7
    clear n7 N
    go_wp2_with fail
    refine (inv_sum t _ N7.out (by omega)).mono ?_
    rintro e w8 ⟨rfl, n8⟩
    have N8 : Hid (Inv w w8 (.pointer (some v)) (nb (cat f i))) := n8
    clear n8 N7
    generalize bstr (dig (nb (cat f i))) = Y at *
    go_wp2_with fail
    go_ret
    exact ⟨rfl, N8.out.below⟩
theorem walk (a : Option Addr) (n cap : Nat) (f : Nat → ByteArray) (w : World) (t : Tab w) (hn : n ≤ 8796093022208) (hs : Strs w a n f) :
    Calls Tryd.prog 4 #[.slice a n cap] w fun e w' => e = .returned (.bool true) ∧ Below w.heap.size w w' := by
  rcases hs with h0 | ⟨b, off, rfl, hb, hc⟩
  · exact walk_none f a n cap h0 w t
  · by_cases h : n ≤ 40
    · exact walk_some f b off n cap n w t hb hn (.inl ⟨rfl, h⟩) hc
    · exact walk_some f b off n cap 40 w t hb hn (.inr ⟨rfl, by omega⟩) hc

set_option maxRecDepth 100000 in
theorem contract (H : Type) (enc : TypeId × Value → H) (W : World) (base : Nat) (args : Array Value) (ds gs : List (DataW H)) (before : List MemPlace)
    (hval : ∀ (j : Nat) t v, Tryd.f4.params[j]? = some t → args[j]? = some v → Value.okWide Tryd.prog W .any base t v)
    (hW : DataW.Whole enc Tryd.prog Tryd.f4.params.toList Rows.shaPartsSpec.vars false W args.toList ds gs before) (hT : Tab W)
    (hsz : (DataW.weightsEach Tryd.prog (Tryd.f4.params.toList ++ (OpenSpec.ofChange Rows.shaPartsSpec).bare.plain.varTypes Tryd.prog) (ds ++ gs)).all (· ≤ reachBytes) = true) :
    Calls Tryd.prog 4 args W fun e W' => ∃ v, e = .returned v ∧ Rows.shaPartsSpec.post enc Tryd.prog Tryd.f4 false true false false W args v W' := by
  have hW' := hW
  obtain ⟨p, q, hA0, hV, rfl, hfz, hnd⟩ := hW
  have hA : DataW.TrodAll enc Tryd.prog W 0 (fun _ => true) true Tryd.f4.params.toList args.toList ds p := hA0
  rw [Tryd.params4] at hA hval hsz
  obtain ⟨v0, vs0, d0, ds0, p0, q0, hargs, rfl, rfl, h0, r0⟩ := trodAll_cons hA
  obtain ⟨rfl, rfl, rfl⟩ := trodAll_nil r0
  obtain rfl : args = #[v0] := by cases args; simp_all
  obtain ⟨rfl, rfl⟩ := trodVars_none hV
  have k0 := h0
  have lt0 : ∀ x ∈ p0, x.block < W.heap.size := by obtain ⟨m, hm⟩ := k0; exact DataW.trod_lt m _ _ _ hm
  obtain ⟨a0, n0, c0, f0, rfl, hn0, hz0, hs0⟩ := open_strs (hval 0 26 v0 rfl rfl) h0 (fun n hn => by simpa using List.all_eq_true.1 hsz _ (DataW.weights_mem_each (j := 0) (t := 26) rfl rfl n hn))
  clear hA0
  simp only [List.append_nil] at hW'
  refine (walk a0 n0 c0 f0 W hT hn0 hs0).mono fun e W' ⟨he, bel⟩ => ?_
  subst he
  exact ⟨_, rfl, _, _, _, [], _, [], hW', trodAll_mk1 (shut_bool Tryd.underlying4 _), (trodAll_cons_mk (Below.trod laidOut (by kernel_rfl) (of_decide_eq_true (by kernel_rfl)) k0 bel lt0) trodAll_mk0), rfl, bel.frame _, fun h => by cases h⟩

set_option maxRecDepth 100000 in
theorem lifted (os : Os) (started : os.Started) (H : Type) (enc : TypeId × Value → H) :
    ReturnsInHanded {} Tryd.checked os 4 .any (fun w args => (Rows.shaPartsSpec.pre enc Tryd.prog Tryd.f4 Rows.shaPartsRow.domain false w args ∧ laidMetH Tryd.prog Rows.shaPartsRow.laid w) ∧ sizedMet enc Tryd.prog Tryd.f4 (OpenSpec.ofChange Rows.shaPartsSpec) false w args)
      (Rows.shaPartsSpec.post enc Tryd.prog Tryd.f4 false true false false) := by
  refine returnsInHanded_of_change_and (C := Tryd.checked) (X := fun w _ => laidMetH Tryd.prog Rows.shaPartsRow.laid w) (fun _ _ _ hh h => h.of_heap hh) own started (by kernel_rfl) Tryd.func4
    (ChangeSpec.witness_shaped (enc := enc) (C := Tryd.checked) (os := os) (X := fun w _ => laidMetH Tryd.prog Rows.shaPartsRow.laid w) false (World.laidAll Tryd.prog os Rows.shaPartsRow.laid) #[.slice none 0 0] 8 (World.laidAll_os _ _ _)
      (World.shaped_of_ZipB (by kernel_rfl) (by kernel_rfl)) (by kernel_rfl) (by kernel_rfl) (by kernel_rfl)
      (by rw [MakeChecks.laidMetH_plain _ _ _ (by kernel_rfl)]; exact laidMet_laidAll _ (by kernel_rfl) (by kernel_rfl))) ?_
  intro W base args ds gs before hval hW _ hsz hL _
  have hL' : laidMet Tryd.prog Rows.shaPartsRow.laid W := by
    rw [MakeChecks.laidMetH_plain _ _ _ (by kernel_rfl)] at hL
    exact hL
  exact contract H enc W base args ds gs before hval hW (tabOf1 rfl hL') hsz

theorem said : Rows.ShaPartsSaid :=
  OpenClaim.holds_of_wide 4 Tryd.f4 rfl rfl rfl rfl rfl rfl rfl ⟨rfl, rfl, rfl, rfl, rfl⟩ rfl rfl rfl rfl rfl (by kernel_rfl) Tryd.func4 (by kernel_rfl)
    (of_decide_eq_true (by kernel_rfl)) (by unfold Func.isWrapper; first | (rw [if_pos (by decide +kernel)]; kernel_rfl) | (rw [if_neg (by decide +kernel)]; exact ⟨rfl, rfl⟩))
    (fun os started H enc _ => lifted os started H enc)

theorem plain (f : FuncId) (fn : Func) (hf : Tryd.pinned.checked.prog.funcNamed Rows.shaPartsRow.func = some f) (hfn : Tryd.pinned.checked.prog.funcs[f]? = some fn) :
    (Tryd.pinned.checked.prog.looks [] = Tryd.pinned.checked.prog.looks []) ∧ ∀ (j : Nat) t, fn.params[j]? = some t → Tryd.pinned.checked.prog.wantsStandIn t = false := by
  obtain rfl : f = 4 := Option.some.inj ((show Tryd.prog.funcNamed Rows.shaPartsRow.func = some 4 by kernel_rfl).symm.trans hf) |>.symm
  obtain rfl : fn = Tryd.f4 := (Option.some.inj (Tryd.func4.symm.trans hfn)).symm
  refine ⟨rfl, fun j t ht => ?_⟩
  rw [Tryd.params4] at ht
  have hm : t ∈ [26] := by simpa using Array.mem_of_getElem? ht
  have hall : ([26].all fun u => !Tryd.prog.wantsStandIn u) = true := by kernel_rfl
  exact (show Tryd.prog.wantsStandIn t = false by simpa using List.all_eq_true.1 hall t hm)
theorem card : Rows.ShaPartsCardSaid :=
  Claim7.holds_tied_plain_at .later [] _ _ _ _ said (fun _ h => by cases h) (by kernel_rfl) (fun _ h => by cases h) shaParts_row_tie rfl ⟨rfl, rfl⟩ (by kernel_rfl) rfl (fun f fn hf hfn => ⟨by kernel_rfl, (plain f fn hf hfn).2⟩) (by kernel_rfl)
end Go.Proofs.YtabaeehjmmblpaaDoor.shaParts
namespace Go.Proofs.YtabaeehjmmblpaaDoor
theorem shaParts_card : Rows.ShaPartsCardSaid := shaParts.card
end Go.Proofs.YtabaeehjmmblpaaDoor
