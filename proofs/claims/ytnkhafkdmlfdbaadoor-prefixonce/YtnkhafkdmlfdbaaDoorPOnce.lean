/-
  The law PrefixOnce returns true for every three addresses: each address from one to another is in just one of the prefixes that cover them, no other one is in any; they rise, and are at most 62. The card ties the tables and sentinels of Go's library to the program's text. No condition but the form's own reach.
-/
import Derived.Test.YtnkhafkdmlfdbaaDoorPfWorks
import Derived.Test.YtnkhafkdmlfdbaaDoorPfCount
import Derived.Test.YtnkhafkdmlfdbaaDoorPfTab
import Derived.Test.YtnkhafkdmlfdbaaDoorPfOpen
import Derived.LaidLaws
namespace Go.Proofs.YtnkhafkdmlfdbaaDoor.prefixOnce
open Go.ChangeShapes Go.WideShapes Go.ChangeAt Go.RowKit Go.Sort
open Go.ChangeMaps (open_string shut_string)

theorem cov_rises (high : Int) : ∀ (l : List (Int × Int)) (at_ : Int), Cov high at_ l → ∀ (k : Nat) p q, l[k]? = some p → l[k + 1]? = some q → p.1 < q.1
  | [], _, _, k, p, q, hp, _ => by simp at hp
  | [x], _, _, k, p, q, _, hq => by simp at hq
  | (a, b) :: (a', b') :: l, at_, ⟨e, h1, hb, hc⟩, k, p, q, hp, hq => by
    cases k with
    | zero =>
      simp at hp hq
      subst hp hq
      have hz := sz_pos b
      have := hc.1
      show a < a'
      omega
    | succ k => exact cov_rises high ((a', b') :: l) _ hc k p q (by simpa using hp) (by simpa using hq)
theorem cnt_take (a : Int) (l : List (Int × Int)) (k : Nat) (x y : Int) (h : l[k]? = some (x, y)) : cnt a (l.take (k + 1)) = cnt a (l.take k) + (if inP x y a = true then 1 else 0) := by
  unfold cnt
  have hk : k < l.length := (List.getElem?_eq_some_iff.1 h).1
  have e : l[k] = (x, y) := (List.getElem?_eq_some_iff.1 h).2
  rw [List.take_succ_eq_append_getElem hk, List.filter_append, List.length_append, e]
  by_cases q : inP x y a = true
  · rw [if_pos q, List.filter_cons_of_pos (by simpa using q)]
    rfl
  · rw [if_neg q, List.filter_cons_of_neg (by simpa using q)]
    rfl
theorem cnt_le (a : Int) (l : List (Int × Int)) (k : Nat) : cnt a (l.take k) ≤ k := by
  unfold cnt
  have h1 := List.length_filter_le (fun p : Int × Int => inP p.1 p.2 a) (l.take k)
  have h2 := List.length_take_le k l
  omega
set_option maxHeartbeats 4000000 in
theorem walk (low high a : Int) (w : World) (t : Tab w) (a0 : 0 ≤ low) (a1 : low < 4294967296) (b0 : 0 ≤ high) (b1 : high < 4294967296) (c0 : 0 ≤ a) (c1 : a < 4294967296) :
    Calls Tryd.prog 5 #[.int .u32 low, .int .u32 high, .int .u32 a] w fun e w' => e = .returned (.bool true) ∧ Below w.heap.size w w' := by
  obtain ⟨l, hl⟩ := cov_some high (high + 1 - low).toNat low (by omega)
  have WK : Hid (∀ w, Tab w → _) := works_ok
  have C : Hid (∀ w, _) := fun w => cover_ok low high w l a0 a1 b0 b1 hl
  have RT : Hid (∀ p ∈ l, rt p.1 p.2 = true ∧ 0 ≤ p.1 ∧ p.1 < 4294967296) := fun p hp => by
    have := cov_right high l low hl p hp
    have hz := sz_pos p.2
    exact ⟨this.1, by omega, by omega⟩
  have RI : Hid (∀ (k : Nat) p q, l[k]? = some p → l[k + 1]? = some q → p.1 < q.1) := cov_rises high l low hl
  have n62 := cov_62 low high b1 a0 l hl
  have CN : (low ≤ a ∧ a ≤ high → cnt a l = 1) ∧ (¬ (low ≤ a ∧ a ≤ high) → cnt a l = 0) := ⟨fun h => cnt_one high a l low hl h.1 h.2, fun h => cnt_none high a l low hl (by omega)⟩
  replace CN : Hid _ := CN
  clear hl
  go_enter Tryd.func5, Tryd.ntmps5
  go_wp2_with (first
    | (go_at_call 15; refine (WK.out _ t).mono ?_; rintro e w1 ⟨rfl, b1⟩; have Z1 : Hid (Below w.heap.size w w1) := b1; clear b1)
    | (go_at_call 17; refine (C.out _).mono ?_; rintro e w2 ⟨v2, rfl, o2, b2⟩; have Z2 : Hid (Below w.heap.size w w2) := Z1.out.trans (b2.mono Z1.out.size); obtain ⟨p1, q1, rfl, D1⟩ := own_slice o2; clear o2 b2 Z1))
  clear C WK t
  generalize hN : l.length = N at *
  go_loopw [8, 9] (fun n i wr => ∃ k : Nat, k ≤ N ∧ i = .int .i64 k ∧ n = .int .i64 (cnt a (l.take k)) ∧ Hid (Below w2.heap.size w2 wr)) (fun _ i _ => N - (intOf i).toNat)
  case atStart => exact ⟨0, Nat.zero_le _, rfl, rfl, Below.refl _ _⟩
  case round =>
    obtain ⟨k, hk, rfl, rfl, bel⟩ := hrel
    by_cases hkN : k < N
    · have hlt : decide ((k : Int) < N) = true := decide_eq_true (by omega)
      obtain ⟨g, rfl, l1, _, _, cc⟩ := D1.out (by omega)
      have hget : l[k]? = some (l[k]'(by omega)) := List.getElem?_eq_getElem (by omega)
      generalize hxy : l[k]'(by omega) = xy at hget
      obtain ⟨x, y⟩ := xy
      have hp := pc_get l k x y hget
      have rr := RT.out (x, y) (List.mem_of_getElem? hget)
      simp only at rr
      have x1 : wr.cell? ⟨g, k * 2, none⟩ = some (.int .u32 x) := (bel.out.cell l1).trans ((cc _ (by omega)).trans hp.1)
      have x2 : wr.cell? ⟨g, k * 2 + 1, none⟩ = some (.int .i64 y) := (bel.out.cell l1).trans ((cc _ (by omega)).trans hp.2)
      have CK : Hid (∀ w, Calls Tryd.prog 16 #[pv x y] w fun e w' => e = .returned (.bool true) ∧ Below w.heap.size w w') := fun w => by
        have := check_ok x y w rr.2.1 rr.2.2
        rwa [rr.1] at this
      have HS : Hid (∀ w, _) := fun w => has_ok x y a w rr.2.1 rr.2.2 c0 c1
      have ct := cnt_take a l k x y hget
      have cl := cnt_le a l k
      cases k with
      | zero =>
        have k0 := cell_regrown x1
        have k1 := cell_regrown x2
        clear hp CN RT RI D1 cc
        unfold pv at *
        cases hin : inP x y a with
        | false =>
          rw [hin] at HS
          rw [hin, if_neg (by decide)] at ct
          clear hin
          generalize hc0 : cnt a (List.take 0 l) = c at *
          go_wp2
          refine wp_region_quiet_below (by kernel_rfl) (by kernel_rfl) ?_
          repeat (go_big_quiet_step (first | (go_at_call 16; exact Calls.regrown_of (CK.out _))))
          refine wpQuiet_nil ?_
          intro _ hw'
          obtain ⟨⟨dq, osq⟩, hw''⟩ := hw'
          subst hw''
          have Z5 : Hid (Below w2.heap.size w2 (grow (redrawn wr dq) osq)) := bel.out.trans ((below_regrown wr dq osq).mono bel.out.size)
          go_wp2_with (go_at_call 18; refine (HS.out _).mono ?_; rintro e w6 ⟨rfl, b6⟩; have Z6 : Hid (Below w2.heap.size w2 w6) := Z5.out.trans (b6.mono Z5.out.size); clear b6 Z5)
          go_roundw
          case rel => exact ⟨0 + 1, by omega, by go_num, by rw [ct]; go_num, Z6⟩
          case measure => simp [intOf]; omega
        | true =>
          rw [hin] at HS
          rw [hin, if_pos rfl] at ct
          clear hin
          generalize hc0 : cnt a (List.take 0 l) = c at *
          go_wp2
          refine wp_region_quiet_below (by kernel_rfl) (by kernel_rfl) ?_
          repeat (go_big_quiet_step (first | (go_at_call 16; exact Calls.regrown_of (CK.out _))))
          refine wpQuiet_nil ?_
          intro _ hw'
          obtain ⟨⟨dq, osq⟩, hw''⟩ := hw'
          subst hw''
          have Z5 : Hid (Below w2.heap.size w2 (grow (redrawn wr dq) osq)) := bel.out.trans ((below_regrown wr dq osq).mono bel.out.size)
          go_wp2_with (go_at_call 18; refine (HS.out _).mono ?_; rintro e w6 ⟨rfl, b6⟩; have Z6 : Hid (Below w2.heap.size w2 w6) := Z5.out.trans (b6.mono Z5.out.size); clear b6 Z5)
          go_roundw
          case rel => exact ⟨0 + 1, by omega, by go_num, by rw [ct]; go_num, Z6⟩
          case measure => simp [intOf]; omega
      | succ m =>
        have hgm : l[m]? = some (l[m]'(by omega)) := List.getElem?_eq_getElem (by omega)
        generalize hxz : l[m]'(by omega) = xz at hgm
        obtain ⟨x', y'⟩ := xz
        have hq := pc_get l m x' y' hgm
        have rm := RT.out (x', y') (List.mem_of_getElem? hgm)
        have ri := RI.out m _ _ hgm hget
        simp only at rm ri
        have x3 : wr.cell? ⟨g, m * 2, none⟩ = some (.int .u32 x') := (bel.out.cell l1).trans ((cc _ (by omega)).trans hq.1)
        have rd : decide (x ≤ x') = false := decide_eq_false (by omega)
        have k0 := cell_regrown x1
        have k1 := cell_regrown x2
        have k2 := cell_regrown x3
        clear hp hq CN RT RI D1 cc
        unfold pv at *
        cases hin : inP x y a with
        | false =>
          rw [hin] at HS
          rw [hin, if_neg (by decide)] at ct
          clear hin
          generalize hc0 : cnt a (List.take (m + 1) l) = c at *
          go_wp2
          refine wp_region_quiet_below (by kernel_rfl) (by kernel_rfl) ?_
          repeat (go_big_quiet_step (first | (go_at_call 16; exact Calls.regrown_of (CK.out _))))
          refine wpQuiet_nil ?_
          intro _ hw'
          obtain ⟨⟨dq, osq⟩, hw''⟩ := hw'
          subst hw''
          have Z5 : Hid (Below w2.heap.size w2 (grow (redrawn wr dq) osq)) := bel.out.trans ((below_regrown wr dq osq).mono bel.out.size)
          go_wp2_with (go_at_call 18; refine (HS.out _).mono ?_; rintro e w6 ⟨rfl, b6⟩; have Z6 : Hid (Below w2.heap.size w2 w6) := Z5.out.trans (b6.mono Z5.out.size); clear b6 Z5)
          go_roundw
          case rel => exact ⟨(m + 1) + 1, by omega, by go_num, by rw [ct]; go_num, Z6⟩
          case measure => simp [intOf]; omega
        | true =>
          rw [hin] at HS
          rw [hin, if_pos rfl] at ct
          clear hin
          generalize hc0 : cnt a (List.take (m + 1) l) = c at *
          go_wp2
          refine wp_region_quiet_below (by kernel_rfl) (by kernel_rfl) ?_
          repeat (go_big_quiet_step (first | (go_at_call 16; exact Calls.regrown_of (CK.out _))))
          refine wpQuiet_nil ?_
          intro _ hw'
          obtain ⟨⟨dq, osq⟩, hw''⟩ := hw'
          subst hw''
          have Z5 : Hid (Below w2.heap.size w2 (grow (redrawn wr dq) osq)) := bel.out.trans ((below_regrown wr dq osq).mono bel.out.size)
          go_wp2_with (go_at_call 18; refine (HS.out _).mono ?_; rintro e w6 ⟨rfl, b6⟩; have Z6 : Hid (Below w2.heap.size w2 w6) := Z5.out.trans (b6.mono Z5.out.size); clear b6 Z5)
          go_roundw
          case rel => exact ⟨(m + 1) + 1, by omega, by go_num, by rw [ct]; go_num, Z6⟩
          case measure => simp [intOf]; omega
    · obtain rfl : k = N := by omega
      have hlt : decide ((k : Int) < k) = false := decide_eq_false (by omega)
      have et : l.take k = l := List.take_of_length_le (by omega)
      rw [et]
      have cn := CN.out
      clear CN RT RI D1
      by_cases hin : low ≤ a ∧ a ≤ high
      · have e1 := cn.1 hin
        rw [e1]
        have h1 : decide (low ≤ a) = true := decide_eq_true hin.1
        have h2 : decide (a ≤ high) = true := decide_eq_true hin.2
        have h3 : decide ((k : Int) ≤ 62) = true := decide_eq_true (by omega)
        clear cn
        go_wp2
        go_ret
        exact ⟨rfl, Z2.out.trans (bel.out.mono Z2.out.size)⟩
      · have e1 := cn.2 hin
        rw [e1]
        have h3 : decide ((k : Int) ≤ 62) = true := decide_eq_true (by omega)
        clear cn
        by_cases hlo : low ≤ a
        · have h1 : decide (low ≤ a) = true := decide_eq_true hlo
          have h2 : decide (a ≤ high) = false := decide_eq_false (fun x => hin ⟨hlo, x⟩)
          go_wp2
          go_ret
          exact ⟨rfl, Z2.out.trans (bel.out.mono Z2.out.size)⟩
        · have h1 : decide (low ≤ a) = false := decide_eq_false hlo
          go_wp2
          go_ret
          exact ⟨rfl, Z2.out.trans (bel.out.mono Z2.out.size)⟩

set_option maxRecDepth 100000 in
theorem contract (H : Type) (enc : TypeId × Value → H) (W : World) (base : Nat) (args : Array Value) (ds gs : List (DataW H)) (before : List MemPlace)
    (hval : ∀ (j : Nat) t v, Tryd.f5.params[j]? = some t → args[j]? = some v → Value.okWide Tryd.prog W .any base t v)
    (hW : DataW.Whole enc Tryd.prog Tryd.f5.params.toList Rows.prefixOnceSpec.vars false W args.toList ds gs before) (hT : Tab W) :
    Calls Tryd.prog 5 args W fun e W' => ∃ v, e = .returned v ∧ Rows.prefixOnceSpec.post enc Tryd.prog Tryd.f5 false true false false W args v W' := by
  have hW' := hW
  obtain ⟨p, q, hA0, hV, rfl, hfz, hnd⟩ := hW
  have hA : DataW.TrodAll enc Tryd.prog W 0 (fun _ => true) true Tryd.f5.params.toList args.toList ds p := hA0
  rw [Tryd.params5] at hA hval
  obtain ⟨v0, vs0, d0, ds0, p0, q0, hargs, rfl, rfl, h0, r0⟩ := trodAll_cons hA
  obtain ⟨v1, vs1, d1, ds1, p1, q1, rfl, rfl, rfl, h1, r1⟩ := trodAll_cons r0
  obtain ⟨v2, vs2, d2, ds2, p2, q2, rfl, rfl, rfl, h2, r2⟩ := trodAll_cons r1
  obtain ⟨rfl, rfl, rfl⟩ := trodAll_nil r2
  obtain rfl : args = #[v0, v1, v2] := by cases args; simp_all
  obtain ⟨rfl, rfl⟩ := trodVars_none hV
  obtain ⟨a0, rfl, rfl, rfl, w0⟩ := open_int Tryd.underlying22 (hval 0 22 v0 rfl rfl) h0
  have b0 := bounds_u32 w0
  obtain ⟨a1, rfl, rfl, rfl, w1⟩ := open_int Tryd.underlying22 (hval 1 22 v1 rfl rfl) h1
  have b1 := bounds_u32 w1
  obtain ⟨a2, rfl, rfl, rfl, w2⟩ := open_int Tryd.underlying22 (hval 2 22 v2 rfl rfl) h2
  have b2 := bounds_u32 w2
  clear hA0
  simp only [List.append_nil] at hW'
  refine (walk a0 a1 a2 W hT (by omega) (by omega) (by omega) (by omega) (by omega) (by omega)).mono fun e W' ⟨he, bel⟩ => ?_
  subst he
  exact ⟨_, rfl, _, _, _, [], _, [], hW', trodAll_mk1 (shut_bool Tryd.underlying4 _), (trodAll_cons_mk (shut_int Tryd.underlying22 w0) (trodAll_cons_mk (shut_int Tryd.underlying22 w1) (trodAll_cons_mk (shut_int Tryd.underlying22 w2) trodAll_mk0))), rfl, bel.frame _, fun h => by cases h⟩

set_option maxRecDepth 100000 in
theorem lifted (os : Os) (started : os.Started) (H : Type) (enc : TypeId × Value → H) :
    ReturnsInHanded {} Tryd.checked os 5 .any (fun w args => (Rows.prefixOnceSpec.pre enc Tryd.prog Tryd.f5 Rows.prefixOnceRow.domain false w args ∧ laidMetH Tryd.prog Rows.prefixOnceRow.laid w) ∧ sizedMet enc Tryd.prog Tryd.f5 (OpenSpec.ofChange Rows.prefixOnceSpec) false w args)
      (Rows.prefixOnceSpec.post enc Tryd.prog Tryd.f5 false true false false) := by
  refine returnsInHanded_of_change_and (C := Tryd.checked) (X := fun w _ => laidMetH Tryd.prog Rows.prefixOnceRow.laid w) (fun _ _ _ hh h => h.of_heap hh) own started (by kernel_rfl) Tryd.func5
    (ChangeSpec.witness_shaped (enc := enc) (C := Tryd.checked) (os := os) (X := fun w _ => laidMetH Tryd.prog Rows.prefixOnceRow.laid w) false (World.laidAll Tryd.prog os Rows.prefixOnceRow.laid) #[.int .u32 0, .int .u32 0, .int .u32 0] 8 (World.laidAll_os _ _ _)
      (World.shaped_of_ZipB (by kernel_rfl) (by kernel_rfl)) (by kernel_rfl) (by kernel_rfl) (by kernel_rfl)
      (by rw [MakeChecks.laidMetH_plain _ _ _ (by kernel_rfl)]; exact laidMet_laidAll _ (by kernel_rfl) (by kernel_rfl))) ?_
  intro W base args ds gs before hval hW _ _ hL _
  have hL' : laidMet Tryd.prog Rows.prefixOnceRow.laid W := by
    rw [MakeChecks.laidMetH_plain _ _ _ (by kernel_rfl)] at hL
    exact hL
  exact contract H enc W base args ds gs before hval hW (tabOf rfl hL')

theorem said : Rows.PrefixOnceSaid :=
  OpenClaim.holds_of_wide 5 Tryd.f5 rfl rfl rfl rfl rfl rfl rfl ⟨rfl, rfl, rfl, rfl, rfl⟩ rfl rfl rfl rfl rfl (by kernel_rfl) Tryd.func5 (by kernel_rfl)
    (of_decide_eq_true (by kernel_rfl)) (by unfold Func.isWrapper; first | (rw [if_pos (by decide +kernel)]; kernel_rfl) | (rw [if_neg (by decide +kernel)]; exact ⟨rfl, rfl⟩))
    (fun os started H enc _ => lifted os started H enc)

theorem plain (f : FuncId) (fn : Func) (hf : Tryd.pinned.checked.prog.funcNamed Rows.prefixOnceRow.func = some f) (hfn : Tryd.pinned.checked.prog.funcs[f]? = some fn) :
    (Tryd.pinned.checked.prog.looks [] = Tryd.pinned.checked.prog.looks []) ∧ ∀ (j : Nat) t, fn.params[j]? = some t → Tryd.pinned.checked.prog.wantsStandIn t = false := by
  obtain rfl : f = 5 := Option.some.inj ((show Tryd.prog.funcNamed Rows.prefixOnceRow.func = some 5 by kernel_rfl).symm.trans hf) |>.symm
  obtain rfl : fn = Tryd.f5 := (Option.some.inj (Tryd.func5.symm.trans hfn)).symm
  refine ⟨rfl, fun j t ht => ?_⟩
  rw [Tryd.params5] at ht
  have hm : t ∈ [22, 22, 22] := by simpa using Array.mem_of_getElem? ht
  have hall : ([22, 22, 22].all fun u => !Tryd.prog.wantsStandIn u) = true := by kernel_rfl
  exact (show Tryd.prog.wantsStandIn t = false by simpa using List.all_eq_true.1 hall t hm)
theorem card : Rows.PrefixOnceCardSaid :=
  Claim7.holds_tied_plain_at .later [] _ _ _ _ said (fun _ h => by cases h) (by kernel_rfl) (fun _ h => by cases h) prefixOnce_row_tie rfl ⟨rfl, rfl⟩ (by kernel_rfl) rfl (fun f fn hf hfn => ⟨by kernel_rfl, (plain f fn hf hfn).2⟩) (by kernel_rfl)
end Go.Proofs.YtnkhafkdmlfdbaaDoor.prefixOnce
namespace Go.Proofs.YtnkhafkdmlfdbaaDoor
theorem prefixOnce_card : Rows.PrefixOnceCardSaid := prefixOnce.card
end Go.Proofs.YtnkhafkdmlfdbaaDoor
