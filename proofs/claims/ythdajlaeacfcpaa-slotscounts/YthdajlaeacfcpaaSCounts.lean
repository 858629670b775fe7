/-
  The law SlotsCounts returns true for every table, tick and tenant: over a whole table the ticks are as the table has them. No condition.
-/
import Derived.Test.YthdajlaeacfcpaaSlPg
import Derived.Test.YthdajlaeacfcpaaObDraw
import Derived.Deep.Cut
import Derived.BigQuiet
import Derived.Test.YthdajlaeacfcpaaSlOpen
import Derived.LaidLaws
namespace Go.Proofs.Ythdajlaeacfcpaa.slotsCounts
set_option maxRecDepth 100000
open Go.ChangeShapes Go.WideShapes Go.ChangeAt Go.RowKit
open Go.ChangeMaps (open_string shut_string)

theorem own_tab {l : List Int} {who : Int} (h : 0 ≤ who) {i : Nat} (hi : i < l.length) : prp l who i = decide (l.getD i 0 = who) := by
  unfold prp ownV
  rw [if_neg (by omega), Int.toNat_natCast, Nat.mod_eq_of_lt hi]
  by_cases q : l.getD i 0 = who
  · rw [decide_eq_true q, decide_eq_true (by rw [q]; omega)]
  · rw [decide_eq_false q, decide_eq_false (by omega)]
theorem cnt_same {p q : Nat → Bool} : ∀ (k t : Nat), (∀ i, t ≤ i → i < t + k → p i = q i) → cntP p t k = cntP q t k
  | 0, _, _ => rfl
  | k + 1, t, h => by rw [cntP, cntP, h t (Nat.le_refl _) (by omega), cnt_same k (t + 1) fun i h1 h2 => h i (by omega) (by omega)]
theorem cnt_le (p : Nat → Bool) : ∀ k t, cntP p t k ≤ k
  | 0, _ => Nat.le_refl _
  | k + 1, t => by rw [cntP]; have := cnt_le p k (t + 1); split <;> omega
set_option maxHeartbeats 4000000 in
theorem walk (face : SlFace) (v : Value) (l : List Int) (t who : Int) (W : World) (hv : Tb W v l) :
    Calls Try.prog 6 #[v, .int .i64 t, .int .i64 who] W fun e w' => e = .returned (.bool true) ∧ Below W.heap.size W w' := by
  have WK := Lib.hid (works21_ok face W)
  have P1 : Hid (∀ w', Below W.heap.size W w' → ∀ t, In64 t → _) := fun w' b t ht => face.owner (hv.keep b) t ht
  have HV := Lib.hid hv
  obtain ⟨a, c, rfl⟩ := hv.slice
  have hz := hv.z
  obtain ⟨n, hn⟩ : ∃ n, n = l.length := ⟨_, rfl⟩
  have n64 : n ≤ 9223372036854775807 := by omega
  obtain ⟨F, hF1, hF2, hF3⟩ := place9 t 1152921504606846976 (by decide) (by decide)
  have hF4 : F < 1152921504606846976 := by omega
  have PQ : Hid (0 ≤ who → ∀ i, i < n → prp l who i = decide (l.getD i 0 = who)) := fun h i hi => own_tab h (by omega)
  have PE : Hid (Per (prp l who) n) := by rw [hn]; exact prp_per l who
  have AT : Hid (∀ w', Below W.heap.size W w' → ∀ i : Nat, i < n → ∃ g o, a = some ⟨g, o, none⟩ ∧ (∀ w', (Instr.indexAt 22 (.slice a n c) (.int .i64 (i : Int))).run Try.prog w' = .ok (.pointer (some ⟨g, o + i, none⟩)) w') ∧ w'.cell? ⟨g, o + i, none⟩ = some (.int .i64 (l.getD i 0))) := fun w' b i hi => by
    obtain ⟨g, o, e, h1, h2⟩ := (HV.out.keep b).at i (by omega)
    rw [← hn] at h1
    exact ⟨g, o, e, fun w' => h1 w' _ rfl, h2⟩
  have OV : Hid (∀ i : Nat, prp l who i = decide (ownV l (i : Int) = who)) := fun i => rfl
  rw [← hn] at P1 ⊢
  clear hv hz hn face HV hF3
  replace hF1 := Lib.hid hF1
  replace hF2 := Lib.hid hF2
  go_enter Try.func6, Try.ntmps6
  go_wp2_with fail
  refine WK.out.mono ?_
  rintro e w0 ⟨rfl, b0⟩
  clear WK
  replace b0 := Lib.hid b0
  by_cases h3 : 300 < n
  · have q1 : decide (300 < n) = true := decide_eq_true h3
    have q2 : decide ((300 : Int) < (n : Int)) = true := decide_eq_true (by omega)
    go_wp2_with fail
    go_ret
    exact ⟨rfl, b0.out⟩
  have q1 : decide (300 < n) = false := decide_eq_false h3
  have q2 : decide ((300 : Int) < (n : Int)) = false := decide_eq_false (by omega)
  by_cases h4 : who < 0
  · have q3 : decide (who < 0) = true := decide_eq_true h4
    go_wp2_with fail
    go_ret
    exact ⟨rfl, b0.out⟩
  have q3 : decide (who < 0) = false := decide_eq_false h4
  have PQ2 := Lib.hid (PQ.out (by omega))
  have hn3 : n ≤ 300 := by omega
  replace hF1 := hF1.out
  replace hF2 := hF2.out
  go_upto_region 6 with fail
  clear q1 q2 q3 hF1 hF2 h3 h4 PQ
  obtain ⟨p, hp⟩ : ∃ p : Nat → Bool, p = fun i => decide (l.getD i 0 = who) := ⟨_, rfl⟩
  have PP : Hid (∀ i, p i = decide (l.getD i 0 = who)) := fun i => by rw [hp]
  have PS : Hid (cntP p 0 n = cntP (prp l who) F n) := by
    unfold Hid
    rw [cnt_turn PE.out F]
    exact cnt_same n 0 fun i _ h2 => by rw [PP.out, PQ2.out i (by omega)]
  clear hp PQ2 PE
  go_wp2_with fail
  go_loopg [7, 8] n (fun g' s7 s8 wr => ∃ i : Nat, i + g' = n ∧ s7 = .int .i64 (cntP p 0 i) ∧ s8 = .int .i64 i ∧ w0 = wr)
  case atStart => exact ⟨0, by omega, rfl, rfl, rfl⟩
  case round =>
    obtain ⟨i, hi, rfl, rfl, rfl⟩ := hrel
    by_cases hlt : i < n
    · have q1 : decide (i < n) = true := decide_eq_true hlt
      have q2 : decide ((i : Int) < (n : Int)) = true := decide_eq_true (by omega)
      have wi : Hid (wrap64 ((i : Int) + 1) = (i : Int) + 1) := wrap_in rfl (by omega) (by omega)
      have gi : Hid (i + 1 + (n - (i + 1)) = n) := by unfold Hid; omega
      have gm : Hid (n - (i + 1) < gk) := by unfold Hid; omega
      obtain ⟨g, o, rfl, ia, ca⟩ := AT.out w0 b0.out i hlt
      have hpi := PP.out i
      have hc := cnt_last p i 0
      rw [Nat.zero_add] at hc
      have hle := cnt_le p i 0
      obtain ⟨cv, hcv⟩ : ∃ cv, cv = cntP p 0 i := ⟨_, rfl⟩
      rw [← hcv] at hc hle ⊢
      obtain ⟨x, hx⟩ : ∃ x, x = l.getD i 0 := ⟨_, rfl⟩
      rw [← hx] at ca hpi
      by_cases hxw : x = who
      · have e1 : (x == who) = true := by simp [hxw]
        have e2 : decide (x = who) = true := decide_eq_true hxw
        rw [hpi, e2, if_pos rfl] at hc
        have wc : Hid (wrap64 ((cv : Int) + 1) = ((cntP p 0 (i + 1) : Nat) : Int)) := wrap_in (by omega) (by omega) (by omega)
        clear hc hle hcv hx hpi hi hn3 n64 hF4 PS P1 AT OV PP
        go_upto_region 9 with fail
        clear q1 q2 hlt ia ca e1 e2 hxw
        replace wi := wi.out
        go_wp2_with fail
        go_roundg (n - (i + 1))
        case measure => exact gm.out
        case rel => exact ⟨i + 1, gi.out, by rw [wc.out], by go_num, rfl⟩
      · have e1 : (x == who) = false := by simp [hxw]
        have e2 : decide (x = who) = false := decide_eq_false hxw
        rw [hpi, e2] at hc
        have wc : Hid (Value.int .i64 (cv : Int) = .int .i64 ((cntP p 0 (i + 1) : Nat) : Int)) := by unfold Hid; rw [hc]; simp
        clear hc hle hcv hx hpi hi hn3 n64 hF4 PS P1 AT OV PP
        go_upto_region 9 with fail
        clear q1 q2 hlt ia ca e1 e2 hxw
        replace wi := wi.out
        go_wp2_with fail
        go_roundg (n - (i + 1))
        case measure => exact gm.out
        case rel => exact ⟨i + 1, gi.out, wc.out, by go_num, rfl⟩
    · obtain rfl : i = n := by omega
      have q1 : decide (i < i) = false := decide_eq_false hlt
      have q2 : decide ((i : Int) < (i : Int)) = false := decide_eq_false (by omega)
      clear hi hlt AT PP
      obtain ⟨cn, hcn⟩ : ∃ cn, cn = cntP p 0 i := ⟨_, rfl⟩
      rw [← hcn] at PS ⊢
      clear hcn
      go_wp2_with fail
      clear q1 q2
      go_loopg [9, 10] i (fun g' s9 s10 wr => ∃ j : Nat, j + g' = i ∧ s9 = .int .i64 (cntP (prp l who) F j) ∧ s10 = .int .i64 j ∧ Hid (Below W.heap.size W wr))
      case atStart => exact ⟨0, by omega, rfl, rfl, b0⟩
      case round =>
        clear b0
        obtain ⟨j, hj, rfl, rfl, b⟩ := hrel
        by_cases hlt : j < i
        · have q1 : decide (j < i) = true := decide_eq_true hlt
          have q2 : decide ((j : Int) < (i : Int)) = true := decide_eq_true (by omega)
          have wi : Hid (wrap64 ((j : Int) + 1) = (j : Int) + 1) := wrap_in rfl (by omega) (by omega)
          have wt : Hid (wrap64 ((F : Int) + (j : Int)) = ((F + j : Nat) : Int)) := wrap_in (by omega) (by omega) (by omega)
          have gi : Hid (j + 1 + (i - (j + 1)) = i) := by unfold Hid; omega
          have gm : Hid (i - (j + 1) < gk) := by unfold Hid; omega
          have C := Lib.hid (P1.out _ b.out ((F + j : Nat) : Int) (by unfold In64; omega))
          have hc := cnt_last (prp l who) j F
          have hle := cnt_le (prp l who) j F
          have hpi := OV.out (F + j)
          obtain ⟨cv, hcv⟩ : ∃ cv, cv = cntP (prp l who) F j := ⟨_, rfl⟩
          rw [← hcv] at hc hle ⊢
          obtain ⟨x, hx⟩ : ∃ x, x = ownV l ((F + j : Nat) : Int) := ⟨_, rfl⟩
          rw [← hx] at C hpi
          obtain ⟨ti, hti⟩ : ∃ m : Nat, m = F + j := ⟨_, rfl⟩
          rw [← hti] at C wt hpi hc
          replace b := b.out
          by_cases hxw : x = who
          · have e1 : (x == who) = true := by simp [hxw]
            have e2 : decide (x = who) = true := decide_eq_true hxw
            rw [hpi, e2, if_pos rfl] at hc
            have wc : Hid (wrap64 ((cv : Int) + 1) = ((cntP (prp l who) F (j + 1) : Nat) : Int)) := wrap_in (by omega) (by omega) (by omega)
            replace b := Lib.hid b
            clear hc hle hcv hx hpi hj hn3 n64 hF4 PS P1 OV hti
            replace wt := wt.out
            go_wp2_with fail
            refine C.out.mono ?_
            rintro e w5 ⟨rfl, d5⟩
            have b5 := Lib.hid (b.out.trans (d5.mono b.out.size))
            clear C d5 b
            go_upto_region 15 with fail
            clear q1 q2 hlt e1 e2 hxw wt
            replace wi := wi.out
            go_wp2_with fail
            go_roundg (i - (j + 1))
            case measure => exact gm.out
            case rel => exact ⟨j + 1, gi.out, by rw [wc.out], by go_num, b5⟩
          · have e1 : (x == who) = false := by simp [hxw]
            have e2 : decide (x = who) = false := decide_eq_false hxw
            rw [hpi, e2] at hc
            have wc : Hid (Value.int .i64 (cv : Int) = .int .i64 ((cntP (prp l who) F (j + 1) : Nat) : Int)) := by unfold Hid; rw [hc]; simp
            replace b := Lib.hid b
            clear hc hle hcv hx hpi hj hn3 n64 hF4 PS P1 OV hti
            replace wt := wt.out
            go_wp2_with fail
            refine C.out.mono ?_
            rintro e w5 ⟨rfl, d5⟩
            have b5 := Lib.hid (b.out.trans (d5.mono b.out.size))
            clear C d5 b
            go_upto_region 15 with fail
            clear q1 q2 hlt e1 e2 hxw wt
            replace wi := wi.out
            go_wp2_with fail
            go_roundg (i - (j + 1))
            case measure => exact gm.out
            case rel => exact ⟨j + 1, gi.out, wc.out, by go_num, b5⟩
        · obtain rfl : j = i := by omega
          have q1 : decide (j < j) = false := decide_eq_false hlt
          have q2 : decide ((j : Int) < (j : Int)) = false := decide_eq_false (by omega)
          have ps := PS.out
          rw [← ps]
          have ee : ((cn : Int) == (cn : Int)) = true := by simp
          replace b := Lib.hid b.out
          clear hj hlt ps PS OV P1
          go_wp2_with fail
          go_ret
          exact ⟨rfl, b.out⟩

theorem contract (H : Type) (enc : TypeId × Value → H) (W : World) (base : Nat) (args : Array Value) (ds gs : List (DataW H)) (before : List MemPlace)
    (hval : ∀ (j : Nat) t v, Try.f6.params[j]? = some t → args[j]? = some v → Value.okWide Try.prog W .any base t v)
    (hW : DataW.Whole enc Try.prog Try.f6.params.toList Rows.slotsCountsSpec.vars false W args.toList ds gs before)
    (hsz : (DataW.weightsEach Try.prog (Try.f6.params.toList ++ (OpenSpec.ofChange Rows.slotsCountsSpec).bare.plain.varTypes Try.prog) (ds ++ gs)).all (· ≤ reachBytes) = true) :
    Calls Try.prog 6 args W fun e W' => ∃ v, e = .returned v ∧ Rows.slotsCountsSpec.post enc Try.prog Try.f6 false true false false W args v W' := by
  have hW' := hW
  obtain ⟨p, q, hA0, hV, rfl, hfz, hnd⟩ := hW
  have hA : DataW.TrodAll enc Try.prog W 0 (fun _ => true) true Try.f6.params.toList args.toList ds p := hA0
  rw [Try.params6] at hA hval hsz
  obtain ⟨v0, vs0, d0, ds0, p0, q0, hargs, rfl, rfl, h0, r0⟩ := trodAll_cons hA
  obtain ⟨v1, vs1, d1, ds1, p1, q1, rfl, rfl, rfl, h1, r1⟩ := trodAll_cons r0
  obtain ⟨v2, vs2, d2, ds2, p2, q2, rfl, rfl, rfl, h2, r2⟩ := trodAll_cons r1
  obtain ⟨rfl, rfl, rfl⟩ := trodAll_nil r2
  obtain rfl : args = #[v0, v1, v2] := by cases args; simp_all
  obtain ⟨rfl, rfl⟩ := trodVars_none hV
  have k0 := h0
  have lt0 : ∀ x ∈ p0, x.block < W.heap.size := by obtain ⟨m, hm⟩ := k0; exact DataW.trod_lt m _ _ _ hm
  obtain ⟨l0, hs0, hz0, hb0⟩ := open_nums (hval 0 22 v0 rfl rfl) h0 (fun n hn => by simpa using List.all_eq_true.1 hsz _ (DataW.weights_mem_each (j := 0) (t := 22) rfl rfl n hn))
  obtain ⟨a1, rfl, rfl, rfl, w1⟩ := open_int Try.underlying2 (hval 1 2 v1 rfl rfl) h1
  have b1 := bounds_i64 w1
  obtain ⟨a2, rfl, rfl, rfl, w2⟩ := open_int Try.underlying3 (hval 2 3 v2 rfl rfl) h2
  have b2 := bounds_i64 w2
  clear hA0
  simp only [List.append_nil] at hW'
  refine (walk face21 v0 l0 a1 a2 W ⟨hs0, by omega⟩).mono fun e W' ⟨he, bel⟩ => ?_
  subst he
  exact ⟨_, rfl, _, _, _, [], _, [], hW', trodAll_mk1 (shut_bool Try.underlying4 _), (trodAll_cons_mk (Below.trod laidOut (by kernel_rfl) (of_decide_eq_true (by kernel_rfl)) k0 bel lt0) (trodAll_cons_mk (shut_int Try.underlying2 w1) (trodAll_cons_mk (shut_int Try.underlying3 w2) trodAll_mk0))), rfl, bel.frame _, fun h => by cases h⟩

theorem laid_met (os : Os) : laidMet Try.prog Rows.slotsCountsRow.laid ((startWorld Try.prog os).forCall (fun _ _ => 0) ⟨#[], #[.slice none 0 0, .int .i64 0, .int .i64 0], []⟩).memory :=
  laidMet_of_run' 8 (by kernel_rfl) (by kernel_rfl)
theorem reads (os : Os) {H : Type} (enc : TypeId × Value → H) : ∃ places, DataW.whole enc Try.prog ((startWorld Try.prog os).forCall (fun _ _ => 0) ⟨#[], #[.slice none 0 0, .int .i64 0, .int .i64 0], []⟩).memory Try.f6.params.toList Rows.slotsCountsSpec.vars false #[Value.slice none 0 0, Value.int .i64 0, Value.int .i64 0].toList 8 = some ([.nil, .lit (.int .i64 0), .lit (.int .i64 0)], [], places) :=
  ⟨[], by kernel_rfl⟩

set_option maxRecDepth 100000 in
theorem lifted (os : Os) (started : os.Started) (H : Type) (enc : TypeId × Value → H) (F : Stop.Interp) :
    ReturnsInHanded {} Try.checked os 6 .any ((OpenSpec.ofChange Rows.slotsCountsSpec).preRow enc Try.prog Try.f6 Rows.slotsCountsRow.domain false Rows.slotsCountsRow.laid) (((OpenSpec.ofChange Rows.slotsCountsSpec).at F).post enc Try.prog Try.f6 false true false false) := by
  obtain ⟨places, hx⟩ := reads os enc
  refine returnsInHanded_of_row (C := Try.checked) (s := OpenSpec.ofChange Rows.slotsCountsSpec) own started (by kernel_rfl) Try.func6
    (witness_row_at (enc := enc) (C := Try.checked) false (startWorld Try.prog os) #[.slice none 0 0, .int .i64 0, .int .i64 0] rfl (by kernel_rfl) (by kernel_rfl) (by kernel_rfl)
      (OpenSpec.preRow_of_cond 8 hx (by kernel_rfl) (fun k hk => by cases hk) (by kernel_rfl) (laid_met os))) ?_
  intro W base args ds gs before hval hW _ _ hsz _ _ _
  exact contract H enc W base args ds gs before hval hW hsz

theorem said : Rows.SlotsCountsSaid :=
  OpenClaim.holds_of_cond 6 Try.f6 rfl rfl rfl rfl rfl rfl rfl ⟨rfl, rfl, rfl, rfl, rfl⟩ rfl rfl rfl rfl rfl (by kernel_rfl) Try.func6 (by kernel_rfl)
    (of_decide_eq_true (by kernel_rfl)) (by unfold Func.isWrapper; first | (rw [if_pos (by decide +kernel)]; kernel_rfl) | (rw [if_neg (by decide +kernel)]; exact ⟨rfl, rfl⟩))
    (fun os started H enc _ F => by rw [OpenClaim.pre_eq_preRow]; exact lifted os started H enc F)
end Go.Proofs.Ythdajlaeacfcpaa.slotsCounts
namespace Go.Proofs.Ythdajlaeacfcpaa
theorem slotsCounts_said : Rows.SlotsCountsSaid := slotsCounts.said
end Go.Proofs.Ythdajlaeacfcpaa
