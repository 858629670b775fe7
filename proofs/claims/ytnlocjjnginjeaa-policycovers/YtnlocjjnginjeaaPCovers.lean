/-
  The law PolicyCovers returns true for every rules and every packet: a packet that may go has an address in some route, where there are few; routes rise, and do not touch. No condition.
-/
import Derived.Test.YtnlocjjnginjeaaPoFace
import Derived.BigQuiet
import Derived.Deep.LoopGhost
import Derived.Test.YtnlocjjnginjeaaPoOpen
import Derived.LaidLaws
namespace Go.Proofs.Ytnlocjjnginjeaa.policyCovers
set_option maxRecDepth 100000
open Go.ChangeShapes Go.WideShapes Go.ChangeAt Go.RowKit
open Go.ChangeMaps (open_string shut_string)

def inB (fd : List (Int × Int)) (a : Int) : Bool := fd.any fun x => decide (x.1 ≤ a) && decide (a ≤ x.2)
theorem inB_take (fd : List (Int × Int)) (a : Int) (k : Nat) (hk : k < fd.length) : inB (fd.take (k + 1)) a = (inB (fd.take k) a || (decide ((fd.getD k (0, 0)).1 ≤ a) && decide (a ≤ (fd.getD k (0, 0)).2))) := by
  unfold inB
  rw [List.take_add_one, List.any_append, List.getElem?_eq_getElem hk, List.getD_eq_getElem?_getD, List.getElem?_eq_getElem hk]
  simp
theorem inB_in {fd : List (Int × Int)} {a : Int} (h : InS fd a) : inB fd a = true := by
  obtain ⟨x, hx, h1, h2⟩ := h
  unfold inB
  rw [List.any_eq_true]
  exact ⟨x, hx, by rw [decide_eq_true h1, decide_eq_true h2]; rfl⟩
set_option maxHeartbeats 16000000 in
theorem walk (v : Value) (l : List Ru) (p a q : Int) (w : World) (h : RusAt w v l) (hz : l.length * 48 ≤ 140737488351232) (HB : ∀ r ∈ l, RuB r) (b0 : 0 ≤ a) (b1 : a < 4294967296) :
    Calls Try.prog 5 #[v, .int .i64 p, .int .u32 a, .int .i64 q] w fun e w' => e = .returned (.bool true) ∧ Below w.heap.size w w' := by
  have hl : l.length ≤ 9223372036854775807 := by omega
  have WK := Lib.hid (works18_ok w)
  have O := Lib.hid fun w' (b : Below w.heap.size w w') => own_ok l v w' (h.keep b) (by omega)
  have P1 := Lib.hid fun v' w' (h' : RusAt w' v' l) => routes_ok l v' w' h' HB hl
  have A1 := Lib.hid fun v' w' (h' : RusAt w' v' l) => allow_ok l v' p a q b0 b1 w' h' HB hl
  have WFH : Hid (∀ fd, RtsOf l fd → WF fd) := fun fd r => r.wf HB
  have COV : Hid (∀ fd, RtsOf l fd → fd.length < 16 → 1 ≤ p → p ≤ 255 → 0 ≤ q → q ≤ 65535 → inB fd a = false → alw l p a q = false) := fun fd r h1 h2 h3 h4 h5 h6 => by
    cases hA : alw l p a q with
    | false => rfl
    | true =>
      rw [inB_in (r.cov HB h1 h2 h3 h4 h5 b0 b1 hA)] at h6
      cases h6
  obtain ⟨ad, cap, hv, -, -⟩ := h
  clear HB hz hl
  generalize l.length = nl at hv
  subst hv
  obtain ⟨Y, hY⟩ : ∃ Y, Y = alw l p a q := ⟨_, rfl⟩
  rw [← hY] at A1 COV
  clear hY
  go_enter Try.func5, Try.ntmps5
  go_wp2_with fail
  refine WK.out.mono ?_
  rintro e w0 ⟨rfl, b00⟩
  replace b00 := Lib.hid b00
  go_wp2_with fail
  refine (O.out w0 b00.out).mono ?_
  rintro e w1 ⟨v1, rfl, o1, n1, b1'⟩
  obtain ⟨x1, c1, rfl⟩ := o1.slice
  have B1 := Lib.hid (b00.out.trans (b1'.mono b00.out.size))
  replace o1 := Lib.hid o1.rus
  clear b1' n1 b00 WK
  go_wp2_with fail
  refine (P1.out _ w1 o1.out).mono ?_
  rintro e w2 ⟨v2, fd, rfl, O2, b2, rt⟩
  have B2 := Lib.hid (B1.out.trans (b2.mono B1.out.size))
  obtain ⟨a2, c2, rfl⟩ := O2.slice
  have R2 := Lib.hid (O2.row kt_ok)
  have n16 := rt.len
  have W2 := Lib.hid (WFH.out fd rt)
  have C2 := Lib.hid (COV.out fd rt)
  clear B1 b2 o1 O2 P1 rt WFH COV
  obtain ⟨n, hn⟩ : ∃ n, n = fd.length := ⟨_, rfl⟩
  rw [← hn] at R2 n16 C2 ⊢
  have L2 : Hid (0 < n → ∃ g o, a2 = some ⟨g, o, none⟩ ∧ ∀ w', Below w2.heap.size w2 w' → ∀ i, i < n → w'.cell? ⟨g, o + 3 * i, none⟩ = some (.int .u32 (fd.getD i (0, 0)).1) ∧ w'.cell? ⟨g, o + 3 * i + 1, none⟩ = some (.int .u32 (fd.getD i (0, 0)).2) ∧ w'.cell? ⟨g, o + 3 * i + 2, none⟩ = some (.int .i64 0)) := fun h0 => by
    obtain ⟨g, o, e, hg, c⟩ := rt_cells R2.out (by rw [← hn]; exact h0)
    exact ⟨g, o, e, fun w' b' i hi => ⟨(b'.cell hg).trans (c i (by rw [← hn]; exact hi)).1, (b'.cell hg).trans (c i (by rw [← hn]; exact hi)).2.1, (b'.cell hg).trans (c i (by rw [← hn]; exact hi)).2.2⟩⟩
  have TK : Hid (∀ k, k < n → inB (fd.take (k + 1)) a = (inB (fd.take k) a || (decide ((fd.getD k (0, 0)).1 ≤ a) && decide (a ≤ (fd.getD k (0, 0)).2)))) := fun k hk => inB_take fd a k (by rw [← hn]; exact hk)
  have WA : Hid (∀ i, i < n → 0 ≤ (fd.getD i (0, 0)).1 ∧ (fd.getD i (0, 0)).1 ≤ (fd.getD i (0, 0)).2 ∧ (fd.getD i (0, 0)).2 < 4294967296 ∧ (0 < i → (fd.getD (i - 1) (0, 0)).2 + 1 < (fd.getD i (0, 0)).1 ∧ 0 ≤ (fd.getD (i - 1) (0, 0)).2)) := fun i hi => W2.out.at (by rw [← hn]; exact hi)
  replace hn := Lib.hid hn
  clear R2 W2
  go_wp2_with fail
  go_loopg [10, 11] n (fun g' s10 s11 wr => ∃ (k : Nat) (B : Bool), s10 = .bool B ∧ s11 = .int .i64 (k : Int) ∧ k + g' = n ∧ Hid (inB (fd.take k) a = B) ∧ Hid (Below w2.heap.size w2 wr))
  case atStart => exact ⟨0, false, rfl, rfl, by omega, rfl, Below.refl _ _⟩
  case round =>
    obtain ⟨k, B, rfl, rfl, hkg, hB, b⟩ := hrel
    by_cases hlt : k < n
    · have g1 : decide ((k : Int) < (n : Int)) = true := decide_eq_true (by omega)
      have g1' : decide (k < n) = true := decide_eq_true hlt
      obtain ⟨ga, oa, rfl, CA⟩ := L2.out (by omega)
      have CD : Hid (∀ m, (wr.drewN m).cell? ⟨ga, oa + 3 * k, none⟩ = some (.int .u32 (fd.getD k (0, 0)).1) ∧ (wr.drewN m).cell? ⟨ga, oa + 3 * k + 1, none⟩ = some (.int .u32 (fd.getD k (0, 0)).2)) := fun m => by
        have := CA (wr.drewN m) (b.out.trans ⟨rfl, rfl, rfl, Nat.le_refl _, fun _ _ => rfl⟩) k hlt
        exact ⟨this.1, this.2.1⟩
      obtain ⟨m0, m1, m2⟩ := CA wr b.out k hlt
      have ia := fun w' => at_ro ga oa n c2 k w' hlt (k : Int) rfl (oa + 3 * k) rfl
      have wa := WA.out k hlt
      have tk := Lib.hid (TK.out k hlt)
      have pm : 0 < k → ∃ hp, wr.cell? ⟨ga, oa + 3 * (k - 1) + 1, none⟩ = some (.int .u32 hp) ∧ hp + 1 < (fd.getD k (0, 0)).1 ∧ 0 ≤ hp := fun h0 => ⟨_, (CA wr b.out (k - 1) (by omega)).2.1, (wa.2.2.2 h0).1, (wa.2.2.2 h0).2⟩
      replace pm := Lib.hid pm
      obtain ⟨lo, hlo⟩ : ∃ lo, lo = (fd.getD k (0, 0)).1 := ⟨_, rfl⟩
      obtain ⟨hi, hhi⟩ : ∃ hi, hi = (fd.getD k (0, 0)).2 := ⟨_, rfl⟩
      rw [← hlo, ← hhi] at CD tk
      rw [← hlo] at m0 pm wa
      rw [← hhi] at m1 wa
      clear hlo hhi CA
      have wa1 := wa.1
      have wa2 := wa.2.1
      have wa3 := wa.2.2.1
      clear wa
      have y0 : decide (hi < lo) = false := decide_eq_false (by omega)
      have y2 : ((0 : Int) != 0) = false := by decide
      have wl : IntKind.i64.wrap lo = lo := by simp [IntKind.wrap, IntKind.bits, IntKind.signed]; omega
      have bd : Hid (∀ m, Below w2.heap.size w2 (wr.drewN m)) := fun m => b.out.trans ⟨rfl, rfl, rfl, Nat.le_refl _, fun _ _ => rfl⟩
      go_upto_region 8 with fail
      by_cases h0 : 0 < k
      case' pos =>
        have y1 : decide ((0 : Int) < (k : Int)) = true := decide_eq_true (by omega)
        have y1' : decide (0 < k) = true := decide_eq_true h0
        obtain ⟨hp, m3, q1, q2⟩ := pm.out h0
        have wh : IntKind.i64.wrap hp = hp := by simp [IntKind.wrap, IntKind.bits, IntKind.signed]; omega
        have wh1 : wrap64 (hp + 1) = hp + 1 := by unfold wrap64; omega
        have y3 : decide (lo ≤ hp + 1) = false := decide_eq_false (by omega)
        have ip := fun w' => at_ro ga oa n c2 (k - 1) w' (by omega) ((k : Int) - 1) (by omega) (oa + 3 * (k - 1)) rfl
        go_quiet (fail)
        clear y1 y1' m3 wh wh1 y3 ip
      case' neg =>
        have y1 : decide ((0 : Int) < (k : Int)) = false := decide_eq_false (by omega)
        have y1' : decide (0 < k) = false := decide_eq_false h0
        go_quiet (fail)
        clear y1 y1'
      all_goals
        obtain ⟨e0, e1⟩ := CD.out nq
        have bq := Lib.hid (bd.out nq)
        have tk2 : Hid (inB (fd.take (k + 1)) a = (B || (decide (lo ≤ a) && decide (a ≤ hi)))) := tk.out.trans (by rw [hB.out])
        clear CD m0 m1 m2 pm y0 y2 wl tk hB bd
        obtain ⟨w5, hw5⟩ : ∃ w5, w5 = wr.drewN nq := ⟨_, rfl⟩
        rw [← hw5] at e0 e1 bq ⊢
        clear hw5
        cases B
        · obtain ⟨T1, d1⟩ : ∃ T1, decide (lo ≤ a) = T1 := ⟨_, rfl⟩
          obtain ⟨T2, d2⟩ : ∃ T2, decide (a ≤ hi) = T2 := ⟨_, rfl⟩
          rw [d1, d2] at tk2
          cases T1
          · clear d2
            go_wp2_with fail
            go_roundg (n - (k + 1))
            case measure => omega
            case rel => exact ⟨k + 1, _, rfl, by go_num, by omega, tk2.out, bq.out⟩
          · have tk3 : Hid (inB (fd.take (k + 1)) a = T2) := tk2.out.trans (by rfl)
            go_wp2_with fail
            go_roundg (n - (k + 1))
            case measure => omega
            case rel => exact ⟨k + 1, _, rfl, by go_num, by omega, tk3.out, bq.out⟩
        · have tk3 : Hid (inB (fd.take (k + 1)) a = true) := tk2.out.trans (by rfl)
          go_wp2_with fail
          go_roundg (n - (k + 1))
          case measure => omega
          case rel => exact ⟨k + 1, _, rfl, by go_num, by omega, tk3.out, bq.out⟩
    · obtain rfl : k = n := by omega
      have g1 : decide ((k : Int) < (k : Int)) = false := decide_eq_false (by omega)
      have g1' : decide (k < k) = false := decide_eq_false hlt
      have hB2 : Hid (inB fd a = B) := by
        show _ = _
        rw [← hB.out, hn.out, List.take_length]
      have B5 := Lib.hid (B2.out.trans (b.out.mono B2.out.size))
      have b16 : decide ((k : Int) ≤ 16) = true := decide_eq_true (by omega)
      have b16' : decide (k ≤ 16) = true := decide_eq_true n16
      clear L2 TK WA b hB
      by_cases h1 : 16 ≤ k
      · have d1 : decide ((16 : Int) ≤ (k : Int)) = true := decide_eq_true (by omega)
        have d1' : decide (16 ≤ k) = true := decide_eq_true h1
        go_wp2_with fail
        go_ret
        exact ⟨rfl, B5.out⟩
      have d1 : decide ((16 : Int) ≤ (k : Int)) = false := decide_eq_false (by omega)
      have d1' : decide (16 ≤ k) = false := decide_eq_false h1
      by_cases h2 : p < 1
      · have d2 : decide (p < 1) = true := decide_eq_true h2
        go_wp2_with fail
        go_ret
        exact ⟨rfl, B5.out⟩
      have d2 : decide (p < 1) = false := decide_eq_false h2
      by_cases h3 : 255 < p
      · have d3 : decide (255 < p) = true := decide_eq_true h3
        go_wp2_with fail
        go_ret
        exact ⟨rfl, B5.out⟩
      have d3 : decide (255 < p) = false := decide_eq_false h3
      by_cases h4 : q < 0
      · have d4 : decide (q < 0) = true := decide_eq_true h4
        go_wp2_with fail
        go_ret
        exact ⟨rfl, B5.out⟩
      have d4 : decide (q < 0) = false := decide_eq_false h4
      by_cases h5 : 65535 < q
      · have d5 : decide (65535 < q) = true := decide_eq_true h5
        go_wp2_with fail
        go_ret
        exact ⟨rfl, B5.out⟩
      have d5 : decide (65535 < q) = false := decide_eq_false h5
      have YF : Hid (inB fd a = false → Y = false) := C2.out (by omega) (by omega) (by omega) (by omega) (by omega)
      clear h1 h2 h3 h4 h5 C2 n16
      cases B
      · have yf := Lib.hid (YF.out hB2.out)
        clear YF hB2
        go_wp2_with fail
        refine (O.out _ B5.out).mono ?_
        rintro e w6 ⟨v6, rfl, o6, n6, b6⟩
        obtain ⟨x6, c6, rfl⟩ := o6.slice
        have B6 := Lib.hid (B5.out.trans (b6.mono B5.out.size))
        replace o6 := Lib.hid o6.rus
        clear b6 n6 B5 O
        go_wp2_with fail
        refine (A1.out _ w6 o6.out).mono ?_
        rintro e w7 ⟨rfl, b7⟩
        have B7 := Lib.hid (B6.out.trans (b7.mono B6.out.size))
        clear b7 B6 o6 A1
        obtain rfl : Y = false := yf.out
        go_wp2_with fail
        go_ret
        exact ⟨rfl, B7.out⟩
      · go_wp2_with fail
        go_ret
        exact ⟨rfl, B5.out⟩

theorem contract (H : Type) (enc : TypeId × Value → H) (W : World) (base : Nat) (args : Array Value) (ds gs : List (DataW H)) (before : List MemPlace)
    (hval : ∀ (j : Nat) t v, Try.f5.params[j]? = some t → args[j]? = some v → Value.okWide Try.prog W .any base t v)
    (hW : DataW.Whole enc Try.prog Try.f5.params.toList Rows.policyCoversSpec.vars false W args.toList ds gs before)
    (hsz : (DataW.weightsEach Try.prog (Try.f5.params.toList ++ (OpenSpec.ofChange Rows.policyCoversSpec).bare.plain.varTypes Try.prog) (ds ++ gs)).all (· ≤ reachBytes) = true) :
    Calls Try.prog 5 args W fun e W' => ∃ v, e = .returned v ∧ Rows.policyCoversSpec.post enc Try.prog Try.f5 false true false false W args v W' := by
  have hW' := hW
  obtain ⟨p, q, hA0, hV, rfl, hfz, hnd⟩ := hW
  have hA : DataW.TrodAll enc Try.prog W 0 (fun _ => true) true Try.f5.params.toList args.toList ds p := hA0
  rw [Try.params5] at hA hval hsz
  obtain ⟨v0, vs0, d0, ds0, p0, q0, hargs, rfl, rfl, h0, r0⟩ := trodAll_cons hA
  obtain ⟨v1, vs1, d1, ds1, p1, q1, rfl, rfl, rfl, h1, r1⟩ := trodAll_cons r0
  obtain ⟨v2, vs2, d2, ds2, p2, q2, rfl, rfl, rfl, h2, r2⟩ := trodAll_cons r1
  obtain ⟨v3, vs3, d3, ds3, p3, q3, rfl, rfl, rfl, h3, r3⟩ := trodAll_cons r2
  obtain ⟨rfl, rfl, rfl⟩ := trodAll_nil r3
  obtain rfl : args = #[v0, v1, v2, v3] := by cases args; simp_all
  obtain ⟨rfl, rfl⟩ := trodVars_none hV
  have k0 := h0
  have lt0 : ∀ x ∈ p0, x.block < W.heap.size := by obtain ⟨m, hm⟩ := k0; exact DataW.trod_lt m _ _ _ hm
  obtain ⟨l0, hs0, hz0, hb0⟩ := open_rus (hval 0 22 v0 rfl rfl) h0 (fun n hn => by simpa using List.all_eq_true.1 hsz _ (DataW.weights_mem_each (j := 0) (t := 22) rfl rfl n hn))
  obtain ⟨a1, rfl, rfl, rfl, w1⟩ := open_int Try.underlying3 (hval 1 3 v1 rfl rfl) h1
  have b1 := bounds_i64 w1
  obtain ⟨a2, rfl, rfl, rfl, w2⟩ := open_int Try.underlying23 (hval 2 23 v2 rfl rfl) h2
  have b2 := bounds_u32 w2
  obtain ⟨a3, rfl, rfl, rfl, w3⟩ := open_int Try.underlying3 (hval 3 3 v3 rfl rfl) h3
  have b3 := bounds_i64 w3
  clear hA0
  simp only [List.append_nil] at hW'
  refine (walk v0 l0 a1 a2 a3 W hs0 hz0 hb0 b2.1 (by omega)).mono fun e W' ⟨he, bel⟩ => ?_
  subst he
  exact ⟨_, rfl, _, _, _, [], _, [], hW', trodAll_mk1 (shut_bool Try.underlying4 _), (trodAll_cons_mk (Below.trod laidOut (by kernel_rfl) (of_decide_eq_true (by kernel_rfl)) k0 bel lt0) (trodAll_cons_mk (shut_int Try.underlying3 w1) (trodAll_cons_mk (shut_int Try.underlying23 w2) (trodAll_cons_mk (shut_int Try.underlying3 w3) trodAll_mk0)))), rfl, bel.frame _, fun h => by cases h⟩

theorem laid_met (os : Os) : laidMet Try.prog Rows.policyCoversRow.laid ((startWorld Try.prog os).forCall (fun _ _ => 0) ⟨#[], #[.slice none 0 0, .int .i64 0, .int .u32 0, .int .i64 0], []⟩).memory :=
  laidMet_of_run' 8 (by kernel_rfl) (by kernel_rfl)
theorem reads (os : Os) {H : Type} (enc : TypeId × Value → H) : ∃ places, DataW.whole enc Try.prog ((startWorld Try.prog os).forCall (fun _ _ => 0) ⟨#[], #[.slice none 0 0, .int .i64 0, .int .u32 0, .int .i64 0], []⟩).memory Try.f5.params.toList Rows.policyCoversSpec.vars false #[Value.slice none 0 0, Value.int .i64 0, Value.int .u32 0, Value.int .i64 0].toList 8 = some ([.nil, .lit (.int .i64 0), .lit (.int .u32 0), .lit (.int .i64 0)], [], places) :=
  ⟨[], by kernel_rfl⟩

set_option maxRecDepth 100000 in
theorem lifted (os : Os) (started : os.Started) (H : Type) (enc : TypeId × Value → H) (F : Stop.Interp) :
    ReturnsInHanded {} Try.checked os 5 .any ((OpenSpec.ofChange Rows.policyCoversSpec).preRow enc Try.prog Try.f5 Rows.policyCoversRow.domain false Rows.policyCoversRow.laid) (((OpenSpec.ofChange Rows.policyCoversSpec).at F).post enc Try.prog Try.f5 false true false false) := by
  obtain ⟨places, hx⟩ := reads os enc
  refine returnsInHanded_of_row (C := Try.checked) (s := OpenSpec.ofChange Rows.policyCoversSpec) own started (by kernel_rfl) Try.func5
    (witness_row_at (enc := enc) (C := Try.checked) false (startWorld Try.prog os) #[.slice none 0 0, .int .i64 0, .int .u32 0, .int .i64 0] rfl (by kernel_rfl) (by kernel_rfl) (by kernel_rfl)
      (OpenSpec.preRow_of_cond 8 hx (by kernel_rfl) (fun k hk => by cases hk) (by kernel_rfl) (laid_met os))) ?_
  intro W base args ds gs before hval hW _ _ hsz _ _ _
  exact contract H enc W base args ds gs before hval hW hsz

theorem said : Rows.PolicyCoversSaid :=
  OpenClaim.holds_of_cond 5 Try.f5 rfl rfl rfl rfl rfl rfl rfl ⟨rfl, rfl, rfl, rfl, rfl⟩ rfl rfl rfl rfl rfl (by kernel_rfl) Try.func5 (by kernel_rfl)
    (of_decide_eq_true (by kernel_rfl)) (by unfold Func.isWrapper; first | (rw [if_pos (by decide +kernel)]; kernel_rfl) | (rw [if_neg (by decide +kernel)]; exact ⟨rfl, rfl⟩))
    (fun os started H enc _ F => by rw [OpenClaim.pre_eq_preRow]; exact lifted os started H enc F)
end Go.Proofs.Ytnlocjjnginjeaa.policyCovers
namespace Go.Proofs.Ytnlocjjnginjeaa
theorem policyCovers_said : Rows.PolicyCoversSaid := policyCovers.said
end Go.Proofs.Ytnlocjjnginjeaa
