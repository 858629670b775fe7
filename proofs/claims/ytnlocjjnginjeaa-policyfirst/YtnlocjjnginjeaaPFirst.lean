/-
  The law PolicyFirst returns true for every rules, every others and every packet: rules behind a rule that fits change nothing; a rule that says no to all, ahead, lets nothing go. No condition.
-/
import Derived.Test.YtnlocjjnginjeaaPoFace
import Derived.Test.YtnlocjjnginjeaaPoOpen
import Derived.LaidLaws
namespace Go.Proofs.Ytnlocjjnginjeaa.policyFirst
set_option maxRecDepth 100000
open Go.ChangeShapes Go.WideShapes Go.ChangeAt Go.RowKit
open Go.ChangeMaps (open_string shut_string)

theorem sayL_app : ∀ (l m : List Ru) (p a q : Int), sayL (l ++ m) p a q = if l.any (fun r => fit r p a q) then sayL l p a q else sayL m p a q
  | [], m, p, a, q => by simp
  | r :: l, m, p, a, q => by
    rw [List.cons_append, sayL, sayL, sayL_app l m, List.any_cons]
    cases fit r p a q <;> simp
theorem sayL_none : ∀ {l : List Ru} {p a q : Int}, (l.any fun r => fit r p a q) = false → sayL l p a q = false
  | [], _, _, _, _ => rfl
  | r :: l, p, a, q, h => by
    rw [List.any_cons, Bool.or_eq_false_iff] at h
    rw [sayL, h.1]
    simpa using sayL_none h.2
theorem ruK_app {l m : List Ru} (h : ruK l = 0) (h' : ruK m = 0) (hl : l.length + m.length ≤ 32) : ruK (l ++ m) = 0 := by
  obtain ⟨_, h1⟩ := ruK_right.1 h
  obtain ⟨_, h2⟩ := ruK_right.1 h'
  refine ruK_right.2 ⟨by rw [List.length_append]; exact hl, fun r hr => ?_⟩
  rcases List.mem_append.1 hr with q | q
  · exact h1 r q
  · exact h2 r q
theorem alw_right {l : List Ru} (h : ruK l = 0) (p a q : Int) : alw l p a q = sayL l p a q := by unfold alw; rw [h]; rfl
theorem first_plain {l m : List Ru} (h : ruK l = 0) (h' : ruK m = 0) (hl : l.length + m.length ≤ 31) (p a q : Int) : alw (l ++ m) p a q = alw l p a q ∨ (alw l p a q = false ∧ alw (l ++ m) p a q = alw m p a q) := by
  rw [alw_right (ruK_app h h' (by omega)), alw_right h, alw_right h', sayL_app]
  cases hA : l.any fun r => fit r p a q with
  | true => exact .inl (by simp)
  | false => exact .inr ⟨sayL_none hA, by simp⟩
def ruN : Ru := ⟨false, 0, 0, 0, 0, 65535⟩
theorem ruN_b : RuB ruN := by constructor <;> decide
theorem no_plain (l : List Ru) {p a q : Int} (b0 : 0 ≤ a) (b1 : a < 4294967296) (q0 : 0 ≤ q) (q1 : q ≤ 65535) : alw (ruN :: l) p a q = false := by
  have hf : fit ruN p a q = true := by
    unfold fit con inP
    have e1 : rt ruN.ad ruN.bits = true := by decide
    have e2 : sz ruN.bits = 4294967296 := by decide
    have e3 : decide (ruN.ad ≤ a) = true := decide_eq_true b0
    have e4 : decide (a < ruN.ad + 4294967296) = true := decide_eq_true (by show a < 0 + 4294967296; omega)
    have e5 : decide (ruN.fr ≤ q) = true := decide_eq_true q0
    have e6 : decide (q ≤ ruN.up) = true := decide_eq_true q1
    rw [e1, e2, e3, e4, e5, e6]
    rfl
  unfold alw
  rw [sayL, if_pos hf]
  simp [ruN]
set_option maxHeartbeats 16000000 in
theorem walk (v u : Value) (l m : List Ru) (p a q : Int) (w : World) (h : RusAt w v l) (hz : l.length * 48 ≤ 140737488351232) (HB : ∀ r ∈ l, RuB r) (h' : RusAt w u m) (hz' : m.length * 48 ≤ 140737488351232) (HB' : ∀ r ∈ m, RuB r) (b0 : 0 ≤ a) (b1 : a < 4294967296) :
    Calls Try.prog 6 #[v, u, .int .i64 p, .int .u32 a, .int .i64 q] w fun e w' => e = .returned (.bool true) ∧ Below w.heap.size w w' := by
  have hl : l.length ≤ 9223372036854775807 := by omega
  have hl' : m.length ≤ 9223372036854775807 := by omega
  have WK := Lib.hid (works18_ok w)
  have O := Lib.hid fun w' (b : Below w.heap.size w w') => own_ok l v w' (h.keep b) (by omega)
  have O' := Lib.hid fun w' (b : Below w.heap.size w w') => own_ok m u w' (h'.keep b) (by omega)
  have RL := Lib.hid fun w' (b : Below w.heap.size w w') => h.keep b
  have RM := Lib.hid fun w' (b : Below w.heap.size w w') => h'.keep b
  have P1 := Lib.hid fun v' w' (h1 : RusAt w' v' l) => pchk18_ok l v' w' h1 HB hl
  have P2 := Lib.hid fun v' w' (h1 : RusAt w' v' m) => pchk18_ok m v' w' h1 HB' hl'
  have A1 := Lib.hid fun v' w' (h1 : RusAt w' v' l) => allow_ok l v' p a q b0 b1 w' h1 HB hl
  have A2 := Lib.hid fun v' w' (h1 : RusAt w' v' m) => allow_ok m v' p a q b0 b1 w' h1 HB' hl'
  have A3 := Lib.hid fun (hn : l.length + m.length ≤ 31) v' w' (h1 : RusAt w' v' (l ++ m)) => allow_ok (l ++ m) v' p a q b0 b1 w' h1 (fun r hr => (List.mem_append.1 hr).elim (HB r) (HB' r)) (by rw [List.length_append]; omega)
  have A4 := Lib.hid fun (hn : l.length + m.length ≤ 31) v' w' (h1 : RusAt w' v' (ruN :: l)) => allow_ok (ruN :: l) v' p a q b0 b1 w' h1 (fun r hr => (List.mem_cons.1 hr).elim (fun e => e ▸ ruN_b) (HB r)) (by rw [List.length_cons]; omega)
  have FP : Hid (ruK l = 0 → ruK m = 0 → l.length + m.length ≤ 31 → alw (l ++ m) p a q = alw l p a q ∨ (alw l p a q = false ∧ alw (l ++ m) p a q = alw m p a q)) := fun k1 k2 k3 => first_plain k1 k2 k3 p a q
  have NP : Hid (alw (ruN :: l) p a q = true → 0 ≤ q → q ≤ 65535 → False) := fun k1 k2 k3 => by rw [no_plain l b0 b1 k2 k3] at k1; cases k1
  obtain ⟨ad, cap, hv, -, -⟩ := h
  obtain ⟨ad', cap', hu, -, -⟩ := h'
  have CL : Hid (∀ w1 w2 v1, OwnK KR w2 w1.heap.size v1 l → Below w1.heap.size w1 w2 → Below w.heap.size w w2 → l.length + m.length ≤ 31 → ∃ v3 w3, (∀ z, (builtin .append #[22, 22] 22 z #[v1, u]).run Try.prog w2 = .ok (.value v3) w3) ∧ OwnK KR w3 w1.heap.size v3 (l ++ m) ∧ Below w1.heap.size w1 w3) := fun w1 w2 v1 h1 h2 h3 h4 => by
    obtain ⟨v3, w3, e, o3, g3, -, -⟩ := h1.cat kr_ok h2.size (RM.out w2 h3) (by show _ * 48 ≤ _; omega) (by unfold maxLen; omega) 22
    exact ⟨v3, w3, e, o3, h2.grown g3 h2.size fun k hk => (h1.lt k hk).1⟩
  have CN : Hid (∀ w1, Below w.heap.size w w1 → l.length + m.length ≤ 31 → ∃ v3 w3, (∀ z, (builtin .append #[22, 22] 22 z #[.slice (some ⟨w1.heap.size, 0, none⟩) 1 1, v]).run Try.prog (w1.alloc (.cells #[.bool false, .int .i64 0, .int .u32 0, .int .i64 0, .int .i64 0, .int .i64 65535] 40)) = .ok (.value v3) w3) ∧ OwnK KR w3 w1.heap.size v3 (ruN :: l) ∧ Below w1.heap.size w1 w3) := fun w1 h1 h4 => by
    have b9 : Below w1.heap.size w1 (w1.alloc (.cells #[.bool false, .int .i64 0, .int .u32 0, .int .i64 0, .int .i64 0, .int .i64 65535] 40)) := (Below.refl _ _).alloc (Nat.le_refl _) _
    have o1 : OwnK KR (w1.alloc (.cells #[.bool false, .int .i64 0, .int .u32 0, .int .i64 0, .int .i64 0, .int .i64 65535] 40)) w1.heap.size (.slice (some ⟨w1.heap.size, 0, none⟩) 1 1) [ruN] := OwnK.lit kr_ok w1 [ruN] (by simp [maxLen])
    obtain ⟨v3, w3, e, o3, g3, -, -⟩ := o1.cat kr_ok b9.size (RL.out _ (h1.trans (b9.mono h1.size))) (by show (1 + _) * 48 ≤ _; omega) (by show 1 + _ ≤ _; unfold maxLen; omega) 22
    exact ⟨v3, w3, e, o3, b9.grown g3 b9.size fun k hk => (o1.lt k hk).1⟩
  obtain ⟨N1, hN1⟩ : ∃ N1, N1 = l.length := ⟨_, rfl⟩
  obtain ⟨N2, hN2⟩ : ∃ N2, N2 = m.length := ⟨_, rfl⟩
  rw [← hN1] at hv
  rw [← hN2] at hu
  rw [← hN1, ← hN2] at A3 A4 FP CL CN
  rw [← hN1] at hz
  rw [← hN2] at hz'
  clear HB HB' hl hl' RL RM hN1 hN2
  subst hv hu
  obtain ⟨K1, hK1⟩ : ∃ K1, K1 = ruK l := ⟨_, rfl⟩
  obtain ⟨K2, hK2⟩ : ∃ K2, K2 = ruK m := ⟨_, rfl⟩
  obtain ⟨YA, hYA⟩ : ∃ YA, YA = alw l p a q := ⟨_, rfl⟩
  obtain ⟨YB, hYB⟩ : ∃ YB, YB = alw (l ++ m) p a q := ⟨_, rfl⟩
  obtain ⟨YC, hYC⟩ : ∃ YC, YC = alw m p a q := ⟨_, rfl⟩
  obtain ⟨YN, hYN⟩ : ∃ YN, YN = alw (ruN :: l) p a q := ⟨_, rfl⟩
  rw [← hK1] at P1 FP
  rw [← hK2] at P2 FP
  rw [← hYA] at A1 FP
  rw [← hYB] at A3 FP
  rw [← hYC] at A2 FP
  rw [← hYN] at A4 NP
  clear hK1 hK2 hYA hYB hYC hYN
  have wn : wrap64 ((N1 : Int) + (N2 : Int)) = (N1 : Int) + (N2 : Int) := by unfold wrap64; omega
  go_enter Try.func6, Try.ntmps6
  go_wp2_with fail
  refine WK.out.mono ?_
  rintro e w0 ⟨rfl, B0⟩
  replace B0 := Lib.hid B0
  clear WK
  by_cases h1 : 30 < N1
  · have d1 : decide ((30 : Int) < (N1 : Int)) = true := decide_eq_true (by omega)
    have d1' : decide (30 < N1) = true := decide_eq_true h1
    go_wp2_with fail
    go_ret
    exact ⟨rfl, B0.out⟩
  have d1 : decide ((30 : Int) < (N1 : Int)) = false := decide_eq_false (by omega)
  have d1' : decide (30 < N1) = false := decide_eq_false h1
  by_cases h2 : 31 < N1 + N2
  · have d2 : decide ((31 : Int) < (N1 : Int) + (N2 : Int)) = true := decide_eq_true (by omega)
    go_wp2_with fail
    go_ret
    exact ⟨rfl, B0.out⟩
  have d2 : decide ((31 : Int) < (N1 : Int) + (N2 : Int)) = false := decide_eq_false (by omega)
  have hN : Hid (N1 + N2 ≤ 31) := by show _ ≤ _; omega
  clear h1 h2 hz hz'
  go_wp2_with fail
  refine (O.out w0 B0.out).mono ?_
  rintro e w1 ⟨v1, rfl, o1, n1, b1'⟩
  obtain ⟨x1, c1, rfl⟩ := o1.slice
  have B1 := Lib.hid (B0.out.trans (b1'.mono B0.out.size))
  replace o1 := Lib.hid o1.rus
  clear b1' n1 B0
  go_wp2_with fail
  refine (P1.out _ w1 o1.out).mono ?_
  rintro e w2 ⟨rfl, b2⟩
  have B2 := Lib.hid (B1.out.trans (b2.mono B1.out.size))
  clear b2 B1 o1 P1
  by_cases hk1 : K1 ≠ 0
  · have z1 : (K1 != 0) = true := by simpa using hk1
    go_wp2_with fail
    go_ret
    exact ⟨rfl, B2.out⟩
  have hk1 : K1 = 0 := by omega
  have z1 : (K1 != 0) = false := by simp [hk1]
  replace hk1 := Lib.hid hk1
  go_wp2_with fail
  refine (O'.out w2 B2.out).mono ?_
  rintro e w3 ⟨v3, rfl, o3, n3, b3⟩
  obtain ⟨x3, c3, rfl⟩ := o3.slice
  have B3 := Lib.hid (B2.out.trans (b3.mono B2.out.size))
  replace o3 := Lib.hid o3.rus
  clear b3 n3 B2
  go_wp2_with fail
  refine (P2.out _ w3 o3.out).mono ?_
  rintro e w4 ⟨rfl, b4⟩
  have B4 := Lib.hid (B3.out.trans (b4.mono B3.out.size))
  clear b4 B3 o3 P2
  by_cases hk2 : K2 ≠ 0
  · have z2 : (K2 != 0) = true := by simpa using hk2
    go_wp2_with fail
    go_ret
    exact ⟨rfl, B4.out⟩
  have hk2 : K2 = 0 := by omega
  have z2 : (K2 != 0) = false := by simp [hk2]
  have FP2 := Lib.hid (FP.out hk1.out hk2 hN.out)
  clear hk2 hk1 FP
  go_wp2_with fail
  refine (O.out w4 B4.out).mono ?_
  rintro e w5 ⟨v5, rfl, o5, n5, b5⟩
  obtain ⟨v6, w6, hap6, o6, b6⟩ := CL.out w4 w5 v5 o5 b5 (B4.out.trans (b5.mono B4.out.size)) hN.out
  obtain ⟨x5, c5, rfl⟩ := o5.slice
  obtain ⟨x6, c6, rfl⟩ := o6.slice
  have B6 := Lib.hid (B4.out.trans (b6.mono B4.out.size))
  replace o6 := Lib.hid o6.rus
  replace hap6 := Lib.hid hap6
  obtain ⟨n6, hn6⟩ : ∃ n6, n6 = (l ++ m).length := ⟨_, rfl⟩
  obtain ⟨n5', hn5⟩ : ∃ n5', n5' = l.length := ⟨_, rfl⟩
  rw [← hn6, ← hn5] at hap6
  rw [← hn6] at o6
  rw [← hn5]
  clear hn6 hn5 b6 o5 n5 b5 CL B4
  go_upto_region 6 with (refine obB2L _ rfl .append _ _ _ _ rfl _ _ rfl rfl hap6.out ?_)
  clear hap6
  obtain ⟨v7, w7, hap7, o7, b7⟩ := CN.out w6 B6.out hN.out
  obtain ⟨x7, c7, rfl⟩ := o7.slice
  have B7 := Lib.hid (B6.out.trans (b7.mono B6.out.size))
  replace o6 := Lib.hid (o6.out.keep b7)
  replace o7 := Lib.hid o7.rus
  replace hap7 := Lib.hid hap7
  obtain ⟨n7, hn7⟩ : ∃ n7, n7 = (ruN :: l).length := ⟨_, rfl⟩
  rw [← hn7] at hap7 o7
  clear hn7 b7 B6 CN
  go_upto_region 7 with (refine obB2L _ rfl .append _ _ _ _ rfl _ _ rfl rfl hap7.out ?_)
  clear hap7
  go_wp2_with fail
  refine (O.out w7 B7.out).mono ?_
  rintro e w8 ⟨v8, rfl, o8, n8, b8⟩
  obtain ⟨x8, c8, rfl⟩ := o8.slice
  have B8 := Lib.hid (B7.out.trans (b8.mono B7.out.size))
  replace o8 := Lib.hid o8.rus
  replace o6 := Lib.hid (o6.out.keep b8)
  replace o7 := Lib.hid (o7.out.keep b8)
  clear b8 n8 B7 O
  go_wp2_with fail
  refine (A1.out _ w8 o8.out).mono ?_
  rintro e w9 ⟨rfl, b9⟩
  have B9 := Lib.hid (B8.out.trans (b9.mono B8.out.size))
  replace o6 := Lib.hid (o6.out.keep b9)
  replace o7 := Lib.hid (o7.out.keep b9)
  clear b9 B8 o8 A1
  go_wp2_with fail
  refine (A3.out hN.out _ w9 o6.out).mono ?_
  rintro e w10 ⟨rfl, b10⟩
  have B10 := Lib.hid (B9.out.trans (b10.mono B9.out.size))
  replace o7 := Lib.hid (o7.out.keep b10)
  clear b10 B9 o6 A3
  go_wp2_with fail
  refine (O'.out w10 B10.out).mono ?_
  rintro e w11 ⟨v11, rfl, o11, n11, b11⟩
  obtain ⟨x11, c11, rfl⟩ := o11.slice
  have B11 := Lib.hid (B10.out.trans (b11.mono B10.out.size))
  replace o11 := Lib.hid o11.rus
  replace o7 := Lib.hid (o7.out.keep b11)
  clear b11 n11 B10 O'
  go_wp2_with fail
  refine (A2.out _ w11 o11.out).mono ?_
  rintro e w12 ⟨rfl, b12⟩
  have B12 := Lib.hid (B11.out.trans (b12.mono B11.out.size))
  replace o7 := Lib.hid (o7.out.keep b12)
  clear b12 B11 o11 A2
  go_wp2_with fail
  refine (A4.out hN.out _ w12 o7.out).mono ?_
  rintro e w13 ⟨rfl, b13⟩
  have B13 := Lib.hid (B12.out.trans (b13.mono B12.out.size))
  clear b13 B12 o7 A4
  have FB : Hid ((YB == YA) = true ∨ ((YB == YA) = false ∧ YA = false ∧ (YB == YC) = true)) := by
    rcases FP2.out with e | ⟨e1, e2⟩
    · exact .inl (by simp [e])
    · by_cases c : YB = YA
      · exact .inl (by simp [c])
      · exact .inr ⟨by simpa using c, e1, by simp [e2]⟩
  cases YN
  case' true =>
    have nq : ¬ (0 ≤ q ∧ q ≤ 65535) := fun c => NP.out rfl c.1 c.2
    by_cases hq : 0 ≤ q
    case' pos =>
      have q1 : decide (0 ≤ q) = true := decide_eq_true hq
      have q2 : decide (q ≤ 65535) = false := decide_eq_false fun c => nq ⟨hq, c⟩
    case' neg =>
      have q1 : decide (0 ≤ q) = false := decide_eq_false hq
  all_goals
    rcases FB.out with e1 | ⟨e1, rfl, e3⟩
    · go_wp2_with fail
      go_ret
      exact ⟨rfl, B13.out⟩
    · go_wp2_with fail
      go_ret
      exact ⟨rfl, B13.out⟩

theorem contract (H : Type) (enc : TypeId × Value → H) (W : World) (base : Nat) (args : Array Value) (ds gs : List (DataW H)) (before : List MemPlace)
    (hval : ∀ (j : Nat) t v, Try.f6.params[j]? = some t → args[j]? = some v → Value.okWide Try.prog W .any base t v)
    (hW : DataW.Whole enc Try.prog Try.f6.params.toList Rows.policyFirstSpec.vars false W args.toList ds gs before)
    (hsz : (DataW.weightsEach Try.prog (Try.f6.params.toList ++ (OpenSpec.ofChange Rows.policyFirstSpec).bare.plain.varTypes Try.prog) (ds ++ gs)).all (· ≤ reachBytes) = true) :
    Calls Try.prog 6 args W fun e W' => ∃ v, e = .returned v ∧ Rows.policyFirstSpec.post enc Try.prog Try.f6 false true false false W args v W' := by
  have hW' := hW
  obtain ⟨p, q, hA0, hV, rfl, hfz, hnd⟩ := hW
  have hA : DataW.TrodAll enc Try.prog W 0 (fun _ => true) true Try.f6.params.toList args.toList ds p := hA0
  rw [Try.params6] at hA hval hsz
  obtain ⟨v0, vs0, d0, ds0, p0, q0, hargs, rfl, rfl, h0, r0⟩ := trodAll_cons hA
  obtain ⟨v1, vs1, d1, ds1, p1, q1, rfl, rfl, rfl, h1, r1⟩ := trodAll_cons r0
  obtain ⟨v2, vs2, d2, ds2, p2, q2, rfl, rfl, rfl, h2, r2⟩ := trodAll_cons r1
  obtain ⟨v3, vs3, d3, ds3, p3, q3, rfl, rfl, rfl, h3, r3⟩ := trodAll_cons r2
  obtain ⟨v4, vs4, d4, ds4, p4, q4, rfl, rfl, rfl, h4, r4⟩ := trodAll_cons r3
  obtain ⟨rfl, rfl, rfl⟩ := trodAll_nil r4
  obtain rfl : args = #[v0, v1, v2, v3, v4] := by cases args; simp_all
  obtain ⟨rfl, rfl⟩ := trodVars_none hV
  have k0 := h0
  have lt0 : ∀ x ∈ p0, x.block < W.heap.size := by obtain ⟨m, hm⟩ := k0; exact DataW.trod_lt m _ _ _ hm
  obtain ⟨l0, hs0, hz0, hb0⟩ := open_rus (hval 0 22 v0 rfl rfl) h0 (fun n hn => by simpa using List.all_eq_true.1 hsz _ (DataW.weights_mem_each (j := 0) (t := 22) rfl rfl n hn))
  have k1 := h1
  have lt1 : ∀ x ∈ p1, x.block < W.heap.size := by obtain ⟨m, hm⟩ := k1; exact DataW.trod_lt m _ _ _ hm
  obtain ⟨l1, hs1, hz1, hb1⟩ := open_rus (hval 1 22 v1 rfl rfl) h1 (fun n hn => by simpa using List.all_eq_true.1 hsz _ (DataW.weights_mem_each (j := 1) (t := 22) rfl rfl n hn))
  obtain ⟨a2, rfl, rfl, rfl, w2⟩ := open_int Try.underlying3 (hval 2 3 v2 rfl rfl) h2
  have b2 := bounds_i64 w2
  obtain ⟨a3, rfl, rfl, rfl, w3⟩ := open_int Try.underlying23 (hval 3 23 v3 rfl rfl) h3
  have b3 := bounds_u32 w3
  obtain ⟨a4, rfl, rfl, rfl, w4⟩ := open_int Try.underlying3 (hval 4 3 v4 rfl rfl) h4
  have b4 := bounds_i64 w4
  clear hA0
  simp only [List.append_nil] at hW'
  refine (walk v0 v1 l0 l1 a2 a3 a4 W hs0 hz0 hb0 hs1 hz1 hb1 b3.1 (by omega)).mono fun e W' ⟨he, bel⟩ => ?_
  subst he
  exact ⟨_, rfl, _, _, _, [], _, [], hW', trodAll_mk1 (shut_bool Try.underlying4 _), (trodAll_cons_mk (Below.trod laidOut (by kernel_rfl) (of_decide_eq_true (by kernel_rfl)) k0 bel lt0) (trodAll_cons_mk (Below.trod laidOut (by kernel_rfl) (of_decide_eq_true (by kernel_rfl)) k1 bel lt1) (trodAll_cons_mk (shut_int Try.underlying3 w2) (trodAll_cons_mk (shut_int Try.underlying23 w3) (trodAll_cons_mk (shut_int Try.underlying3 w4) trodAll_mk0))))), rfl, bel.frame _, fun h => by cases h⟩

theorem laid_met (os : Os) : laidMet Try.prog Rows.policyFirstRow.laid ((startWorld Try.prog os).forCall (fun _ _ => 0) ⟨#[], #[.slice none 0 0, .slice none 0 0, .int .i64 0, .int .u32 0, .int .i64 0], []⟩).memory :=
  laidMet_of_run' 8 (by kernel_rfl) (by kernel_rfl)
theorem reads (os : Os) {H : Type} (enc : TypeId × Value → H) : ∃ places, DataW.whole enc Try.prog ((startWorld Try.prog os).forCall (fun _ _ => 0) ⟨#[], #[.slice none 0 0, .slice none 0 0, .int .i64 0, .int .u32 0, .int .i64 0], []⟩).memory Try.f6.params.toList Rows.policyFirstSpec.vars false #[Value.slice none 0 0, Value.slice none 0 0, Value.int .i64 0, Value.int .u32 0, Value.int .i64 0].toList 8 = some ([.nil, .nil, .lit (.int .i64 0), .lit (.int .u32 0), .lit (.int .i64 0)], [], places) :=
  ⟨[], by kernel_rfl⟩

set_option maxRecDepth 100000 in
theorem lifted (os : Os) (started : os.Started) (H : Type) (enc : TypeId × Value → H) (F : Stop.Interp) :
    ReturnsInHanded {} Try.checked os 6 .any ((OpenSpec.ofChange Rows.policyFirstSpec).preRow enc Try.prog Try.f6 Rows.policyFirstRow.domain false Rows.policyFirstRow.laid) (((OpenSpec.ofChange Rows.policyFirstSpec).at F).post enc Try.prog Try.f6 false true false false) := by
  obtain ⟨places, hx⟩ := reads os enc
  refine returnsInHanded_of_row (C := Try.checked) (s := OpenSpec.ofChange Rows.policyFirstSpec) own started (by kernel_rfl) Try.func6
    (witness_row_at (enc := enc) (C := Try.checked) false (startWorld Try.prog os) #[.slice none 0 0, .slice none 0 0, .int .i64 0, .int .u32 0, .int .i64 0] rfl (by kernel_rfl) (by kernel_rfl) (by kernel_rfl)
      (OpenSpec.preRow_of_cond 8 hx (by kernel_rfl) (fun k hk => by cases hk) (by kernel_rfl) (laid_met os))) ?_
  intro W base args ds gs before hval hW _ _ hsz _ _ _
  exact contract H enc W base args ds gs before hval hW hsz

theorem said : Rows.PolicyFirstSaid :=
  OpenClaim.holds_of_cond 6 Try.f6 rfl rfl rfl rfl rfl rfl rfl ⟨rfl, rfl, rfl, rfl, rfl⟩ rfl rfl rfl rfl rfl (by kernel_rfl) Try.func6 (by kernel_rfl)
    (of_decide_eq_true (by kernel_rfl)) (by unfold Func.isWrapper; first | (rw [if_pos (by decide +kernel)]; kernel_rfl) | (rw [if_neg (by decide +kernel)]; exact ⟨rfl, rfl⟩))
    (fun os started H enc _ F => by rw [OpenClaim.pre_eq_preRow]; exact lifted os started H enc F)
end Go.Proofs.Ytnlocjjnginjeaa.policyFirst
namespace Go.Proofs.Ytnlocjjnginjeaa
theorem policyFirst_said : Rows.PolicyFirstSaid := policyFirst.said
end Go.Proofs.Ytnlocjjnginjeaa
