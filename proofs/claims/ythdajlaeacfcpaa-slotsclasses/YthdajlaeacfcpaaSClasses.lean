/-
  The law SlotsClasses returns true for every two numbers: each number of bytes up to 1200 has the least size that holds it. No condition.
-/
import Derived.Test.YthdajlaeacfcpaaSlPg
import Derived.Test.YthdajlaeacfcpaaObDraw
import Derived.Deep.Cut
import Derived.BigQuiet
import Derived.Test.YthdajlaeacfcpaaSlOpen
import Derived.LaidLaws
namespace Go.Proofs.Ythdajlaeacfcpaa.slotsClasses
set_option maxRecDepth 100000
open Go.ChangeShapes Go.WideShapes Go.ChangeAt Go.RowKit
open Go.ChangeMaps (open_string shut_string)

theorem cls_fact (A : Nat) (h : A < 1201) : ∃ k, k < 4 ∧ clsV.getD k 0 = classV (A : Int) ∧ (A : Int) ≤ classV (A : Int) ∧ (∀ i, i < 4 → (A : Int) ≤ clsV.getD i 0 → classV (A : Int) ≤ clsV.getD i 0) ∧ ∀ i, i < 4 → i ≠ k → clsV.getD i 0 ≠ classV (A : Int) := by
  have d : ∀ i, i < 4 → i = 0 ∨ i = 1 ∨ i = 2 ∨ i = 3 := fun i hi => by omega
  have v0 : clsV.getD 0 0 = 128 := rfl
  have v1 : clsV.getD 1 0 = 256 := rfl
  have v2 : clsV.getD 2 0 = 512 := rfl
  have v3 : clsV.getD 3 0 = 1200 := rfl
  have c : (A ≤ 128 ∧ classV (A : Int) = 128) ∨ (128 < A ∧ A ≤ 256 ∧ classV (A : Int) = 256) ∨ (256 < A ∧ A ≤ 512 ∧ classV (A : Int) = 512) ∨ (512 < A ∧ classV (A : Int) = 1200) := by
    unfold classV
    rw [if_neg (by omega)]
    by_cases h1 : A ≤ 128
    · rw [if_pos (by omega)]; exact .inl ⟨h1, rfl⟩
    · rw [if_neg (by omega)]
      by_cases h2 : A ≤ 256
      · rw [if_pos (by omega)]; exact .inr (.inl ⟨by omega, h2, rfl⟩)
      · rw [if_neg (by omega)]
        by_cases h3 : A ≤ 512
        · rw [if_pos (by omega)]; exact .inr (.inr (.inl ⟨by omega, h3, rfl⟩))
        · rw [if_neg (by omega), if_pos (by omega)]; exact .inr (.inr (.inr ⟨by omega, rfl⟩))
  rcases c with ⟨h1, e⟩ | ⟨h1, h2, e⟩ | ⟨h1, h2, e⟩ | ⟨h1, e⟩
  · refine ⟨0, by decide, by rw [e, v0], by omega, fun i hi h => ?_, fun i hi h => ?_⟩ <;> rcases d i hi with rfl | rfl | rfl | rfl <;> simp only [v0, v1, v2, v3, e] at * <;> omega
  · refine ⟨1, by decide, by rw [e, v1], by omega, fun i hi h => ?_, fun i hi h => ?_⟩ <;> rcases d i hi with rfl | rfl | rfl | rfl <;> simp only [v0, v1, v2, v3, e] at * <;> omega
  · refine ⟨2, by decide, by rw [e, v2], by omega, fun i hi h => ?_, fun i hi h => ?_⟩ <;> rcases d i hi with rfl | rfl | rfl | rfl <;> simp only [v0, v1, v2, v3, e] at * <;> omega
  · refine ⟨3, by decide, by rw [e, v3], by omega, fun i hi h => ?_, fun i hi h => ?_⟩ <;> rcases d i hi with rfl | rfl | rfl | rfl <;> simp only [v0, v1, v2, v3, e] at * <;> omega
theorem cls_mono {A B : Nat} (h : A ≤ B) (hB : B < 1201) : classV (A : Int) ≤ classV (B : Int) := by
  unfold classV
  split
  · omega
  · split <;> (repeat' split) <;> omega
set_option maxHeartbeats 4000000 in
theorem walk (face : SlFace) (n m : Int) (W : World) :
    Calls Try.prog 5 #[.int .i64 n, .int .i64 m] W fun e w' => e = .returned (.bool true) ∧ Below W.heap.size W w' := by
  have WK := Lib.hid (works21_ok face W)
  obtain ⟨A, hA1, hA2, hA3⟩ := place9 n 1201 (by decide) (by decide)
  obtain ⟨B, hB1, hB2, hB3⟩ := place9 m 1201 (by decide) (by decide)
  have hA4 : A < 1201 := by omega
  have hB4 : B < 1201 := by omega
  have P1 := Lib.hid fun w' => face.cls w' (A : Int) (by unfold In64; omega)
  have P2 := Lib.hid fun w' => face.cls w' (B : Int) (by unfold In64; omega)
  have P3 := Lib.hid fun w' => face.clss w'
  obtain ⟨k, hk, k1, k2, k3, k4⟩ := cls_fact A hA4
  have mo : Hid (A ≤ B → classV (A : Int) ≤ classV (B : Int)) := fun h => cls_mono h hB4
  generalize classV (A : Int) = xa at *
  generalize classV (B : Int) = xb at *
  have K1 := Lib.hid k1
  have K2 := Lib.hid k2
  have K3 := Lib.hid k3
  have K4 := Lib.hid k4
  have HK := Lib.hid hk
  have HA4 := Lib.hid hA4
  have HB4 := Lib.hid hB4
  clear hA3 hB3 face k1 k2 k3 k4 hk hA4 hB4
  go_enter Try.func5, Try.ntmps5
  go_wp2_with fail
  refine WK.out.mono ?_
  rintro e w0 ⟨rfl, b0⟩
  clear WK
  replace b0 := Lib.hid b0
  go_wp2_with fail
  refine (P1.out w0).mono ?_
  rintro e w1 ⟨rfl, d1⟩
  have b1 := Lib.hid (b0.out.trans (d1.mono b0.out.size))
  clear P1 d1 b0
  go_wp2_with fail
  refine (P2.out w1).mono ?_
  rintro e w2 ⟨rfl, d2⟩
  have b2 := Lib.hid (b1.out.trans (d2.mono b1.out.size))
  clear P2 d2 b1
  go_wp2_with fail
  refine (P3.out w2).mono ?_
  rintro e w3 ⟨v, rfl, tv, d3⟩
  have b3 := Lib.hid (b2.out.trans (d3.mono b2.out.size))
  obtain ⟨a, c, rfl⟩ := tv.slice
  have c4 : clsV.length = 4 := rfl
  rw [c4] at tv ⊢
  have AT : Hid (∀ i : Nat, i < 4 → ∃ g o, a = some ⟨g, o, none⟩ ∧ (∀ w' (z : Int), z = i → (Instr.indexAt 22 (.slice a 4 c) (.int .i64 z)).run Try.prog w' = .ok (.pointer (some ⟨g, o + i, none⟩)) w') ∧ w3.cell? ⟨g, o + i, none⟩ = some (.int .i64 (clsV.getD i 0))) := fun i hi => tv.at i hi
  clear P3 d3 b2 tv c4 hA1 hA2 hB1 hB2
  go_wp2_with fail
  go_loopg [8, 9] 4 (fun g' s8 s9 wr => ∃ i : Nat, i + g' = 4 ∧ s8 = .bool (decide (k < i)) ∧ s9 = .int .i64 i ∧ w3 = wr)
  case atStart => exact ⟨0, by omega, by rw [decide_eq_false (Nat.not_lt_zero k)], rfl, rfl⟩
  case round =>
    obtain ⟨i, hi, rfl, rfl, rfl⟩ := hrel
    by_cases hlt : i < 4
    · have q1 : decide (i < 4) = true := decide_eq_true hlt
      have q2 : decide ((i : Int) < 4) = true := decide_eq_true (by omega)
      have wi : Hid (wrap64 ((i : Int) + 1) = (i : Int) + 1) := wrap_in rfl (by omega) (by omega)
      have gi : Hid (i + 1 + (4 - (i + 1)) = 4) := by unfold Hid; omega
      have gm : Hid (4 - (i + 1) < gk) := by unfold Hid; omega
      obtain ⟨g, o, rfl, ia, ca⟩ := AT.out i hlt
      replace ia := fun w' => ia w' (i : Int) rfl
      have f3 := K3.out i hlt
      have f4 := K4.out i hlt
      have f1 := K1.out
      obtain ⟨x, hx⟩ : ∃ x, x = clsV.getD i 0 := ⟨_, rfl⟩
      rw [← hx] at ca f3 f4
      have e3 : (A : Int) ≤ x → decide (x < xa) = false := fun h => decide_eq_false (by have := f3 h; omega)
      have e4 : (x == xa) = decide (i = k) := by
        by_cases q : i = k
        · rw [decide_eq_true q, hx, q, f1]; simp
        · rw [decide_eq_false q]; simpa using f4 q
      have e5 : (decide (k < i + 1)) = (decide (k < i) || decide (i = k)) := by
        by_cases q : k < i
        · rw [decide_eq_true q, decide_eq_true (by omega)]; rfl
        · by_cases q2 : i = k
          · rw [decide_eq_true q2, decide_eq_true (by omega)]; simp
          · rw [decide_eq_false q, decide_eq_false q2, decide_eq_false (by omega)]; rfl
      have E5 := Lib.hid e5
      generalize decide (k < i) = b8 at *
      generalize decide (i = k) = b7 at *
      clear f3 f4 f1 hx hi e5 K1 K3 K4 AT mo
      have s8 : Hid (∀ b, b = (b8 || b7) → Value.bool b = .bool (decide (k < i + 1))) := fun b h => by rw [E5.out, h]
      by_cases hax : (A : Int) ≤ x
      · have g1 : decide ((A : Int) ≤ x) = true := decide_eq_true hax
        have g2 := e3 hax
        clear e3
        cases b8
        · go_upto_region 9 with fail
          clear q1 q2 hlt ia ca g1 g2 hax e4
          replace wi := wi.out
          go_wp2_with fail
          go_roundg (4 - (i + 1))
          case measure => exact gm.out
          case rel => exact ⟨i + 1, gi.out, s8.out _ rfl, by go_num, rfl⟩
        · go_upto_region 9 with fail
          clear q1 q2 hlt ia ca g1 g2 hax e4
          replace wi := wi.out
          go_wp2_with fail
          go_roundg (4 - (i + 1))
          case measure => exact gm.out
          case rel => exact ⟨i + 1, gi.out, s8.out _ rfl, by go_num, rfl⟩
      · have g1 : decide ((A : Int) ≤ x) = false := decide_eq_false hax
        clear e3
        cases b8
        · go_upto_region 9 with fail
          clear q1 q2 hlt ia ca g1 hax e4
          replace wi := wi.out
          go_wp2_with fail
          go_roundg (4 - (i + 1))
          case measure => exact gm.out
          case rel => exact ⟨i + 1, gi.out, s8.out _ rfl, by go_num, rfl⟩
        · go_upto_region 9 with fail
          clear q1 q2 hlt ia ca g1 hax e4
          replace wi := wi.out
          go_wp2_with fail
          go_roundg (4 - (i + 1))
          case measure => exact gm.out
          case rel => exact ⟨i + 1, gi.out, s8.out _ rfl, by go_num, rfl⟩
    · obtain rfl : i = 4 := by omega
      have q2 : decide (((4 : Nat) : Int) < 4) = false := by decide
      have q3 : decide ((4 : Int) < 4) = false := by decide
      have ik : decide (k < 4) = true := decide_eq_true HK.out
      rw [ik]
      have g1 : decide ((A : Int) ≤ xa) = true := decide_eq_true K2.out
      clear hi hlt AT K1 K2 K3 K4
      by_cases hab : B < A
      · have g2 : decide (B < A) = true := decide_eq_true hab
        have g3 : decide ((B : Int) < (A : Int)) = true := decide_eq_true (by omega)
        clear mo
        go_wp2_with fail
        go_ret
        exact ⟨rfl, b3.out⟩
      · have g2 : decide (B < A) = false := decide_eq_false hab
        have g3 : decide ((B : Int) < (A : Int)) = false := decide_eq_false (by omega)
        have g4 : decide (xa ≤ xb) = true := decide_eq_true (mo.out (by omega))
        clear mo
        go_wp2_with fail
        go_ret
        exact ⟨rfl, b3.out⟩

theorem contract (H : Type) (enc : TypeId × Value → H) (W : World) (base : Nat) (args : Array Value) (ds gs : List (DataW H)) (before : List MemPlace)
    (hval : ∀ (j : Nat) t v, Try.f5.params[j]? = some t → args[j]? = some v → Value.okWide Try.prog W .any base t v)
    (hW : DataW.Whole enc Try.prog Try.f5.params.toList Rows.slotsClassesSpec.vars false W args.toList ds gs before) :
    Calls Try.prog 5 args W fun e W' => ∃ v, e = .returned v ∧ Rows.slotsClassesSpec.post enc Try.prog Try.f5 false true false false W args v W' := by
  have hW' := hW
  obtain ⟨p, q, hA0, hV, rfl, hfz, hnd⟩ := hW
  have hA : DataW.TrodAll enc Try.prog W 0 (fun _ => true) true Try.f5.params.toList args.toList ds p := hA0
  rw [Try.params5] at hA hval
  obtain ⟨v0, vs0, d0, ds0, p0, q0, hargs, rfl, rfl, h0, r0⟩ := trodAll_cons hA
  obtain ⟨v1, vs1, d1, ds1, p1, q1, rfl, rfl, rfl, h1, r1⟩ := trodAll_cons r0
  obtain ⟨rfl, rfl, rfl⟩ := trodAll_nil r1
  obtain rfl : args = #[v0, v1] := by cases args; simp_all
  obtain ⟨rfl, rfl⟩ := trodVars_none hV
  obtain ⟨a0, rfl, rfl, rfl, w0⟩ := open_int Try.underlying3 (hval 0 3 v0 rfl rfl) h0
  have b0 := bounds_i64 w0
  obtain ⟨a1, rfl, rfl, rfl, w1⟩ := open_int Try.underlying3 (hval 1 3 v1 rfl rfl) h1
  have b1 := bounds_i64 w1
  clear hA0
  simp only [List.append_nil] at hW'
  refine (walk face21 a0 a1 W).mono fun e W' ⟨he, bel⟩ => ?_
  subst he
  exact ⟨_, rfl, _, _, _, [], _, [], hW', trodAll_mk1 (shut_bool Try.underlying4 _), (trodAll_cons_mk (shut_int Try.underlying3 w0) (trodAll_cons_mk (shut_int Try.underlying3 w1) trodAll_mk0)), rfl, bel.frame _, fun h => by cases h⟩

theorem laid_met (os : Os) : laidMet Try.prog Rows.slotsClassesRow.laid ((startWorld Try.prog os).forCall (fun _ _ => 0) ⟨#[], #[.int .i64 0, .int .i64 0], []⟩).memory :=
  laidMet_of_run' 8 (by kernel_rfl) (by kernel_rfl)
theorem reads (os : Os) {H : Type} (enc : TypeId × Value → H) : ∃ places, DataW.whole enc Try.prog ((startWorld Try.prog os).forCall (fun _ _ => 0) ⟨#[], #[.int .i64 0, .int .i64 0], []⟩).memory Try.f5.params.toList Rows.slotsClassesSpec.vars false #[Value.int .i64 0, Value.int .i64 0].toList 8 = some ([.lit (.int .i64 0), .lit (.int .i64 0)], [], places) :=
  ⟨[], by kernel_rfl⟩

set_option maxRecDepth 100000 in
theorem lifted (os : Os) (started : os.Started) (H : Type) (enc : TypeId × Value → H) (F : Stop.Interp) :
    ReturnsInHanded {} Try.checked os 5 .any ((OpenSpec.ofChange Rows.slotsClassesSpec).preRow enc Try.prog Try.f5 Rows.slotsClassesRow.domain false Rows.slotsClassesRow.laid) (((OpenSpec.ofChange Rows.slotsClassesSpec).at F).post enc Try.prog Try.f5 false true false false) := by
  obtain ⟨places, hx⟩ := reads os enc
  refine returnsInHanded_of_row (C := Try.checked) (s := OpenSpec.ofChange Rows.slotsClassesSpec) own started (by kernel_rfl) Try.func5
    (witness_row_at (enc := enc) (C := Try.checked) false (startWorld Try.prog os) #[.int .i64 0, .int .i64 0] rfl (by kernel_rfl) (by kernel_rfl) (by kernel_rfl)
      (OpenSpec.preRow_of_cond 8 hx (by kernel_rfl) (fun k hk => by cases hk) (by kernel_rfl) (laid_met os))) ?_
  intro W base args ds gs before hval hW _ _ _ _ _ _
  exact contract H enc W base args ds gs before hval hW

theorem said : Rows.SlotsClassesSaid :=
  OpenClaim.holds_of_cond 5 Try.f5 rfl rfl rfl rfl rfl rfl rfl ⟨rfl, rfl, rfl, rfl, rfl⟩ rfl rfl rfl rfl rfl (by kernel_rfl) Try.func5 (by kernel_rfl)
    (of_decide_eq_true (by kernel_rfl)) (by unfold Func.isWrapper; first | (rw [if_pos (by decide +kernel)]; kernel_rfl) | (rw [if_neg (by decide +kernel)]; exact ⟨rfl, rfl⟩))
    (fun os started H enc _ F => by rw [OpenClaim.pre_eq_preRow]; exact lifted os started H enc F)
end Go.Proofs.Ythdajlaeacfcpaa.slotsClasses
namespace Go.Proofs.Ythdajlaeacfcpaa
theorem slotsClasses_said : Rows.SlotsClassesSaid := slotsClasses.said
end Go.Proofs.Ythdajlaeacfcpaa
