/-
  The law FairFull returns true for every limit and every two ids: a queue that is full takes nothing more, and others still do. No condition.
-/
import Derived.Test.YtiamlldooihkdaaFaFp
import Derived.BigQuiet
import Derived.Test.YtiamlldooihkdaaFaOpen
import Derived.LaidLaws
namespace Go.Proofs.Ytiamlldooihkdaa.fairFull
set_option maxRecDepth 100000
open Go.ChangeShapes Go.WideShapes Go.ChangeAt Go.RowKit
open Go.ChangeMaps (open_string shut_string)

def sX : ByteArray := ⟨#[120]⟩
def sY : ByteArray := ⟨#[121]⟩
/-- So many were pushed for a. -/
def fq (L a : Int) (i : Nat) : FaQ := ⟨L, 9, if i = 0 then [] else [⟨a, List.replicate i sX, 0⟩], false, i⟩
theorem fq_new {L : Int} (a : Int) (h0 : 1 ≤ L) (h1 : L ≤ 40) : newE L 9 = fq L a 0 := by
  unfold newE fq
  rw [cutQ_in h0 (by omega), cutQ_in (n := 9) (by decide) (by decide)]
  rfl
theorem fq_tb (L a : Int) (i : Nat) (hi : i ≠ 0) : tblE (fq L a i).r a = some (List.replicate i sX, 0) := by
  unfold fq
  simp only [if_neg hi]
  exact tbl_head ⟨a, List.replicate i sX, 0⟩ []
theorem fq_e {L a : Int} {i : Nat} (hi : (i : Int) < L) : pushE (fq L a i) a sX = 0 := by
  unfold pushE
  rw [if_neg (by decide)]
  by_cases h : i = 0
  · subst h
    rfl
  · rw [fq_tb L a i h]
    simp only [List.length_replicate]
    exact if_neg (by show ¬ L ≤ (i : Int); omega)
theorem fq_q {L a : Int} {i : Nat} (hi : (i : Int) < L) : pushQ (fq L a i) a sX = fq L a (i + 1) := by
  unfold pushQ
  rw [if_pos (fq_e hi)]
  unfold addL
  by_cases h : i = 0
  · subst h
    rfl
  · rw [fq_tb L a i h]
    unfold fq
    simp only [if_neg h, List.map_cons, List.map_nil, if_true, if_neg (Nat.succ_ne_zero i)]
    rw [List.replicate_succ']
theorem fq_full {L a : Int} {i : Nat} (h0 : 1 ≤ L) (hi : (i : Int) = L) : pushE (fq L a i) a sX = 4 := by
  unfold pushE
  rw [if_neg (by decide), fq_tb L a i (by omega)]
  simp only [List.length_replicate]
  exact if_pos (by show L ≤ (i : Int); omega)
theorem fq_cnt (L a : Int) (i : Nat) : cntE (fq L a i).r = i := by
  unfold fq
  by_cases h : i = 0
  · subst h; rfl
  · simp [h, cntE]
def fz (L a : Int) (i : Nat) : FaQ := { fq L a i with pz := i + 1 }
theorem fz_q {L a : Int} {i : Nat} (h0 : 1 ≤ L) (hi : (i : Int) = L) : pushQ (fq L a i) a sX = fz L a i := by
  unfold pushQ
  rw [fq_full h0 hi]
  rfl
theorem ls_fz (L a : Int) (i : Nat) (hi : i ≠ 0) : lsE (fz L a i).r a = List.replicate i sX := by
  unfold lsE
  rw [show (fz L a i).r = (fq L a i).r from rfl, fq_tb L a i hi]
theorem fz_r (L a : Int) (i : Nat) (hi : i ≠ 0) : (fz L a i).r = [⟨a, List.replicate i sX, 0⟩] := by
  unfold fz fq
  simp [hi]
theorem drop_fz (L a : Int) (i : Nat) (hi : i ≠ 0) : (dropE (fz L a i) a).r = [] := by
  unfold dropE
  rw [fz_r L a i hi]
  simp
/-- .. and one for another one. -/
def fy (L a b : Int) (i : Nat) : FaQ := ⟨L, 9, [⟨a, List.replicate i sX, 0⟩, ⟨b, [sY], 0⟩], false, i + 2⟩
theorem fy_q {L a b : Int} {i : Nat} (hi : i ≠ 0) (hab : a ≠ b) : pushE (fz L a i) b sY = 0 ∧ pushQ (fz L a i) b sY = fy L a b i := by
  have ht : tblE (fz L a i).r b = none := by
    rw [fz_r L a i hi]
    unfold tblE
    rw [if_neg hab]
    rfl
  have hp : pushE (fz L a i) b sY = 0 := by
    unfold pushE
    rw [if_neg (by decide), ht]
  refine ⟨hp, ?_⟩
  unfold pushQ
  rw [if_pos hp]
  unfold addL
  rw [ht]
  simp only
  rw [fz_r L a i hi]
  rfl
theorem ls_fy (L a b : Int) (i : Nat) : lsE (fy L a b i).r a = List.replicate i sX := by
  unfold lsE fy
  simp only
  rw [tbl_head ⟨a, List.replicate i sX, 0⟩]
theorem drop_fy {L a b : Int} {i : Nat} (hab : a ≠ b) : dropE (fy L a b i) a = ⟨L, 9, [⟨b, [sY], 0⟩], false, i + 2⟩ := by
  unfold dropE fy
  have : b ≠ a := fun q => hab q.symm
  simp [this]
theorem ls_none {L b : Int} {a : Int} {n : Nat} (hab : a ≠ b) : lsE (⟨L, 9, [⟨b, [sY], 0⟩], false, n⟩ : FaQ).r a = [] := by
  unfold lsE tblE
  simp only
  rw [if_neg fun q => hab q.symm]
  rfl
set_option maxHeartbeats 2000000 in
theorem walk (limit a b : Int) (W : World) (ha : In64 a) (hbb : In64 b) :
    Calls Try.prog 7 #[.int .i64 limit, .int .i64 a, .int .i64 b] W fun e w' => e = .returned (.bool true) ∧ Below W.heap.size W w' := by
  have WK := Lib.hid fun w' => works20_ok w'
  obtain ⟨r, hr⟩ : ∃ r : Int, r = (IntKind.u64.wrap limit).tmod 40 := ⟨_, rfl⟩
  have hr0 : 0 ≤ r ∧ r < 40 := by
    rw [hr]
    have : 0 ≤ IntKind.u64.wrap limit := by simp [IntKind.wrap, IntKind.bits, IntKind.signed]; omega
    rw [Int.tmod_eq_emod_of_nonneg this]
    omega
  have e1 : wrap64 r = r := by unfold wrap64; omega
  obtain ⟨L, hL⟩ : ∃ L : Nat, (L : Int) = 1 + r := ⟨(1 + r).toNat, by omega⟩
  have hL0 : 1 ≤ L ∧ L ≤ 40 := by omega
  have e2 : wrap64 (1 + r) = L := by unfold wrap64; omega
  have e3 : 1 + r = L := hL.symm
  have hru := hr.symm
  clear hL
  replace hr := Lib.hid hr
  go_enter Try.func7, Try.ntmps7
  go_wp2_with fail
  refine (WK.out W).mono ?_
  rintro e w0 ⟨rfl, b0⟩
  have C := Lib.hid (fw_new (L : Int) 9 b0)
  replace b0 := Lib.hid b0
  go_wp2_with fail
  refine C.out.mono ?_
  rintro e w1 ⟨B, rfl, h1⟩
  rw [fq_new a (by omega) (by omega)] at h1
  replace h1 := Lib.hid h1
  clear C WK
  go_wp2_with fail
  go_loopg [8] L (fun g' s8 wr => ∃ i : Nat, i + g' = L ∧ s8 = .int .i64 i ∧ Hid (FW W wr B (fq L a i)))
  case atStart => exact ⟨0, by omega, rfl, h1⟩
  case round =>
    obtain ⟨i, hi, rfl, h⟩ := hrel
    by_cases hlt : i < L
    · have g1 : decide ((i : Int) < (L : Int)) = true := decide_eq_true (by omega)
      have g1' : decide (i < L) = true := decide_eq_true hlt
      have CP : Hid (Calls Try.prog 10 #[ptr B, .int .i64 a, .string ⟨#[120]⟩] wr fun e w' => e = .returned (.int .i64 0) ∧ FW W w' B (fq L a (i + 1))) := by
        have := h.out.push a sX ha (by show i < 1000000; omega) (by decide)
        rw [fq_e (by omega), fq_q (by omega)] at this
        exact this
      clear h
      go_wp2_with fail
      refine CP.out.mono ?_
      rintro e w2 ⟨rfl, h2⟩
      replace h2 := Lib.hid h2
      clear CP
      go_wp2_with fail
      go_roundg (L - (i + 1))
      case measure => omega
      case rel => exact ⟨i + 1, by omega, by go_num, h2⟩
    · obtain rfl : i = L := by omega
      have g1 : decide ((i : Int) < (i : Int)) = false := decide_eq_false (by omega)
      have g1' : decide (i < i) = false := decide_eq_false hlt
      have CP : Hid (Calls Try.prog 10 #[ptr B, .int .i64 a, .string ⟨#[120]⟩] wr fun e w' => e = .returned (.int .i64 4) ∧ FW W w' B (fz i a i)) := by
        have := h.out.push a sX ha (by show i < 1000000; omega) (by decide)
        rw [fq_full (by omega) rfl, fz_q (by omega) rfl] at this
        exact this
      have CC : Hid (∀ w, FW W w B (fz i a i) → Calls Try.prog 16 #[ptr B] w fun e w' => e = .returned (.int .i64 i) ∧ w = w') := fun w h => by
        have := h.count
        rw [show cntE (fz i a i).r = i from fq_cnt i a i] at this
        exact this
      have hne : i ≠ 0 := by omega
      clear h
      go_wp2_with fail
      refine CP.out.mono ?_
      rintro e w2 ⟨rfl, h2⟩
      have C2 := Lib.hid (CC.out w2 h2)
      replace h2 := Lib.hid h2
      clear CP CC
      go_wp2_with fail
      refine C2.out.mono ?_
      rintro e w3 ⟨rfl, rfl⟩
      clear C2
      by_cases hab : a = b
      · have q1 : decide (a = b) = true := decide_eq_true hab
        have q2 : (a == b) = true := by simp [hab]
        have CD : Hid (Calls Try.prog 14 #[ptr B, .int .i64 a] w2 fun e w' => e = .returned (.int .i64 i) ∧ FW W w' B (dropE (fz i a i) a)) := by
          have := h2.out.drop a ha (by show i + 1 < 1000000; omega)
          rw [ls_fz i a i hne, List.length_replicate] at this
          exact this
        have CC : Hid (∀ w, FW W w B (dropE (fz i a i) a) → Calls Try.prog 16 #[ptr B] w fun e w' => e = .returned (.int .i64 0) ∧ w = w') := fun w h => by
          have := h.count
          rw [drop_fz i a i hne] at this
          exact this
        replace hab := Lib.hid hab
        clear h2
        go_wp2_with fail
        refine CD.out.mono ?_
        rintro e w4 ⟨rfl, h4⟩
        have C4 := Lib.hid (CC.out w4 h4)
        replace h4 := Lib.hid h4
        clear CD CC
        go_wp2_with fail
        refine C4.out.mono ?_
        rintro e w5 ⟨rfl, rfl⟩
        clear C4
        go_wp2_with fail
        go_ret
        exact ⟨rfl, h4.out.bel⟩
      · have q1 : decide (a = b) = false := decide_eq_false hab
        have q2 : (a == b) = false := by simp [hab]
        have CP : Hid (Calls Try.prog 10 #[ptr B, .int .i64 b, .string ⟨#[121]⟩] w2 fun e w' => e = .returned (.int .i64 0) ∧ FW W w' B (fy i a b i)) := by
          have := h2.out.push b sY hbb (by show i + 1 < 1000000; omega) (by decide)
          rw [(fy_q hne hab).1, (fy_q hne hab).2] at this
          exact this
        have CD : Hid (∀ w, FW W w B (fy i a b i) → Calls Try.prog 14 #[ptr B, .int .i64 a] w fun e w' => e = .returned (.int .i64 i) ∧ FW W w' B ⟨i, 9, [⟨b, [sY], 0⟩], false, i + 2⟩) := fun w h => by
          have := h.drop a ha (by show i + 2 < 1000000; omega)
          rw [ls_fy, List.length_replicate, drop_fy hab] at this
          exact this
        have CC : Hid (∀ w, FW W w B ⟨i, 9, [⟨b, [sY], 0⟩], false, i + 2⟩ → Calls Try.prog 16 #[ptr B] w fun e w' => e = .returned (.int .i64 1) ∧ w = w') := fun w h => h.count
        have CE : Hid (∀ w, FW W w B ⟨i, 9, [⟨b, [sY], 0⟩], false, i + 2⟩ → Calls Try.prog 14 #[ptr B, .int .i64 a] w fun e w' => e = .returned (.int .i64 0) ∧ Below W.heap.size W w') := fun w h => by
          have := h.drop a ha (by show i + 2 < 1000000; omega)
          rw [ls_none hab] at this
          exact this.mono fun e w' q => ⟨q.1, q.2.bel⟩
        replace hab := Lib.hid hab
        clear h2
        go_wp2_with fail
        refine CP.out.mono ?_
        rintro e w4 ⟨rfl, h4⟩
        have C4 := Lib.hid (CD.out w4 h4)
        clear CP CD h4
        go_wp2_with fail
        refine C4.out.mono ?_
        rintro e w5 ⟨rfl, h5⟩
        have C5 := Lib.hid (CC.out w5 h5)
        have C6 := Lib.hid (CE.out w5 h5)
        clear C4 CC CE h5
        go_wp2_with fail
        refine C5.out.mono ?_
        rintro e w6 ⟨rfl, rfl⟩
        clear C5
        go_wp2_with fail
        refine C6.out.mono ?_
        rintro e w6 ⟨rfl, h6⟩
        replace h6 := Lib.hid h6
        clear C6
        go_wp2_with fail
        go_ret
        exact ⟨rfl, h6.out⟩

theorem contract (H : Type) (enc : TypeId × Value → H) (W : World) (base : Nat) (args : Array Value) (ds gs : List (DataW H)) (before : List MemPlace)
    (hval : ∀ (j : Nat) t v, Try.f7.params[j]? = some t → args[j]? = some v → Value.okWide Try.prog W .any base t v)
    (hW : DataW.Whole enc Try.prog Try.f7.params.toList Rows.fairFullSpec.vars false W args.toList ds gs before) :
    Calls Try.prog 7 args W fun e W' => ∃ v, e = .returned v ∧ Rows.fairFullSpec.post enc Try.prog Try.f7 false true false false W args v W' := by
  have hW' := hW
  obtain ⟨p, q, hA0, hV, rfl, hfz, hnd⟩ := hW
  have hA : DataW.TrodAll enc Try.prog W 0 (fun _ => true) true Try.f7.params.toList args.toList ds p := hA0
  rw [Try.params7] at hA hval
  obtain ⟨v0, vs0, d0, ds0, p0, q0, hargs, rfl, rfl, h0, r0⟩ := trodAll_cons hA
  obtain ⟨v1, vs1, d1, ds1, p1, q1, rfl, rfl, rfl, h1, r1⟩ := trodAll_cons r0
  obtain ⟨v2, vs2, d2, ds2, p2, q2, rfl, rfl, rfl, h2, r2⟩ := trodAll_cons r1
  obtain ⟨rfl, rfl, rfl⟩ := trodAll_nil r2
  obtain rfl : args = #[v0, v1, v2] := by cases args; simp_all
  obtain ⟨rfl, rfl⟩ := trodVars_none hV
  obtain ⟨a0, rfl, rfl, rfl, w0⟩ := open_int Try.underlying3 (hval 0 3 v0 rfl rfl) h0
  have b0 := bounds_i64 w0
  obtain ⟨a1, rfl, rfl, rfl, w1⟩ := open_int Try.underlying2 (hval 1 2 v1 rfl rfl) h1
  have b1 := bounds_i64 w1
  obtain ⟨a2, rfl, rfl, rfl, w2⟩ := open_int Try.underlying2 (hval 2 2 v2 rfl rfl) h2
  have b2 := bounds_i64 w2
  clear hA0
  simp only [List.append_nil] at hW'
  refine (walk a0 a1 a2 W b1 b2).mono fun e W' ⟨he, bel⟩ => ?_
  subst he
  exact ⟨_, rfl, _, _, _, [], _, [], hW', trodAll_mk1 (shut_bool Try.underlying4 _), (trodAll_cons_mk (shut_int Try.underlying3 w0) (trodAll_cons_mk (shut_int Try.underlying2 w1) (trodAll_cons_mk (shut_int Try.underlying2 w2) trodAll_mk0))), rfl, bel.frame _, fun h => by cases h⟩

theorem laid_met (os : Os) : laidMet Try.prog Rows.fairFullRow.laid ((startWorld Try.prog os).forCall (fun _ _ => 0) ⟨#[], #[.int .i64 0, .int .i64 0, .int .i64 0], []⟩).memory :=
  laidMet_of_run' 8 (by kernel_rfl) (by kernel_rfl)
theorem reads (os : Os) {H : Type} (enc : TypeId × Value → H) : ∃ places, DataW.whole enc Try.prog ((startWorld Try.prog os).forCall (fun _ _ => 0) ⟨#[], #[.int .i64 0, .int .i64 0, .int .i64 0], []⟩).memory Try.f7.params.toList Rows.fairFullSpec.vars false #[Value.int .i64 0, Value.int .i64 0, Value.int .i64 0].toList 8 = some ([.lit (.int .i64 0), .lit (.int .i64 0), .lit (.int .i64 0)], [], places) :=
  ⟨[], by kernel_rfl⟩

set_option maxRecDepth 100000 in
theorem lifted (os : Os) (started : os.Started) (H : Type) (enc : TypeId × Value → H) (F : Stop.Interp) :
    ReturnsInHanded {} Try.checked os 7 .any ((OpenSpec.ofChange Rows.fairFullSpec).preRow enc Try.prog Try.f7 Rows.fairFullRow.domain false Rows.fairFullRow.laid) (((OpenSpec.ofChange Rows.fairFullSpec).at F).post enc Try.prog Try.f7 false true false false) := by
  obtain ⟨places, hx⟩ := reads os enc
  refine returnsInHanded_of_row (C := Try.checked) (s := OpenSpec.ofChange Rows.fairFullSpec) own started (by kernel_rfl) Try.func7
    (witness_row_at (enc := enc) (C := Try.checked) false (startWorld Try.prog os) #[.int .i64 0, .int .i64 0, .int .i64 0] rfl (by kernel_rfl) (by kernel_rfl) (by kernel_rfl)
      (OpenSpec.preRow_of_cond 8 hx (by kernel_rfl) (fun k hk => by cases hk) (by kernel_rfl) (laid_met os))) ?_
  intro W base args ds gs before hval hW _ _ _ _ _ _
  exact contract H enc W base args ds gs before hval hW

theorem said : Rows.FairFullSaid :=
  OpenClaim.holds_of_cond 7 Try.f7 rfl rfl rfl rfl rfl rfl rfl ⟨rfl, rfl, rfl, rfl, rfl⟩ rfl rfl rfl rfl rfl (by kernel_rfl) Try.func7 (by kernel_rfl)
    (of_decide_eq_true (by kernel_rfl)) (by unfold Func.isWrapper; first | (rw [if_pos (by decide +kernel)]; kernel_rfl) | (rw [if_neg (by decide +kernel)]; exact ⟨rfl, rfl⟩))
    (fun os started H enc _ F => by rw [OpenClaim.pre_eq_preRow]; exact lifted os started H enc F)
end Go.Proofs.Ytiamlldooihkdaa.fairFull
namespace Go.Proofs.Ytiamlldooihkdaa
theorem fairFull_said : Rows.FairFullSaid := fairFull.said
end Go.Proofs.Ytiamlldooihkdaa
