/-
  What the document's own Turn, Classes and Class answer. No condition but the form's own reach.
-/
import Derived.Test.YthdajlaeacfcpaaSlRef
namespace Go.Proofs.Ythdajlaeacfcpaa
set_option maxRecDepth 100000
open Go.RowKit

theorem turn_bad {l : List Int} {t who : Int} (h : who < 0 ∨ 65536 < l.length ∨ t < 0 ∨ 4611686018427387903 < t) : turnV l t who = -1 := by unfold turnV; rw [if_pos h]
theorem turn_in {l : List Int} {t who : Int} (h : ¬ (who < 0 ∨ 65536 < l.length ∨ t < 0 ∨ 4611686018427387903 < t)) : turnV l t who = match fstP (prp l who) t.toNat l.length with | some u => (u : Int) | none => -1 := by unfold turnV; rw [if_neg h]; rfl
set_option maxHeartbeats 2000000 in
theorem rturn_ok {w : World} {v : Value} {l : List Int} (h : Tb w v l) (t who : Int) :
    Calls Try.prog 12 #[v, .int .i64 t, .int .i64 who] w fun e w' => e = .returned (.int .i64 (turnV l t who)) ∧ w = w' := by
  have FN := Lib.hid (rfine_ok h who)
  have OW := Lib.hid fun t => rowner_ok h t
  obtain ⟨a, c, rfl⟩ := h.slice
  have hz := h.z
  clear h
  by_cases h1 : who < 0 ∨ 65536 < l.length
  · have e := turn_bad (l := l) (t := t) (who := who) (by omega)
    rw [e]
    rw [decide_eq_false (p := ¬ (who < 0 ∨ 65536 < l.length)) (by omega)] at FN
    generalize l.length = n at *
    clear e h1 OW hz
    go_enter Try.func12, Try.ntmps12
    go_wp2_with fail
    refine FN.out.mono ?_
    rintro e w' ⟨rfl, rfl⟩
    clear FN
    go_wp2_with fail
    go_ret
    exact ⟨rfl, rfl⟩
  rw [decide_eq_true (p := ¬ (who < 0 ∨ 65536 < l.length)) h1] at FN
  by_cases h2 : t < 0
  · have e := turn_bad (l := l) (t := t) (who := who) (by omega)
    rw [e]
    have q1 : decide (t < 0) = true := decide_eq_true h2
    generalize l.length = n at *
    clear e h1 OW hz
    go_enter Try.func12, Try.ntmps12
    go_wp2_with fail
    refine FN.out.mono ?_
    rintro e w' ⟨rfl, rfl⟩
    clear FN
    go_wp2_with fail
    go_ret
    exact ⟨rfl, rfl⟩
  have q1 : decide (t < 0) = false := decide_eq_false h2
  by_cases h3 : 4611686018427387903 < t
  · have e := turn_bad (l := l) (t := t) (who := who) (by omega)
    rw [e]
    have q2 : decide (4611686018427387903 < t) = true := decide_eq_true h3
    generalize l.length = n at *
    clear e h1 OW hz
    go_enter Try.func12, Try.ntmps12
    go_wp2_with fail
    refine FN.out.mono ?_
    rintro e w' ⟨rfl, rfl⟩
    clear FN
    go_wp2_with fail
    go_ret
    exact ⟨rfl, rfl⟩
  have q2 : decide (4611686018427387903 < t) = false := decide_eq_false h3
  have e0 := turn_in (l := l) (t := t) (who := who) (by omega)
  obtain ⟨T, hT⟩ : ∃ T : Nat, t = (T : Int) := Int.eq_ofNat_of_zero_le (by omega)
  subst hT
  rw [Int.toNat_natCast] at e0
  obtain ⟨n, hn⟩ : ∃ n, n = l.length := ⟨_, rfl⟩
  rw [← hn] at e0 FN OW
  have hn1 : n ≤ 65536 := by omega
  have hT1 : T ≤ 4611686018427387903 := by omega
  have ST : Hid (∀ i : Nat, (prp l who (T + i) = true → ownV l ((T + i : Nat) : Int) = who) ∧ (prp l who (T + i) = false → ownV l ((T + i : Nat) : Int) ≠ who)) := fun i => ⟨fun h => of_decide_eq_true h, fun h => of_decide_eq_false h⟩
  have HIT : Hid (∀ i : Nat, i < n → prp l who (T + i) = true → (∀ j, j < i → prp l who (T + j) = false) → turnV l (T : Int) who = ((T + i : Nat) : Int)) := fun i hi hp hb => by
    rw [e0, fst_of (u := T + i) (by omega) (by omega) hp fun v v1 v2 => by
      have := hb (v - T) (by omega)
      rw [Nat.add_sub_cancel' v1] at this
      exact this]
  have NON : Hid ((∀ j, j < n → prp l who (T + j) = false) → turnV l (T : Int) who = -1) := fun hb => by
    rw [e0]
    cases hf : fstP (prp l who) T n with
    | none => rfl
    | some u =>
      obtain ⟨u1, u2, u3, -⟩ := fst_some hf
      have := hb (u - T) (by omega)
      rw [Nat.add_sub_cancel' u1, u3] at this
      cases this
  clear e0 hz h1 h2 h3
  generalize turnV l (T : Int) who = res at *
  rw [← hn]
  clear hn
  go_enter Try.func12, Try.ntmps12
  go_wp2_with fail
  refine FN.out.mono ?_
  rintro e w' ⟨rfl, rfl⟩
  clear FN
  go_wp2_with fail
  clear q1 q2
  go_loopg [7] n (fun g' s7 wr => ∃ i : Nat, i + g' = n ∧ s7 = .int .i64 i ∧ w = wr ∧ Hid (∀ j, j < i → prp l who (T + j) = false))
  case atStart => exact ⟨0, by omega, rfl, rfl, fun j hj => absurd hj (Nat.not_lt_zero _)⟩
  case round =>
    obtain ⟨i, hi, rfl, rfl, BEF⟩ := hrel
    by_cases hlt : i < n
    · have q1 : decide (i < n) = true := decide_eq_true hlt
      have q2 : decide ((i : Int) < (n : Int)) = true := decide_eq_true (by omega)
      have wi : Hid (wrap64 ((i : Int) + 1) = (i : Int) + 1) := wrap_in rfl (by omega) (by omega)
      have wt : Hid (wrap64 ((T : Int) + (i : Int)) = ((T + i : Nat) : Int)) := wrap_in (by omega) (by omega) (by omega)
      have gi : Hid (i + 1 + (n - (i + 1)) = n) := by unfold Hid; omega
      have gm : Hid (n - (i + 1) < gk) := by unfold Hid; omega
      have C := Lib.hid (OW.out ((T + i : Nat) : Int))
      obtain ⟨x, hx⟩ : ∃ x, x = ownV l ((T + i : Nat) : Int) := ⟨_, rfl⟩
      obtain ⟨S1, S2⟩ := ST.out i
      rw [← hx] at C S1 S2
      obtain ⟨ti, hti⟩ : ∃ m : Nat, m = T + i := ⟨_, rfl⟩
      have HI := HIT.out i hlt
      rw [← hti] at C wt S1 S2 HI
      clear hx hi hT1 hn1 HIT ST
      cases hp : prp l who ti with
      | true =>
        have e1 : (x == who) = true := by simp [S1 hp]
        have e2 : decide (x = who) = true := decide_eq_true (S1 hp)
        have r1 := Lib.hid (HI hp BEF.out)
        replace wt := wt.out
        clear S1 S2 HI NON OW BEF hp hti
        go_wp2_with fail
        refine C.out.mono ?_
        rintro e w' ⟨rfl, rfl⟩
        clear C
        go_wp2_with fail
        go_ret
        exact ⟨by rw [r1.out, ← wt]; rfl, rfl⟩
      | false =>
        have e1 : (x == who) = false := by simp [S2 hp]
        have e2 : decide (x = who) = false := decide_eq_false (S2 hp)
        have BE2 : Hid (∀ j, j < i + 1 → prp l who (T + j) = false) := fun j hj => by
          by_cases q : j = i
          · rw [q, ← hti]; exact hp
          · exact BEF.out j (by omega)
        replace wt := wt.out
        clear S1 S2 HI NON OW BEF hp hti
        go_wp2_with fail
        refine C.out.mono ?_
        rintro e w' ⟨rfl, rfl⟩
        clear C
        go_upto_region 5 with fail
        clear e1 e2 wt q1 q2 hlt
        replace wi := wi.out
        go_wp2_with fail
        go_roundg (n - (i + 1))
        case measure => exact gm.out
        case rel => exact ⟨i + 1, gi.out, by go_num, rfl, BE2⟩
    · obtain rfl : i = n := by omega
      have q1 : decide (i < i) = false := decide_eq_false hlt
      have q2 : decide ((i : Int) < (i : Int)) = false := decide_eq_false (by omega)
      have r1 := Lib.hid (NON.out BEF.out)
      clear NON HIT OW BEF hi hlt ST hT1
      go_wp2_with fail
      go_ret
      exact ⟨by rw [r1.out]; rfl, rfl⟩
def clsV : List Int := [128, 256, 512, 1200]
theorem rclasses_ok (w : World) : Calls Try.prog 8 #[] w fun e w' => e = .returned (.slice (some ⟨w.heap.size, 0, none⟩) 4 4) ∧ w' = w.alloc (.cells #[.int .i64 128, .int .i64 256, .int .i64 512, .int .i64 1200] 3) := by
  go_enter Try.func8, Try.ntmps8
  go_wp2_with fail
  go_ret
  exact ⟨rfl, rfl⟩
theorem cls_at (i : Nat) (hi : i < 4) : clsV.getD i 0 = (if i = 0 then 128 else if i = 1 then 256 else if i = 2 then 512 else 1200) := by
  have c : i = 0 ∨ i = 1 ∨ i = 2 ∨ i = 3 := by omega
  rcases c with rfl | rfl | rfl | rfl <;> rfl
theorem class_hit {n : Int} (h0 : 0 ≤ n) {i : Nat} (hi : i < 4) (hb : ∀ j, j < i → clsV.getD j 0 < n) (h : n ≤ clsV.getD i 0) : classV n = clsV.getD i 0 := by
  have c : i = 0 ∨ i = 1 ∨ i = 2 ∨ i = 3 := by omega
  unfold classV
  rw [if_neg (by omega)]
  rcases c with rfl | rfl | rfl | rfl
  · have h : n ≤ 128 := h
    rw [if_pos h]; rfl
  · have b0 : (128 : Int) < n := hb 0 (by decide)
    have h : n ≤ 256 := h
    rw [if_neg (by omega), if_pos h]; rfl
  · have b0 : (128 : Int) < n := hb 0 (by decide)
    have b1 : (256 : Int) < n := hb 1 (by decide)
    have h : n ≤ 512 := h
    rw [if_neg (by omega), if_neg (by omega), if_pos h]; rfl
  · have b0 : (128 : Int) < n := hb 0 (by decide)
    have b1 : (256 : Int) < n := hb 1 (by decide)
    have b2 : (512 : Int) < n := hb 2 (by decide)
    have h : n ≤ 1200 := h
    rw [if_neg (by omega), if_neg (by omega), if_neg (by omega), if_pos h]; rfl
theorem class_none {n : Int} (hb : ∀ j, j < 4 → clsV.getD j 0 < n) : classV n = 0 := by
  have b3 : (1200 : Int) < n := hb 3 (by decide)
  unfold classV
  rw [if_neg (by omega), if_neg (by omega), if_neg (by omega), if_neg (by omega), if_neg (by omega)]
theorem class_neg {n : Int} (h : n < 0) : classV n = 0 := by unfold classV; rw [if_pos h]
set_option maxHeartbeats 1000000 in
theorem rclass_ok (n : Int) (w : World) : Calls Try.prog 16 #[.int .i64 n] w fun e w' => e = .returned (.int .i64 (classV n)) ∧ Below w.heap.size w w' := by
  have C := Lib.hid (rclasses_ok w)
  obtain ⟨w1, hw1⟩ : ∃ w1, w1 = w.alloc (.cells #[.int .i64 128, .int .i64 256, .int .i64 512, .int .i64 1200] 3) := ⟨_, rfl⟩
  have b1 : Hid (Below w.heap.size w w1) := by rw [hw1]; exact (Below.refl _ _).alloc (Nat.le_refl _) _
  have l1 : Lies w1 w.heap.size [.int .i64 128, .int .i64 256, .int .i64 512, .int .i64 1200] := by rw [hw1]; exact Lies.new w [.int .i64 128, .int .i64 256, .int .i64 512, .int .i64 1200] _
  have CE : Hid (∀ i, i < 4 → w1.cell? ⟨w.heap.size, i, none⟩ = some (.int .i64 (clsV.getD i 0))) := fun i hi => by
    have c : i = 0 ∨ i = 1 ∨ i = 2 ∨ i = 3 := by omega
    rcases c with rfl | rfl | rfl | rfl
    · exact l1.cell 0 rfl
    · exact l1.cell 1 rfl
    · exact l1.cell 2 rfl
    · exact l1.cell 3 rfl
  have IX : Hid (∀ (i : Nat) w', i < 4 → (Instr.indexAt 22 (.slice (some ⟨w.heap.size, 0, none⟩) 4 4) (.int .i64 (i : Int))).run Try.prog w' = .ok (.pointer (some ⟨w.heap.size, i, none⟩)) w') := fun i w' hi => at_R (n := 1) Try.underlying22 (by intro w; kernel_rfl) w.heap.size 0 4 4 i w' hi _ rfl i (by omega)
  clear l1
  go_enter Try.func16, Try.ntmps16
  go_wp2_with fail
  refine C.out.mono ?_
  rintro e w' ⟨rfl, hw'⟩
  rw [← hw1] at hw'
  subst hw'
  clear C hw1
  generalize w.heap.size = g at CE IX ⊢
  go_wp2_with fail
  by_cases h0 : n < 0
  · have e := class_neg h0
    have q1 : decide (0 ≤ n) = false := decide_eq_false (by omega)
    have q2 : ¬ 0 ≤ n := by omega
    replace e := Lib.hid e
    refine wp_loop_rounds 1 ?_
    rw [rounds_succ]
    go_wp2_with fail
    go_ret
    exact ⟨by rw [e.out]; rfl, b1.out⟩
  have q0 : decide (0 ≤ n) = true := decide_eq_true (by omega)
  have q00 : 0 ≤ n := by omega
  have HIT : Hid (∀ i, i < 4 → (∀ j, j < i → clsV.getD j 0 < n) → n ≤ clsV.getD i 0 → classV n = clsV.getD i 0) := fun i hi hb h => class_hit (by omega) hi hb h
  have NON : Hid ((∀ j, j < 4 → clsV.getD j 0 < n) → classV n = 0) := class_none
  go_loopg [4] 4 (fun g' s4 wr => ∃ i : Nat, i + g' = 4 ∧ s4 = .int .i64 i ∧ w' = wr ∧ Hid (∀ j, j < i → clsV.getD j 0 < n))
  case atStart => exact ⟨0, by omega, rfl, rfl, fun j hj => absurd hj (Nat.not_lt_zero _)⟩
  case round =>
    obtain ⟨i, hi, rfl, rfl, BEF⟩ := hrel
    by_cases hlt : i < 4
    · have q1 : decide (i < 4) = true := decide_eq_true hlt
      have q2 : decide ((i : Int) < 4) = true := decide_eq_true (by omega)
      have wi : Hid (wrap64 ((i : Int) + 1) = (i : Int) + 1) := wrap_in rfl (by omega) (by omega)
      have gi : Hid (i + 1 + (4 - (i + 1)) = 4) := by unfold Hid; omega
      have gm : Hid (4 - (i + 1) < gk) := by unfold Hid; omega
      have ix := fun w' => IX.out i w' hlt
      have ce := CE.out i hlt
      have HI := HIT.out i hlt BEF.out
      obtain ⟨x, hx⟩ : ∃ x, x = clsV.getD i 0 := ⟨_, rfl⟩
      rw [← hx] at ce HI
      by_cases hn : n ≤ x
      · have e1 : decide (n ≤ x) = true := decide_eq_true hn
        have r1 := Lib.hid (HI hn)
        clear HI BEF HIT NON hx hi
        go_wp2_with fail
        go_ret
        exact ⟨by rw [r1.out]; rfl, b1.out⟩
      · have e1 : decide (n ≤ x) = false := decide_eq_false hn
        have BE2 : Hid (∀ j, j < i + 1 → clsV.getD j 0 < n) := fun j hj => by
          by_cases q : j = i
          · rw [q, ← hx]; omega
          · exact BEF.out j (by omega)
        clear HI BEF HIT NON hx hi
        go_upto_region 4 with fail
        clear e1 q1 q2 hlt ix ce hn q0 q00 h0
        replace wi := wi.out
        go_wp2_with fail
        go_roundg (4 - (i + 1))
        case measure => exact gm.out
        case rel => exact ⟨i + 1, gi.out, by go_num, rfl, BE2⟩
    · obtain rfl : i = 4 := by omega
      have q2 : decide (((4 : Nat) : Int) < 4) = false := by decide
      have q3 : decide ((4 : Int) < 4) = false := by decide
      have r1 := Lib.hid (NON.out BEF.out)
      clear NON HIT BEF hi hlt
      go_wp2_with fail
      go_ret
      exact ⟨by rw [r1.out]; rfl, b1.out⟩
end Go.Proofs.Ythdajlaeacfcpaa
