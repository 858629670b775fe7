/-
  What the program's own Owner, Turn, Round, Classes and Class answer. No condition but the form's own reach.
-/
import Derived.Test.YthdajlaeacfcpaaSlFace
namespace Go.Proofs.Ythdajlaeacfcpaa
set_option maxRecDepth 100000
open Go.RowKit

/-- The greatest distance, tick by tick. -/
def scanL (p : Nat → Bool) : Nat → Nat → Nat → Nat → Nat
  | 0, _, _, m => m
  | k + 1, t, b, m => if p t then scanL p k (t + 1) t (max m (t - b)) else scanL p k (t + 1) b m
theorem scan_gap {p : Nat → Bool} {n a : Nat} (h : Per p n) (ha : fstP p 0 n = some a) : ∀ (k t b m K : Nat), t + k = a + n + 1 → b < t → a ≤ b → p b = true → (∀ v, b < v → v < t → p v = false) → n + 1 ≤ b + K → scanL p k t b m = gapL p n K b m := by
  obtain ⟨-, a2, a3, a4⟩ := fst_some ha
  have an : p (a + n) = true := by rw [h]; exact a3
  intro k
  induction k with
  | zero =>
    intro t b m K ht hb hab pb hv hK
    have e : ¬ b < n := fun c => by
      have := hv (a + n) (by omega) (by omega)
      rw [an] at this
      cases this
    rw [scanL]
    cases K with
    | zero => rfl
    | succ K => rw [gapL, if_neg e]
  | succ k ih =>
    intro t b m K ht hb hab pb hv hK
    have hbn : b < n := by
      rcases Nat.lt_or_ge b n with c | c
      · exact c
      · have hq : p (b - n) = true := by
          have := h (b - n)
          rw [Nat.sub_add_cancel c] at this
          rw [← this]; exact pb
        rcases Nat.lt_or_ge (b - n) a with d | d
        · have := a4 (b - n) (Nat.zero_le _) d
          rw [hq] at this
          cases this
        · omega
    rw [scanL]
    cases hp : p t with
    | true =>
      rw [if_pos rfl]
      obtain ⟨K, rfl⟩ : ∃ k, K = k + 1 := ⟨K - 1, by omega⟩
      have hf : fstP p (b + 1) n = some t := fst_of (by omega) (by omega) hp fun v v1 v2 => hv v (by omega) v2
      rw [gapL, if_pos hbn, hf]
      exact ih (t + 1) t _ K (by omega) (by omega) (by omega) hp (fun v v1 v2 => by omega) (by omega)
    | false =>
      rw [if_neg (by decide)]
      refine ih (t + 1) b m K (by omega) (by omega) hab pb (fun v v1 v2 => ?_) hK
      rcases Nat.lt_or_ge v t with c | c
      · exact hv v v1 c
      · have : v = t := by omega
        rw [this]; exact hp
theorem gap_scan {p : Nat → Bool} {n a : Nat} (h : Per p n) (ha : fstP p 0 n = some a) : scanL p n (a + 1) a 0 = gapP p n := by
  obtain ⟨-, a2, a3, a4⟩ := fst_some ha
  have := scan_gap h ha n (a + 1) a 0 (n + 1) (by omega) (by omega) (Nat.le_refl _) a3 (fun v v1 v2 => by omega) (by omega)
  rw [this]
  unfold gapP
  rw [ha]
set_option maxHeartbeats 1000000 in
theorem powner_ok {w : World} {v : Value} {l : List Int} (h : Tb w v l) (t : Int) :
    Calls Try.prog 9 #[v, .int .i64 t] w fun e w' => e = .returned (.int .i64 (ownV l t)) ∧ w = w' := by
  obtain ⟨a, c, rfl⟩ := h.slice
  have hz := h.z
  by_cases h0 : t < 0
  · have e : ownV l t = -1 := by unfold ownV; rw [if_pos (.inl h0)]
    rw [e]
    have q1 : decide (t < 0) = true := decide_eq_true h0
    clear h e
    go_enter Try.func9, Try.ntmps9
    go_wp2_with fail
    go_ret
    exact ⟨rfl, rfl⟩
  · have q1 : decide (t < 0) = false := decide_eq_false h0
    obtain ⟨n, hn⟩ : ∃ n, n = l.length := ⟨_, rfl⟩
    have n64 : n ≤ 9223372036854775807 := by omega
    by_cases h1 : n = 0
    · have e : ownV l t = -1 := by unfold ownV; rw [if_pos (.inr (by omega))]
      rw [e]
      rw [← hn]
      subst h1
      clear h e hn hz
      go_enter Try.func9, Try.ntmps9
      go_wp2_with fail
      go_ret
      exact ⟨rfl, rfl⟩
    · have q2 : ((n : Int) == 0) = false := by simp; omega
      have q3 : decide ((n : Int) = 0) = false := decide_eq_false (by omega)
      have hj : t.toNat % n < n := Nat.mod_lt _ (by omega)
      obtain ⟨g, o, rfl, ia, ce⟩ := h.at _ (by rw [← hn]; exact hj)
      have ix : ∀ w', (Instr.indexAt 22 (.slice (some ⟨g, o, none⟩) n c) (.int .i64 (t.tmod (n : Int)))).run Try.prog w' = .ok (.pointer (some ⟨g, o + t.toNat % n, none⟩)) w' := fun w' => by
        have := ia w' _ (tmod_at t _ (by omega))
        rw [← hn] at this
        exact this
      obtain ⟨x, hx⟩ : ∃ x, x = l.getD (t.toNat % n) 0 := ⟨_, rfl⟩
      rw [← hx] at ce
      have e : ownV l t = max x (-1) := by unfold ownV; rw [if_neg (by omega), hx, hn]; exact Int.max_comm _ _
      have mx := Lib.hid (max_at x (-1) w 3 3)
      rw [e]
      rw [← hn]
      replace hz := Lib.hid hz
      clear ia h hx e hj hn hz
      go_enter Try.func9, Try.ntmps9
      go_upto_region 3 with fail
      clear q1 q2 q3 h0
      go_wp2_with (refine obB2L _ rfl .max (.tmp 18) _ 3 3 rfl (.int .i64 x) (.int .i64 (-1)) rfl rfl mx.out ?_)
      go_ret
      exact ⟨rfl, rfl⟩
set_option maxHeartbeats 2000000 in
theorem pturn_ok {w : World} {v : Value} {l : List Int} (h : Tb w v l) (t who : Int) :
    Calls Try.prog 11 #[v, .int .i64 t, .int .i64 who] w fun e w' => e = .returned (.int .i64 (turnV l t who)) ∧ w = w' := by
  have OW := Lib.hid fun t => powner_ok h t
  obtain ⟨a, c, rfl⟩ := h.slice
  have hz := h.z
  clear h
  obtain ⟨n, hn⟩ : ∃ n, n = l.length := ⟨_, rfl⟩
  have n64 : n ≤ 9223372036854775807 := by omega
  by_cases h1 : who < 0
  · have e := turn_bad (l := l) (t := t) (who := who) (by omega)
    rw [e]
    have q1 : decide (who < 0) = true := decide_eq_true h1
    rw [← hn]
    clear e OW hz hn
    go_enter Try.func11, Try.ntmps11
    go_wp2_with fail
    go_ret
    exact ⟨rfl, rfl⟩
  have q1 : decide (who < 0) = false := decide_eq_false h1
  by_cases h2 : t < 0
  · have e := turn_bad (l := l) (t := t) (who := who) (by omega)
    rw [e]
    have q2 : decide (t < 0) = true := decide_eq_true h2
    rw [← hn]
    clear e OW hz hn
    go_enter Try.func11, Try.ntmps11
    go_wp2_with fail
    go_ret
    exact ⟨rfl, rfl⟩
  have q2 : decide (t < 0) = false := decide_eq_false h2
  by_cases h3 : 4611686018427387903 < t
  · have e := turn_bad (l := l) (t := t) (who := who) (by omega)
    rw [e]
    have q3 : decide (4611686018427387903 < t) = true := decide_eq_true h3
    rw [← hn]
    clear e OW hz hn
    go_enter Try.func11, Try.ntmps11
    go_wp2_with fail
    go_ret
    exact ⟨rfl, rfl⟩
  have q3 : decide (4611686018427387903 < t) = false := decide_eq_false h3
  by_cases h4 : 65536 < n
  · have e := turn_bad (l := l) (t := t) (who := who) (by omega)
    rw [e]
    have q4 : decide (65536 < n) = true := decide_eq_true h4
    have q5 : decide ((65536 : Int) < (n : Int)) = true := decide_eq_true (by omega)
    rw [← hn]
    clear e OW hz hn
    go_enter Try.func11, Try.ntmps11
    go_wp2_with fail
    go_ret
    exact ⟨rfl, rfl⟩
  have q4 : decide (65536 < n) = false := decide_eq_false h4
  have q5 : decide ((65536 : Int) < (n : Int)) = false := decide_eq_false (by omega)
  have e0 := turn_in (l := l) (t := t) (who := who) (by omega)
  obtain ⟨T, hT⟩ : ∃ T : Nat, t = (T : Int) := Int.eq_ofNat_of_zero_le (by omega)
  subst hT
  rw [Int.toNat_natCast] at e0
  rw [← hn] at e0 OW
  have hn1 : n ≤ 65536 := by omega
  have hT1 : T ≤ 4611686018427387903 := by omega
  have ST : Hid (∀ i : Nat, (prp l who (T + i) = true → ownV l ((T + i : Nat) : Int) = who) ∧ (prp l who (T + i) = false → ownV l ((T + i : Nat) : Int) ≠ who)) := fun i => ⟨fun h => of_decide_eq_true h, fun h => of_decide_eq_false h⟩
  have HIT : Hid (∀ i : Nat, i < n → prp l who (T + i) = true → (∀ j, j < i → prp l who (T + j) = false) → turnV l (T : Int) who = ((T + i : Nat) : Int)) := fun i hi hp hb => by
    rw [e0, fst_of (u := T + i) (by omega) (by omega) hp fun v v1 v2 => by
      have := hb (v - T) (by omega)
      rw [Nat.add_sub_cancel' v1] at this
      exact this]
  have NON : Hid ((∀ j, j < n → prp l who (T + j) = false) → turnV l (T : Int) who = -1) := fun hb => by
    rw [e0]
    cases hf : fstP (prp l who) T n with
    | none => rfl
    | some u =>
      obtain ⟨u1, u2, u3, -⟩ := fst_some hf
      have := hb (u - T) (by omega)
      rw [Nat.add_sub_cancel' u1, u3] at this
      cases this
  replace hT1 := Lib.hid hT1
  replace hn1 := Lib.hid hn1
  clear e0 hz n64
  generalize turnV l (T : Int) who = res at *
  rw [← hn]
  clear hn
  go_enter Try.func11, Try.ntmps11
  go_upto_region 3 with fail
  clear q1 q2 q3 q4 q5 h1 h2 h3 h4
  go_wp2_with fail
  go_loopg [7, 25] n (fun g' s7 s25 wr => ∃ i : Nat, i + g' = n ∧ s25 = .int .i64 i ∧ w = wr ∧ Hid (∀ j, j < i → prp l who (T + j) = false))
  case atStart => exact ⟨0, by omega, rfl, rfl, fun j hj => absurd hj (Nat.not_lt_zero _)⟩
  case round =>
    obtain ⟨i, hi, rfl, rfl, BEF⟩ := hrel
    replace hn1 := hn1.out
    replace hT1 := hT1.out
    by_cases hlt : i < n
    · have q1 : decide (i < n) = true := decide_eq_true hlt
      have q2 : decide ((i : Int) < (n : Int)) = true := decide_eq_true (by omega)
      have wi : Hid (wrap64 ((i : Int) + 1) = (i : Int) + 1) := wrap_in rfl (by omega) (by omega)
      have wt : Hid (wrap64 ((T : Int) + (i : Int)) = ((T + i : Nat) : Int)) := wrap_in (by omega) (by omega) (by omega)
      have gi : Hid (i + 1 + (n - (i + 1)) = n) := by unfold Hid; omega
      have gm : Hid (n - (i + 1) < gk) := by unfold Hid; omega
      have C := Lib.hid (OW.out ((T + i : Nat) : Int))
      obtain ⟨x, hx⟩ : ∃ x, x = ownV l ((T + i : Nat) : Int) := ⟨_, rfl⟩
      obtain ⟨S1, S2⟩ := ST.out i
      rw [← hx] at C S1 S2
      obtain ⟨ti, hti⟩ : ∃ m : Nat, m = T + i := ⟨_, rfl⟩
      have HI := HIT.out i hlt
      rw [← hti] at C wt S1 S2 HI
      clear hx hi hT1 hn1 HIT ST
      cases hp : prp l who ti with
      | true =>
        have e1 : (x == who) = true := by simp [S1 hp]
        have e2 : decide (x = who) = true := decide_eq_true (S1 hp)
        have r1 := Lib.hid (HI hp BEF.out)
        replace wt := wt.out
        clear S1 S2 HI NON OW BEF hp hti
        go_wp2_with fail
        refine C.out.mono ?_
        rintro e w' ⟨rfl, rfl⟩
        clear C
        go_wp2_with fail
        go_ret
        exact ⟨by rw [r1.out, ← wt]; rfl, rfl⟩
      | false =>
        have e1 : (x == who) = false := by simp [S2 hp]
        have e2 : decide (x = who) = false := decide_eq_false (S2 hp)
        have BE2 : Hid (∀ j, j < i + 1 → prp l who (T + j) = false) := fun j hj => by
          by_cases q : j = i
          · rw [q, ← hti]; exact hp
          · exact BEF.out j (by omega)
        replace wt := wt.out
        clear S1 S2 HI NON OW BEF hp hti
        go_wp2_with fail
        refine C.out.mono ?_
        rintro e w' ⟨rfl, rfl⟩
        clear C
        go_upto_region 8 with fail
        clear e1 e2 wt q1 q2 hlt
        replace wi := wi.out
        go_wp2_with fail
        go_roundg (n - (i + 1))
        case measure => exact gm.out
        case rel => exact ⟨i + 1, gi.out, by go_num, rfl, BE2⟩
    · obtain rfl : i = n := by omega
      have q1 : decide (i < i) = false := decide_eq_false hlt
      have q2 : decide ((i : Int) < (i : Int)) = false := decide_eq_false (by omega)
      have r1 := Lib.hid (NON.out BEF.out)
      clear NON HIT OW BEF hi hlt ST hT1
      go_wp2_with fail
      go_ret
      exact ⟨by rw [r1.out]; rfl, rfl⟩
set_option maxHeartbeats 2000000 in
theorem pround_ok {w : World} {v : Value} {l : List Int} (h : Tb w v l) (who : Int) :
    Calls Try.prog 13 #[v, .int .i64 who] w fun e w' => e = .returned (.int .i64 (roundV l who)) ∧ w = w' := by
  have OW := Lib.hid fun t => powner_ok h t
  have T0 := Lib.hid (pturn_ok h 0 who)
  obtain ⟨a, c, rfl⟩ := h.slice
  have hz := h.z
  clear h
  obtain ⟨n, hn⟩ : ∃ n, n = l.length := ⟨_, rfl⟩
  by_cases h1 : who < 0 ∨ 65536 < l.length
  · have e : roundV l who = 0 := by unfold roundV; rw [if_pos h1]
    rw [turn_bad (l := l) (t := 0) (who := who) (by omega)] at T0
    rw [e]
    rw [← hn] at T0 ⊢
    clear e h1 OW hz hn
    go_enter Try.func13, Try.ntmps13
    go_wp2_with fail
    refine T0.out.mono ?_
    rintro e w' ⟨rfl, rfl⟩
    clear T0
    go_wp2_with fail
    go_ret
    exact ⟨rfl, rfl⟩
  have e : roundV l who = (gapP (prp l who) n : Int) := by unfold roundV; rw [if_neg h1, hn]
  rw [e]
  have t0 := turn_at h1 (t := 0) (by omega)
  have PE : Per (prp l who) n := by rw [hn]; exact prp_per l who
  have ST : Hid (∀ i : Nat, (prp l who i = true → ownV l (i : Int) = who) ∧ (prp l who i = false → ownV l (i : Int) ≠ who)) := fun i => ⟨fun h => of_decide_eq_true h, fun h => of_decide_eq_false h⟩
  rw [← hn] at OW T0 t0 ⊢
  have hn1 : n ≤ 65536 := by omega
  clear e hz h1 hn
  generalize prp l who = p at *
  cases hf : fstP p 0 n with
  | none =>
    have eg : Hid (gapP p n = 0) := by unfold Hid gapP; rw [hf]
    rw [hf] at t0
    have t00 : turnV l 0 who = -1 := t0
    rw [t00] at T0
    clear t0 t00 PE hf OW ST
    go_enter Try.func13, Try.ntmps13
    go_wp2_with fail
    refine T0.out.mono ?_
    rintro e w' ⟨rfl, rfl⟩
    clear T0
    go_wp2_with fail
    go_ret
    exact ⟨by rw [eg.out]; rfl, rfl⟩
  | some a0 =>
    have eg := gap_scan PE hf
    obtain ⟨-, f2, -, -⟩ := fst_some hf
    rw [hf] at t0
    have t00 : turnV l 0 who = (a0 : Int) := t0
    rw [t00] at T0
    obtain ⟨G, hG⟩ : ∃ G, G = gapP p n := ⟨_, rfl⟩
    have hL : Hid (scanL p n (a0 + 1) a0 0 = G) := by unfold Hid; rw [hG, eg]
    rw [← hG]
    have q1 : ((a0 : Int) == -1) = false := beq_eq_false_iff_ne.mpr (by omega)
    have q2 : decide ((a0 : Int) = -1) = false := decide_eq_false (by omega)
    clear t0 t00 hf eg hG PE
    replace f2 : Hid (a0 < 0 + n) := f2
    replace hn1 := Lib.hid hn1
    go_enter Try.func13, Try.ntmps13
    go_wp2_with fail
    refine T0.out.mono ?_
    rintro e w' ⟨rfl, rfl⟩
    clear T0
    go_upto_region 4 with fail
    clear q1 q2
    go_wp2_with fail
    go_loopg [6, 7, 8, 9, 18] n (fun k s6 s7 s8 s9 s18 wr => ∃ i b m : Nat, i + k = n ∧ s18 = .int .i64 i ∧ s7 = .int .i64 b ∧ s6 = .int .i64 m ∧ w = wr ∧ Hid (scanL p k (a0 + 1 + i) b m = G) ∧ b ≤ a0 + i)
    case atStart => exact ⟨0, a0, 0, by omega, rfl, rfl, rfl, rfl, hL, by omega⟩
    case round =>
      clear hL
      obtain ⟨i, b, m, hi, rfl, rfl, rfl, rfl, hL, hb⟩ := hrel
      replace hn1 := hn1.out
      replace f2 := f2.out
      by_cases hlt : i < n
      · have q1 : decide (i < n) = true := decide_eq_true hlt
        have q2 : decide ((i : Int) < (n : Int)) = true := decide_eq_true (by omega)
        obtain ⟨k, rfl⟩ : ∃ k, gk = k + 1 := ⟨gk - 1, by omega⟩
        have hL2 := hL.out
        rw [scanL] at hL2
        obtain ⟨t, ht⟩ : ∃ t, t = a0 + 1 + i := ⟨_, rfl⟩
        rw [← ht] at hL2
        have e1 : a0 + 1 + (i + 1) = t + 1 := by omega
        have wi : Hid (wrap64 ((i : Int) + 1) = (i : Int) + 1) := wrap_in rfl (by omega) (by omega)
        obtain ⟨a1, ha1⟩ : ∃ a1, a1 = a0 + 1 := ⟨_, rfl⟩
        have w1 : Hid (wrap64 ((a0 : Int) + 1) = (a1 : Int)) := wrap_in (by omega) (by omega) (by omega)
        have w2 : Hid (wrap64 ((a1 : Int) + (i : Int)) = (t : Int)) := wrap_in (by omega) (by omega) (by omega)
        obtain ⟨d, hd⟩ : ∃ d, d = t - b := ⟨_, rfl⟩
        have wd : Hid (wrap64 ((t : Int) - (b : Int)) = (d : Int)) := wrap_in (by omega) (by omega) (by omega)
        have gm : Hid (k < k + 1) := Nat.lt_succ_self k
        have gi : Hid (i + 1 + k = n) := by unfold Hid; omega
        have r1 : Hid (t ≤ a0 + (i + 1)) := by unfold Hid; omega
        have r2 : Hid (b ≤ a0 + (i + 1)) := by unfold Hid; omega
        have C := Lib.hid (OW.out (t : Int))
        obtain ⟨x, hx⟩ : ∃ x, x = ownV l (t : Int) := ⟨_, rfl⟩
        obtain ⟨S1, S2⟩ := ST.out t
        rw [← hx] at C S1 S2
        rw [← hd] at hL2
        obtain ⟨M, hM⟩ : ∃ M, M = max m d := ⟨_, rfl⟩
        rw [← hM] at hL2
        have mx := Lib.hid hM
        clear hM
        clear hx hi hn1 f2 ht hd hb hL ST OW ha1
        replace w1 := w1.out
        replace w2 := w2.out
        cases hp : p t with
        | true =>
          rw [hp, if_pos rfl, ← e1] at hL2
          replace hL2 := Lib.hid hL2
          have e2 : (x == who) = true := by simp [S1 hp]
          have e3 : decide (x = who) = true := decide_eq_true (S1 hp)
          clear S1 S2 hp e1
          go_wp2_with fail
          refine C.out.mono ?_
          rintro e w' ⟨rfl, rfl⟩
          have W2 := Lib.hid w2
          clear C w1 w2
          go_upto_region 10 with fail
          clear e2 e3 q1 q2 hlt
          replace wi := wi.out
          go_wp2_with fail
          all_goals rename_i h
          all_goals rw [W2.out, wd.out] at h
          all_goals replace h := Lib.hid h
          · go_roundg k
            case measure => exact gm.out
            case rel => exact ⟨i + 1, t, M, gi.out, by go_num, by rw [W2.out], by rw [W2.out, wd.out, show M = d by have := h.out; have := mx.out; omega], rfl, hL2, r1.out⟩
          · go_roundg k
            case measure => exact gm.out
            case rel => exact ⟨i + 1, t, M, gi.out, by go_num, by rw [W2.out], by rw [show M = m by have := h.out; have := mx.out; omega], rfl, hL2, r1.out⟩
        | false =>
          rw [hp, if_neg (by decide), ← e1] at hL2
          replace hL2 := Lib.hid hL2
          have e2 : (x == who) = false := by simp [S2 hp]
          have e3 : decide (x = who) = false := decide_eq_false (S2 hp)
          clear S1 S2 hp e1
          go_wp2_with fail
          refine C.out.mono ?_
          rintro e w' ⟨rfl, rfl⟩
          clear C w1 w2
          go_upto_region 12 with fail
          clear e2 e3 q1 q2 hlt
          replace wi := wi.out
          go_wp2_with fail
          go_roundg k
          case measure => exact gm.out
          case rel => exact ⟨i + 1, b, m, gi.out, by go_num, rfl, rfl, rfl, hL2, r2.out⟩
      · obtain rfl : i = n := by omega
        obtain rfl : gk = 0 := by omega
        have q1 : decide (i < i) = false := decide_eq_false hlt
        have q2 : decide ((i : Int) < (i : Int)) = false := decide_eq_false (by omega)
        have hL2 : Hid (m = G) := hL.out
        clear hL hi hb hlt ST OW hn1 f2
        go_wp2_with fail
        go_ret
        exact ⟨by rw [← hL2.out]; rfl, rfl⟩
theorem pclasses_ok (w : World) : Calls Try.prog 7 #[] w fun e w' => e = .returned (.slice (some ⟨w.heap.size, 0, none⟩) 4 4) ∧ w' = w.alloc (.cells #[.int .i64 128, .int .i64 256, .int .i64 512, .int .i64 1200] 3) := by
  go_enter Try.func7, Try.ntmps7
  go_wp2_with fail
  go_ret
  exact ⟨rfl, rfl⟩
set_option maxHeartbeats 1000000 in
theorem pclass_ok (n : Int) (w : World) : Calls Try.prog 15 #[.int .i64 n] w fun e w' => e = .returned (.int .i64 (classV n)) ∧ Below w.heap.size w w' := by
  have C := Lib.hid (pclasses_ok w)
  obtain ⟨w1, hw1⟩ : ∃ w1, w1 = w.alloc (.cells #[.int .i64 128, .int .i64 256, .int .i64 512, .int .i64 1200] 3) := ⟨_, rfl⟩
  have b1 : Hid (Below w.heap.size w w1) := by rw [hw1]; exact (Below.refl _ _).alloc (Nat.le_refl _) _
  have l1 : Lies w1 w.heap.size [.int .i64 128, .int .i64 256, .int .i64 512, .int .i64 1200] := by rw [hw1]; exact Lies.new w [.int .i64 128, .int .i64 256, .int .i64 512, .int .i64 1200] _
  have CE : Hid (∀ i, i < 4 → w1.cell? ⟨w.heap.size, i, none⟩ = some (.int .i64 (clsV.getD i 0))) := fun i hi => by
    have c : i = 0 ∨ i = 1 ∨ i = 2 ∨ i = 3 := by omega
    rcases c with rfl | rfl | rfl | rfl
    · exact l1.cell 0 rfl
    · exact l1.cell 1 rfl
    · exact l1.cell 2 rfl
    · exact l1.cell 3 rfl
  have IX : Hid (∀ (i : Nat) w', i < 4 → (Instr.indexAt 22 (.slice (some ⟨w.heap.size, 0, none⟩) 4 4) (.int .i64 (i : Int))).run Try.prog w' = .ok (.pointer (some ⟨w.heap.size, i, none⟩)) w') := fun i w' hi => at_R (n := 1) Try.underlying22 (by intro w; kernel_rfl) w.heap.size 0 4 4 i w' hi _ rfl i (by omega)
  clear l1
  by_cases h0 : n < 0
  · have e := Lib.hid (class_neg h0)
    have q1 : decide (n < 0) = true := decide_eq_true h0
    clear C b1 CE IX hw1
    go_enter Try.func15, Try.ntmps15
    go_wp2_with fail
    go_ret
    exact ⟨by rw [e.out]; rfl, Below.refl _ _⟩
  have q0 : decide (n < 0) = false := decide_eq_false h0
  go_enter Try.func15, Try.ntmps15
  go_wp2_with fail
  refine C.out.mono ?_
  rintro e w' ⟨rfl, hw'⟩
  rw [← hw1] at hw'
  subst hw'
  clear C hw1
  generalize w.heap.size = g at CE IX ⊢
  go_wp2_with fail
  have HIT : Hid (∀ i, i < 4 → (∀ j, j < i → clsV.getD j 0 < n) → n ≤ clsV.getD i 0 → classV n = clsV.getD i 0) := fun i hi hb h => class_hit (by omega) hi hb h
  have NON : Hid ((∀ j, j < 4 → clsV.getD j 0 < n) → classV n = 0) := class_none
  go_loopg [4, 9] 4 (fun g' s4 s9 wr => ∃ i : Nat, i + g' = 4 ∧ s9 = .int .i64 i ∧ w' = wr ∧ Hid (∀ j, j < i → clsV.getD j 0 < n))
  case atStart => exact ⟨0, by omega, rfl, rfl, fun j hj => absurd hj (Nat.not_lt_zero _)⟩
  case round =>
    obtain ⟨i, hi, rfl, rfl, BEF⟩ := hrel
    by_cases hlt : i < 4
    · have q1 : decide (i < 4) = true := decide_eq_true hlt
      have q2 : decide ((i : Int) < 4) = true := decide_eq_true (by omega)
      have wi : Hid (wrap64 ((i : Int) + 1) = (i : Int) + 1) := wrap_in rfl (by omega) (by omega)
      have gi : Hid (i + 1 + (4 - (i + 1)) = 4) := by unfold Hid; omega
      have gm : Hid (4 - (i + 1) < gk) := by unfold Hid; omega
      have ix := fun w' => IX.out i w' hlt
      have ce := CE.out i hlt
      have HI := HIT.out i hlt BEF.out
      obtain ⟨x, hx⟩ : ∃ x, x = clsV.getD i 0 := ⟨_, rfl⟩
      rw [← hx] at ce HI
      by_cases hn : n ≤ x
      · have e1 : decide (n ≤ x) = true := decide_eq_true hn
        have r1 := Lib.hid (HI hn)
        clear HI BEF HIT NON hx hi
        go_wp2_with fail
        go_ret
        exact ⟨by rw [r1.out]; rfl, b1.out⟩
      · have e1 : decide (n ≤ x) = false := decide_eq_false hn
        have BE2 : Hid (∀ j, j < i + 1 → clsV.getD j 0 < n) := fun j hj => by
          by_cases q : j = i
          · rw [q, ← hx]; omega
          · exact BEF.out j (by omega)
        clear HI BEF HIT NON hx hi
        go_upto_region 8 with fail
        clear e1 q1 q2 hlt ix ce hn q0 h0
        replace wi := wi.out
        go_wp2_with fail
        go_roundg (4 - (i + 1))
        case measure => exact gm.out
        case rel => exact ⟨i + 1, gi.out, by go_num, rfl, BE2⟩
    · obtain rfl : i = 4 := by omega
      have q2 : decide (((4 : Nat) : Int) < 4) = false := by decide
      have q3 : decide ((4 : Int) < 4) = false := by decide
      have r1 := Lib.hid (NON.out BEF.out)
      clear NON HIT BEF hi hlt
      go_wp2_with fail
      go_ret
      exact ⟨by rw [r1.out]; rfl, b1.out⟩
theorem face21 : SlFace where
  owner h t _ := (powner_ok h t).mono fun _ _ ⟨a, b⟩ => ⟨a, b ▸ Below.refl _ _⟩
  turn h t who _ _ := (pturn_ok h t who).mono fun _ _ ⟨a, b⟩ => ⟨a, b ▸ Below.refl _ _⟩
  round h who _ := (pround_ok h who).mono fun _ _ ⟨a, b⟩ => ⟨a, b ▸ Below.refl _ _⟩
  cls w n _ := pclass_ok n w
  clss w := (pclasses_ok w).mono fun _ _ ⟨a, b⟩ => ⟨_, a, by rw [b]; exact Tb.lit w clsV (by decide), by rw [b]; exact (Below.refl _ _).alloc (Nat.le_refl _) _⟩
end Go.Proofs.Ythdajlaeacfcpaa
