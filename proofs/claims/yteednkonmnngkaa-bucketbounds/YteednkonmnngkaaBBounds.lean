/-
  The law BucketBounds returns true for every rate, every burst and every row of acts: no more is taken than a bucket holds, and what it gets for each tick. No condition.
-/
import Derived.Test.YteednkonmnngkaaBkTwo
import Derived.Test.YteednkonmnngkaaBkOpen
import Derived.Deep.Cut
import Derived.Test.YteednkonmnngkaaBkOpen
import Derived.LaidLaws
namespace Go.Proofs.Yteednkonmnngkaa.bucketBounds
set_option maxRecDepth 100000
open Go.ChangeShapes Go.WideShapes Go.ChangeAt Go.RowKit
open Go.ChangeMaps (open_string shut_string)
theorem rem_at (a : Int) (N : Nat) (h0 : 0 < N) (hN : N < 1000000) : ∃ k : Nat, wrap64 ((IntKind.u64.wrap a).tmod (N : Int)) = (k : Int) ∧ k < N := by
  have h : 0 ≤ IntKind.u64.wrap a := by unfold IntKind.wrap; simp [IntKind.bits, IntKind.signed]; omega
  rw [Int.tmod_eq_emod_of_nonneg h]
  have h1 := Int.emod_nonneg (IntKind.u64.wrap a) (show (N : Int) ≠ 0 by omega)
  have h2 := Int.emod_lt_of_pos (IntKind.u64.wrap a) (show (0 : Int) < N by omega)
  refine ⟨((IntKind.u64.wrap a) % (N : Int)).toNat, ?_, by omega⟩
  unfold wrap64
  omega
theorem rem_int (a : Int) (N : Nat) (h0 : 0 < N) (hN : N < 1000000) : ∃ k : Int, wrap64 ((IntKind.u64.wrap a).tmod (N : Int)) = k ∧ 0 ≤ k ∧ k < N := by
  obtain ⟨k, e, h⟩ := rem_at a N h0 hN
  exact ⟨k, e, by omega, by omega⟩
/-- How much was taken, and how many ticks it got. -/
structure Bd (s : Bkt) (R D T U : Int) (i : Nat) : Prop where
  hr : s.r = R
  hb : s.b = D
  t0 : 0 ≤ T
  t1 : T ≤ 6000 * i
  u0 : 0 ≤ U
  sum : U + s.lv ≤ D + R * T
theorem Bd.tick {s : Bkt} {R D T U : Int} {i : Nat} (h : Bd s R D T U i) {n : Int} (n0 : 0 ≤ n) (n1 : n ≤ 6000) : Bd (bkTick s n) R D (T + n) U (i + 1) := by
  obtain ⟨h1, h2, h3, h4, h5, h6⟩ := h
  have c : cutB n = n := cutB_in n0 (by omega)
  refine ⟨h1, h2, by omega, by omega, h5, ?_⟩
  show U + bkFill s n ≤ D + R * (T + n)
  unfold bkFill
  rw [c, h1, Int.mul_add]
  split <;> omega
theorem Bd.took {s : Bkt} {R D T U : Int} {i : Nat} (h : Bd s R D T U i) {n : Int} (n0 : 0 ≤ n) (y : bkYes s n = true) : Bd (bkTake s n) R D T (U + n) (i + 1) := by
  obtain ⟨h1, h2, h3, h4, h5, h6⟩ := h
  unfold bkYes at y
  simp at y
  have e : bkTake s n = { s with lv := s.lv - n, tk := wrap64 (s.tk + n) } := by unfold bkTake; rw [if_neg (by omega), if_neg (by omega)]
  rw [e]
  exact ⟨h1, h2, h3, by omega, by omega, by show U + n + (s.lv - n) ≤ _; omega⟩
theorem Bd.not {s : Bkt} {R D T U : Int} {i : Nat} (h : Bd s R D T U i) {n : Int} (y : bkYes s n = false) : Bd (bkTake s n) R D T U (i + 1) := by
  obtain ⟨h1, h2, h3, h4, h5, h6⟩ := h
  have e : (bkTake s n).lv = s.lv ∧ (bkTake s n).r = s.r ∧ (bkTake s n).b = s.b := by
    unfold bkYes at y
    simp at y
    unfold bkTake
    split
    · exact ⟨rfl, rfl, rfl⟩
    split
    · exact ⟨rfl, rfl, rfl⟩
    · omega
  exact ⟨e.2.1.trans h1, e.2.2.trans h2, h3, by omega, h5, by rw [e.1]; exact h6⟩
theorem Bd.prod {s : Bkt} {R D T U : Int} {i : Nat} (h : Bd s R D T U i) (r0 : 0 ≤ R) (r1 : R < 5000) (hi : i ≤ 200) : 0 ≤ R * T ∧ R * T ≤ 6000000000 := by
  obtain ⟨h1, h2, h3, h4, h5, h6⟩ := h
  refine ⟨Int.mul_nonneg r0 h3, ?_⟩
  exact Int.le_trans (Int.mul_le_mul (show R ≤ 5000 by omega) (show T ≤ 1200000 by omega) h3 (by decide)) (by decide)
set_option maxHeartbeats 16000000 in
theorem walk (r b : Int) (v : Value) (l : List BOp) (w : World) (h : BosAt w v l) (hz : l.length * 16 ≤ 140737488351232) :
    Calls Try.prog 4 #[.int .i64 r, .int .i64 b, v] w fun e w' => e = .returned (.bool true) ∧ Below w.heap.size w w' := by
  obtain ⟨a0, c0, hv, hcap⟩ : ∃ a c, v = .slice a l.length c ∧ l.length ≤ c := by
    obtain ⟨a, c, e, hc, _⟩ := h
    exact ⟨a, c, e, hc⟩
  obtain ⟨m, hm⟩ : ∃ m, m = l.length := ⟨_, rfl⟩
  have H : Hid (∀ i, i < m → ∃ g o, a0 = some ⟨g, o, none⟩ ∧ (∀ w', (Instr.indexAt 22 (.slice a0 m c0) (.int .i64 (i : Int))).run Try.prog w' = .ok (.pointer (some ⟨g, o + 2 * i, none⟩)) w') ∧ (∀ w', Below w.heap.size w w' → w'.cell? ⟨g, o + 2 * i, none⟩ = some (.bool (l.getD i bo0).tick) ∧ w'.cell? ⟨g, o + 2 * i + 1, none⟩ = some (.int .i64 (l.getD i bo0).n))) := fun i hi => by
    rw [hv, ← hm] at h
    obtain ⟨g, o, e, hg, c1, c2⟩ := h.get i hi
    exact ⟨g, o, e, fun w' => by rw [e]; exact at_bops g o m c0 i w' hi _ rfl _ rfl, fun w' b => ⟨(b.cell hg).trans c1, (b.cell hg).trans c2⟩⟩
  obtain ⟨M, hM⟩ : ∃ M, M = min m 200 := ⟨_, rfl⟩
  have hMn : M ≤ m ∧ M ≤ 200 ∧ (M = m ∨ M = 200) := by omega
  rw [← hm] at hv hz
  subst hv
  clear h hM hcap hm
  obtain ⟨R, hR, r0, r1⟩ := rem_int r 5000 (by decide) (by decide)
  replace hR : wrap64 ((IntKind.u64.wrap r).tmod 5000) = R := hR
  obtain ⟨D, hD, d0, d1⟩ := rem_int b 5000 (by decide) (by decide)
  replace hD : wrap64 ((IntKind.u64.wrap b).tmod 5000) = D := hD
  have WK := Lib.hid (works19_ok w)
  have N1 := Lib.hid fun w' (bl : Below w.heap.size w w') => one_new R D w w' bl
  have K := Lib.hid fun (w' : World) (A : Nat) (s : Bkt) (h : One w w' A s) (n : Int) (hn : -9223372036854775808 ≤ n ∧ n ≤ 9223372036854775807) => one_take h n hn
  have T := Lib.hid fun (w' : World) (A : Nat) (s : Bkt) (h : One w w' A s) (n : Int) => one_tick h n
  have L := Lib.hid fun (w' : World) (A : Nat) (s : Bkt) (h : One w w' A s) => one_level h
  have eN : bkNew R D = ⟨R, D, D, 0, 0⟩ := by unfold bkNew; rw [cutB_in r0 (by omega), cutB_in d0 (by omega)]
  have bd0 : Hid (Bd (bkNew R D) R D 0 0 0) := by rw [eN]; exact ⟨rfl, rfl, Int.le_refl _, Int.le_refl _, Int.le_refl _, by show 0 + D ≤ D + R * 0; omega⟩
  clear eN
  generalize bkNew R D = s0 at *
  go_enter Try.func4, Try.ntmps4
  go_wp2_with fail
  refine WK.out.mono ?_
  rintro e w0 ⟨rfl, B0⟩
  replace B0 := Lib.hid B0
  go_wp2_with fail
  refine (N1.out _ B0.out).mono ?_
  rintro e w1 ⟨A, rfl, o⟩
  replace o := Lib.hid o
  clear N1 WK B0
  go_wp2_with fail
  try rw [hR]
  try rw [hD]
  clear hR hD
  generalize IntKind.u64.wrap r = x1 at *
  generalize IntKind.u64.wrap b = x2 at *
  go_loopg [8, 9, 10] M (fun g tv uv iv wr => ∃ (i : Nat) (s : Bkt) (tt uu : Int), i + g = M ∧ tv = .int .i64 tt ∧ uv = .int .i64 uu ∧ iv = .int .i64 i ∧ Hid (Bd s R D tt uu i) ∧ Hid (One w wr A s))
  case atStart => exact ⟨0, s0, 0, 0, by omega, rfl, rfl, rfl, bd0, o⟩
  case round =>
    clear o bd0
    obtain ⟨i, s, tt, uu, hi, rfl, rfl, rfl, bd, o⟩ := hrel
    have hi2 : i ≤ 200 := by omega
    by_cases hlt : i < M
    · have q1 : decide (i < m) = true := decide_eq_true (by omega)
      have q2 : decide ((i : Int) < (m : Int)) = true := decide_eq_true (by omega)
      have q3 : decide ((i : Int) < 200) = true := decide_eq_true (by omega)
      have q4 : decide (i < 200) = true := decide_eq_true (by omega)
      obtain ⟨g, po, rfl, ia, CC⟩ := H.out i (by omega)
      replace CC := Lib.hid CC
      obtain ⟨y1, y2⟩ := CC.out wr o.out.bel
      obtain ⟨x, hx⟩ : ∃ x, x = l.getD i bo0 := ⟨_, rfl⟩
      rw [← hx] at CC y1 y2
      clear hx
      obtain ⟨tk, n⟩ := x
      simp only at CC y1 y2
      obtain ⟨k, hk, k0, k1⟩ := rem_int n 6000 (by decide) (by decide)
      replace hk : wrap64 ((IntKind.u64.wrap n).tmod 6000) = k := hk
      have tl := bd.out.t0
      have tl1 := bd.out.t1
      have ul := bd.out.u0
      have us := bd.out.sum
      have up := bd.out.prod r0 r1 hi2
      have ol := o.out.ok.l0
      cases tk
      · have C := Lib.hid (K.out _ _ _ o.out k (by omega))
        clear H
        cases hy : bkYes s k
        · rw [hy] at C
          have bd2 := Lib.hid (bd.out.not hy)
          have up2 := bd2.out.prod r0 r1 (by omega)
          have us2 := bd2.out.sum
          replace tl := Lib.hid tl
          replace tl1 := Lib.hid tl1
          replace ul := Lib.hid ul
          replace us := Lib.hid us
          replace up := Lib.hid up
          replace ol := Lib.hid ol
          go_wp2_with fail
          refine C.out.mono ?_
          rintro e w5 ⟨rfl, o⟩
          have oo := o.ok
          generalize bkTake s k = s2 at *
          replace o := Lib.hid o
          obtain ⟨p, hp⟩ : ∃ p, p = R * tt := ⟨_, rfl⟩
          rw [← hp] at up2 us2
          have e1 : wrap64 (R * tt) = p := by rw [← hp]; unfold wrap64; omega
          have e2 : wrap64 (D + p) = D + p := by unfold wrap64; omega
          have lb0 := oo.l0
          have lb1 := oo.l1
          rw [bd2.out.hb] at lb1
          replace hp := Lib.hid hp
          have f1 : decide (D + p < uu) = false := decide_eq_false (by omega)
          have f2 : decide (s2.lv < 0) = false := decide_eq_false (by omega)
          have f3 : decide (D < s2.lv) = false := decide_eq_false (by omega)
          have LL := Lib.hid fun w' h => L.out w' A s2 h
          replace up2 := Lib.hid up2
          replace us2 := Lib.hid us2
          replace oo := Lib.hid oo
          go_wp2_with fail
          refine (LL.out _ o.out).mono ?_
          rintro e w6 ⟨rfl, rfl⟩
          go_wp2_with fail
          refine (LL.out _ o.out).mono ?_
          rintro e w6 ⟨rfl, rfl⟩
          go_wp2_with fail
          go_roundg (M - (i + 1))
          case measure => omega
          case rel => exact ⟨i + 1, s2, _, _, by omega, rfl, rfl, by go_num, bd2, o⟩
        · rw [hy] at C
          have bd2 := Lib.hid (bd.out.took k0 hy)
          have up2 := bd2.out.prod r0 r1 (by omega)
          have us2 := bd2.out.sum
          obtain ⟨uv, huv⟩ : ∃ uv, uv = uu + k := ⟨_, rfl⟩
          have eu : wrap64 (uu + k) = uv := by rw [huv]; unfold wrap64; omega
          replace tl := Lib.hid tl
          replace tl1 := Lib.hid tl1
          replace ul := Lib.hid ul
          replace us := Lib.hid us
          replace up := Lib.hid up
          replace ol := Lib.hid ol
          rw [← huv] at bd2 us2
          replace huv := Lib.hid huv
          go_wp2_with fail
          refine C.out.mono ?_
          rintro e w5 ⟨rfl, o⟩
          have oo := o.ok
          generalize bkTake s k = s2 at *
          replace o := Lib.hid o
          obtain ⟨p, hp⟩ : ∃ p, p = R * tt := ⟨_, rfl⟩
          rw [← hp] at up2 us2
          have e1 : wrap64 (R * tt) = p := by rw [← hp]; unfold wrap64; omega
          have e2 : wrap64 (D + p) = D + p := by unfold wrap64; omega
          have lb0 := oo.l0
          have lb1 := oo.l1
          rw [bd2.out.hb] at lb1
          replace hp := Lib.hid hp
          have f1 : decide (D + p < uv) = false := decide_eq_false (by omega)
          have f2 : decide (s2.lv < 0) = false := decide_eq_false (by omega)
          have f3 : decide (D < s2.lv) = false := decide_eq_false (by omega)
          have LL := Lib.hid fun w' h => L.out w' A s2 h
          replace up2 := Lib.hid up2
          replace us2 := Lib.hid us2
          replace oo := Lib.hid oo
          go_wp2_with fail
          refine (LL.out _ o.out).mono ?_
          rintro e w6 ⟨rfl, rfl⟩
          go_wp2_with fail
          refine (LL.out _ o.out).mono ?_
          rintro e w6 ⟨rfl, rfl⟩
          go_wp2_with fail
          go_roundg (M - (i + 1))
          case measure => omega
          case rel => exact ⟨i + 1, s2, _, _, by omega, rfl, rfl, by go_num, bd2, o⟩
      · have C := Lib.hid (T.out _ _ _ o.out k)
        clear H
        have bd2 := Lib.hid (bd.out.tick k0 (by omega))
        have up2 := bd2.out.prod r0 r1 (by omega)
        have us2 := bd2.out.sum
        obtain ⟨tv, htv⟩ : ∃ tv, tv = tt + k := ⟨_, rfl⟩
        have et : wrap64 (tt + k) = tv := by rw [htv]; unfold wrap64; omega
        replace tl := Lib.hid tl
        replace tl1 := Lib.hid tl1
        replace ul := Lib.hid ul
        replace us := Lib.hid us
        replace up := Lib.hid up
        replace ol := Lib.hid ol
        rw [← htv] at bd2 us2 up2
        replace htv := Lib.hid htv
        go_wp2_with fail
        refine C.out.mono ?_
        rintro e w5 ⟨rfl, o⟩
        have oo := o.ok
        generalize bkTick s k = s2 at *
        replace o := Lib.hid o
        obtain ⟨p, hp⟩ : ∃ p, p = R * tv := ⟨_, rfl⟩
        rw [← hp] at up2 us2
        have e1 : wrap64 (R * tv) = p := by rw [← hp]; unfold wrap64; omega
        have e2 : wrap64 (D + p) = D + p := by unfold wrap64; omega
        have lb0 := oo.l0
        have lb1 := oo.l1
        rw [bd2.out.hb] at lb1
        replace hp := Lib.hid hp
        have f1 : decide (D + p < uu) = false := decide_eq_false (by omega)
        have f2 : decide (s2.lv < 0) = false := decide_eq_false (by omega)
        have f3 : decide (D < s2.lv) = false := decide_eq_false (by omega)
        have LL := Lib.hid fun w' h => L.out w' A s2 h
        replace up2 := Lib.hid up2
        replace us2 := Lib.hid us2
        replace oo := Lib.hid oo
        go_wp2_with fail
        refine (LL.out _ o.out).mono ?_
        rintro e w6 ⟨rfl, rfl⟩
        go_wp2_with fail
        refine (LL.out _ o.out).mono ?_
        rintro e w6 ⟨rfl, rfl⟩
        go_wp2_with fail
        go_roundg (M - (i + 1))
        case measure => omega
        case rel => exact ⟨i + 1, s2, _, _, by omega, rfl, rfl, by go_num, bd2, o⟩
    · obtain rfl : i = M := by omega
      have bel := Lib.hid o.out.bel
      have END : Hid (∀ w', One w w' A s → One w w' A s) := fun _ h => h
      have hx : Hid (Bd s R D tt uu i) := bd
      have Q : ∃ x y : Bool, decide (i < m) = x ∧ decide ((i : Int) < (m : Int)) = x ∧ decide (i < 200) = y ∧ decide ((i : Int) < 200) = y ∧ (x = false ∨ (x = true ∧ y = false)) := by
        refine ⟨decide (i < m), decide (i < 200), rfl, by simp, rfl, by simp; omega, ?_⟩
        simp
        omega
      obtain ⟨x, y, q1, q2, q3, q4, hxy⟩ := Q
      clear H hMn hlt END
      have C0 := Lib.hid (T.out _ _ _ o.out D)
      have u1 : R ≠ 0 → (bkTick s D).lv = D := fun hR0 => by
        have b1 := hx.out.hr
        have b2 := hx.out.hb
        have l0 := o.out.ok.l0
        show bkFill s D = D
        unfold bkFill
        rw [cutB_in d0 (by omega), b1, b2]
        have := Int.mul_le_mul (show 1 ≤ R by omega) (Int.le_refl D) d0 r0
        split <;> omega
      rcases hxy with rfl | ⟨rfl, rfl⟩
      · by_cases hR0 : R = 0
        · subst hR0
          go_wp2_with fail
          go_ret
          exact ⟨rfl, bel.out⟩
        · have z0 : decide (R = 0) = false := decide_eq_false hR0
          have z1 : (R == 0) = false := by simp [hR0]
          have u1 := u1 hR0
          go_wp2_with fail
          refine C0.out.mono ?_
          rintro e w7 ⟨rfl, o⟩
          generalize bkTick s D = u at *
          have y1 : bkYes u D = true := by unfold bkYes; rw [u1]; simp [d0]
          have t1 : (bkTake u D).lv = 0 := by
            have e : bkTake u D = { u with lv := u.lv - D, tk := wrap64 (u.tk + D) } := by unfold bkTake; rw [if_neg (by omega), if_neg (by omega)]
            rw [e]
            show u.lv - D = 0
            omega
          have y2 : bkYes (bkTake u D) D = decide (D = 0) := by
            unfold bkYes
            rw [t1]
            by_cases h : D = 0
            · subst h; rfl
            · rw [decide_eq_false h, decide_eq_false (p := D ≤ 0) (by omega)]
              simp
          have C1 := Lib.hid (L.out _ _ _ o)
          rw [u1] at C1
          have C2 := Lib.hid (K.out _ _ _ o D (by omega))
          rw [y1] at C2
          have C3 := Lib.hid fun w' h => K.out w' A (bkTake u D) h D (by omega)
          rw [y2] at C3
          have ed : (D == D) = true := by simp
          have ed2 : decide (D = D) = true := by simp
          obtain ⟨z, hz1⟩ : ∃ z, z = decide (D = 0) := ⟨_, rfl⟩
          have hz2 : (D == 0) = z := by rw [hz1]; by_cases h : D = 0 <;> simp [h]
          have hz3 : decide (D = 0) = z := hz1.symm
          have hz4 : (z == z) = true := by simp
          rw [← hz1] at C3
          clear hz1 y1 y2 t1 u1 hR0 K L T C0 hx
          go_wp2_with fail
          refine C1.out.mono ?_
          rintro e w8 ⟨rfl, rfl⟩
          go_wp2_with fail
          refine C2.out.mono ?_
          rintro e w8 ⟨rfl, o2⟩
          go_wp2_with fail
          refine (C3.out _ o2).mono ?_
          rintro e w9 ⟨rfl, o3⟩
          have bel3 := Lib.hid o3.bel
          clear o2 o3
          go_wp2_with fail
          go_ret
          exact ⟨by simp, bel3.out⟩
      · by_cases hR0 : R = 0
        · subst hR0
          go_wp2_with fail
          go_ret
          exact ⟨rfl, bel.out⟩
        · have z0 : decide (R = 0) = false := decide_eq_false hR0
          have z1 : (R == 0) = false := by simp [hR0]
          have u1 := u1 hR0
          go_wp2_with fail
          refine C0.out.mono ?_
          rintro e w7 ⟨rfl, o⟩
          generalize bkTick s D = u at *
          have y1 : bkYes u D = true := by unfold bkYes; rw [u1]; simp [d0]
          have t1 : (bkTake u D).lv = 0 := by
            have e : bkTake u D = { u with lv := u.lv - D, tk := wrap64 (u.tk + D) } := by unfold bkTake; rw [if_neg (by omega), if_neg (by omega)]
            rw [e]
            show u.lv - D = 0
            omega
          have y2 : bkYes (bkTake u D) D = decide (D = 0) := by
            unfold bkYes
            rw [t1]
            by_cases h : D = 0
            · subst h; rfl
            · rw [decide_eq_false h, decide_eq_false (p := D ≤ 0) (by omega)]
              simp
          have C1 := Lib.hid (L.out _ _ _ o)
          rw [u1] at C1
          have C2 := Lib.hid (K.out _ _ _ o D (by omega))
          rw [y1] at C2
          have C3 := Lib.hid fun w' h => K.out w' A (bkTake u D) h D (by omega)
          rw [y2] at C3
          have ed : (D == D) = true := by simp
          have ed2 : decide (D = D) = true := by simp
          obtain ⟨z, hz1⟩ : ∃ z, z = decide (D = 0) := ⟨_, rfl⟩
          have hz2 : (D == 0) = z := by rw [hz1]; by_cases h : D = 0 <;> simp [h]
          have hz3 : decide (D = 0) = z := hz1.symm
          have hz4 : (z == z) = true := by simp
          rw [← hz1] at C3
          clear hz1 y1 y2 t1 u1 hR0 K L T C0 hx
          go_wp2_with fail
          refine C1.out.mono ?_
          rintro e w8 ⟨rfl, rfl⟩
          go_wp2_with fail
          refine C2.out.mono ?_
          rintro e w8 ⟨rfl, o2⟩
          go_wp2_with fail
          refine (C3.out _ o2).mono ?_
          rintro e w9 ⟨rfl, o3⟩
          have bel3 := Lib.hid o3.bel
          clear o2 o3
          go_wp2_with fail
          go_ret
          exact ⟨by simp, bel3.out⟩


theorem contract (H : Type) (enc : TypeId × Value → H) (W : World) (base : Nat) (args : Array Value) (ds gs : List (DataW H)) (before : List MemPlace)
    (hval : ∀ (j : Nat) t v, Try.f4.params[j]? = some t → args[j]? = some v → Value.okWide Try.prog W .any base t v)
    (hW : DataW.Whole enc Try.prog Try.f4.params.toList Rows.bucketBoundsSpec.vars false W args.toList ds gs before)
    (hsz : (DataW.weightsEach Try.prog (Try.f4.params.toList ++ (OpenSpec.ofChange Rows.bucketBoundsSpec).bare.plain.varTypes Try.prog) (ds ++ gs)).all (· ≤ reachBytes) = true) :
    Calls Try.prog 4 args W fun e W' => ∃ v, e = .returned v ∧ Rows.bucketBoundsSpec.post enc Try.prog Try.f4 false true false false W args v W' := by
  have hW' := hW
  obtain ⟨p, q, hA0, hV, rfl, hfz, hnd⟩ := hW
  have hA : DataW.TrodAll enc Try.prog W 0 (fun _ => true) true Try.f4.params.toList args.toList ds p := hA0
  rw [Try.params4] at hA hval hsz
  obtain ⟨v0, vs0, d0, ds0, p0, q0, hargs, rfl, rfl, h0, r0⟩ := trodAll_cons hA
  obtain ⟨v1, vs1, d1, ds1, p1, q1, rfl, rfl, rfl, h1, r1⟩ := trodAll_cons r0
  obtain ⟨v2, vs2, d2, ds2, p2, q2, rfl, rfl, rfl, h2, r2⟩ := trodAll_cons r1
  obtain ⟨rfl, rfl, rfl⟩ := trodAll_nil r2
  obtain rfl : args = #[v0, v1, v2] := by cases args; simp_all
  obtain ⟨rfl, rfl⟩ := trodVars_none hV
  obtain ⟨a0, rfl, rfl, rfl, w0⟩ := open_int Try.underlying3 (hval 0 3 v0 rfl rfl) h0
  have b0 := bounds_i64 w0
  obtain ⟨a1, rfl, rfl, rfl, w1⟩ := open_int Try.underlying3 (hval 1 3 v1 rfl rfl) h1
  have b1 := bounds_i64 w1
  have k2 := h2
  have lt2 : ∀ x ∈ p2, x.block < W.heap.size := by obtain ⟨m, hm⟩ := k2; exact DataW.trod_lt m _ _ _ hm
  obtain ⟨l2, hs2, hz2, hb2⟩ := open_bops (hval 2 22 v2 rfl rfl) h2 (fun n hn => by simpa using List.all_eq_true.1 hsz _ (DataW.weights_mem_each (j := 2) (t := 22) rfl rfl n hn))
  clear hA0
  simp only [List.append_nil] at hW'
  refine (walk a0 a1 v2 l2 W hs2 hz2).mono fun e W' ⟨he, bel⟩ => ?_
  subst he
  exact ⟨_, rfl, _, _, _, [], _, [], hW', trodAll_mk1 (shut_bool Try.underlying4 _), (trodAll_cons_mk (shut_int Try.underlying3 w0) (trodAll_cons_mk (shut_int Try.underlying3 w1) (trodAll_cons_mk (Below.trod laidOut (by kernel_rfl) (of_decide_eq_true (by kernel_rfl)) k2 bel lt2) trodAll_mk0))), rfl, bel.frame _, fun h => by cases h⟩

theorem laid_met (os : Os) : laidMet Try.prog Rows.bucketBoundsRow.laid ((startWorld Try.prog os).forCall (fun _ _ => 0) ⟨#[], #[.int .i64 0, .int .i64 0, .slice none 0 0], []⟩).memory :=
  laidMet_of_run' 8 (by kernel_rfl) (by kernel_rfl)
theorem reads (os : Os) {H : Type} (enc : TypeId × Value → H) : ∃ places, DataW.whole enc Try.prog ((startWorld Try.prog os).forCall (fun _ _ => 0) ⟨#[], #[.int .i64 0, .int .i64 0, .slice none 0 0], []⟩).memory Try.f4.params.toList Rows.bucketBoundsSpec.vars false #[Value.int .i64 0, Value.int .i64 0, Value.slice none 0 0].toList 8 = some ([.lit (.int .i64 0), .lit (.int .i64 0), .nil], [], places) :=
  ⟨[], by kernel_rfl⟩

set_option maxRecDepth 100000 in
theorem lifted (os : Os) (started : os.Started) (H : Type) (enc : TypeId × Value → H) (F : Stop.Interp) :
    ReturnsInHanded {} Try.checked os 4 .any ((OpenSpec.ofChange Rows.bucketBoundsSpec).preRow enc Try.prog Try.f4 Rows.bucketBoundsRow.domain false Rows.bucketBoundsRow.laid) (((OpenSpec.ofChange Rows.bucketBoundsSpec).at F).post enc Try.prog Try.f4 false true false false) := by
  obtain ⟨places, hx⟩ := reads os enc
  refine returnsInHanded_of_row (C := Try.checked) (s := OpenSpec.ofChange Rows.bucketBoundsSpec) own started (by kernel_rfl) Try.func4
    (witness_row_at (enc := enc) (C := Try.checked) false (startWorld Try.prog os) #[.int .i64 0, .int .i64 0, .slice none 0 0] rfl (by kernel_rfl) (by kernel_rfl) (by kernel_rfl)
      (OpenSpec.preRow_of_cond 8 hx (by kernel_rfl) (fun k hk => by cases hk) (by kernel_rfl) (laid_met os))) ?_
  intro W base args ds gs before hval hW _ _ hsz _ _ _
  exact contract H enc W base args ds gs before hval hW hsz

theorem said : Rows.BucketBoundsSaid :=
  OpenClaim.holds_of_cond 4 Try.f4 rfl rfl rfl rfl rfl rfl rfl ⟨rfl, rfl, rfl, rfl, rfl⟩ rfl rfl rfl rfl rfl (by kernel_rfl) Try.func4 (by kernel_rfl)
    (of_decide_eq_true (by kernel_rfl)) (by unfold Func.isWrapper; first | (rw [if_pos (by decide +kernel)]; kernel_rfl) | (rw [if_neg (by decide +kernel)]; exact ⟨rfl, rfl⟩))
    (fun os started H enc _ F => by rw [OpenClaim.pre_eq_preRow]; exact lifted os started H enc F)
end Go.Proofs.Yteednkonmnngkaa.bucketBounds
namespace Go.Proofs.Yteednkonmnngkaa
theorem bucketBounds_said : Rows.BucketBoundsSaid := bucketBounds.said
end Go.Proofs.Yteednkonmnngkaa
