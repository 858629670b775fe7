/-
  What slices.pdqsortOrdered and slices.Sort leave of numbers of 32 bits: they are sorted. No condition but how many there can be.
-/
import Derived.Test.YtndaohiecpdmlaaGreatSoPqM
namespace Go.Proofs.YtndaohiecpdmlaaGreat
set_option maxRecDepth 100000
open Go.RowKit Go.Sort

theorem Pq.lowB {w wr : World} {g off n c a0 b0 : Nat} {d0 : Array Int} {a b m : Nat} {dk : Array Int} (h : Pq w wr g off n c a0 b0 d0 a b dk) (hm : m ≤ b) : Sort.Below ltInt a m dk := by
  rcases h.bel with q | q
  · exact .inl q
  · exact .inr fun i k1 k2 => q i k1 (by omega)
theorem high_B {b m : Nat} {d1 : Array Int} (f2 : ∀ t, m < t → t < b → ltInt d1[t]! d1[m]! = false) : Sort.Below ltInt (m + 1) b d1 := .inr fun i k1 k2 => f2 i (by omega) k2
theorem Srt.reads {w0 w : World} {g off n c : Nat} {d : Array Int} (h : Srt w0 w g off n c d) : Reads w g off n (fun t => d[t]!) := fun t ht => (h.cell t ht).1
def PdqAt (k : Nat) : Prop := ∀ (g off n c a b limit : Nat) (d : Array Int) (w : World), b - a ≤ k → Srt w w g off n c d → a ≤ b → b ≤ n → n < 4611686018427387904 → limit < 4611686018427387904 → Sort.Below ltInt a b d →
  Calls Tryz.prog 74 #[.slice (some ⟨g, off, none⟩) n c, .int .i64 a, .int .i64 b, .int .i64 limit] w fun e w' => e = .returned (.tuple #[]) ∧ ∃ d', Srt w w' g off n c d' ∧ PermIn a b d d' ∧ SortedIn ltInt a b d'
set_option maxHeartbeats 16000000 in
theorem pdq_step (K : Nat) (ih : ∀ k, k < K → PdqAt k) : PdqAt K := by
  intro g off n c a0 b0 limit0 d0 w hK h hab hb hn hl hB
  have hsz := h.size.1
  have P0 : Hid (Pq w w g off n c a0 b0 d0 a0 b0 d0) := ⟨h, permIn_refl d0 a0 b0, Nat.le_refl _, hab, Nat.le_refl _, by omega, hB, fun d' _ s => s⟩
  clear h hB
  replace ih := Lib.hid ih
  go_enter Tryz.func74, Tryz.ntmps74
  go_wp2_with fail
  go_loopg [1, 2, 3, 8, 9] (b0 - a0) (fun k s1 s2 s3 s8 s9 wr => ∃ (a b limit : Nat) (bal part : Bool) (dk : Array Int), s1 = .int .i64 a ∧ s2 = .int .i64 b ∧ s3 = .int .i64 limit ∧ s8 = .bool bal ∧ s9 = .bool part ∧ b - a ≤ k ∧ b - a ≤ b0 - a0 ∧ a ≤ b ∧ b ≤ n ∧ limit < 4611686018427387904 ∧ Hid (Pq w wr g off n c a0 b0 d0 a b dk))
  case atStart => exact ⟨a0, b0, limit0, true, true, d0, rfl, rfl, rfl, rfl, rfl, Nat.le_refl _, Nat.le_refl _, hab, hb, hl, P0.out⟩
  case round =>
    clear P0 hl hb hab
    obtain ⟨a, b, limit, bal, part, dk, rfl, rfl, rfl, rfl, rfl, hk, hk0, hab, hbn, hlim, P⟩ := hrel
    obtain ⟨N, hN⟩ : ∃ N, N = b - a := ⟨_, rfl⟩
    have eN : (b : Int) - (a : Int) = (N : Int) := by omega
    by_cases h12 : N ≤ 12
    · have z12 : decide ((N : Int) ≤ 12) = true := decide_eq_true (by omega)
      have C := Lib.hid (ins_ok g off n c a b dk wr P.out.srt.start hab hbn hn)
      replace hN := Lib.hid hN
      go_wp2_with fail
      refine C.out.mono ?_
      rintro e w1 ⟨rfl, d', s1, p1, q1⟩
      have F := Lib.hid (P.out.done s1 p1 q1)
      clear C P s1 p1 q1
      go_wp2_with fail
      refine bodyPost_ret (results_none rfl _ _ _) rfl ?_
      exact ⟨rfl, F.out⟩
    · have z12 : decide ((N : Int) ≤ 12) = false := decide_eq_false (by omega)
      by_cases hl0 : limit = 0
      · have zl : (limit == 0) = true := by simpa using hl0
        have zl' : ((limit : Int) == 0) = true := by simp [hl0]
        have C := Lib.hid (heap_ok g off n c a b dk wr P.out.srt.start hab hbn hn)
        replace hN := Lib.hid hN
        replace hl0 := Lib.hid hl0
        go_wp2_with fail
        refine C.out.mono ?_
        rintro e w1 ⟨rfl, d', s1, p1, q1⟩
        have F := Lib.hid (P.out.done s1 p1 q1)
        clear C P s1 p1 q1
        go_wp2_with fail
        refine bodyPost_ret (results_none rfl _ _ _) rfl ?_
        exact ⟨rfl, F.out⟩
      · have zl : (limit == 0) = false := by simpa using hl0
        have zl' : ((limit : Int) == 0) = false := by simp; omega
        go_upto_if 35 with fail
        go_cut [3] (fun s wx => ∃ (l2 : Nat) (d2 : Array Int), s = .int .i64 l2 ∧ l2 < 4611686018427387904 ∧ Hid (Pq w wx g off n c a0 b0 d0 a b d2))
        case first =>
          cases bal
          · have C := Lib.hid (brk_ok g off n c a b dk wr P.out.srt.start hab hbn hn)
            go_wp2_with fail
            refine C.out.mono ?_
            rintro e w1 ⟨rfl, d', s1, p1⟩
            have P1 := Lib.hid (P.out.move s1 p1)
            clear C P s1 p1
            go_wp2_with fail
            go_meet
            exact ⟨limit - 1, d', by congr 1; omega, by omega, P1⟩
          · go_wp2_with fail
            go_meet
            exact ⟨limit, dk, rfl, hlim, P⟩
        case rest =>
          obtain ⟨l2, d2, rfl, hl2, P2⟩ := hcut
          clear P hlim zl zl' hl0
          have C := Lib.hid (piv_ok g off n c _ a b wc P2.out.srt.reads P2.out.srt.size.2.2.1 (by omega) hbn hn)
          go_wp2_with fail
          refine C.out.mono ?_
          rintro e w1 ⟨pv, hint, rfl, hpv, hhi, b1⟩
          have P3 := Lib.hid (P2.out.add b1)
          clear C P2 b1
          go_upto_if 50 with fail
          go_cut [11, 12] (fun s s' wx => ∃ (pv hint : Nat) (d3 : Array Int), s = .int .i64 pv ∧ s' = .int .i64 hint ∧ (a ≤ pv ∧ pv < b) ∧ Hid (Pq w wx g off n c a0 b0 d0 a b d3))
          case first =>
            by_cases h2 : hint = 2
            · have z2 : (hint == 2) = true := by simpa using h2
              have z2' : ((hint : Int) == 2) = true := by simp [h2]
              have C := Lib.hid (rev_ok g off n c a b d2 w1 P3.out.srt.start hab hbn hn)
              replace h2 := Lib.hid h2
              clear hhi
              go_wp2_with fail
              refine C.out.mono ?_
              rintro e w2 ⟨rfl, d', s1, p1⟩
              have P4 := Lib.hid (P3.out.move s1 p1)
              clear C P3 s1 p1
              go_wp2_with fail
              go_meet
              exact ⟨b - 1 - (pv - a), 1, d', by congr 1; omega, rfl, by omega, P4⟩
            · have z2 : (hint == 2) = false := by simpa using h2
              have z2' : ((hint : Int) == 2) = false := by simp; omega
              clear hhi
              go_wp2_with fail
              go_meet
              exact ⟨pv, hint, d2, rfl, rfl, hpv, P3⟩
          case rest =>
            clear hpv hhi P3
            obtain ⟨pv, hint, d3, rfl, rfl, hpv, P3⟩ := hcut
            go_upto_region 15 with fail
            go_cut [68] (fun s wx => ∃ B : Bool, s = .bool B ∧ wx = wc)
            case first =>
              cases bal
              · go_wp2_with fail
                go_meet
                exact ⟨false, rfl, rfl⟩
              · cases part
                · go_wp2_with fail
                  go_meet
                  exact ⟨false, rfl, rfl⟩
                · go_wp2_with fail
                  go_meet
                  exact ⟨_, rfl, rfl⟩
            case rest =>
              obtain ⟨B, rfl, rfl⟩ := hcut
              cases B
              · obtain ⟨d4, P4⟩ : ∃ d4 : Array Int, Hid (Pq w wc g off n c a0 b0 d0 a b d4) := ⟨d3, P3⟩
                clear P3
                obtain ⟨B, hBf⟩ : ∃ B : Bool, B = (decide (0 < a) && !ltInt d4[a - 1]! d4[pv]!) := ⟨_, rfl⟩
                replace hBf := Lib.hid hBf
                obtain ⟨G, hG⟩ : ∃ G : Nat → Int, ∀ t, G t = d4[t]! := ⟨fun t => d4[t]!, fun _ => rfl⟩
                have hcw : ∀ t, t < n → wc.cell? ⟨g, off + t, none⟩ = some (.int .u32 (G t)) := fun t ht => by rw [hG]; exact (P4.out.srt.cell t ht).1
                replace hG := Lib.hid hG
                go_upto_region 17 with fail
                go_cut [87] (fun s wx => s = .bool B ∧ ∃ q, Hid (wx = wc.drewN q))
                case first =>
                  by_cases h0a : 0 < a
                  · have z0 : decide ((0 : Int) < (a : Int)) = true := decide_eq_true (by omega)
                    have eB : Hid (B = !ltInt (G (a - 1)) (G pv)) := by
                      show B = _
                      rw [hBf.out, hG.out, hG.out, decide_eq_true h0a, Bool.true_and]
                    go_big_quiet (first | (go_at_call 95; refine Calls.quiet_of_same (less_ok _ _ _)))
                    go_wp2_with fail
                    go_meet
                    exact ⟨congrArg Value.bool eB.out.symm, nq, rfl⟩
                  · have z0 : decide ((0 : Int) < (a : Int)) = false := decide_eq_false (by omega)
                    have eB : Hid (B = false) := by
                      show B = _
                      rw [hBf.out, decide_eq_false h0a, Bool.false_and]
                    go_big_quiet (first | (go_at_call 95; refine Calls.quiet_of_same (less_ok _ _ _)))
                    go_wp2_with fail
                    go_meet
                    exact ⟨congrArg Value.bool eB.out.symm, nq, rfl⟩
                case rest =>
                  obtain ⟨rfl, q, hw⟩ := hcut
                  have P5 : Hid (Pq w wc g off n c a0 b0 d0 a b d4) := hw.out ▸ P4.out.add ⟨rfl, rfl, rfl, Nat.le_refl _, fun _ _ => rfl⟩
                  clear P4 hcw hw hG
                  cases B
                  · have C := Lib.hid (prt_ok g off n c a b pv d4 wc P5.out.srt.start hpv.1 hpv.2 hbn hn)
                    clear hBf
                    go_wp2_with fail
                    refine C.out.mono ?_
                    rintro e w3 ⟨m, al, d5, rfl, s5, p5, hm, f1, f2⟩
                    have hm' := hm
                    replace f1 := Lib.hid f1
                    replace f2 := Lib.hid f2
                    replace s5 := Lib.hid s5
                    replace p5 := Lib.hid p5
                    clear C
                    have q8 : Int.tdiv (N : Int) 8 = ((N / 8 : Nat) : Int) := by rw [Int.tdiv_eq_ediv_of_nonneg (by omega)]; omega
                    obtain ⟨T, hT⟩ : ∃ T, T = N / 8 := ⟨_, rfl⟩
                    rw [← hT] at q8
                    replace hT := Lib.hid hT
                    by_cases hlr : m - a < b - m
                    · have zlr : decide ((m : Int) - (a : Int) < (b : Int) - (m : Int)) = true := decide_eq_true (by omega)
                      have C2 := Lib.hid (ih.out (m - a) (by omega) g off n c a m l2 d5 w3 (Nat.le_refl _) s5.out.start hm.1 (by omega) hn hl2 ((P5.out.move s5.out p5.out).lowB (by omega)))
                      go_wp2_with fail
                      refine C2.out.mono ?_
                      rintro e w4 ⟨rfl, d6, s6, p6, q6⟩
                      have P6 := Lib.hid (P5.out.left s5.out p5.out hm f1.out f2.out s6 p6 q6)
                      clear C2 s6 p6 q6 P5 s5 p5 f1 f2
                      go_wp2_with fail
                      go_roundg (b - (m + 1))
                      case measure => omega
                      case rel => exact ⟨m + 1, b, l2, _, al, d6, by simp, rfl, rfl, rfl, rfl, by omega, by omega, by omega, hbn, hl2, P6.out⟩
                    · have zlr : decide ((m : Int) - (a : Int) < (b : Int) - (m : Int)) = false := decide_eq_false (by omega)
                      have C2 := Lib.hid (ih.out (b - (m + 1)) (by omega) g off n c (m + 1) b l2 d5 w3 (Nat.le_refl _) s5.out.start (by omega) hbn hn hl2 (high_B f2.out))
                      have e1 : ((m + 1 : Nat) : Int) = (m : Int) + 1 := by omega
                      rw [e1] at C2
                      clear e1
                      go_wp2_with fail
                      refine C2.out.mono ?_
                      rintro e w4 ⟨rfl, d6, s6, p6, q6⟩
                      have P6 := Lib.hid (P5.out.right s5.out p5.out hm f1.out f2.out s6 p6 q6)
                      clear C2 s6 p6 q6 P5 s5 p5 f1 f2
                      go_wp2_with fail
                      go_roundg (m - a)
                      case measure => omega
                      case rel => exact ⟨a, m, l2, _, al, d6, rfl, rfl, rfl, rfl, rfl, by omega, by omega, by omega, by omega, hl2, P6.out⟩
                  · have hB2 : 0 < a ∧ ltInt d4[a - 1]! d4[pv]! = false := by
                      have := hBf.out
                      symm at this
                      rw [Bool.and_eq_true, decide_eq_true_eq] at this
                      exact ⟨this.1, by simpa using this.2⟩
                    have C := Lib.hid (peq_ok g off n c a b pv d4 wc P5.out.srt.start hpv.1 hpv.2 hbn hn)
                    clear hBf
                    go_wp2_with fail
                    refine C.out.mono ?_
                    rintro e w3 ⟨m, d5, rfl, s5, p5, hm, f1, f2⟩
                    have P6 := Lib.hid (P5.out.equal hB2.1 hB2.2 s5 p5 hm f1 f2)
                    clear C s5 p5 f1 f2 P5
                    go_wp2_with fail
                    go_roundg (b - m)
                    case measure => omega
                    case rel => exact ⟨m, b, l2, bal, part, d5, rfl, rfl, rfl, rfl, rfl, by omega, by omega, hm.2, hbn, hl2, P6.out⟩
              · have C := Lib.hid (pins_ok g off n c a b d3 _ P3.out.srt.start (by omega) hbn hn P3.out.bel)
                go_wp2_with fail
                refine C.out.mono ?_
                rintro e w2 ⟨r, d4, rfl, s1, p1, q1⟩
                cases r
                · have P4 := Lib.hid (P3.out.move s1 p1)
                  clear C P3 s1 p1 q1
                  obtain ⟨B, hBf⟩ : ∃ B : Bool, B = (decide (0 < a) && !ltInt d4[a - 1]! d4[pv]!) := ⟨_, rfl⟩
                  replace hBf := Lib.hid hBf
                  obtain ⟨G, hG⟩ : ∃ G : Nat → Int, ∀ t, G t = d4[t]! := ⟨fun t => d4[t]!, fun _ => rfl⟩
                  have hcw : ∀ t, t < n → w2.cell? ⟨g, off + t, none⟩ = some (.int .u32 (G t)) := fun t ht => by rw [hG]; exact (P4.out.srt.cell t ht).1
                  replace hG := Lib.hid hG
                  go_upto_region 17 with fail
                  go_cut [87] (fun s wx => s = .bool B ∧ ∃ q, Hid (wx = w2.drewN q))
                  case first =>
                    by_cases h0a : 0 < a
                    · have z0 : decide ((0 : Int) < (a : Int)) = true := decide_eq_true (by omega)
                      have eB : Hid (B = !ltInt (G (a - 1)) (G pv)) := by
                        show B = _
                        rw [hBf.out, hG.out, hG.out, decide_eq_true h0a, Bool.true_and]
                      go_big_quiet (first | (go_at_call 95; refine Calls.quiet_of_same (less_ok _ _ _)))
                      go_wp2_with fail
                      go_meet
                      exact ⟨congrArg Value.bool eB.out.symm, nq, rfl⟩
                    · have z0 : decide ((0 : Int) < (a : Int)) = false := decide_eq_false (by omega)
                      have eB : Hid (B = false) := by
                        show B = _
                        rw [hBf.out, decide_eq_false h0a, Bool.false_and]
                      go_big_quiet (first | (go_at_call 95; refine Calls.quiet_of_same (less_ok _ _ _)))
                      go_wp2_with fail
                      go_meet
                      exact ⟨congrArg Value.bool eB.out.symm, nq, rfl⟩
                  case rest =>
                    obtain ⟨rfl, q, hw⟩ := hcut
                    have P5 : Hid (Pq w wc g off n c a0 b0 d0 a b d4) := hw.out ▸ P4.out.add ⟨rfl, rfl, rfl, Nat.le_refl _, fun _ _ => rfl⟩
                    clear P4 hcw hw hG
                    cases B
                    · have C := Lib.hid (prt_ok g off n c a b pv d4 wc P5.out.srt.start hpv.1 hpv.2 hbn hn)
                      clear hBf
                      go_wp2_with fail
                      refine C.out.mono ?_
                      rintro e w3 ⟨m, al, d5, rfl, s5, p5, hm, f1, f2⟩
                      have hm' := hm
                      replace f1 := Lib.hid f1
                      replace f2 := Lib.hid f2
                      replace s5 := Lib.hid s5
                      replace p5 := Lib.hid p5
                      clear C
                      have q8 : Int.tdiv (N : Int) 8 = ((N / 8 : Nat) : Int) := by rw [Int.tdiv_eq_ediv_of_nonneg (by omega)]; omega
                      obtain ⟨T, hT⟩ : ∃ T, T = N / 8 := ⟨_, rfl⟩
                      rw [← hT] at q8
                      replace hT := Lib.hid hT
                      by_cases hlr : m - a < b - m
                      · have zlr : decide ((m : Int) - (a : Int) < (b : Int) - (m : Int)) = true := decide_eq_true (by omega)
                        have C2 := Lib.hid (ih.out (m - a) (by omega) g off n c a m l2 d5 w3 (Nat.le_refl _) s5.out.start hm.1 (by omega) hn hl2 ((P5.out.move s5.out p5.out).lowB (by omega)))
                        go_wp2_with fail
                        refine C2.out.mono ?_
                        rintro e w4 ⟨rfl, d6, s6, p6, q6⟩
                        have P6 := Lib.hid (P5.out.left s5.out p5.out hm f1.out f2.out s6 p6 q6)
                        clear C2 s6 p6 q6 P5 s5 p5 f1 f2
                        go_wp2_with fail
                        go_roundg (b - (m + 1))
                        case measure => omega
                        case rel => exact ⟨m + 1, b, l2, _, al, d6, by simp, rfl, rfl, rfl, rfl, by omega, by omega, by omega, hbn, hl2, P6.out⟩
                      · have zlr : decide ((m : Int) - (a : Int) < (b : Int) - (m : Int)) = false := decide_eq_false (by omega)
                        have C2 := Lib.hid (ih.out (b - (m + 1)) (by omega) g off n c (m + 1) b l2 d5 w3 (Nat.le_refl _) s5.out.start (by omega) hbn hn hl2 (high_B f2.out))
                        have e1 : ((m + 1 : Nat) : Int) = (m : Int) + 1 := by omega
                        rw [e1] at C2
                        clear e1
                        go_wp2_with fail
                        refine C2.out.mono ?_
                        rintro e w4 ⟨rfl, d6, s6, p6, q6⟩
                        have P6 := Lib.hid (P5.out.right s5.out p5.out hm f1.out f2.out s6 p6 q6)
                        clear C2 s6 p6 q6 P5 s5 p5 f1 f2
                        go_wp2_with fail
                        go_roundg (m - a)
                        case measure => omega
                        case rel => exact ⟨a, m, l2, _, al, d6, rfl, rfl, rfl, rfl, rfl, by omega, by omega, by omega, by omega, hl2, P6.out⟩
                    · have hB2 : 0 < a ∧ ltInt d4[a - 1]! d4[pv]! = false := by
                        have := hBf.out
                        symm at this
                        rw [Bool.and_eq_true, decide_eq_true_eq] at this
                        exact ⟨this.1, by simpa using this.2⟩
                      have C := Lib.hid (peq_ok g off n c a b pv d4 wc P5.out.srt.start hpv.1 hpv.2 hbn hn)
                      clear hBf
                      go_wp2_with fail
                      refine C.out.mono ?_
                      rintro e w3 ⟨m, d5, rfl, s5, p5, hm, f1, f2⟩
                      have P6 := Lib.hid (P5.out.equal hB2.1 hB2.2 s5 p5 hm f1 f2)
                      clear C s5 p5 f1 f2 P5
                      go_wp2_with fail
                      go_roundg (b - m)
                      case measure => omega
                      case rel => exact ⟨m, b, l2, bal, part, d5, rfl, rfl, rfl, rfl, rfl, by omega, by omega, hm.2, hbn, hl2, P6.out⟩
                · have F := Lib.hid (P3.out.done s1 p1 (q1 rfl))
                  clear C P3 s1 p1 q1
                  go_wp2_with fail
                  refine bodyPost_ret (results_none rfl _ _ _) rfl ?_
                  exact ⟨rfl, F.out⟩
theorem pdq_ok (k : Nat) : PdqAt k := by
  induction k using Nat.strongRecOn with
  | _ k ih => exact pdq_step k ih
end Go.Proofs.YtndaohiecpdmlaaGreat
