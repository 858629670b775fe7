/-
  What slices.partitionOrdered leaves of numbers of 32 bits: they are parted at a place. No condition but how many there can be.
-/
import Derived.Test.YtndaohiecpdmlaaGreatSoPart
namespace Go.Proofs.YtndaohiecpdmlaaGreat
set_option maxRecDepth 100000
open Go.RowKit Go.Sort

set_option maxHeartbeats 8000000 in
theorem prt_ok (g off n c a b q : Nat) (d : Array Int) (w : World) (h : Srt w w g off n c d) (h1 : a ≤ q) (h2 : q < b) (hb : b ≤ n) (hn : n < 4611686018427387904) :
    Calls Tryz.prog 97 #[.slice (some ⟨g, off, none⟩) n c, .int .i64 a, .int .i64 b, .int .i64 q] w fun e w' => ∃ (m : Nat) (al : Bool) (d' : Array Int), e = .returned (.tuple #[.int .i64 m, .bool al]) ∧ Srt w w' g off n c d' ∧ PermIn a b d d' ∧ (a ≤ m ∧ m < b) ∧ (∀ t, a ≤ t → t < m → ltInt d'[t]! d'[m]! = true) ∧ (∀ t, m < t → t < b → ltInt d'[t]! d'[m]! = false) := by
  have hsz := h.size.1
  obtain ⟨p, hp⟩ : ∃ p, p = d[q]! := ⟨_, rfl⟩
  obtain ⟨L, hLf⟩ : ∃ L : Int → Bool, L = fun x => ltInt x p := ⟨_, rfl⟩
  have hL : Hid (∀ x, L x = ltInt x p) := fun x => by rw [hLf]
  have P0 : Hid (Pt L p a b d (a + 1) (b - 1) (Sort.swp d a q)) := by
    rw [hp]
    exact Pt.begin h1 h2 (by omega)
  replace hLf := Lib.hid hLf
  have H := Lib.hid h
  clear hp h
  go_enter Tryz.func97, Tryz.ntmps97
  go_upto_region 1 with fail
  go_cut [] (fun wx => Hid (Srt w wx g off n c (Sort.swp d a q)))
  case first =>
    have hxn : a < n := by omega
    have hyn : q < n := by omega
    obtain ⟨G, hG⟩ : ∃ G : Nat → Int, ∀ t, G t = d[t]! := ⟨fun t => d[t]!, fun _ => rfl⟩
    have hcw : ∀ t, t < n → w.cell? ⟨g, off + t, none⟩ = some (.int .u32 (G t)) := fun t ht => by rw [hG]; exact (H.out.cell t ht).1
    have hfw : ∀ t, t < n → w.frozen? ⟨g, off + t, none⟩ = false := fun t ht => (H.out.cell t ht).2
    replace hG := Lib.hid hG
    by_cases hxy : a = q
    · have S1 := Lib.hid ((H.out.swp (i := a) (j := a) (x := G a) (y := G a) (by omega) (by omega) (hG.out _) (hG.out _)).drew.eq (show Sort.swp d a a = Sort.swp d a q by rw [← hxy]))
      have ia := fun w' => at_u32 g off n c a w' hxn (q : Int) (by omega) (off + a) rfl
      replace hxy := Lib.hid hxy
      go_region
      go_wp2_with fail
      go_meet
      exact S1
    · have S1 := Lib.hid ((H.out.swp (i := a) (j := q) (x := G q) (y := G a) (by omega) (by omega) (hG.out _) (hG.out _)).drew)
      go_region
      go_wp2_with fail
      go_meet
      exact S1
  case rest =>
    obtain ⟨dk, hD⟩ : ∃ D, D = Sort.swp d a q := ⟨_, rfl⟩
    have S0 := hcut
    rw [← hD] at S0 P0
    clear hD hcut H
    obtain ⟨i, hi0⟩ : ∃ i, i = a + 1 := ⟨_, rfl⟩
    obtain ⟨j, hj0⟩ : ∃ j, j = b - 1 := ⟨_, rfl⟩
    have ei : (a : Int) + 1 = (i : Int) := by omega
    have ej : (b : Int) - 1 = (j : Int) := by omega
    rw [← hi0, ← hj0] at P0
    replace hi0 := Lib.hid hi0
    replace hj0 := Lib.hid hj0
    go_upto_block 0 with fail
    go_cut [10] (fun s wx => ∃ i2 : Nat, s = .int .i64 i2 ∧ i ≤ i2 ∧ Hid (Srt w wx g off n c dk ∧ Pt L p a b d i2 j dk ∧ (i2 ≤ j → L dk[i2]! = false)))
    case first =>
      go_wp2_with fail
      go_loopw [10] (fun s wx => ∃ i2 : Nat, s = .int .i64 i2 ∧ i ≤ i2 ∧ Hid (Srt w wx g off n c dk ∧ Pt L p a b d i2 j dk)) (fun s _ => j + 1 - (numOf s).toNat)
      case atStart => exact ⟨i, rfl, Nat.le_refl _, S0.out, P0.out⟩
      case round =>
        obtain ⟨i2, rfl, hmo, R⟩ := hrel
        have hpt := R.out.2
        have hjn : j < n := by have := hpt.jb; omega
        have hai := hpt.ai
        by_cases hij : i2 ≤ j
        · have z1 : decide ((i2 : Int) ≤ (j : Int)) = true := decide_eq_true (by omega)
          obtain ⟨G, hG⟩ : ∃ G : Nat → Int, ∀ t, G t = dk[t]! := ⟨fun t => dk[t]!, fun _ => rfl⟩
          have hcw : ∀ t, t < n → wr.cell? ⟨g, off + t, none⟩ = some (.int .u32 (G t)) := fun t ht => by rw [hG]; exact (R.out.1.cell t ht).1
          have hfw : ∀ t, t < n → wr.frozen? ⟨g, off + t, none⟩ = false := fun t ht => (R.out.1.cell t ht).2
          replace hG := Lib.hid hG
          have eL : Hid (∀ t, L dk[t]! = ltInt (G t) (G a)) := fun t => by rw [hG.out, hG.out, hpt.piv, hL.out]
          clear hpt
          go_wp2_with fail
          go_big_quiet (first | (go_at_call 95; refine Calls.quiet_of_same (less_ok _ _ _)))
          go_wp2_with fail
          · have ht : (ltInt (G i2) (G a)) = true := by assumption
            have hl : L dk[i2]! = true := by rw [eL.out]; simpa using ht
            go_roundw
            case rel => exact ⟨i2 + 1, by first | (congr 1; omega) | simp, by omega, R.out.1.drewN nq, R.out.2.up hij hl⟩
            case measure => simp [numOf]; omega
          · have ht : (ltInt (G i2) (G a)) = false := by assumption
            have hl : L dk[i2]! = false := by rw [eL.out]; simpa using ht
            go_meet
            exact ⟨i2, rfl, hmo, R.out.1.drewN nq, R.out.2, fun _ => hl⟩
        · have z1 : decide ((i2 : Int) ≤ (j : Int)) = false := decide_eq_false (by omega)
          obtain ⟨G, hG⟩ : ∃ G : Nat → Int, ∀ t, G t = dk[t]! := ⟨fun t => dk[t]!, fun _ => rfl⟩
          have hcw : ∀ t, t < n → wr.cell? ⟨g, off + t, none⟩ = some (.int .u32 (G t)) := fun t ht => by rw [hG]; exact (R.out.1.cell t ht).1
          have hfw : ∀ t, t < n → wr.frozen? ⟨g, off + t, none⟩ = false := fun t ht => (R.out.1.cell t ht).2
          replace hG := Lib.hid hG
          clear hpt
          go_wp2_with fail
          go_big_quiet (first | (go_at_call 95; refine Calls.quiet_of_same (less_ok _ _ _)))
          go_wp2_with fail
          go_meet
          exact ⟨i2, rfl, hmo, R.out.1.drewN nq, R.out.2, fun q => absurd q hij⟩
    case rest =>
      obtain ⟨i2, rfl, hi2, R⟩ := hcut
      go_upto_block 2 with fail
      go_cut [11] (fun s wx => ∃ j2 : Nat, s = .int .i64 j2 ∧ j2 ≤ j ∧ Hid (Srt w wx g off n c dk ∧ Pt L p a b d i2 j2 dk ∧ (i2 ≤ j2 → L dk[i2]! = false) ∧ (i2 ≤ j2 → L dk[j2]! = true)))
      case first =>
        go_wp2_with fail
        go_loopw [11] (fun s wx => ∃ j2 : Nat, s = .int .i64 j2 ∧ j2 ≤ j ∧ Hid (Srt w wx g off n c dk ∧ Pt L p a b d i2 j2 dk ∧ (i2 ≤ j2 → L dk[i2]! = false))) (fun s _ => (numOf s).toNat)
        case atStart => exact ⟨j, rfl, Nat.le_refl _, R.out.1, R.out.2.1, R.out.2.2⟩
        case round =>
          obtain ⟨j2, rfl, hmo, R⟩ := hrel
          have hpt := R.out.2.1
          have hjn : j2 < n := by have := hpt.jb; omega
          have hai := hpt.ai
          by_cases hij : i2 ≤ j2
          · have z1 : decide ((i2 : Int) ≤ (j2 : Int)) = true := decide_eq_true (by omega)
            obtain ⟨G, hG⟩ : ∃ G : Nat → Int, ∀ t, G t = dk[t]! := ⟨fun t => dk[t]!, fun _ => rfl⟩
            have hcw : ∀ t, t < n → wr.cell? ⟨g, off + t, none⟩ = some (.int .u32 (G t)) := fun t ht => by rw [hG]; exact (R.out.1.cell t ht).1
            have hfw : ∀ t, t < n → wr.frozen? ⟨g, off + t, none⟩ = false := fun t ht => (R.out.1.cell t ht).2
            replace hG := Lib.hid hG
            have eL : Hid (∀ t, L dk[t]! = ltInt (G t) (G a)) := fun t => by rw [hG.out, hG.out, hpt.piv, hL.out]
            clear hpt
            go_wp2_with fail
            go_big_quiet (first | (go_at_call 95; refine Calls.quiet_of_same (less_ok _ _ _)))
            go_wp2_with fail
            · have ht : (!ltInt (G j2) (G a)) = true := by assumption
              have hl : L dk[j2]! = false := by rw [eL.out]; simpa using ht
              go_roundw
              case rel => exact ⟨j2 - 1, by first | (congr 1; omega) | simp, by omega, R.out.1.drewN nq, R.out.2.1.down hij hl, fun q => R.out.2.2 (by omega)⟩
              case measure => simp [numOf]; omega
            · have ht : (!ltInt (G j2) (G a)) = false := by assumption
              have hl : L dk[j2]! = true := by rw [eL.out]; simpa using ht
              go_meet
              exact ⟨j2, rfl, hmo, R.out.1.drewN nq, R.out.2.1, R.out.2.2, fun _ => hl⟩
          · have z1 : decide ((i2 : Int) ≤ (j2 : Int)) = false := decide_eq_false (by omega)
            obtain ⟨G, hG⟩ : ∃ G : Nat → Int, ∀ t, G t = dk[t]! := ⟨fun t => dk[t]!, fun _ => rfl⟩
            have hcw : ∀ t, t < n → wr.cell? ⟨g, off + t, none⟩ = some (.int .u32 (G t)) := fun t ht => by rw [hG]; exact (R.out.1.cell t ht).1
            have hfw : ∀ t, t < n → wr.frozen? ⟨g, off + t, none⟩ = false := fun t ht => (R.out.1.cell t ht).2
            replace hG := Lib.hid hG
            clear hpt
            go_wp2_with fail
            go_big_quiet (first | (go_at_call 95; refine Calls.quiet_of_same (less_ok _ _ _)))
            go_wp2_with fail
            go_meet
            exact ⟨j2, rfl, hmo, R.out.1.drewN nq, R.out.2.1, R.out.2.2, fun q => absurd q hij⟩
      case rest =>
        obtain ⟨j2, rfl, hj2, R⟩ := hcut
        by_cases hij : i2 ≤ j2
        · have z1 : decide ((j2 : Int) < (i2 : Int)) = false := decide_eq_false (by omega)
          have hlt := R.out.2.1.lt hij (R.out.2.2.1 hij) (R.out.2.2.2 hij)
          have P1 := Lib.hid (R.out.2.1.swap hlt (R.out.2.2.1 hij) (R.out.2.2.2 hij))
          have hjn : j2 < n := by have := R.out.2.1.jb; omega
          obtain ⟨G, hG⟩ : ∃ G : Nat → Int, ∀ t, G t = dk[t]! := ⟨fun t => dk[t]!, fun _ => rfl⟩
          have hcw : ∀ t, t < n → wc.cell? ⟨g, off + t, none⟩ = some (.int .u32 (G t)) := fun t ht => by rw [hG]; exact (R.out.1.cell t ht).1
          have hfw : ∀ t, t < n → wc.frozen? ⟨g, off + t, none⟩ = false := fun t ht => (R.out.1.cell t ht).2
          replace hG := Lib.hid hG
          have S1 := Lib.hid ((R.out.1.swp (i := i2) (j := j2) (x := G j2) (y := G i2) (by omega) (by omega) (hG.out _) (hG.out _)).drew)
          clear R
          go_wp2_with fail
          go_region
          go_wp2_with fail
          obtain ⟨dq, hdq⟩ : ∃ dq, dq = Sort.swp dk i2 j2 := ⟨_, rfl⟩
          rw [← hdq] at S1 P1
          clear hdq hcw hfw
          go_loopg [10, 11] b (fun k s9 s10 wr => ∃ (i j : Nat) (dk : Array Int), s9 = .int .i64 i ∧ s10 = .int .i64 j ∧ j + 1 - i ≤ k ∧ Hid (Srt w wr g off n c dk ∧ Pt L p a b d i j dk))
          case atStart => exact ⟨i2 + 1, j2 - 1, dq, by simp, by congr 1; omega, by have := P1.out.jb; omega, S1.out, P1.out⟩
          case round =>
            clear hi2 hj2 hij hlt P1 S1 hjn z1 hG P0 S0 hi0 hj0 ei ej
            obtain ⟨i, j, dk, rfl, rfl, hk, R⟩ := hrel
            go_upto_block 6 with fail
            go_cut [10] (fun s wx => ∃ i2 : Nat, s = .int .i64 i2 ∧ i ≤ i2 ∧ Hid (Srt w wx g off n c dk ∧ Pt L p a b d i2 j dk ∧ (i2 ≤ j → L dk[i2]! = false)))
            case first =>
              go_wp2_with fail
              go_loopw [10] (fun s wx => ∃ i2 : Nat, s = .int .i64 i2 ∧ i ≤ i2 ∧ Hid (Srt w wx g off n c dk ∧ Pt L p a b d i2 j dk)) (fun s _ => j + 1 - (numOf s).toNat)
              case atStart => exact ⟨i, rfl, Nat.le_refl _, R.out.1, R.out.2⟩
              case round =>
                obtain ⟨i2, rfl, hmo, R⟩ := hrel
                have hpt := R.out.2
                have hjn : j < n := by have := hpt.jb; omega
                have hai := hpt.ai
                by_cases hij : i2 ≤ j
                · have z1 : decide ((i2 : Int) ≤ (j : Int)) = true := decide_eq_true (by omega)
                  obtain ⟨G, hG⟩ : ∃ G : Nat → Int, ∀ t, G t = dk[t]! := ⟨fun t => dk[t]!, fun _ => rfl⟩
                  have hcw : ∀ t, t < n → wr.cell? ⟨g, off + t, none⟩ = some (.int .u32 (G t)) := fun t ht => by rw [hG]; exact (R.out.1.cell t ht).1
                  have hfw : ∀ t, t < n → wr.frozen? ⟨g, off + t, none⟩ = false := fun t ht => (R.out.1.cell t ht).2
                  replace hG := Lib.hid hG
                  have eL : Hid (∀ t, L dk[t]! = ltInt (G t) (G a)) := fun t => by rw [hG.out, hG.out, hpt.piv, hL.out]
                  clear hpt
                  go_wp2_with fail
                  go_big_quiet (first | (go_at_call 95; refine Calls.quiet_of_same (less_ok _ _ _)))
                  go_wp2_with fail
                  · have ht : (ltInt (G i2) (G a)) = true := by assumption
                    have hl : L dk[i2]! = true := by rw [eL.out]; simpa using ht
                    go_roundw
                    case rel => exact ⟨i2 + 1, by first | (congr 1; omega) | simp, by omega, R.out.1.drewN nq, R.out.2.up hij hl⟩
                    case measure => simp [numOf]; omega
                  · have ht : (ltInt (G i2) (G a)) = false := by assumption
                    have hl : L dk[i2]! = false := by rw [eL.out]; simpa using ht
                    go_meet
                    exact ⟨i2, rfl, hmo, R.out.1.drewN nq, R.out.2, fun _ => hl⟩
                · have z1 : decide ((i2 : Int) ≤ (j : Int)) = false := decide_eq_false (by omega)
                  obtain ⟨G, hG⟩ : ∃ G : Nat → Int, ∀ t, G t = dk[t]! := ⟨fun t => dk[t]!, fun _ => rfl⟩
                  have hcw : ∀ t, t < n → wr.cell? ⟨g, off + t, none⟩ = some (.int .u32 (G t)) := fun t ht => by rw [hG]; exact (R.out.1.cell t ht).1
                  have hfw : ∀ t, t < n → wr.frozen? ⟨g, off + t, none⟩ = false := fun t ht => (R.out.1.cell t ht).2
                  replace hG := Lib.hid hG
                  clear hpt
                  go_wp2_with fail
                  go_big_quiet (first | (go_at_call 95; refine Calls.quiet_of_same (less_ok _ _ _)))
                  go_wp2_with fail
                  go_meet
                  exact ⟨i2, rfl, hmo, R.out.1.drewN nq, R.out.2, fun q => absurd q hij⟩
            case rest =>
              obtain ⟨i2, rfl, hi2, R⟩ := hcut
              go_upto_block 8 with fail
              go_cut [11] (fun s wx => ∃ j2 : Nat, s = .int .i64 j2 ∧ j2 ≤ j ∧ Hid (Srt w wx g off n c dk ∧ Pt L p a b d i2 j2 dk ∧ (i2 ≤ j2 → L dk[i2]! = false) ∧ (i2 ≤ j2 → L dk[j2]! = true)))
              case first =>
                go_wp2_with fail
                go_loopw [11] (fun s wx => ∃ j2 : Nat, s = .int .i64 j2 ∧ j2 ≤ j ∧ Hid (Srt w wx g off n c dk ∧ Pt L p a b d i2 j2 dk ∧ (i2 ≤ j2 → L dk[i2]! = false))) (fun s _ => (numOf s).toNat)
                case atStart => exact ⟨j, rfl, Nat.le_refl _, R.out.1, R.out.2.1, R.out.2.2⟩
                case round =>
                  obtain ⟨j2, rfl, hmo, R⟩ := hrel
                  have hpt := R.out.2.1
                  have hjn : j2 < n := by have := hpt.jb; omega
                  have hai := hpt.ai
                  by_cases hij : i2 ≤ j2
                  · have z1 : decide ((i2 : Int) ≤ (j2 : Int)) = true := decide_eq_true (by omega)
                    obtain ⟨G, hG⟩ : ∃ G : Nat → Int, ∀ t, G t = dk[t]! := ⟨fun t => dk[t]!, fun _ => rfl⟩
                    have hcw : ∀ t, t < n → wr.cell? ⟨g, off + t, none⟩ = some (.int .u32 (G t)) := fun t ht => by rw [hG]; exact (R.out.1.cell t ht).1
                    have hfw : ∀ t, t < n → wr.frozen? ⟨g, off + t, none⟩ = false := fun t ht => (R.out.1.cell t ht).2
                    replace hG := Lib.hid hG
                    have eL : Hid (∀ t, L dk[t]! = ltInt (G t) (G a)) := fun t => by rw [hG.out, hG.out, hpt.piv, hL.out]
                    clear hpt
                    go_wp2_with fail
                    go_big_quiet (first | (go_at_call 95; refine Calls.quiet_of_same (less_ok _ _ _)))
                    go_wp2_with fail
                    · have ht : (!ltInt (G j2) (G a)) = true := by assumption
                      have hl : L dk[j2]! = false := by rw [eL.out]; simpa using ht
                      go_roundw
                      case rel => exact ⟨j2 - 1, by first | (congr 1; omega) | simp, by omega, R.out.1.drewN nq, R.out.2.1.down hij hl, fun q => R.out.2.2 (by omega)⟩
                      case measure => simp [numOf]; omega
                    · have ht : (!ltInt (G j2) (G a)) = false := by assumption
                      have hl : L dk[j2]! = true := by rw [eL.out]; simpa using ht
                      go_meet
                      exact ⟨j2, rfl, hmo, R.out.1.drewN nq, R.out.2.1, R.out.2.2, fun _ => hl⟩
                  · have z1 : decide ((i2 : Int) ≤ (j2 : Int)) = false := decide_eq_false (by omega)
                    obtain ⟨G, hG⟩ : ∃ G : Nat → Int, ∀ t, G t = dk[t]! := ⟨fun t => dk[t]!, fun _ => rfl⟩
                    have hcw : ∀ t, t < n → wr.cell? ⟨g, off + t, none⟩ = some (.int .u32 (G t)) := fun t ht => by rw [hG]; exact (R.out.1.cell t ht).1
                    have hfw : ∀ t, t < n → wr.frozen? ⟨g, off + t, none⟩ = false := fun t ht => (R.out.1.cell t ht).2
                    replace hG := Lib.hid hG
                    clear hpt
                    go_wp2_with fail
                    go_big_quiet (first | (go_at_call 95; refine Calls.quiet_of_same (less_ok _ _ _)))
                    go_wp2_with fail
                    go_meet
                    exact ⟨j2, rfl, hmo, R.out.1.drewN nq, R.out.2.1, R.out.2.2, fun q => absurd q hij⟩
              case rest =>
                obtain ⟨j2, rfl, hj2, R⟩ := hcut
                by_cases hij : i2 ≤ j2
                · have z1 : decide ((j2 : Int) < (i2 : Int)) = false := decide_eq_false (by omega)
                  have hlt := R.out.2.1.lt hij (R.out.2.2.1 hij) (R.out.2.2.2 hij)
                  have P1 := Lib.hid (R.out.2.1.swap hlt (R.out.2.2.1 hij) (R.out.2.2.2 hij))
                  have hjn : j2 < n := by have := R.out.2.1.jb; omega
                  obtain ⟨G, hG⟩ : ∃ G : Nat → Int, ∀ t, G t = dk[t]! := ⟨fun t => dk[t]!, fun _ => rfl⟩
                  have hcw : ∀ t, t < n → wc.cell? ⟨g, off + t, none⟩ = some (.int .u32 (G t)) := fun t ht => by rw [hG]; exact (R.out.1.cell t ht).1
                  have hfw : ∀ t, t < n → wc.frozen? ⟨g, off + t, none⟩ = false := fun t ht => (R.out.1.cell t ht).2
                  replace hG := Lib.hid hG
                  have S1 := Lib.hid ((R.out.1.swp (i := i2) (j := j2) (x := G j2) (y := G i2) (by omega) (by omega) (hG.out _) (hG.out _)).drew)
                  clear R
                  go_wp2_with fail
                  go_region
                  go_wp2
                  go_roundg (gk - 2)
                  case measure => omega
                  case rel => exact ⟨i2 + 1, j2 - 1, Sort.swp dk i2 j2, by simp, by congr 1; omega, by omega, S1.out, P1.out⟩
                · have z1 : decide ((j2 : Int) < (i2 : Int)) = true := decide_eq_true (by omega)
                  have hjb2 := R.out.2.1.jb
                  have S2 := Lib.hid R.out.1
                  have F := Lib.hid ((hLf.out ▸ R.out.2.1 : Pt (fun x => ltInt x p) p a b d i2 j2 dk).last (by omega))
                  clear R
                  go_upto_region 21 with fail
                  go_cut [] (fun wx => Hid (Srt w wx g off n c (Sort.swp dk j2 a)))
                  case first =>
                    have hxn : j2 < n := by omega
                    have hyn : a < n := by omega
                    obtain ⟨G, hG⟩ : ∃ G : Nat → Int, ∀ t, G t = dk[t]! := ⟨fun t => dk[t]!, fun _ => rfl⟩
                    have hcw : ∀ t, t < n → wc.cell? ⟨g, off + t, none⟩ = some (.int .u32 (G t)) := fun t ht => by rw [hG]; exact (S2.out.cell t ht).1
                    have hfw : ∀ t, t < n → wc.frozen? ⟨g, off + t, none⟩ = false := fun t ht => (S2.out.cell t ht).2
                    replace hG := Lib.hid hG
                    by_cases hxy : j2 = a
                    · have S1 := Lib.hid ((S2.out.swp (i := j2) (j := j2) (x := G j2) (y := G j2) (by omega) (by omega) (hG.out _) (hG.out _)).drew.eq (show Sort.swp dk j2 j2 = Sort.swp dk j2 a by rw [← hxy]))
                      have ia := fun w' => at_u32 g off n c j2 w' hxn (a : Int) (by omega) (off + j2) rfl
                      replace hxy := Lib.hid hxy
                      go_region
                      go_wp2_with fail
                      go_meet
                      exact S1
                    · have S1 := Lib.hid ((S2.out.swp (i := j2) (j := a) (x := G a) (y := G j2) (by omega) (by omega) (hG.out _) (hG.out _)).drew)
                      go_region
                      go_wp2_with fail
                      go_meet
                      exact S1
                  case rest =>
                    have S3 := hcut
                    obtain ⟨f1, f2, f3, f4, f5⟩ := F.out
                    go_wp2
                    go_ret2
                    exact ⟨j2, false, _, rfl, S3.out, f3, ⟨f1, f2⟩, f4, f5⟩
        · have z1 : decide ((j2 : Int) < (i2 : Int)) = true := decide_eq_true (by omega)
          have hjb2 := R.out.2.1.jb
          have S2 := Lib.hid R.out.1
          have F := Lib.hid ((hLf.out ▸ R.out.2.1 : Pt (fun x => ltInt x p) p a b d i2 j2 dk).last (by omega))
          clear R
          go_upto_region 8 with fail
          go_cut [] (fun wx => Hid (Srt w wx g off n c (Sort.swp dk j2 a)))
          case first =>
            have hxn : j2 < n := by omega
            have hyn : a < n := by omega
            obtain ⟨G, hG⟩ : ∃ G : Nat → Int, ∀ t, G t = dk[t]! := ⟨fun t => dk[t]!, fun _ => rfl⟩
            have hcw : ∀ t, t < n → wc.cell? ⟨g, off + t, none⟩ = some (.int .u32 (G t)) := fun t ht => by rw [hG]; exact (S2.out.cell t ht).1
            have hfw : ∀ t, t < n → wc.frozen? ⟨g, off + t, none⟩ = false := fun t ht => (S2.out.cell t ht).2
            replace hG := Lib.hid hG
            by_cases hxy : j2 = a
            · have S1 := Lib.hid ((S2.out.swp (i := j2) (j := j2) (x := G j2) (y := G j2) (by omega) (by omega) (hG.out _) (hG.out _)).drew.eq (show Sort.swp dk j2 j2 = Sort.swp dk j2 a by rw [← hxy]))
              have ia := fun w' => at_u32 g off n c j2 w' hxn (a : Int) (by omega) (off + j2) rfl
              replace hxy := Lib.hid hxy
              go_region
              go_wp2_with fail
              go_meet
              exact S1
            · have S1 := Lib.hid ((S2.out.swp (i := j2) (j := a) (x := G a) (y := G j2) (by omega) (by omega) (hG.out _) (hG.out _)).drew)
              go_region
              go_wp2_with fail
              go_meet
              exact S1
          case rest =>
            have S3 := hcut
            obtain ⟨f1, f2, f3, f4, f5⟩ := F.out
            go_wp2
            go_ret2
            exact ⟨j2, true, _, rfl, S3.out, f3, ⟨f1, f2⟩, f4, f5⟩
end Go.Proofs.YtndaohiecpdmlaaGreat
