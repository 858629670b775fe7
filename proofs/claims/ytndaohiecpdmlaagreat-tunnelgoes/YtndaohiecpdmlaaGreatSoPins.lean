/-
  What slices.partialInsertionSortOrdered leaves of numbers of 32 bits: the same ones between two places, sorted where it says so. No condition but how many there can be.
-/
import Derived.Test.YtndaohiecpdmlaaGreatSoPart
namespace Go.Proofs.YtndaohiecpdmlaaGreat
set_option maxRecDepth 100000
open Go.RowKit Go.Sort

theorem scan_go {d : Array Int} {b i : Nat} (h : i < b) (hl : ltInt d[i]! d[i - 1]! = false) : scanSorted ltInt d b i = scanSorted ltInt d b (i + 1) := by
  rw [scanSorted, if_pos (by rw [hl, decide_eq_true h]; rfl)]
theorem scan_stop {d : Array Int} {b i : Nat} (h : b ≤ i ∨ ltInt d[i]! d[i - 1]! = true) : scanSorted ltInt d b i = i := by
  rw [scanSorted, if_neg]
  rcases h with h | h
  · rw [decide_eq_false (by omega)]; simp
  · rw [h]; simp
theorem down_go {d : Array Int} {j : Nat} (hj : 1 ≤ j) (hl : ltInt d[j]! d[j - 1]! = true) : shiftDown ltInt j d = shiftDown ltInt (j - 1) (Sort.swp d j (j - 1)) := by
  obtain ⟨k, rfl⟩ : ∃ k, j = k + 1 := ⟨j - 1, by omega⟩
  simp only [Nat.add_sub_cancel] at hl ⊢
  rw [shiftDown, if_neg (by rw [hl]; decide)]
theorem down_stop {d : Array Int} {j : Nat} (h : j = 0 ∨ ltInt d[j]! d[j - 1]! = false) : shiftDown ltInt j d = d := by
  cases j with
  | zero => rfl
  | succ k =>
    rcases h with h | h
    · omega
    · simp only [Nat.add_sub_cancel] at h
      rw [shiftDown, if_pos (by rw [h]; rfl)]
theorem up_go {d : Array Int} {b j : Nat} (hj : j < b) (hl : ltInt d[j]! d[j - 1]! = true) : shiftUp ltInt b j d = shiftUp ltInt b (j + 1) (Sort.swp d j (j - 1)) := by
  rw [shiftUp, if_pos hj, if_neg (by rw [hl]; decide)]
theorem up_stop {d : Array Int} {b j : Nat} (h : b ≤ j ∨ ltInt d[j]! d[j - 1]! = false) : shiftUp ltInt b j d = d := by
  rw [shiftUp]
  by_cases q : j < b
  · rw [if_pos q]
    rcases h with h | h
    · omega
    · rw [if_pos (by rw [h]; rfl)]
  · rw [if_neg q]
def dn (a i : Nat) (d : Array Int) : Array Int := if i - a ≥ 2 then shiftDown ltInt (i - 1) d else d
def un (b i : Nat) (d : Array Int) : Array Int := if b - i ≥ 2 then shiftUp ltInt b (i + 1) d else d
theorem pins_end {a b s i : Nat} {d : Array Int} (h : scanSorted ltInt d b i = b) : partialIns ltInt a b (s + 1) i d = (d, true) := by
  rw [partialIns]
  simp only [h, if_true]
theorem pins_short {a b s i : Nat} {d : Array Int} (h : scanSorted ltInt d b i ≠ b) (hs : b - a < 50) : partialIns ltInt a b (s + 1) i d = (d, false) := by
  rw [partialIns]
  simp only [h, if_false, hs, if_true]
theorem pins_go {a b s i j : Nat} {d : Array Int} (hj : j = scanSorted ltInt d b i) (h : j ≠ b) (hs : ¬ b - a < 50) : partialIns ltInt a b (s + 1) i d = partialIns ltInt a b s j (un b j (dn a j (Sort.swp d j (j - 1)))) := by
  subst hj
  rw [partialIns]
  simp only [h, if_false, hs]
  rfl
set_option maxHeartbeats 8000000 in
theorem pins_ok (g off n c a b : Nat) (d : Array Int) (w : World) (h : Srt w w g off n c d) (hab : a < b) (hb : b ≤ n) (hn : n < 4611686018427387904) (hB : Sort.Below ltInt a b d) :
    Calls Tryz.prog 94 #[.slice (some ⟨g, off, none⟩) n c, .int .i64 a, .int .i64 b] w fun e w' => ∃ (r : Bool) (d' : Array Int), e = .returned (.bool r) ∧ Srt w w' g off n c d' ∧ PermIn a b d d' ∧ (r = true → SortedIn ltInt a b d') := by
  have hsz := h.size.1
  obtain ⟨X, hX⟩ : ∃ X, X = partialInsertionSort ltInt d a b := ⟨_, rfl⟩
  have HX : Hid (PermIn a b d X.1 ∧ (X.2 = true → SortedIn ltInt a b X.1)) := by
    rw [hX]
    exact partialInsertionSort_holds swo_ltInt d a b hab (by omega) hB
  refine Calls.mono (R := fun e w' => e = .returned (.bool X.2) ∧ Srt w w' g off n c X.1) ?_ fun e w' ⟨q1, q2⟩ => ⟨X.2, X.1, q1, q2, HX.out.1, HX.out.2⟩
  have E0 : Hid (partialIns ltInt a b 5 (a + 1) d = X) := hX.symm
  have H := Lib.hid h
  clear h hX HX hB
  go_enter Tryz.func94, Tryz.ntmps94
  go_wp2_with fail
  go_loopg [7, 8] 5 (fun s s7 s8 wr => ∃ (i t : Nat) (dk : Array Int), s7 = .int .i64 i ∧ s8 = .int .i64 t ∧ t + s = 5 ∧ a < i ∧ i ≤ b ∧ Hid (Srt w wr g off n c dk) ∧ Hid (partialIns ltInt a b s i dk = X))
  case atStart => exact ⟨a + 1, 0, d, by go_num, rfl, rfl, by omega, by omega, H.out, E0.out⟩
  case round =>
    obtain ⟨i, t, dk, rfl, rfl, hts, hai, hib, R, E⟩ := hrel
    cases gk with
    | zero =>
      obtain rfl : t = 5 := by omega
      have E1 : Hid ((dk, false) = X) := E.out
      go_wp2
      go_ret
      exact ⟨by rw [← E1.out]; rfl, by rw [← E1.out]; exact R.out⟩
    | succ s =>
      have zt : decide ((t : Int) < 5) = true := decide_eq_true (by omega)
      go_upto_block 2 with fail
      go_cut [7] (fun s wx => ∃ i2 : Nat, s = .int .i64 i2 ∧ i ≤ i2 ∧ i2 ≤ b ∧ Hid (Srt w wx g off n c dk ∧ i2 = scanSorted ltInt dk b i))
      case first =>
        go_wp2_with fail
        go_loopw [7] (fun s wx => ∃ i2 : Nat, s = .int .i64 i2 ∧ i ≤ i2 ∧ i2 ≤ b ∧ Hid (Srt w wx g off n c dk ∧ scanSorted ltInt dk b i2 = scanSorted ltInt dk b i)) (fun s _ => b - (numOf s).toNat)
        case atStart => exact ⟨i, rfl, Nat.le_refl _, hib, R.out, rfl⟩
        case round =>
          obtain ⟨i2, rfl, h1, h2, R2⟩ := hrel
          by_cases hlt : i2 < b
          · have z1 : decide ((i2 : Int) < (b : Int)) = true := decide_eq_true (by omega)
            obtain ⟨G, hG⟩ : ∃ G : Nat → Int, ∀ t, G t = dk[t]! := ⟨fun t => dk[t]!, fun _ => rfl⟩
            have hcw : ∀ t, t < n → wr.cell? ⟨g, off + t, none⟩ = some (.int .u32 (G t)) := fun t ht => by rw [hG]; exact (R2.out.1.cell t ht).1
            have hfw : ∀ t, t < n → wr.frozen? ⟨g, off + t, none⟩ = false := fun t ht => (R2.out.1.cell t ht).2
            replace hG := Lib.hid hG
            go_wp2_with fail
            go_big_quiet (first | (go_at_call 95; refine Calls.quiet_of_same (less_ok _ _ _)))
            go_wp2_with fail
            · have ht : (!ltInt (G i2) (G (i2 - 1))) = true := by assumption
              have hl : ltInt dk[i2]! dk[i2 - 1]! = false := by rw [← hG.out, ← hG.out]; simpa using ht
              go_roundw
              case rel => exact ⟨i2 + 1, by first | (congr 1; omega) | simp, by omega, by omega, R2.out.1.drewN nq, (scan_go hlt hl).symm.trans R2.out.2⟩
              case measure => simp [numOf]; omega
            · have ht : (!ltInt (G i2) (G (i2 - 1))) = false := by assumption
              have hl : ltInt dk[i2]! dk[i2 - 1]! = true := by rw [← hG.out, ← hG.out]; simpa using ht
              go_meet
              exact ⟨i2, rfl, h1, h2, R2.out.1.drewN nq, (scan_stop (.inr hl)).symm.trans R2.out.2⟩
          · have z1 : decide ((i2 : Int) < (b : Int)) = false := decide_eq_false (by omega)
            go_wp2_with fail
            go_big_quiet (first | (go_at_call 95; refine Calls.quiet_of_same (less_ok _ _ _)))
            go_wp2_with fail
            go_meet
            exact ⟨i2, rfl, h1, h2, R2.out.1.drewN nq, (scan_stop (.inl (by omega))).symm.trans R2.out.2⟩
      case rest =>
        obtain ⟨i2, rfl, h1, h2, R2⟩ := hcut
        by_cases hib2 : i2 = b
        · have zb : (i2 == b) = true := by simpa using hib2
          have zb' : ((i2 : Int) == (b : Int)) = true := by simp [hib2]
          have E1 : Hid ((dk, true) = X) := (pins_end (R2.out.2.symm.trans hib2)).symm.trans E.out
          replace hib2 := Lib.hid hib2
          go_wp2
          go_ret
          exact ⟨by rw [← E1.out]; rfl, by rw [← E1.out]; exact R2.out.1⟩
        · have zb : (i2 == b) = false := by simpa using hib2
          have zb' : ((i2 : Int) == (b : Int)) = false := by simp; omega
          by_cases h50 : b - a < 50
          · have z50 : decide ((b : Int) - (a : Int) < 50) = true := decide_eq_true (by omega)
            have E1 : Hid ((dk, false) = X) := (pins_short (fun q => hib2 (R2.out.2.trans q)) h50).symm.trans E.out
            go_wp2
            go_ret
            exact ⟨by rw [← E1.out]; rfl, by rw [← E1.out]; exact R2.out.1⟩
          · have z50 : decide ((b : Int) - (a : Int) < 50) = false := decide_eq_false (by omega)
            have E1 := Lib.hid ((pins_go R2.out.2 hib2 h50).symm.trans E.out)
            obtain ⟨G, hG⟩ : ∃ G : Nat → Int, ∀ t, G t = dk[t]! := ⟨fun t => dk[t]!, fun _ => rfl⟩
            have hcw : ∀ t, t < n → wc.cell? ⟨g, off + t, none⟩ = some (.int .u32 (G t)) := fun t ht => by rw [hG]; exact (R2.out.1.cell t ht).1
            have hfw : ∀ t, t < n → wc.frozen? ⟨g, off + t, none⟩ = false := fun t ht => (R2.out.1.cell t ht).2
            replace hG := Lib.hid hG
            have S1 := Lib.hid ((R2.out.1.swp (i := i2) (j := i2 - 1) (x := G (i2 - 1)) (y := G i2) (by omega) (by omega) (hG.out _) (hG.out _)).drew)
            clear R R2 E
            go_wp2_with fail
            go_region
            obtain ⟨d1, hd1⟩ : ∃ d1, d1 = Sort.swp dk i2 (i2 - 1) := ⟨_, rfl⟩
            rw [← hd1] at S1 E1
            clear hd1 hcw hfw hG
            go_upto_if 61 with fail
            go_cut [] (fun wx => Hid (Srt w wx g off n c (dn a i2 d1)))
            case first =>
              by_cases h2a : 2 ≤ i2 - a
              · have z2 : decide ((2 : Int) ≤ (i2 : Int) - (a : Int)) = true := decide_eq_true (by omega)
                have ed : Hid (dn a i2 d1 = shiftDown ltInt (i2 - 1) d1) := by unfold Hid dn; rw [if_pos h2a]
                go_wp2_with fail
                go_loopw [9] (fun s wx => ∃ (j : Nat) (dj : Array Int), s = .int .i64 j ∧ j < i2 ∧ Hid (Srt w wx g off n c dj ∧ shiftDown ltInt j dj = dn a i2 d1)) (fun s _ => (numOf s).toNat)
                case atStart => exact ⟨i2 - 1, d1, by congr 1; omega, by omega, S1.out, ed.out.symm⟩
                case round =>
                  obtain ⟨j, dj, rfl, hj, R3⟩ := hrel
                  by_cases hj1 : 1 ≤ j
                  · have z1 : decide ((1 : Int) ≤ (j : Int)) = true := decide_eq_true (by omega)
                    obtain ⟨G, hG⟩ : ∃ G : Nat → Int, ∀ t, G t = dj[t]! := ⟨fun t => dj[t]!, fun _ => rfl⟩
                    have hcw : ∀ t, t < n → wr.cell? ⟨g, off + t, none⟩ = some (.int .u32 (G t)) := fun t ht => by rw [hG]; exact (R3.out.1.cell t ht).1
                    have hfw : ∀ t, t < n → wr.frozen? ⟨g, off + t, none⟩ = false := fun t ht => (R3.out.1.cell t ht).2
                    replace hG := Lib.hid hG
                    go_wp2_with fail
                    go_big_quiet (first | (go_at_call 95; refine Calls.quiet_of_same (less_ok _ _ _)))
                    go_wp2_with fail
                    · have ht : (!ltInt (G j) (G (j - 1))) = true := by assumption
                      have hl : ltInt dj[j]! dj[j - 1]! = false := by rw [← hG.out, ← hG.out]; simpa using ht
                      have e3 := (down_stop (.inr hl)).symm.trans R3.out.2
                      go_meet
                      exact e3 ▸ R3.out.1.drewN nq
                    · have ht : (!ltInt (G j) (G (j - 1))) = false := by assumption
                      have hl : ltInt dj[j]! dj[j - 1]! = true := by rw [← hG.out, ← hG.out]; simpa using ht
                      have e3 := Lib.hid ((down_go hj1 hl).symm.trans R3.out.2)
                      have S2 := Lib.hid (((R3.out.1.drewN nq).swp (i := j) (j := j - 1) (x := G (j - 1)) (y := G j) (by omega) (by omega) (hG.out _) (hG.out _)).drew)
                      have hcw3 : ∀ t, t < n → (wr.drewN nq).cell? ⟨g, off + t, none⟩ = some (.int .u32 (G t)) := hcw
                      have hfw3 : ∀ t, t < n → (wr.drewN nq).frozen? ⟨g, off + t, none⟩ = false := hfw
                      clear hcw hfw R3 ht hl
                      generalize wr.drewN nq = w3 at *
                      go_region
                      go_wp2
                      go_roundw
                      case rel => exact ⟨j - 1, Sort.swp dj j (j - 1), by first | (congr 1; omega) | simp, by omega, S2.out, e3.out⟩
                      case measure => simp [numOf]; omega
                  · have z1 : decide ((1 : Int) ≤ (j : Int)) = false := decide_eq_false (by omega)
                    have e3 := (down_stop (.inl (by omega))).symm.trans R3.out.2
                    have S2 := Lib.hid (e3 ▸ R3.out.1)
                    clear R3 e3
                    go_wp2_with fail
                    go_meet
                    exact S2.out
              · have z2 : decide ((2 : Int) ≤ (i2 : Int) - (a : Int)) = false := decide_eq_false (by omega)
                have ed : Hid (dn a i2 d1 = d1) := by unfold Hid dn; rw [if_neg h2a]
                go_wp2_with fail
                go_meet
                exact ed.out.symm ▸ S1.out
            case rest =>
              have S2 := hcut
              obtain ⟨d2, hd2⟩ : ∃ d2, d2 = dn a i2 d1 := ⟨_, rfl⟩
              rw [← hd2] at S2 E1
              clear hd2 hcut S1
              by_cases h2b : 2 ≤ b - i2
              · have z2 : decide ((2 : Int) ≤ (b : Int) - (i2 : Int)) = true := decide_eq_true (by omega)
                have ed : Hid (un b i2 d2 = shiftUp ltInt b (i2 + 1) d2) := by unfold Hid un; rw [if_pos h2b]
                go_wp2_with fail
                go_loopw [10] (fun s wx => ∃ (j : Nat) (dj : Array Int), s = .int .i64 j ∧ i2 < j ∧ j ≤ b ∧ Hid (Srt w wx g off n c dj ∧ shiftUp ltInt b j dj = un b i2 d2)) (fun s _ => b - (numOf s).toNat)
                case atStart => exact ⟨i2 + 1, d2, by first | (congr 1; omega) | simp, by omega, by omega, S2.out, ed.out.symm⟩
                case round =>
                  obtain ⟨j, dj, rfl, hj, hjb, R3⟩ := hrel
                  by_cases hj1 : j < b
                  · have z1 : decide ((j : Int) < (b : Int)) = true := decide_eq_true (by omega)
                    obtain ⟨G, hG⟩ : ∃ G : Nat → Int, ∀ t, G t = dj[t]! := ⟨fun t => dj[t]!, fun _ => rfl⟩
                    have hcw : ∀ t, t < n → wr.cell? ⟨g, off + t, none⟩ = some (.int .u32 (G t)) := fun t ht => by rw [hG]; exact (R3.out.1.cell t ht).1
                    have hfw : ∀ t, t < n → wr.frozen? ⟨g, off + t, none⟩ = false := fun t ht => (R3.out.1.cell t ht).2
                    replace hG := Lib.hid hG
                    go_wp2_with fail
                    go_big_quiet (first | (go_at_call 95; refine Calls.quiet_of_same (less_ok _ _ _)))
                    go_wp2_with fail
                    · have ht : (!ltInt (G j) (G (j - 1))) = true := by assumption
                      have hl : ltInt dj[j]! dj[j - 1]! = false := by rw [← hG.out, ← hG.out]; simpa using ht
                      have e3 := (up_stop (.inr hl)).symm.trans R3.out.2
                      go_wp2_with fail
                      go_roundg s
                      case measure => omega
                      case rel => exact ⟨i2, t + 1, un b i2 d2, rfl, by simp, by omega, by omega, h2, e3 ▸ R3.out.1.drewN nq, E1.out⟩
                    · have ht : (!ltInt (G j) (G (j - 1))) = false := by assumption
                      have hl : ltInt dj[j]! dj[j - 1]! = true := by rw [← hG.out, ← hG.out]; simpa using ht
                      have e3 := Lib.hid ((up_go hj1 hl).symm.trans R3.out.2)
                      have S3 := Lib.hid (((R3.out.1.drewN nq).swp (i := j) (j := j - 1) (x := G (j - 1)) (y := G j) (by omega) (by omega) (hG.out _) (hG.out _)).drew)
                      have hcw3 : ∀ t, t < n → (wr.drewN nq).cell? ⟨g, off + t, none⟩ = some (.int .u32 (G t)) := hcw
                      have hfw3 : ∀ t, t < n → (wr.drewN nq).frozen? ⟨g, off + t, none⟩ = false := hfw
                      clear hcw hfw R3 ht hl
                      generalize wr.drewN nq = w3 at *
                      go_region
                      go_wp2
                      go_roundw
                      case rel => exact ⟨j + 1, Sort.swp dj j (j - 1), by first | (congr 1; omega) | simp, by omega, by omega, S3.out, e3.out⟩
                      case measure => simp [numOf]; omega
                  · have z1 : decide ((j : Int) < (b : Int)) = false := decide_eq_false (by omega)
                    have e3 := (up_stop (.inl (by omega))).symm.trans R3.out.2
                    have S3 := Lib.hid (e3 ▸ R3.out.1)
                    clear R3 e3
                    go_wp2_with fail
                    go_roundg s
                    case measure => omega
                    case rel => exact ⟨i2, t + 1, un b i2 d2, rfl, by simp, by omega, by omega, h2, S3.out, E1.out⟩
              · have z2 : decide ((2 : Int) ≤ (b : Int) - (i2 : Int)) = false := decide_eq_false (by omega)
                have ed : Hid (un b i2 d2 = d2) := by unfold Hid un; rw [if_neg h2b]
                go_wp2_with fail
                go_roundg s
                case measure => omega
                case rel => exact ⟨i2, t + 1, un b i2 d2, rfl, by simp, by omega, by omega, h2, ed.out.symm ▸ S2.out, E1.out⟩
end Go.Proofs.YtndaohiecpdmlaaGreat
