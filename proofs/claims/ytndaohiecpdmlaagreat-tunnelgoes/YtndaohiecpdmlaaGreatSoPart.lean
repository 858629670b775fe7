/-
  What slices.partitionEqualOrdered and partitionOrdered leave of numbers of 32 bits: they are parted at a place. No condition but how many there can be.
-/
import Derived.Test.YtndaohiecpdmlaaGreatSoPivB
import Derived.Deep.CutBlock
namespace Go.Proofs.YtndaohiecpdmlaaGreat
set_option maxRecDepth 100000
open Go.RowKit Go.Sort

theorem Srt.eq {w0 w : World} {g off n c : Nat} {d d' : Array Int} (h : Srt w0 w g off n c d) (e : d = d') : Srt w0 w g off n c d' := e ▸ h
theorem at_u32 (B o N cap i : Nat) (w : World) (h : i < N) (z : Int) (hz : z = i) (p : Nat) (hp : p = o + i) :
    (Instr.indexAt 79 (.slice (some ⟨B, o, none⟩) N cap) (.int .i64 z)).run Tryz.prog w = .ok (.pointer (some ⟨B, p, none⟩)) w := by
  subst hz hp
  have e : Tryz.prog.elem 79 = 22 := by kernel_rfl
  rw [run_indexAt_slice (P := Tryz.prog) w 79 ⟨B, o, none⟩ N cap .i64 i (by rw [e]; exact Tryz.underlying79), if_pos (by omega), e]
  have s : (sizeOf 22).run Tryz.prog w = .ok 1 w := Tryz.sizeOf22 w
  rw [s]
  simp [Addr.add_mid]
/-- Numbers that are being parted: those that belong left stand ahead of i, the others behind j. -/
structure Pt (L : Int → Bool) (p : Int) (a b : Nat) (d : Array Int) (i j : Nat) (dk : Array Int) : Prop where
  perm : PermIn a b d dk
  bs : b ≤ d.size
  piv : dk[a]! = p
  ai : a < i
  ij : i ≤ j + 1
  jb : j < b
  left : ∀ t, a < t → t < i → L dk[t]! = true
  right : ∀ t, j < t → t < b → L dk[t]! = false
theorem Pt.up {L : Int → Bool} {p : Int} {a b : Nat} {d : Array Int} {i j : Nat} {dk : Array Int} (h : Pt L p a b d i j dk) (hij : i ≤ j) (hl : L dk[i]! = true) : Pt L p a b d (i + 1) j dk :=
  ⟨h.perm, h.bs, h.piv, by have := h.ai; omega, by omega, h.jb, fun t h1 h2 => by
    by_cases e : t = i
    · rw [e]; exact hl
    · exact h.left t h1 (by omega), h.right⟩
theorem Pt.down {L : Int → Bool} {p : Int} {a b : Nat} {d : Array Int} {i j : Nat} {dk : Array Int} (h : Pt L p a b d i j dk) (hij : i ≤ j) (hl : L dk[j]! = false) : Pt L p a b d i (j - 1) dk :=
  ⟨h.perm, h.bs, h.piv, h.ai, by have := h.ai; omega, by have := h.jb; omega, h.left, fun t h1 h2 => by
    by_cases e : t = j
    · rw [e]; exact hl
    · exact h.right t (by omega) h2⟩
theorem Pt.lt {L : Int → Bool} {p : Int} {a b : Nat} {d : Array Int} {i j : Nat} {dk : Array Int} (h : Pt L p a b d i j dk) (hij : i ≤ j) (h1 : L dk[i]! = false) (h2 : L dk[j]! = true) : i < j := by
  rcases Nat.lt_or_eq_of_le hij with q | q
  · exact q
  · subst q
    rw [h1] at h2
    cases h2
theorem swp_self (d : Array Int) (i k : Nat) (hi : i < d.size) : (Sort.swp d i i)[k]! = d[k]! := by
  by_cases h : k = i
  · subst h; exact swp_right d k k hi
  · exact swp_other d i i k h h
theorem Pt.swap {L : Int → Bool} {p : Int} {a b : Nat} {d : Array Int} {i j : Nat} {dk : Array Int} (h : Pt L p a b d i j dk) (hlt : i < j) (h1 : L dk[i]! = false) (h2 : L dk[j]! = true) : Pt L p a b d (i + 1) (j - 1) (Sort.swp dk i j) := by
  have hai := h.ai
  have hjb := h.jb
  have hs : b ≤ dk.size := by rw [h.perm.1]; exact h.bs
  refine ⟨PermIn.step h.perm h.bs ⟨by omega, by omega⟩ ⟨by omega, by omega⟩, h.bs, ?_, by omega, by omega, by omega, fun t q1 q2 => ?_, fun t q1 q2 => ?_⟩
  · rw [swp_other dk i j a (by omega) (by omega)]; exact h.piv
  · by_cases e : t = i
    · rw [e, swp_left dk i j (by omega) (by omega)]; exact h2
    · rw [swp_other dk i j t e (by omega)]; exact h.left t q1 (by omega)
  · by_cases e : t = j
    · rw [e, swp_right dk i j (by omega)]; exact h1
    · rw [swp_other dk i j t (by omega) e]; exact h.right t (by omega) q2
theorem Pt.begin {L : Int → Bool} {a b q : Nat} {d : Array Int} (h1 : a ≤ q) (h2 : q < b) (hb : b ≤ d.size) : Pt L d[q]! a b d (a + 1) (b - 1) (Sort.swp d a q) := by
  refine ⟨swp_permIn d a b a q (Nat.le_refl _) (by omega) h1 h2 hb, hb, ?_, by omega, by omega, by omega, fun t q1 q2 => by omega, fun t q1 q2 => by omega⟩
  by_cases e : a = q
  · rw [← e]; exact swp_self d a a (by omega)
  · exact swp_left d a q (by omega) e
/-- The pivot goes between the two parts. -/
theorem Pt.last {p : Int} {a b : Nat} {d : Array Int} {i j : Nat} {dk : Array Int} (h : Pt (fun x => ltInt x p) p a b d i j dk) (hij : j < i) :
    a ≤ j ∧ j < b ∧ PermIn a b d (Sort.swp dk j a) ∧ (∀ t, a ≤ t → t < j → ltInt (Sort.swp dk j a)[t]! (Sort.swp dk j a)[j]! = true) ∧ (∀ t, j < t → t < b → ltInt (Sort.swp dk j a)[t]! (Sort.swp dk j a)[j]! = false) := by
  have hai := h.ai
  have hjb := h.jb
  have hi2 := h.ij
  have hs : b ≤ dk.size := by rw [h.perm.1]; exact h.bs
  have ej : (Sort.swp dk j a)[j]! = p := by
    by_cases e : j = a
    · rw [e, swp_self dk a a (by omega)]; exact h.piv
    · rw [swp_left dk j a (by omega) e]; exact h.piv
  refine ⟨by omega, hjb, PermIn.step h.perm h.bs ⟨by omega, by omega⟩ ⟨by omega, by omega⟩, fun t q1 q2 => ?_, fun t q1 q2 => ?_⟩
  · rw [ej]
    by_cases e : t = a
    · rw [e, swp_right dk j a (by omega)]; exact h.left j (by omega) (by omega)
    · rw [swp_other dk j a t (by omega) e]; exact h.left t (by omega) (by omega)
  · rw [ej, swp_other dk j a t (by omega) (by omega)]
    exact h.right t q1 q2
set_option maxHeartbeats 8000000 in
theorem peq_ok (g off n c a b q : Nat) (d : Array Int) (w : World) (h : Srt w w g off n c d) (h1 : a ≤ q) (h2 : q < b) (hb : b ≤ n) (hn : n < 4611686018427387904) :
    Calls Tryz.prog 96 #[.slice (some ⟨g, off, none⟩) n c, .int .i64 a, .int .i64 b, .int .i64 q] w fun e w' => ∃ (m : Nat) (d' : Array Int), e = .returned (.int .i64 m) ∧ Srt w w' g off n c d' ∧ PermIn a b d d' ∧ (a < m ∧ m ≤ b) ∧ (∀ t, a ≤ t → t < m → ltInt d[q]! d'[t]! = false) ∧ (∀ t, m ≤ t → t < b → ltInt d[q]! d'[t]! = true) := by
  have hsz := h.size.1
  obtain ⟨p, hp⟩ : ∃ p, p = d[q]! := ⟨_, rfl⟩
  obtain ⟨L, hL⟩ : ∃ L : Int → Bool, ∀ x, L x = !ltInt p x := ⟨_, fun _ => rfl⟩
  have P0 : Hid (Pt L p a b d (a + 1) (b - 1) (Sort.swp d a q)) := by
    rw [hp]
    exact Pt.begin h1 h2 (by omega)
  rw [← hp]
  replace hL := Lib.hid hL
  have H := Lib.hid h
  clear hp h
  go_enter Tryz.func96, Tryz.ntmps96
  go_upto_region 1 with fail
  go_cut [] (fun wx => Hid (Srt w wx g off n c (Sort.swp d a q)))
  case first =>
    have hxn : a < n := by omega
    have hyn : q < n := by omega
    obtain ⟨G, hG⟩ : ∃ G : Nat → Int, ∀ t, G t = d[t]! := ⟨fun t => d[t]!, fun _ => rfl⟩
    have hcw : ∀ t, t < n → w.cell? ⟨g, off + t, none⟩ = some (.int .u32 (G t)) := fun t ht => by rw [hG]; exact (H.out.cell t ht).1
    have hfw : ∀ t, t < n → w.frozen? ⟨g, off + t, none⟩ = false := fun t ht => (H.out.cell t ht).2
    replace hG := Lib.hid hG
    by_cases hxy : a = q
    · have S1 := Lib.hid ((H.out.swp (i := a) (j := a) (x := G a) (y := G a) (by omega) (by omega) (hG.out _) (hG.out _)).drew.eq (show Sort.swp d a a = Sort.swp d a q by rw [← hxy]))
      have ia := fun w' => at_u32 g off n c a w' hxn (q : Int) (by omega) (off + a) rfl
      replace hxy := Lib.hid hxy
      go_region
      go_wp2_with fail
      go_meet
      exact S1
    · have S1 := Lib.hid ((H.out.swp (i := a) (j := q) (x := G q) (y := G a) (by omega) (by omega) (hG.out _) (hG.out _)).drew)
      go_region
      go_wp2_with fail
      go_meet
      exact S1
  case rest =>
    obtain ⟨D, hD⟩ : ∃ D, D = Sort.swp d a q := ⟨_, rfl⟩
    have S0 := hcut
    rw [← hD] at S0 P0
    clear hD hcut H
    go_wp2_with fail
    go_loopg [9, 10] b (fun k s9 s10 wr => ∃ (i j : Nat) (dk : Array Int), s9 = .int .i64 i ∧ s10 = .int .i64 j ∧ j + 1 - i ≤ k ∧ Hid (Srt w wr g off n c dk ∧ Pt L p a b d i j dk))
    case atStart => exact ⟨a + 1, b - 1, D, by go_num, by congr 1; omega, by omega, S0.out, P0.out⟩
    case round =>
      obtain ⟨i, j, dk, rfl, rfl, hk, R⟩ := hrel
      go_upto_block 2 with fail
      go_cut [9] (fun s wx => ∃ i2 : Nat, s = .int .i64 i2 ∧ i ≤ i2 ∧ Hid (Srt w wx g off n c dk ∧ Pt L p a b d i2 j dk ∧ (i2 ≤ j → L dk[i2]! = false)))
      case first =>
        go_wp2_with fail
        go_loopw [9] (fun s wx => ∃ i2 : Nat, s = .int .i64 i2 ∧ i ≤ i2 ∧ Hid (Srt w wx g off n c dk ∧ Pt L p a b d i2 j dk)) (fun s _ => j + 1 - (numOf s).toNat)
        case atStart => exact ⟨i, rfl, Nat.le_refl _, R.out.1, R.out.2⟩
        case round =>
          obtain ⟨i2, rfl, hmo, R⟩ := hrel
          have hpt := R.out.2
          have hjn : j < n := by have := hpt.jb; omega
          have hai := hpt.ai
          by_cases hij : i2 ≤ j
          · have z1 : decide ((i2 : Int) ≤ (j : Int)) = true := decide_eq_true (by omega)
            obtain ⟨G, hG⟩ : ∃ G : Nat → Int, ∀ t, G t = dk[t]! := ⟨fun t => dk[t]!, fun _ => rfl⟩
            have hcw : ∀ t, t < n → wr.cell? ⟨g, off + t, none⟩ = some (.int .u32 (G t)) := fun t ht => by rw [hG]; exact (R.out.1.cell t ht).1
            have hfw : ∀ t, t < n → wr.frozen? ⟨g, off + t, none⟩ = false := fun t ht => (R.out.1.cell t ht).2
            replace hG := Lib.hid hG
            have eL : Hid (∀ t, L dk[t]! = !ltInt (G a) (G t)) := fun t => by rw [hG.out, hG.out, hpt.piv, hL.out]
            clear hpt
            go_wp2_with fail
            go_big_quiet (first | (go_at_call 95; refine Calls.quiet_of_same (less_ok _ _ _)))
            go_wp2_with fail
            · have ht : (!ltInt (G a) (G i2)) = true := by assumption
              have hl : L dk[i2]! = true := by rw [eL.out]; simpa using ht
              go_roundw
              case rel => exact ⟨i2 + 1, by first | (congr 1; omega) | simp, by omega, R.out.1.drewN nq, R.out.2.up hij hl⟩
              case measure => simp [numOf]; omega
            · have ht : (!ltInt (G a) (G i2)) = false := by assumption
              have hl : L dk[i2]! = false := by rw [eL.out]; simpa using ht
              go_meet
              exact ⟨i2, rfl, hmo, R.out.1.drewN nq, R.out.2, fun _ => hl⟩
          · have z1 : decide ((i2 : Int) ≤ (j : Int)) = false := decide_eq_false (by omega)
            obtain ⟨G, hG⟩ : ∃ G : Nat → Int, ∀ t, G t = dk[t]! := ⟨fun t => dk[t]!, fun _ => rfl⟩
            have hcw : ∀ t, t < n → wr.cell? ⟨g, off + t, none⟩ = some (.int .u32 (G t)) := fun t ht => by rw [hG]; exact (R.out.1.cell t ht).1
            have hfw : ∀ t, t < n → wr.frozen? ⟨g, off + t, none⟩ = false := fun t ht => (R.out.1.cell t ht).2
            replace hG := Lib.hid hG
            clear hpt
            go_wp2_with fail
            go_big_quiet (first | (go_at_call 95; refine Calls.quiet_of_same (less_ok _ _ _)))
            go_wp2_with fail
            go_meet
            exact ⟨i2, rfl, hmo, R.out.1.drewN nq, R.out.2, fun q => absurd q hij⟩
      case rest =>
        obtain ⟨i2, rfl, hi2, R⟩ := hcut
        go_upto_block 4 with fail
        go_cut [10] (fun s wx => ∃ j2 : Nat, s = .int .i64 j2 ∧ j2 ≤ j ∧ Hid (Srt w wx g off n c dk ∧ Pt L p a b d i2 j2 dk ∧ (i2 ≤ j2 → L dk[i2]! = false) ∧ (i2 ≤ j2 → L dk[j2]! = true)))
        case first =>
          go_wp2_with fail
          go_loopw [10] (fun s wx => ∃ j2 : Nat, s = .int .i64 j2 ∧ j2 ≤ j ∧ Hid (Srt w wx g off n c dk ∧ Pt L p a b d i2 j2 dk ∧ (i2 ≤ j2 → L dk[i2]! = false))) (fun s _ => (numOf s).toNat)
          case atStart => exact ⟨j, rfl, Nat.le_refl _, R.out.1, R.out.2.1, R.out.2.2⟩
          case round =>
            obtain ⟨j2, rfl, hmo, R⟩ := hrel
            have hpt := R.out.2.1
            have hjn : j2 < n := by have := hpt.jb; omega
            have hai := hpt.ai
            by_cases hij : i2 ≤ j2
            · have z1 : decide ((i2 : Int) ≤ (j2 : Int)) = true := decide_eq_true (by omega)
              obtain ⟨G, hG⟩ : ∃ G : Nat → Int, ∀ t, G t = dk[t]! := ⟨fun t => dk[t]!, fun _ => rfl⟩
              have hcw : ∀ t, t < n → wr.cell? ⟨g, off + t, none⟩ = some (.int .u32 (G t)) := fun t ht => by rw [hG]; exact (R.out.1.cell t ht).1
              have hfw : ∀ t, t < n → wr.frozen? ⟨g, off + t, none⟩ = false := fun t ht => (R.out.1.cell t ht).2
              replace hG := Lib.hid hG
              have eL : Hid (∀ t, L dk[t]! = !ltInt (G a) (G t)) := fun t => by rw [hG.out, hG.out, hpt.piv, hL.out]
              clear hpt
              go_wp2_with fail
              go_big_quiet (first | (go_at_call 95; refine Calls.quiet_of_same (less_ok _ _ _)))
              go_wp2_with fail
              · have ht : (ltInt (G a) (G j2)) = true := by assumption
                have hl : L dk[j2]! = false := by rw [eL.out]; simpa using ht
                go_roundw
                case rel => exact ⟨j2 - 1, by first | (congr 1; omega) | simp, by omega, R.out.1.drewN nq, R.out.2.1.down hij hl, fun q => R.out.2.2 (by omega)⟩
                case measure => simp [numOf]; omega
              · have ht : (ltInt (G a) (G j2)) = false := by assumption
                have hl : L dk[j2]! = true := by rw [eL.out]; simpa using ht
                go_meet
                exact ⟨j2, rfl, hmo, R.out.1.drewN nq, R.out.2.1, R.out.2.2, fun _ => hl⟩
            · have z1 : decide ((i2 : Int) ≤ (j2 : Int)) = false := decide_eq_false (by omega)
              obtain ⟨G, hG⟩ : ∃ G : Nat → Int, ∀ t, G t = dk[t]! := ⟨fun t => dk[t]!, fun _ => rfl⟩
              have hcw : ∀ t, t < n → wr.cell? ⟨g, off + t, none⟩ = some (.int .u32 (G t)) := fun t ht => by rw [hG]; exact (R.out.1.cell t ht).1
              have hfw : ∀ t, t < n → wr.frozen? ⟨g, off + t, none⟩ = false := fun t ht => (R.out.1.cell t ht).2
              replace hG := Lib.hid hG
              clear hpt
              go_wp2_with fail
              go_big_quiet (first | (go_at_call 95; refine Calls.quiet_of_same (less_ok _ _ _)))
              go_wp2_with fail
              go_meet
              exact ⟨j2, rfl, hmo, R.out.1.drewN nq, R.out.2.1, R.out.2.2, fun q => absurd q hij⟩
        case rest =>
          obtain ⟨j2, rfl, hj2, R⟩ := hcut
          by_cases hij : i2 ≤ j2
          · have z1 : decide ((j2 : Int) < (i2 : Int)) = false := decide_eq_false (by omega)
            have hlt := R.out.2.1.lt hij (R.out.2.2.1 hij) (R.out.2.2.2 hij)
            have P1 := Lib.hid (R.out.2.1.swap hlt (R.out.2.2.1 hij) (R.out.2.2.2 hij))
            have hjn : j2 < n := by have := R.out.2.1.jb; omega
            obtain ⟨G, hG⟩ : ∃ G : Nat → Int, ∀ t, G t = dk[t]! := ⟨fun t => dk[t]!, fun _ => rfl⟩
            have hcw : ∀ t, t < n → wc.cell? ⟨g, off + t, none⟩ = some (.int .u32 (G t)) := fun t ht => by rw [hG]; exact (R.out.1.cell t ht).1
            have hfw : ∀ t, t < n → wc.frozen? ⟨g, off + t, none⟩ = false := fun t ht => (R.out.1.cell t ht).2
            replace hG := Lib.hid hG
            have S1 := Lib.hid ((R.out.1.swp (i := i2) (j := j2) (x := G j2) (y := G i2) (by omega) (by omega) (hG.out _) (hG.out _)).drew)
            clear R
            go_wp2_with fail
            go_region
            go_wp2
            go_roundg (gk - 2)
            case measure => omega
            case rel => exact ⟨i2 + 1, j2 - 1, Sort.swp dk i2 j2, by simp, by congr 1; omega, by omega, S1.out, P1.out⟩
          · have z1 : decide ((j2 : Int) < (i2 : Int)) = true := decide_eq_true (by omega)
            have hp := Lib.hid R.out.2.1
            go_wp2
            go_ret
            refine ⟨i2, dk, rfl, R.out.1, hp.out.perm, ⟨hp.out.ai, by have := hp.out.ij; have := hp.out.jb; omega⟩, fun t q1 q2 => ?_, fun t q1 q2 => ?_⟩
            · by_cases e : t = a
              · rw [e, hp.out.piv]; simp [ltInt]
              · have := hp.out.left t (by omega) q2
                rw [hL.out] at this
                simpa using this
            · have := hp.out.right t (by omega) q2
              rw [hL.out] at this
              simpa using this
end Go.Proofs.YtndaohiecpdmlaaGreat
