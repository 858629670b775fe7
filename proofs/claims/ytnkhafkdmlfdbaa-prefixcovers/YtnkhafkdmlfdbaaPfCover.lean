/-
  What the document's own Cover answers, for all addresses: a slice of its own with the list that the chapter's greatest prefixes give. Addresses are uint32's; no other condition.
-/
import Derived.Test.YtnkhafkdmlfdbaaPfRefB
import Derived.Test.YtnkhafkdmlfdbaaPfCov
namespace Go.Proofs.Ytnkhafkdmlfdbaa
open Go.RowKit

set_option maxHeartbeats 2000000 in
theorem rcover_ok (low high : Int) (w : World) (l : List (Int × Int)) (a0 : 0 ≤ low) (a1 : low < 4294967296) (b0 : 0 ≤ high) (b1 : high < 4294967296) (hc : Cov high low l) :
    Calls Try.prog 12 #[.int .u32 low, .int .u32 high] w fun e w' => ∃ v, e = .returned v ∧ w'.ownsRow w.heap.size 24 2 v l.length (pc l) ∧ Below w.heap.size w w' := by
  obtain ⟨i0, hi, hz0, hz1, hz2⟩ := info_pfx
  have wl : IntKind.i64.wrap low = low := by simp [IntKind.wrap, IntKind.bits, IntKind.signed]; omega
  have wh : IntKind.i64.wrap high = high := by simp [IntKind.wrap, IntKind.bits, IntKind.signed]; omega
  go_enter Try.func12, Try.ntmps12
  go_wp2
  go_loopw [5, 6] (fun v i wr => ∃ (d r : List (Int × Int)) (at_ : Int), (0 ≤ at_ ∧ at_ ≤ 4294967296) ∧ i = .int .i64 at_ ∧ l = d ++ r ∧ Cov high at_ r ∧ Hid (wr.ownsRow w.heap.size 24 2 v d.length (pc d)) ∧ Hid (Below w.heap.size w wr)) (fun _ i _ => (high + 1 - intOf i).toNat)
  case atStart => exact ⟨[], l, low, ⟨a0, by omega⟩, rfl, rfl, hc, World.ownsRow_nil _ _ _ _, Below.refl _ _⟩
  case round =>
    obtain ⟨d, r, at_, ⟨t0, t1⟩, rfl, hl, hcv, hown, bel⟩ := hrel
    cases r with
    | nil =>
      have hlt : high < at_ := hcv
      have hle : decide (at_ ≤ high) = false := decide_eq_false (by omega)
      go_wp2
      go_ret
      refine ⟨_, rfl, ?_, bel.out⟩
      rw [hl, List.append_nil]
      exact hown.out
    | cons p r =>
      obtain ⟨a, b⟩ := p
      obtain ⟨rfl, hle0, hb, hcv'⟩ := hcv
      have hle : decide (a ≤ high) = true := decide_eq_true hle0
      have zb := sz_pos b
      have zb' := sz_le b hb.1.1 hb.1.2
      obtain ⟨bn, rfl⟩ := Int.eq_ofNat_of_zero_le hb.1.1
      have h32 : bn ≤ 32 := by have := hb.1.2; omega
      go_wp2
      go_loopw [7] (fun n ws => ∃ m : Nat, m ≤ bn ∧ n = .int .i64 m ∧ wr = ws) (fun n _ => bn - (intOf n).toNat)
      case atStart => exact ⟨0, Nat.zero_le _, rfl, rfl⟩
      case round =>
        obtain ⟨m, hm, rfl, rfl⟩ := hrel
        have S : Hid (∀ w, Calls Try.prog 14 #[.int .i64 m] w fun e w' => e = .returned (.int .i64 (sz m)) ∧ w = w') := fun w => (size_ok m w (by omega) (by omega)).mono fun _ _ h => ⟨h.1, h.2.symm⟩
        have zp := sz_pos m
        have zl := sz_le m (by omega) (by omega)
        have fl : ∀ c : Int, 0 ≤ c → c < bn → ¬ Fit a high c := hb.2.2
        have ft : Fit a high bn := hb.2.1
        have hm0 := Int.emod_nonneg a (by omega : sz m ≠ 0)
        have hm1 := Int.emod_lt_of_pos a zp
        have wm : IntKind.i64.wrap (a.tmod (sz m)) = a % sz m := by rw [Int.tmod_eq_emod_of_nonneg t0]; simp [IntKind.wrap, IntKind.bits, IntKind.signed]; omega
        have zn : ¬ sz m = 0 := by omega
        by_cases hmb : m < bn
        · have nf := fl m (by omega) (by omega)
          clear fl ft
          unfold Fit at nf
          generalize sz m = z at *
          by_cases h0 : a % z = 0
          · have g1 : (a % z != 0) = false := by simp [h0]
            have g2 : decide (high < a + z - 1) = true := decide_eq_true (by omega)
            go_wp2_with (go_at_call 14; refine (S.out _).mono ?_; rintro e w' ⟨rfl, rfl⟩)
            go_roundw
            case rel => exact ⟨m + 1, by omega, by go_num, trivial⟩
            case measure => simp [intOf]; omega
          · have g1 : (a % z != 0) = true := by simp [h0]
            go_wp2_with (go_at_call 14; refine (S.out _).mono ?_; rintro e w' ⟨rfl, rfl⟩)
            go_roundw
            case rel => exact ⟨m + 1, by omega, by go_num, trivial⟩
            case measure => simp [intOf]; omega
        · obtain rfl : m = bn := by omega
          clear fl
          unfold Fit at ft
          obtain ⟨ft0, ft1⟩ := ft
          have hln := cov_len high r _ hcv'
          have hdl : (d.length : Int) + 1 + r.length ≤ 4294967297 := by
            have h1 := cov_len high l low hc
            rw [hl] at h1
            simp only [List.length_append, List.length_cons] at h1
            omega
          clear hln
          generalize sz (m : Int) = z at *
          have g1 : (a % z != 0) = false := by simp [ft0]
          have g2 : decide (high < a + z - 1) = false := decide_eq_false (by omega)
          go_wp2_with (first
            | (go_at_call 14; refine (S.out _).mono ?_; rintro e w' ⟨rfl, rfl⟩)
            | (at_builtin; refine wpList_append_own _ rfl _ _ 29 rfl w.heap.size 24 i0 (.agg #[.int .u32 0, .int .i64 0]) 2 16 Try.underlying29 hi hz0 hz1 hz2 rfl (by decide) _ _ _ rfl (hown.out.alloc _) ⟨wr.heap.size, 0, none⟩ 1 1 [.int .u32 a, .int .i64 m] rfl rfl ?c1 ?c2 ?c3 ?c4 ?c5 ?_))
          case c1 =>
            intro j u hj
            match j, hj with
            | 0, hj => simp at hj; subst hj; simp [Addr.add]
            | 1, hj => simp at hj; subst hj; simp [Addr.add]
            | j + 2, hj => simp at hj
          case c2 => intro u hu; simp at hu; rcases hu with rfl | rfl <;> rfl
          case c3 => unfold maxLen; omega
          case c4 => omega
          case c5 => have := bel.out.size; simp; omega
          · intro v' w1 hown' hgrow _
            have hB : Hid (Below w.heap.size w w1) := (bel.out.alloc bel.out.size _).grown hgrow (Nat.le_trans bel.out.size (by simp)) (fun k hk => (hown.out.lt k hk).1)
            have hO : Hid (w1.ownsRow w.heap.size 24 2 v' (d ++ [(a, (m : Int))]).length (pc (d ++ [(a, (m : Int))]))) := by
              rw [pc_snoc, List.length_append]
              exact hown'
            clear hown' hgrow hown bel
            go_wp2_with (go_at_call 14; refine (S.out _).mono ?_; rintro e w' ⟨rfl, rfl⟩)
            go_roundw
            case rel => exact ⟨d ++ [(a, (m : Int))], r, a + z, ⟨by omega, by omega⟩, by go_num, by rw [hl]; simp, hcv', hO, hB⟩
            case measure => simp [intOf]; omega
end Go.Proofs.Ytnkhafkdmlfdbaa
