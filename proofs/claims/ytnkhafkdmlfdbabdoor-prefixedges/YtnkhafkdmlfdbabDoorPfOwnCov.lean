/-
  What the program's own Cover answers, for all addresses: a slice of its own with the list that the chapter's greatest prefixes give. Addresses are uint32's; no other condition.
-/
import Derived.Test.YtnkhafkdmlfdbabDoorPfOwn
import Derived.Test.YtnkhafkdmlfdbabDoorPfCov
import Derived.WalkMore
import Derived.Deep.LoopGhost
namespace Go.Proofs.YtnkhafkdmlfdbabDoor
open Go.RowKit

theorem ownsRow_keep {w w' : World} {base : Nat} {e : TypeId} {size : Nat} {v : Value} {n : Nat} {xs : List Value} (h : w.ownsRow base e size v n xs) (k : Below w.heap.size w w') : w'.ownsRow base e size v n xs := by
  refine ⟨h.1, ?_⟩
  rcases h.2 with q | ⟨g, cap, cur, hv, hb, hg, r⟩
  · exact .inl q
  · have hlt : g < w.heap.size := (Array.getElem?_eq_some_iff.1 hg).1
    exact .inr ⟨g, cap, cur, hv, hb, (k.block g hlt).trans hg, r⟩
/-- What is asked of a prefix that begins at the next address. -/
theorem rt_fit {a b : Int} (h0 : 0 ≤ b) (h : b ≤ 32) : rt a b = true ↔ a % sz b = 0 := by
  unfold rt
  simp [h0, h]
set_option maxHeartbeats 4000000 in
theorem cover_ok (low high : Int) (w : World) (l : List (Int × Int)) (a0 : 0 ≤ low) (a1 : low < 4294967296) (b0 : 0 ≤ high) (b1 : high < 4294967296) (hc : Cov high low l) :
    Calls Tryd.prog 8 #[.int .u32 low, .int .u32 high] w fun e w' => ∃ v, e = .returned v ∧ w'.ownsRow w.heap.size 24 2 v l.length (pc l) ∧ Below w.heap.size w w' := by
  obtain ⟨i0, hi, hz0, hz1, hz2⟩ := info_pfx
  have wl : IntKind.u64.wrap low = low := by simp [IntKind.wrap, IntKind.bits, IntKind.signed]; omega
  have wh : IntKind.u64.wrap high = high := by simp [IntKind.wrap, IntKind.bits, IntKind.signed]; omega
  go_enter Tryd.func8, Tryd.ntmps8
  go_wp2
  go_step3
  go_wp2
  go_step3
  go_wp2
  go_loopg [5, 6] l.length (fun g v i wr => ∃ (d r : List (Int × Int)) (at_ : Int), r.length = g ∧ (0 ≤ at_ ∧ at_ ≤ 4294967296) ∧ i = .int .u64 at_ ∧ l = d ++ r ∧ Cov high at_ r ∧ Hid (wr.ownsRow w.heap.size 24 2 v d.length (pc d)) ∧ Hid (Below w.heap.size w wr))
  case atStart => exact ⟨[], l, low, rfl, ⟨a0, by omega⟩, rfl, rfl, hc, World.ownsRow_nil _ _ _ _, Below.refl _ _⟩
  case round =>
    obtain ⟨d, r, at_, hg, ⟨t0, t1⟩, rfl, hl, hcv, hown, bel⟩ := hrel
    cases r with
    | nil =>
      have hlt : high < at_ := hcv
      have hle : decide (at_ ≤ high) = false := decide_eq_false (by omega)
      go_wp2
      rw [Exit.noGoto_ret]
      go_ret
      refine ⟨_, rfl, ?_, bel.out⟩
      rw [hl, List.append_nil]
      exact hown.out
    | cons p r =>
      obtain ⟨a, b⟩ := p
      obtain ⟨rfl, hle0, hb, hcv'⟩ := hcv
      have hle : decide (a ≤ high) = true := decide_eq_true hle0
      have wu : IntKind.u32.wrap a = a := by simp [IntKind.wrap, IntKind.bits, IntKind.signed]; omega
      obtain ⟨bn, rfl⟩ := Int.eq_ofNat_of_zero_le hb.1.1
      have h32 : bn ≤ 32 := by have := hb.1.2; omega
      have HB : Hid (Lb a high bn) := hb
      have HC : Hid (Cov high (a + sz bn) r) := hcv'
      clear hb hcv'
      go_wp2
      go_loopg [5, 6, 7] bn (fun g v i n ws => ∃ m : Nat, m + g = bn ∧ v = u5 ∧ i = .int .u64 a ∧ n = .int .i64 m ∧ Hid (ws.ownsRow w.heap.size 24 2 u5 d.length (pc d)) ∧ Hid (Below w.heap.size w ws))
      case atStart => exact ⟨0, by omega, rfl, rfl, rfl, hown, bel⟩
      case round =>
        clear hown bel
        obtain ⟨m, hm, rfl, rfl, rfl, hown, bel⟩ := hrel
        have C : Hid (∀ w, _) := fun w => check_ok a m w t0 (by omega)
        have X0 : Hid _ := pbox_new wr a m
        have lt : ∀ o, wr.heap.size < (wr.alloc o).heap.size := fun o => by simp
        have le : ∀ (w : World) o, w.heap.size ≤ (w.alloc o).heap.size := fun w o => by simp
        have O0 : Hid (∀ o, _) := fun o => hown.out.alloc o
        have Z0 : Hid (∀ o, _) := fun o => bel.out.alloc bel.out.size o
        clear hown bel
        have h32' : decide ((m : Int) ≤ 32) = true := decide_eq_true (by omega)
        have zp := sz_pos m
        have zl := sz_le m (by omega) (by omega)
        by_cases hr : rt a m = true
        · have E : Hid (∀ w, _) := fun w => ends_ok a m w t0 (by omega) hr
          rw [hr] at C
          have hm0 := (rt_fit (by omega) (by omega)).1 hr
          by_cases hmb : m < bn
          · have g2 : decide (high < a + sz m - 1) = true := decide_eq_true (by
              have nf := HB.out.2.2 m (by omega) (by omega)
              unfold Fit at nf
              omega)
            clear hm0
            generalize sz (m : Int) = z at *
            unfold pv at *
            go_wp2_with (first
              | (go_at_call 5; refine (E.out _).mono ?_; rintro e w1 ⟨rfl, b1⟩; obtain ⟨l1, c0, c1⟩ := X0.out.keep (lt _) b1; have X1 : Hid _ := PBox.mk l1 c0 c1; have O1 : Hid (w1.ownsRow w.heap.size 24 2 u5 d.length (pc d)) := ownsRow_keep (O0.out _) b1; have Z1 : Hid _ := (Z0.out _).trans (b1.mono (Z0.out _).size); clear b1 X0 O0 Z0)
              | (go_at_call 6; refine (C.out _).mono ?_; rintro e w2 ⟨rfl, b2⟩; have O2 : Hid (w2.ownsRow w.heap.size 24 2 u5 d.length (pc d)) := ownsRow_keep O1.out b2; have Z2 : Hid _ := Z1.out.trans (b2.mono Z1.out.size); clear b2 X1 O1 Z1 c0 c1))
            go_roundg (bn - (m + 1))
            case measure => omega
            case rel => exact ⟨m + 1, by omega, rfl, rfl, by go_num, O2, Z2⟩
          · obtain rfl : m = bn := by omega
            have ft : a + sz m - 1 ≤ high := HB.out.2.1.2
            have g2 : decide (high < a + sz m - 1) = false := decide_eq_false (by omega)
            have hdl : (d.length : Int) + 1 + r.length ≤ 4294967297 := by
              have h1 := cov_len high l low hc
              rw [hl] at h1
              simp only [List.length_append, List.length_cons] at h1
              omega
            clear hm0 HB
            generalize sz (m : Int) = z at *
            have wz : IntKind.u64.wrap (a + z - 1) = a + z - 1 := by simp [IntKind.wrap, IntKind.bits, IntKind.signed]; omega
            have wy : IntKind.u64.wrap (a + z - 1 + 1) = a + z := by simp [IntKind.wrap, IntKind.bits, IntKind.signed]; omega
            unfold pv at *
            go_wp2_with (first
              | (go_at_call 5; refine (E.out _).mono ?_; rintro e w1 ⟨rfl, b1⟩; obtain ⟨l1, c0, c1⟩ := X0.out.keep (lt _) b1; have X1 : Hid _ := PBox.mk l1 c0 c1; have O1 : Hid (w1.ownsRow w.heap.size 24 2 u5 d.length (pc d)) := ownsRow_keep (O0.out _) b1; have Z1 : Hid _ := (Z0.out _).trans (b1.mono (Z0.out _).size); clear b1 X0 O0 Z0)
              | (go_at_call 6; refine (C.out _).mono ?_; rintro e w2 ⟨rfl, b2⟩; obtain ⟨l2, k0, k1⟩ := X1.out.keep X1.out.lt b2; have O2 : Hid (w2.ownsRow w.heap.size 24 2 u5 d.length (pc d)) := ownsRow_keep O1.out b2; have Z2 : Hid _ := Z1.out.trans (b2.mono Z1.out.size); clear b2 X1 O1 Z1 c0 c1)
              | (at_builtin; refine wpList_append_own _ rfl _ _ 30 rfl w.heap.size 24 i0 (.agg #[.int .u32 0, .int .i64 0]) 2 16 Tryd.underlying30 hi hz0 hz1 hz2 rfl (by decide) _ _ _ rfl (O2.out.alloc _) ⟨w2.heap.size, 0, none⟩ 1 1 [.int .u32 a, .int .i64 m] rfl rfl ?c1 ?c2 ?c3 ?c4 ?c5 ?_))
            case c1 =>
              intro j u hj
              match j, hj with
              | 0, hj => simp at hj; subst hj; simp [Addr.add]
              | 1, hj => simp at hj; subst hj; simp [Addr.add]
              | j + 2, hj => simp at hj
            case c2 => intro u hu; simp at hu; rcases hu with rfl | rfl <;> rfl
            case c3 => unfold maxLen; omega
            case c4 => omega
            case c5 => have := Z2.out.size; simp; omega
            · intro v' w3 hown' hgrow _
              have hB : Hid (Below w.heap.size w w3) := (Z2.out.alloc Z2.out.size _).grown hgrow (Nat.le_trans Z2.out.size (by simp)) (fun k hk => (O2.out.lt k hk).1)
              have hO : Hid (w3.ownsRow w.heap.size 24 2 v' (d ++ [(a, (m : Int))]).length (pc (d ++ [(a, (m : Int))]))) := by
                rw [pc_snoc, List.length_append]
                exact hown'
              clear hown' hgrow O2 Z2
              go_wp2
              go_roundg r.length
              case measure => simp only [List.length_cons] at hg; omega
              case rel => exact ⟨d ++ [(a, (m : Int))], r, a + z, rfl, ⟨by omega, by omega⟩, rfl, by rw [hl]; simp, HC.out, hO, hB⟩
        · have hr' : rt a m = false := by simpa using hr
          have E : Hid (∀ w, _) := fun w => ends_no a m w t0 (by omega) hr'
          rw [hr'] at C
          have hmb : m < bn := by
            rcases Nat.lt_or_ge m bn with q | q
            · exact q
            · obtain rfl : m = bn := by omega
              exact absurd ((rt_fit (by omega) (by omega)).2 HB.out.2.1.1) hr
          clear zp zl
          unfold pv at *
          go_wp2_with (first
            | (go_at_call 5; refine (E.out _).mono ?_; rintro e w1 ⟨rfl, b1⟩; obtain ⟨l1, c0, c1⟩ := X0.out.keep (lt _) b1; have X1 : Hid _ := PBox.mk l1 c0 c1; have O1 : Hid (w1.ownsRow w.heap.size 24 2 u5 d.length (pc d)) := ownsRow_keep (O0.out _) b1; have Z1 : Hid _ := (Z0.out _).trans (b1.mono (Z0.out _).size); clear b1 X0 O0 Z0)
            | (go_at_call 6; refine (C.out _).mono ?_; rintro e w2 ⟨rfl, b2⟩; have O2 : Hid (w2.ownsRow w.heap.size 24 2 u5 d.length (pc d)) := ownsRow_keep O1.out b2; have Z2 : Hid _ := Z1.out.trans (b2.mono Z1.out.size); clear b2 X1 O1 Z1 c0 c1))
          go_roundg (bn - (m + 1))
          case measure => omega
          case rel => exact ⟨m + 1, by omega, rfl, rfl, by go_num, O2, Z2⟩
end Go.Proofs.YtnkhafkdmlfdbabDoor
