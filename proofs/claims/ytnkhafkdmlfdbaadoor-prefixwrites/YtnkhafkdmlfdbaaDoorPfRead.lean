/-
  What the document's own Read answers, for every string. No condition.
-/
import Derived.Test.YtnkhafkdmlfdbaaDoorPfPrint
namespace Go.Proofs.YtnkhafkdmlfdbaaDoor
open Go.RowKit

theorem rprint_any (addr bits : Int) (w : World) (a0 : 0 ≤ addr) (a1 : addr < 4294967296) :
    Calls Tryd.prog 14 #[pv addr bits] w fun e w' => e = .returned (.string (prs addr bits)) ∧ Below w.heap.size w w' := by
  unfold prs
  by_cases h : rt addr bits = true
  · rw [if_pos h]; exact rprint_ok addr bits w a0 a1 h
  · rw [if_neg h]; exact rprint_no addr bits w a0 a1 (by simpa using h)
set_option maxHeartbeats 2000000 in
theorem rread_no (s : ByteArray) (w : World) (hs : s.size ≤ 9223372036854775806) (h : ∀ a b, ¬ IsP s a b) :
    Calls Tryd.prog 10 #[.string s] w fun e w' => e = .returned (.tuple #[pv 0 0, .bool false]) ∧ Below w.heap.size w w' := by
  have PA : Hid (∀ (k : Nat) w, Calls Tryd.prog 8 #[.string (s.extract 0 k)] w fun e w' => e = .returned (if (txt (cand (s.extract 0 k))).toList == (s.extract 0 k).toList then .tuple #[.int .u32 (cand (s.extract 0 k)), .bool true] else .tuple #[.int .u32 0, .bool false]) ∧ Below w.heap.size w w') := fun k w => rparse_ok (s.extract 0 k) w
  have PR : Hid (∀ (a m : Int) w, 0 ≤ a → a < 4294967296 → Calls Tryd.prog 14 #[pv a m] w fun e w' => e = .returned (.string (prs a m)) ∧ Below w.heap.size w w') := fun a m w h0 h1 => rprint_any a m w h0 h1
  have NE : Hid (∀ a m : Int, 0 ≤ a → a < 4294967296 → 0 < s.size → ((prs a m).toList == s.toList) = false) := fun a m h0 h1 hz => not_isP s a m ⟨h0, h1⟩ hz (h a m)
  clear h
  unfold pv at *
  go_enter Tryd.func10, Tryd.ntmps10
  go_wp2
  go_loopw [4] (fun i w' => ∃ k : Nat, k ≤ s.size ∧ i = .int .i64 k ∧ Hid (Below (w.heap.size + 1) (w.alloc (.cells #[.int .u32 0, .int .i64 0] 24)) w')) (fun i _ => s.size - (intOf i).toNat)
  case atStart => exact ⟨0, Nat.zero_le _, rfl, Below.refl _ _⟩
  case round =>
    obtain ⟨k, hk, rfl, bel⟩ := hrel
    have hb := byt_bd s k
    by_cases hlt : k < s.size
    · have kl : (k : Int) < s.size := by omega
      have hxx : ∀ h : k < s.size, ((s[k].toNat : Nat) : Int) = byt s k := fun h => byt_eq s k h
      by_cases hc : byt s k = 47
      · have hc' : (byt s k != 47) = false := by simp [hc]
        have cb := cand_bd (s.extract 0 k)
        replace PA := PA.out k
        generalize hX : s.extract 0 k = X at *
        have s0 : 0 < s.size := by omega
        have kz : (k : Int) ≤ s.size := by omega
        have z1 : (w.alloc (.cells #[.int .u32 0, .int .i64 0] 24)).heap.size = w.heap.size + 1 := by simp
        cases hx : ((txt (cand X)).toList == X.toList)
        · replace PA : Hid (∀ w, Calls Tryd.prog 8 #[.string X] w fun e w' => e = .returned (.tuple #[.int .u32 0, .bool false]) ∧ Below w.heap.size w w') := fun w => by
            have := PA w
            rwa [hx, if_neg (by decide)] at this
          clear hx cb PR NE
          go_wp2_with (go_at_call 8; refine (PA.out _).mono ?_; rintro e w1 ⟨rfl, b1⟩; have bel1 : Hid _ := bel.out.trans (b1.mono (z1 ▸ bel.out.size)); clear b1)
          go_rounds 1
          go_roundw
          case rel => exact ⟨k + 1, by omega, by go_num, bel1⟩
          case measure => simp [intOf]; omega
        · replace PA : Hid (∀ w, Calls Tryd.prog 8 #[.string X] w fun e w' => e = .returned (.tuple #[.int .u32 (cand X), .bool true]) ∧ Below w.heap.size w w') := fun w => by
            have := PA w
            rwa [hx, if_pos rfl] at this
          clear hx
          generalize cand X = a at *
          go_wp2_with (go_at_call 8; refine (PA.out _).mono ?_; rintro e w1 ⟨rfl, b1⟩; have bel1 : Hid _ := bel.out.trans (b1.mono (z1 ▸ bel.out.size)); clear b1)
          go_loopw [7] (fun n w' => ∃ m : Nat, m ≤ 33 ∧ n = .int .i64 m ∧ Hid (Below (w.heap.size + 1) (w.alloc (.cells #[.int .u32 0, .int .i64 0] 24)) w')) (fun n _ => 33 - (intOf n).toNat)
          case atStart => exact ⟨0, by omega, rfl, bel1⟩
          case round =>
            obtain ⟨m, hm, rfl, bel2⟩ := hrel
            by_cases h32 : m ≤ 32
            · have P : Hid (∀ w, _) := fun w => PR.out a m w cb.1 cb.2
              have ne := NE.out a m cb.1 cb.2 s0
              have ml : decide ((m : Int) ≤ 32) = true := decide_eq_true (by omega)
              generalize prs a m = Y at *
              clear PR NE PA
              go_wp2_with (go_at_call 14; refine (P.out _).mono ?_; rintro e w3 ⟨rfl, b3⟩; have bel3 : Hid _ := (bel2.out.alloc (z1 ▸ bel2.out.size) _).trans (b3.mono (Nat.le_trans (z1 ▸ bel2.out.size) (by simp))); clear b3)
              go_roundw
              case rel => exact ⟨m + 1, by omega, by go_num, bel3⟩
              case measure => simp [intOf]; omega
            · have ml : decide ((m : Int) ≤ 32) = false := decide_eq_false (by omega)
              clear PR NE PA
              go_wp2
              go_roundw
              case rel => exact ⟨k + 1, by omega, by go_num, bel2⟩
              case measure => simp [intOf]; omega
      · have hc' : (byt s k != 47) = true := by simp [hc]
        go_wp2
        go_roundw
        case rel => exact ⟨k + 1, by omega, by go_num, bel⟩
        case measure => simp [intOf]; omega
    · obtain rfl : k = s.size := by omega
      obtain ⟨l0, c0, c1, f0, f1⟩ := (rbox_new w 0 0).keep (Nat.lt_succ_self _) bel.out
      clear PA PR NE
      go_wp2
      refine ⟨rfl, .tuple #[.agg #[.int .u32 0, .int .i64 0], .bool false], ?_, rfl, ?_⟩
      · simp [results, Tryd.results10, go_sem, *]
      · have hn := Nat.le_refl w.heap.size
        have Z : Below w.heap.size w _ := ((Below.refl _ _).alloc (Nat.le_refl _) _).trans (bel.out.mono (Nat.le_succ _))
        exact (Z.setCell (p := ⟨w.heap.size, 0, none⟩) hn _).setCell (p := ⟨w.heap.size, 1, none⟩) hn _
end Go.Proofs.YtnkhafkdmlfdbaaDoor
