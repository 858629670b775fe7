/-
  What the document's own Read answers of a right prefix's writing; no other prefix has that writing. No condition.
-/
import Derived.Test.YtnkhafkdmlfdbaaDoorPfRead
namespace Go.Proofs.YtnkhafkdmlfdbaaDoor
open Go.RowKit

set_option maxHeartbeats 2000000 in
theorem rread_yes (s : ByteArray) (w : World) (addr bits : Int) (h : IsP s addr bits) :
    Calls Tryd.prog 10 #[.string s] w fun e w' => e = .returned (.tuple #[pv addr bits, .bool true]) ∧ Below w.heap.size w w' := by
  obtain ⟨⟨a0, a1⟩, r, e⟩ := id h
  have q := rt_bits r
  have hz := isP_size h
  have hl := tl_len addr
  have hd := dd_len bits
  have LO : Hid (∀ i, i < (tl addr).length → byt s i ≠ 47) := isP_low h
  have AT := isP_at h
  have hX := isP_front h
  have PA : Hid (∀ w, Calls Tryd.prog 8 #[.string (txt addr)] w fun e w' => e = .returned (.tuple #[.int .u32 addr, .bool true]) ∧ Below w.heap.size w w') := fun w => by
    have := rparse_ok (txt addr) w
    rwa [cand_txt addr a0 a1, if_pos (by simp)] at this
  have PR : Hid (∀ (m : Int) w, Calls Tryd.prog 14 #[pv addr m] w fun e w' => e = .returned (.string (prs addr m)) ∧ Below w.heap.size w w') := fun m w => rprint_any addr m w a0 a1
  have NE : Hid (∀ m : Int, m ≠ bits → ((prs addr m).toList == s.toList) = false) := fun m hm => not_isP s addr m ⟨a0, a1⟩ (by omega) (fun x => hm (isP_bits x h))
  have YE : ((prs addr bits).toList == s.toList) = true := by unfold prs; rw [if_pos r, e]; simp
  obtain ⟨b, rfl⟩ := Int.eq_ofNat_of_zero_le q.1
  have hb32 : b ≤ 32 := by omega
  have z1 : (w.alloc (.cells #[.int .u32 0, .int .i64 0] 24)).heap.size = w.heap.size + 1 := by simp
  clear e r h q
  generalize (tl addr).length = K at *
  generalize txt addr = X at *
  generalize (dd (b : Int)).length = D at *
  unfold pv at *
  go_enter Tryd.func10, Tryd.ntmps10
  go_wp2
  go_loopw [4] (fun i w' => ∃ k : Nat, k ≤ K ∧ i = .int .i64 k ∧ Hid (Below (w.heap.size + 1) (w.alloc (.cells #[.int .u32 0, .int .i64 0] 24)) w')) (fun i _ => K - (intOf i).toNat)
  case atStart => exact ⟨0, Nat.zero_le _, rfl, Below.refl _ _⟩
  case round =>
    obtain ⟨k, hk, rfl, bel⟩ := hrel
    have kl : (k : Int) < s.size := by omega
    have hbb := byt_bd s k
    have hxx : ∀ h : k < s.size, ((s[k].toNat : Nat) : Int) = byt s k := fun h => byt_eq s k h
    by_cases hlt : k < K
    · have hc' : (byt s k != 47) = true := by simp [LO.out k hlt]
      clear PA PR NE YE LO
      go_wp2
      go_roundw
      case rel => exact ⟨k + 1, by omega, by go_num, bel⟩
      case measure => simp [intOf]; omega
    · obtain rfl : k = K := by omega
      have hc' : (byt s k != 47) = false := by simp [AT]
      have kz : (k : Int) ≤ s.size := by omega
      clear LO
      go_wp2_with (go_at_call 8; refine (PA.out _).mono ?_; rintro e w1 ⟨rfl, b1⟩; have bel1 : Hid _ := bel.out.trans (b1.mono (z1 ▸ bel.out.size)); clear b1)
      go_loopw [7] (fun n w' => ∃ m : Nat, m ≤ b ∧ n = .int .i64 m ∧ Hid (Below (w.heap.size + 1) (w.alloc (.cells #[.int .u32 0, .int .i64 0] 24)) w')) (fun n _ => b - (intOf n).toNat)
      case atStart => exact ⟨0, by omega, rfl, bel1⟩
      case round =>
        obtain ⟨m, hm, rfl, bel2⟩ := hrel
        have ml : decide ((m : Int) ≤ 32) = true := decide_eq_true (by omega)
        have P : Hid (∀ w, _) := fun w => PR.out m w
        by_cases hmb : m < b
        · have ne := NE.out m (by omega)
          generalize prs addr m = Y at *
          clear PR NE PA YE
          go_wp2_with (go_at_call 14; refine (P.out _).mono ?_; rintro e w3 ⟨rfl, b3⟩; have bel3 : Hid _ := (bel2.out.alloc (z1 ▸ bel2.out.size) _).trans (b3.mono (Nat.le_trans (z1 ▸ bel2.out.size) (by simp))); clear b3)
          go_roundw
          case rel => exact ⟨m + 1, by omega, by go_num, bel3⟩
          case measure => simp [intOf]; omega
        · obtain rfl : m = b := by omega
          generalize prs addr m = Y at *
          clear PR NE PA
          go_wp2_with (go_at_call 14; refine (P.out _).mono ?_; rintro e w3 ⟨rfl, b3⟩; have bel3 : Hid _ := (bel2.out.alloc (z1 ▸ bel2.out.size) _).trans (b3.mono (Nat.le_trans (z1 ▸ bel2.out.size) (by simp))); obtain ⟨lp, q0, q1⟩ := (pbox_new _ addr m).keep (by simp) b3; obtain ⟨l0, c0, c1, f0, f1⟩ := (rbox_new w 0 0).keep (Nat.lt_succ_self _) bel3.out; clear b3)
          refine ⟨rfl, .tuple #[.agg #[.int .u32 addr, .int .i64 m], .bool true], ?_, rfl, ?_⟩
          · simp [results, Tryd.results10, go_sem, *]
          · have hn := Nat.le_refl w.heap.size
            have Z : Below w.heap.size w _ := ((Below.refl _ _).alloc (Nat.le_refl _) _).trans (bel3.out.mono (Nat.le_succ _))
            exact (Z.setCell (p := ⟨w.heap.size, 0, none⟩) hn _).setCell (p := ⟨w.heap.size, 1, none⟩) hn _
end Go.Proofs.YtnkhafkdmlfdbaaDoor
