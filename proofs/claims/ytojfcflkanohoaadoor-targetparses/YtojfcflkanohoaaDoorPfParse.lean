/-
  What the document's own Parse answers, for every string; and that an address's writing is read as that address. No condition.
-/
import Derived.Test.YtojfcflkanohoaaDoorPfText
namespace Go.Proofs.YtojfcflkanohoaaDoor
open Go.RowKit

set_option maxHeartbeats 2000000 in
theorem rparse_x (s : ByteArray) (w : World) (x : Bool) (v : Value) (hx : ((txt (cand s)).toList == s.toList) = x) (hv : v = if x then .tuple #[.int .u32 (cand s), .bool true] else .tuple #[.int .u32 0, .bool false]) :
    Calls Tryd.prog 34 #[.string s] w fun e w' => e = .returned v ∧ Below w.heap.size w w' := by
  have cb := cand_bd s
  have T : Hid (∀ w, _) := fun w => rtext_ok (cand s) w cb.1 cb.2
  go_enter Tryd.func34, Tryd.ntmps34
  go_wp2
  go_loop [4, 5, 6] (fun a n i => ∃ k : Nat, k ≤ s.size ∧ k ≤ 16 ∧ i = .int .i64 k ∧ a = .int .u32 (fld ((pbl s).take k)).1 ∧ n = .int .u32 (fld ((pbl s).take k)).2) (fun _ _ i => 16 - (intOf i).toNat)
  case atStart => exact ⟨0, Nat.zero_le _, Nat.zero_le _, rfl, rfl, rfl⟩
  case round =>
    obtain ⟨k, hk, hk2, rfl, rfl, rfl⟩ := hrel
    have bd := fld_bd ((pbl s).take k)
    have hb := byt_bd s k
    have st := fld_step s k
    by_cases h16 : k < s.size ∧ k < 16
    · have ex := byt_eq s k h16.1
      replace st := st h16.1
      have d1 : decide ((k : Int) < s.size) = true := decide_eq_true (by omega)
      have d2 : decide ((k : Int) < 16) = true := decide_eq_true (by omega)
      have kl : (k : Int) < s.size := by omega
      have hxx : ∀ h : k < s.size, ((s[k].toNat : Nat) : Int) = byt s k := fun h => byt_eq s k h
      clear ex
      generalize byt s k = c at *
      unfold stp at st
      generalize fld ((pbl s).take k) = p at *
      obtain ⟨p1, p2⟩ := p
      simp only at st bd
      by_cases hc : c = 46
      · have hc' : (c == 46) = true := by simp [hc]
        rw [if_pos hc] at st
        go_wp2
        go_round
        case rel =>
          refine ⟨k + 1, by omega, by omega, by go_num, ?_, ?_⟩
          · rw [st]
            show Value.int .u32 _ = Value.int .u32 ((p1 * 256 + p2) % 4294967296)
            congr 1
            omega
          · rw [st]
        case measure => simp [intOf]; omega
      · have hc' : (c == 46) = false := by simp [hc]
        rw [if_neg hc] at st
        go_wp2
        go_round
        case rel =>
          refine ⟨k + 1, by omega, by omega, by go_num, ?_, ?_⟩
          · rw [st]
          · rw [st]
        case measure => simp [intOf]; omega
    · have et : (pbl s).take k = (pbl s).take 16 := by
        rcases Nat.lt_or_ge k 16 with q | q
        · rw [List.take_of_length_le (by rw [pbl_length]; omega), List.take_of_length_le (by rw [pbl_length]; omega)]
        · rw [show k = 16 by omega]
      have ec : (((fld ((pbl s).take k)).1 * 256 + (fld ((pbl s).take k)).2) % 4294967296) = cand s := by rw [et]; rfl
      clear st
      generalize fld ((pbl s).take k) = p at *
      obtain ⟨p1, p2⟩ := p
      simp only at bd ec
      have q1 : p1 * 256 % 4294967296 + p2 = cand s := by rw [← ec]; omega
      generalize cand s = c at *
      generalize txt c = X at *
      clear ec et
      cases x
      all_goals
        go_wp2_with (go_at_call 25; refine (T.out _).mono ?_; rintro e w1 ⟨rfl, b1⟩)
        all_goals
          go_ret2
          exact ⟨by rw [hv]; rfl, b1⟩
theorem rparse_ok (s : ByteArray) (w : World) :
    Calls Tryd.prog 34 #[.string s] w fun e w' => e = .returned (if (txt (cand s)).toList == s.toList then .tuple #[.int .u32 (cand s), .bool true] else .tuple #[.int .u32 0, .bool false]) ∧ Below w.heap.size w w' :=
  rparse_x s w _ _ rfl rfl
end Go.Proofs.YtojfcflkanohoaaDoor
