/-
  What the document's own Number answers of ports, and its Path of any target. Addresses are uint32's; no other condition.
-/
import Derived.Test.YtojfcflkanohoaaDoorTgPath
namespace Go.Proofs.YtojfcflkanohoaaDoor
set_option maxRecDepth 100000
open Go.RowKit Go.Sort

theorem bx (w : World) (o : Obj) : Below w.heap.size w (w.alloc o) := (Below.refl _ _).alloc (Nat.le_refl _) _
theorem one_byte (n : Nat) : strOfNums [48 + (n : Int)] = strL [UInt8.ofNat (48 + n)] := by
  refine toL_inj ?_
  show [UInt8.ofNat (48 + (n : Int)).toNat] = [UInt8.ofNat (48 + n)]
  congr 2
theorem dec_step (n : Nat) : (if n = 0 then [] else Lib.decDigits n) = (if n / 10 = 0 then [] else Lib.decDigits (n / 10)) ++ (if n = 0 then [] else [UInt8.ofNat (48 + n % 10)]) := by
  by_cases z : n = 0
  · subst z; rfl
  · rw [if_neg z, if_neg z]
    by_cases q : n < 10
    · rw [if_pos (by omega), Lib.decDigits, dif_pos q, List.nil_append, show n % 10 = n by omega]
    · rw [if_neg (by omega), Lib.decDigits, dif_neg q]
set_option maxHeartbeats 2000000 in
theorem rport_ok (n : Nat) (w : World) (h0 : 1 ≤ n) (h : n < 100000) :
    Calls Tryd.prog 26 #[.int .i64 (n : Int)] w fun e w' => e = .returned (.string (strL (Lib.decDigits n))) ∧ Below w.heap.size w w' := by
  have hcv := pfconv1
  have L5 := dec_len n h
  obtain ⟨D, hD⟩ : ∃ D, D = Lib.decDigits n := ⟨_, rfl⟩
  rw [← hD] at L5 ⊢
  have hD1 : Hid (D = (if n / 10 = 0 then [] else Lib.decDigits (n / 10)) ++ [UInt8.ofNat (48 + n % 10)]) := by
    unfold Hid
    have := dec_step n
    rw [if_neg (show ¬ n = 0 by omega), if_neg (show ¬ n = 0 by omega)] at this
    rw [hD, this]
  clear hD
  have m1 : (n : Int) % 10 = ((n % 10 : Nat) : Int) := by omega
  have d1 : (n : Int) / 10 = ((n / 10 : Nat) : Int) := by omega
  have r1 : n % 10 < 10 := by omega
  have ob := one_byte (n % 10)
  obtain ⟨c, hc⟩ : ∃ c, c = UInt8.ofNat (48 + n % 10) := ⟨_, rfl⟩
  rw [← hc] at ob hD1
  clear hc
  have B0 := Lib.hid (bx w (.cells #[.int .u8 (48 + ((n % 10 : Nat) : Int))] 5))
  obtain ⟨q, hq⟩ : ∃ q, q = n / 10 := ⟨_, rfl⟩
  have hq2 : q < 100000 := by omega
  rw [← hq] at d1 hD1
  clear hq
  generalize n % 10 = m at *
  go_enter Tryd.func26, Tryd.ntmps26
  go_wp2_with fail
  clear m1 d1
  go_loopg [0, 3] q (fun g nv sv wr => ∃ (k : Nat) (X : L), k = g ∧ k < 100000 ∧ nv = .int .i64 (k : Int) ∧ sv = .string (strL X) ∧ Hid (D = (if k = 0 then [] else Lib.decDigits k) ++ X) ∧ Hid (Below w.heap.size w wr))
  case atStart => exact ⟨q, [c], rfl, hq2, rfl, rfl, hD1, B0⟩
  case round =>
    clear hD1 B0 ob
    obtain ⟨k, X, rfl, hk, rfl, rfl, hX, bl⟩ := hrel
    have xl : X.length ≤ 5 := by
      have := congrArg List.length hX.out
      rw [List.length_append] at this
      omega
    rw [← strL_size] at xl
    by_cases z : k = 0
    · have E0 : Hid (D = X) := by
        unfold Hid
        have := hX.out
        rwa [if_pos z, List.nil_append] at this
      subst z
      clear hX
      go_wp2_with fail
      go_ret
      exact ⟨by rw [E0.out]; rfl, bl.out⟩
    · have g1 : decide ((0 : Int) < (k : Int)) = true := decide_eq_true (by omega)
      have g1' : decide (0 < k) = true := decide_eq_true (by omega)
      have m2 : (k : Int) % 10 = ((k % 10 : Nat) : Int) := by omega
      have d2 : (k : Int) / 10 = ((k / 10 : Nat) : Int) := by omega
      have r2 : k % 10 < 10 := by omega
      have lt2 : k / 10 < k := by omega
      have ob2 := one_byte (k % 10)
      have X2 : Hid (D = (if k / 10 = 0 then [] else Lib.decDigits (k / 10)) ++ ([UInt8.ofNat (48 + k % 10)] ++ X)) := by
        unfold Hid
        have := dec_step k
        rw [if_neg z, if_neg z] at this
        have hh := hX.out
        rw [if_neg z, this, List.append_assoc] at hh
        exact hh
      obtain ⟨c2, hc2⟩ : ∃ c2, c2 = UInt8.ofNat (48 + k % 10) := ⟨_, rfl⟩
      rw [← hc2] at ob2 X2
      clear hc2
      have B1 := Lib.hid (bl.out.trans ((bx wr (.cells #[.int .u8 (48 + ((k % 10 : Nat) : Int))] 5)).mono bl.out.size))
      have ap : strOfNums [48 + ((k % 10 : Nat) : Int)] ++ strL X = strL ([c2] ++ X) := by rw [ob2, strL_append]
      have sz1 : (strOfNums [48 + ((k % 10 : Nat) : Int)]).size = 1 := rfl
      obtain ⟨q2, hq2⟩ : ∃ q2, q2 = k / 10 := ⟨_, rfl⟩
      rw [← hq2] at d2 lt2 X2
      clear hq2 hX bl ob2
      generalize k % 10 = mm at *
      go_wp2_with fail
      go_roundg q2
      case measure => exact lt2
      case rel => exact ⟨q2, [c2] ++ X, rfl, by omega, rfl, rfl, X2, B1⟩
set_option maxHeartbeats 4000000 in
theorem rpath_udp (a n : Int) (w : World) (a0 : 0 ≤ a) (a1 : a < 4294967296) (n0 : 1 ≤ n) (n1 : n ≤ 65535) :
    Calls Tryd.prog 12 #[tgV false a n] w fun e w' => e = .returned (.string (strL (pthU a n))) ∧ Below w.heap.size w w' := by
  have z1 := txt_len a
  rw [toL_len] at z1
  have z2 := itoa_len (n := n) (by omega) n1
  rw [← strL_size] at z2
  have pb := pth_bytes a n
  rw [← pb]
  clear pb
  have R : Hid (∀ w, Calls Tryd.prog 24 #[tgV false a n] w fun e w' => e = .returned (.bool true) ∧ Below w.heap.size w w') := fun w => by
    have := rright17_ok false a n w
    rwa [show rightT false a n = true by unfold rightT; rw [if_neg (by decide)]; exact decide_eq_true ⟨n0, n1⟩] at this
  have X : Hid (∀ w, Calls Tryd.prog 25 #[.int .u32 a] w fun e w' => e = .returned (.string (txt a)) ∧ Below w.heap.size w w') := fun w => rtext_ok a w a0 a1
  have Y : Hid (∀ w, Calls Tryd.prog 26 #[.int .i64 n] w fun e w' => e = .returned (.string (strL (Lib.itoa n))) ∧ Below w.heap.size w w') := fun w => by
    have := rport_ok n.toNat w (by omega) (by omega)
    rw [itoa_dec n (by omega)]
    rwa [show ((n.toNat : Nat) : Int) = n by omega] at this
  obtain ⟨wa, hwa⟩ : ∃ wa, wa = w.alloc (.cells #[.bool false, .int .u32 a, .int .i64 n] 25) := ⟨_, rfl⟩
  have lA := tbox w false a n
  have bA : Below w.heap.size w (w.alloc (.cells #[.bool false, .int .u32 a, .int .i64 n] 25)) := bx w _
  rw [← hwa] at lA bA
  have c0 := lA.cell 0 (v := .bool false) rfl
  have c1 := lA.cell 1 (v := .int .u32 a) rfl
  have c2 := lA.cell 2 (v := .int .i64 n) rfl
  have LA := Lib.hid lA
  have Z : Hid (Below w.heap.size w wa) := bA
  clear lA bA
  generalize txt a = S1 at *
  generalize strL (Lib.itoa n) = S2 at *
  have e1 : (⟨#[47, 46, 119, 101, 108, 108, 45, 107, 110, 111, 119, 110, 47, 109, 97, 115, 113, 117, 101, 47, 117, 100, 112, 47]⟩ : ByteArray).size = 24 := rfl
  have e2 : (⟨#[47]⟩ : ByteArray).size = 1 := rfl
  have s1 : ¬ 9223372036854775807 < 24 + S1.size := by omega
  have s2 : ¬ 9223372036854775807 < 24 + S1.size + 1 := by omega
  have s3 : ¬ 9223372036854775807 < 24 + S1.size + 1 + S2.size := by omega
  have s4 : ¬ 9223372036854775807 < 24 + S1.size + 1 + S2.size + 1 := by omega
  unfold tgV at R ⊢
  go_enter Tryd.func12, Tryd.ntmps12
  go_upto_region 1 with fail
  rw [← hwa]
  clear hwa
  go_wp2_with fail
  refine (R.out wa).mono ?_
  rintro e w1 ⟨rfl, b1⟩
  have L1 := LA.out.keep (by show 0 < 3; decide) b1
  have Z1 := Lib.hid (Z.out.trans (b1.mono Z.out.size))
  clear b1 LA Z c0 c1 c2 R
  have c0 := L1.cell 0 (v := .bool false) rfl
  have c1 := L1.cell 1 (v := .int .u32 a) rfl
  have c2 := L1.cell 2 (v := .int .i64 n) rfl
  have k1 := cell_re c1
  have k2 := cell_re c2
  clear L1
  go_wp2_with fail
  refine wp_region_quiet_below (by kernel_rfl) (by kernel_rfl) ?_
  repeat (quiet_step (first | (go_at_call 25; exact Calls.regrown_of (X.out _)) | (go_at_call 26; exact Calls.regrown_of (Y.out _))))
  refine wpQuiet_nil ?_
  intro _ hw'
  obtain ⟨⟨dq, osq⟩, hw''⟩ := hw'
  subst hw''
  go_wp2
  go_ret
  exact ⟨rfl, Z1.out.trans ((below_regrown _ dq osq).mono Z1.out.size)⟩
set_option maxHeartbeats 4000000 in
theorem rpath_ip (w : World) :
    Calls Tryd.prog 12 #[tgV true 0 0] w fun e w' => e = .returned (.string (strL ipL)) ∧ Below w.heap.size w w' := by
  have R : Hid (∀ w, Calls Tryd.prog 24 #[tgV true 0 0] w fun e w' => e = .returned (.bool true) ∧ Below w.heap.size w w') := fun w => rright17_ok true 0 0 w
  obtain ⟨wa, hwa⟩ : ∃ wa, wa = w.alloc (.cells #[.bool true, .int .u32 0, .int .i64 0] 25) := ⟨_, rfl⟩
  have lA := tbox w true 0 0
  have bA : Below w.heap.size w (w.alloc (.cells #[.bool true, .int .u32 0, .int .i64 0] 25)) := bx w _
  rw [← hwa] at lA bA
  have c0 := lA.cell 0 (v := .bool true) rfl
  have c1 := lA.cell 1 (v := .int .u32 0) rfl
  have c2 := lA.cell 2 (v := .int .i64 0) rfl
  have LA := Lib.hid lA
  have Z : Hid (Below w.heap.size w wa) := bA
  clear lA bA
  unfold tgV at R ⊢
  go_enter Tryd.func12, Tryd.ntmps12
  go_upto_region 1 with fail
  rw [← hwa]
  clear hwa
  go_wp2_with fail
  refine (R.out wa).mono ?_
  rintro e w1 ⟨rfl, b1⟩
  have L1 := LA.out.keep (by show 0 < 3; decide) b1
  have Z1 := Lib.hid (Z.out.trans (b1.mono Z.out.size))
  clear b1 LA Z c0 c1 c2 R
  have c0 := L1.cell 0 (v := .bool true) rfl
  clear L1
  go_wp2
  go_ret
  exact ⟨rfl, Z1.out⟩
set_option maxHeartbeats 4000000 in
theorem rpath_no (ip : Bool) (a n : Int) (w : World) (h : rightT ip a n = false) :
    Calls Tryd.prog 12 #[tgV ip a n] w fun e w' => e = .returned (.string ⟨#[]⟩) ∧ Below w.heap.size w w' := by
  have R : Hid (∀ w, Calls Tryd.prog 24 #[tgV ip a n] w fun e w' => e = .returned (.bool false) ∧ Below w.heap.size w w') := fun w => by
    have := rright17_ok ip a n w
    rwa [h] at this
  obtain ⟨wa, hwa⟩ : ∃ wa, wa = w.alloc (.cells #[.bool ip, .int .u32 a, .int .i64 n] 25) := ⟨_, rfl⟩
  have lA := tbox w ip a n
  have bA : Below w.heap.size w (w.alloc (.cells #[.bool ip, .int .u32 a, .int .i64 n] 25)) := bx w _
  rw [← hwa] at lA bA
  have c0 := lA.cell 0 (v := .bool ip) rfl
  have c1 := lA.cell 1 (v := .int .u32 a) rfl
  have c2 := lA.cell 2 (v := .int .i64 n) rfl
  have Z : Hid (Below w.heap.size w wa) := bA
  clear lA bA
  unfold tgV at R ⊢
  go_enter Tryd.func12, Tryd.ntmps12
  go_upto_region 1 with fail
  rw [← hwa]
  clear hwa
  go_wp2_with fail
  refine (R.out wa).mono ?_
  rintro e w1 ⟨rfl, b1⟩
  have Z1 := Lib.hid (Z.out.trans (b1.mono Z.out.size))
  clear b1 Z c0 c1 c2 R
  go_wp2
  go_ret
  exact ⟨rfl, Z1.out⟩
theorem rpath_ok (ip : Bool) (a n : Int) (w : World) (a0 : 0 ≤ a) (a1 : a < 4294967296) :
    Calls Tryd.prog 12 #[tgV ip a n] w fun e w' => e = .returned (.string (strL (pthT ip a n))) ∧ Below w.heap.size w w' := by
  unfold pthT
  cases h : rightT ip a n with
  | false => rw [if_neg (by decide)]; exact rpath_no ip a n w h
  | true =>
    rw [if_pos rfl]
    unfold rightT at h
    cases ip
    · rw [if_neg (by decide), decide_eq_true_eq] at h
      rw [if_neg (by decide)]
      exact rpath_udp a n w a0 a1 h.1 h.2
    · rw [if_pos rfl, decide_eq_true_eq] at h
      obtain ⟨rfl, rfl⟩ := h
      rw [if_pos rfl]
      exact rpath_ip w
end Go.Proofs.YtojfcflkanohoaaDoor
