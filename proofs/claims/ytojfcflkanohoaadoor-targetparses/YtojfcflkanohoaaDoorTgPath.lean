/-
  What Path and Right answer of any target, the program's own and the document's. Addresses are uint32's; the tables of Go's library lie as the row's list gives them.
-/
import Derived.Test.YtojfcflkanohoaaDoorTgMath
import Derived.Test.YtojfcflkanohoaaDoorPfParse
import Derived.Lib.QuietBelow
import Derived.Deep.LoopGhost
import Derived.Deep.DeepCutAuto
namespace Go.Proofs.YtojfcflkanohoaaDoor
set_option maxRecDepth 100000
open Go.RowKit Go.Sort

theorem cell_re {w : World} {B j : Nat} {v : Value} (h : w.cell? ⟨B, j, none⟩ = some v) : ∀ d os, (grow (redrawn w d) os).cell? ⟨B, j, none⟩ = some v := fun d os => ((below_regrown w d os).cell (p := ⟨B, j, none⟩) (World.block_lt_of_cell? w _ h)).trans h
theorem port_ok (n : Int) (w : World) (t : TabP w) (h0 : 1 ≤ n) (h : n ≤ 65535) :
    Calls Tryd.prog 23 #[.int .i64 n] w fun e w' => e = .returned (.string (strL (Lib.itoa n))) ∧ Below w.heap.size w w' := by
  refine (Tryd.strconv_Itoa n (by omega) (by omega) w t.p10).mono ?_
  rintro e w' ⟨rfl, k, os, rfl⟩
  exact ⟨rfl, grow_below w k os⟩
theorem pth_bytes (a n : Int) : (⟨#[47, 46, 119, 101, 108, 108, 45, 107, 110, 111, 119, 110, 47, 109, 97, 115, 113, 117, 101, 47, 117, 100, 112, 47]⟩ : ByteArray) ++ txt a ++ ⟨#[47]⟩ ++ strL (Lib.itoa n) ++ ⟨#[47]⟩ = strL (pthU a n) := by
  refine toL_inj ?_
  simp only [toL_append]
  unfold pthU
  rw [toL_strL, toL_strL]
  show frontL ++ toL (txt a) ++ [47] ++ Lib.itoa n ++ [47] = _
  simp
theorem tbox (w : World) (ip : Bool) (a n : Int) : Lies (w.alloc (.cells #[.bool ip, .int .u32 a, .int .i64 n] 25)) w.heap.size [.bool ip, .int .u32 a, .int .i64 n] := Lies.new w _ _
set_option maxHeartbeats 4000000 in
theorem path_udp (a n : Int) (w : World) (t : TabP w) (a0 : 0 ≤ a) (a1 : a < 4294967296) (n0 : 1 ≤ n) (n1 : n ≤ 65535) :
    Calls Tryd.prog 11 #[tgV false a n] w fun e w' => e = .returned (.string (strL (pthU a n))) ∧ Below w.heap.size w w' := by
  have z1 := txt_len a
  rw [toL_len] at z1
  have z2 := itoa_len (n := n) (by omega) n1
  rw [← strL_size] at z2
  have pb := pth_bytes a n
  rw [← pb]
  clear pb
  obtain ⟨wa, hwa⟩ : ∃ wa, wa = w.alloc (.cells #[.bool false, .int .u32 a, .int .i64 n] 25) := ⟨_, rfl⟩
  have lA := tbox w false a n
  have bA : Below w.heap.size w (w.alloc (.cells #[.bool false, .int .u32 a, .int .i64 n] 25)) := (Below.refl _ _).alloc (Nat.le_refl _) _
  rw [← hwa] at lA bA
  have tA := t.keep bA
  have c0 := lA.cell 0 (v := .bool false) rfl
  have c1 := lA.cell 1 (v := .int .u32 a) rfl
  have c2 := lA.cell 2 (v := .int .i64 n) rfl
  have k1 := cell_re c1
  have k2 := cell_re c2
  have X : Hid (∀ d os, Calls Tryd.prog 22 #[.int .u32 a] (grow (redrawn wa d) os) fun e w' => e = .returned (.string (txt a)) ∧ Below (grow (redrawn wa d) os).heap.size (grow (redrawn wa d) os) w') := fun d os => text_ok a _ (tA.keep (below_regrown wa d os)) a0 a1
  have Y : Hid (∀ d os, Calls Tryd.prog 23 #[.int .i64 n] (grow (redrawn wa d) os) fun e w' => e = .returned (.string (strL (Lib.itoa n))) ∧ Below (grow (redrawn wa d) os).heap.size (grow (redrawn wa d) os) w') := fun d os => port_ok n _ (tA.keep (below_regrown wa d os)) n0 n1
  have Z : Hid (Below w.heap.size w wa) := bA
  clear lA t tA bA
  generalize txt a = S1 at *
  generalize strL (Lib.itoa n) = S2 at *
  have g1 : decide ((1 : Int) ≤ n) = true := decide_eq_true n0
  have g2 : decide (n ≤ (65535 : Int)) = true := decide_eq_true n1
  have e1 : (⟨#[47, 46, 119, 101, 108, 108, 45, 107, 110, 111, 119, 110, 47, 109, 97, 115, 113, 117, 101, 47, 117, 100, 112, 47]⟩ : ByteArray).size = 24 := rfl
  have e2 : (⟨#[47]⟩ : ByteArray).size = 1 := rfl
  have s1 : ¬ 9223372036854775807 < 24 + S1.size := by omega
  have s2 : ¬ 9223372036854775807 < 24 + S1.size + 1 := by omega
  have s3 : ¬ 9223372036854775807 < 24 + S1.size + 1 + S2.size := by omega
  have s4 : ¬ 9223372036854775807 < 24 + S1.size + 1 + S2.size + 1 := by omega
  unfold tgV
  go_enter Tryd.func11, Tryd.ntmps11
  go_upto_region 1 with fail
  rw [← hwa]
  clear hwa
  go_wp2_with fail
  refine wp_region_quiet_below (by kernel_rfl) (by kernel_rfl) ?_
  repeat (quiet_step (first | (go_at_call 22; exact Calls.regrown_of (X.out _ _)) | (go_at_call 23; exact Calls.regrown_of (Y.out _ _))))
  refine wpQuiet_nil ?_
  intro _ hw'
  obtain ⟨⟨dq, osq⟩, hw''⟩ := hw'
  subst hw''
  go_wp2
  go_ret
  exact ⟨rfl, Z.out.trans ((below_regrown _ dq osq).mono Z.out.size)⟩
set_option maxHeartbeats 4000000 in
theorem path_ip (w : World) :
    Calls Tryd.prog 11 #[tgV true 0 0] w fun e w' => e = .returned (.string (strL ipL)) ∧ Below w.heap.size w w' := by
  have bA : Hid (Below w.heap.size w (w.alloc (.cells #[.bool true, .int .u32 0, .int .i64 0] 25))) := (Below.refl _ _).alloc (Nat.le_refl _) _
  unfold tgV
  go_enter Tryd.func11, Tryd.ntmps11
  go_wp2
  go_ret
  exact ⟨rfl, bA.out⟩
set_option maxHeartbeats 4000000 in
theorem path_no (ip : Bool) (a n : Int) (w : World) (h : rightT ip a n = false) :
    Calls Tryd.prog 11 #[tgV ip a n] w fun e w' => e = .returned (.string ⟨#[]⟩) ∧ Below w.heap.size w w' := by
  have bA : Hid (Below w.heap.size w (w.alloc (.cells #[.bool ip, .int .u32 a, .int .i64 n] 25))) := (Below.refl _ _).alloc (Nat.le_refl _) _
  unfold tgV
  unfold rightT at h
  cases ip
  · rw [if_neg (by decide), decide_eq_false_iff_not] at h
    by_cases q : 1 ≤ n
    · have g1 : decide ((1 : Int) ≤ n) = true := decide_eq_true q
      have g2 : decide (n ≤ (65535 : Int)) = false := decide_eq_false (by omega)
      clear h q
      go_enter Tryd.func11, Tryd.ntmps11
      go_wp2
      go_ret
      exact ⟨rfl, bA.out⟩
    · have g1 : decide ((1 : Int) ≤ n) = false := decide_eq_false q
      clear h q
      go_enter Tryd.func11, Tryd.ntmps11
      go_wp2
      go_ret
      exact ⟨rfl, bA.out⟩
  · rw [if_pos rfl, decide_eq_false_iff_not] at h
    by_cases q : a = 0
    · have g1 : (a == 0) = true := by simp [q]
      have g2 : (n == 0) = false := by rw [beq_eq_false_iff_ne]; exact fun e => h ⟨q, e⟩
      clear h q
      go_enter Tryd.func11, Tryd.ntmps11
      go_wp2
      go_ret
      exact ⟨rfl, bA.out⟩
    · have g1 : (a == 0) = false := by rw [beq_eq_false_iff_ne]; exact q
      clear h q
      go_enter Tryd.func11, Tryd.ntmps11
      go_wp2
      go_ret
      exact ⟨rfl, bA.out⟩
theorem path_ok (ip : Bool) (a n : Int) (w : World) (t : TabP w) (a0 : 0 ≤ a) (a1 : a < 4294967296) :
    Calls Tryd.prog 11 #[tgV ip a n] w fun e w' => e = .returned (.string (strL (pthT ip a n))) ∧ Below w.heap.size w w' := by
  unfold pthT
  cases h : rightT ip a n with
  | false => rw [if_neg (by decide)]; exact path_no ip a n w h
  | true =>
    rw [if_pos rfl]
    unfold rightT at h
    cases ip
    · rw [if_neg (by decide), decide_eq_true_eq] at h
      rw [if_neg (by decide)]
      exact path_udp a n w t a0 a1 h.1 h.2
    · rw [if_pos rfl, decide_eq_true_eq] at h
      obtain ⟨rfl, rfl⟩ := h
      rw [if_pos rfl]
      exact path_ip w
/-! ### the document's own -/
theorem rright17_ok (ip : Bool) (a n : Int) (w : World) :
    Calls Tryd.prog 24 #[tgV ip a n] w fun e w' => e = .returned (.bool (rightT ip a n)) ∧ Below w.heap.size w w' := by
  have bA : Hid (Below w.heap.size w (w.alloc (.cells #[.bool ip, .int .u32 a, .int .i64 n] 25))) := (Below.refl _ _).alloc (Nat.le_refl _) _
  obtain ⟨E, hE⟩ : ∃ E, E = rightT ip a n := ⟨_, rfl⟩
  rw [← hE]
  unfold tgV
  unfold rightT at hE
  cases ip
  · rw [if_neg (by decide)] at hE
    by_cases q : 1 ≤ n
    · have g1 : decide ((1 : Int) ≤ n) = true := decide_eq_true q
      by_cases r : n ≤ 65535
      · have g2 : decide (n ≤ (65535 : Int)) = true := decide_eq_true r
        have E0 : Hid (E = true) := hE.trans (decide_eq_true ⟨q, r⟩)
        clear hE q r
        go_enter Tryd.func24, Tryd.ntmps24
        go_wp2
        go_ret
        exact ⟨by rw [E0.out]; rfl, bA.out⟩
      · have g2 : decide (n ≤ (65535 : Int)) = false := decide_eq_false r
        have E0 : Hid (E = false) := hE.trans (decide_eq_false fun c => r c.2)
        clear hE q r
        go_enter Tryd.func24, Tryd.ntmps24
        go_wp2
        go_ret
        exact ⟨by rw [E0.out]; rfl, bA.out⟩
    · have g1 : decide ((1 : Int) ≤ n) = false := decide_eq_false q
      have E0 : Hid (E = false) := hE.trans (decide_eq_false fun c => q c.1)
      clear hE q
      go_enter Tryd.func24, Tryd.ntmps24
      go_wp2
      go_ret
      exact ⟨by rw [E0.out]; rfl, bA.out⟩
  · rw [if_pos rfl] at hE
    by_cases q : a = 0
    · have g1 : (a == 0) = true := by simp [q]
      by_cases r : n = 0
      · have g2 : (n == 0) = true := by simp [r]
        have E0 : Hid (E = true) := hE.trans (decide_eq_true ⟨q, r⟩)
        clear hE q r
        go_enter Tryd.func24, Tryd.ntmps24
        go_wp2
        go_ret
        exact ⟨by rw [E0.out]; rfl, bA.out⟩
      · have g2 : (n == 0) = false := by rw [beq_eq_false_iff_ne]; exact r
        have E0 : Hid (E = false) := hE.trans (decide_eq_false fun c => r c.2)
        clear hE q r
        go_enter Tryd.func24, Tryd.ntmps24
        go_wp2
        go_ret
        exact ⟨by rw [E0.out]; rfl, bA.out⟩
    · have g1 : (a == 0) = false := by rw [beq_eq_false_iff_ne]; exact q
      have E0 : Hid (E = false) := hE.trans (decide_eq_false fun c => q c.1)
      clear hE q
      go_enter Tryd.func24, Tryd.ntmps24
      go_wp2
      go_ret
      exact ⟨by rw [E0.out]; rfl, bA.out⟩
end Go.Proofs.YtojfcflkanohoaaDoor
