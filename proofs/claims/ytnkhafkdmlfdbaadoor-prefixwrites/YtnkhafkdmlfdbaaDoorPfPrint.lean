/-
  What the document's own Print answers, for every prefix. An address is a uint32, bits an int; no other condition.
-/
import Derived.Test.YtnkhafkdmlfdbaaDoorPfParse
import Derived.Test.YtnkhafkdmlfdbaaDoorPfRef
import Derived.Lib.QuietBelow
namespace Go.Proofs.YtnkhafkdmlfdbaaDoor
open Go.RowKit Go.Sort

set_option maxHeartbeats 1000000 in
theorem rprint_no (addr bits : Int) (w : World) (a0 : 0 ≤ addr) (a1 : addr < 4294967296) (h : rt addr bits = false) :
    Calls Tryd.prog 14 #[pv addr bits] w fun e w' => e = .returned (.string ⟨#[]⟩) ∧ Below w.heap.size w w' := by
  have C : Hid (∀ w, Calls Tryd.prog 25 #[pv addr bits] w fun e w' => e = .returned (.bool false) ∧ Below w.heap.size w w') := fun w => by
    have := rcheck_ok addr bits w a0 a1
    rwa [h] at this
  unfold pv at *
  go_enter Tryd.func14, Tryd.ntmps14
  go_wp2_with (go_at_call 25; refine (C.out _).mono ?_; rintro e w1 ⟨rfl, b1⟩)
  go_ret
  exact ⟨rfl, ((Below.refl _ _).alloc (Nat.le_refl _) _).trans (b1.mono (by simp))⟩
set_option maxHeartbeats 1000000 in
theorem rprint_ok (addr bits : Int) (w : World) (a0 : 0 ≤ addr) (a1 : addr < 4294967296) (h : rt addr bits = true) :
    Calls Tryd.prog 14 #[pv addr bits] w fun e w' => e = .returned (.string (prn addr bits)) ∧ Below w.heap.size w w' := by
  have C : Hid (∀ w, Calls Tryd.prog 25 #[pv addr bits] w fun e w' => e = .returned (.bool true) ∧ Below w.heap.size w w') := fun w => by
    have := rcheck_ok addr bits w a0 a1
    rwa [h] at this
  have hb := rt_bits h
  have j : txt addr ++ ByteArray.mk #[47] ++ strOfNums (dd bits) = prn addr bits := by
    have e : ByteArray.mk #[47] = strOfNums [47] := rfl
    rw [e]
    unfold txt
    rw [pf_append, pf_append]
    rfl
  rw [← j]
  have T : Hid (∀ w, _) := fun w => rtext_ok addr w a0 a1
  have N : Hid (∀ w, _) := fun w => number_ok bits w hb.1 (by omega)
  have z1 : (txt addr).size ≤ 15 := by have := tl_len addr; unfold txt; rw [strOfNums_size]; omega
  have z2 := (dd_len bits).2
  rw [← strOfNums_size] at z2
  have zp : (ByteArray.mk #[47]).size = 1 := rfl
  clear j hb h
  generalize txt addr = X at *
  generalize strOfNums (dd bits) = Y at *
  unfold pv at *
  have lt : ∀ o, w.heap.size < (w.alloc o).heap.size := fun o => by simp
  have X0 := pbox_new w addr bits
  go_enter Tryd.func14, Tryd.ntmps14
  go_wp2_with (go_at_call 25; refine (C.out _).mono ?_; rintro e w1 ⟨rfl, b1⟩; have X1 := X0.keep (lt _) b1; have k0 := cell_regrown X1.c0; have k1 := cell_regrown X1.c1; clear X1 X0)
  refine wp_region_quiet_below (by kernel_rfl) (by kernel_rfl) ?_
  repeat (go_big_quiet_step (first | (go_at_call 12; exact Calls.regrown_of (T.out _)) | (go_at_call 24; exact Calls.regrown_of (N.out _))))
  refine wpQuiet_nil ?_
  intro _ hw'
  obtain ⟨⟨dq, osq⟩, hw''⟩ := hw'
  subst hw''
  go_wp2
  go_ret
  exact ⟨rfl, (((Below.refl _ _).alloc (Nat.le_refl _) _).trans (b1.mono (by simp))).trans ((below_regrown _ dq osq).mono (Nat.le_trans (by simp) b1.size))⟩
end Go.Proofs.YtnkhafkdmlfdbaaDoor
