/-
  What the program's own Print answers, for every prefix. An address is a uint32, bits an int; the tables of Go's library lie as the row's list gives them.
-/
import Derived.Test.YtnkhafkdmlfdbabDoorPfTxt
import Derived.Test.YtnkhafkdmlfdbabDoorPfOwn
namespace Go.Proofs.YtnkhafkdmlfdbabDoor
open Go.RowKit Go.Sort

set_option maxHeartbeats 1000000 in
theorem print_no (addr bits : Int) (w : World) (a0 : 0 ≤ addr) (a1 : addr < 4294967296) (h : rt addr bits = false) :
    Calls Tryd.prog 10 #[pv addr bits] w fun e w' => e = .returned (.string ⟨#[]⟩) ∧ Below w.heap.size w w' := by
  have C : Hid (∀ w, Calls Tryd.prog 6 #[pv addr bits] w fun e w' => e = .returned (.bool false) ∧ Below w.heap.size w w') := fun w => by
    have := check_ok addr bits w a0 a1
    rwa [h] at this
  unfold pv at *
  go_enter Tryd.func10, Tryd.ntmps10
  go_wp2_with (go_at_call 6; refine (C.out _).mono ?_; rintro e w1 ⟨rfl, b1⟩)
  go_ret
  exact ⟨rfl, ((Below.refl _ _).alloc (Nat.le_refl _) _).trans (b1.mono (by simp))⟩
set_option maxHeartbeats 1000000 in
theorem print_ok (addr bits : Int) (w : World) (t : Tab w) (a0 : 0 ≤ addr) (a1 : addr < 4294967296) (h : rt addr bits = true) :
    Calls Tryd.prog 10 #[pv addr bits] w fun e w' => e = .returned (.string (prn addr bits)) ∧ Below w.heap.size w w' := by
  have C : Hid (∀ w, Calls Tryd.prog 6 #[pv addr bits] w fun e w' => e = .returned (.bool true) ∧ Below w.heap.size w w') := fun w => by
    have := check_ok addr bits w a0 a1
    rwa [h] at this
  have hb := rt_bits h
  have j : txt addr ++ ByteArray.mk #[47] ++ strOfNums (dd bits) = prn addr bits := by
    have e : ByteArray.mk #[47] = strOfNums [47] := rfl
    rw [e]
    unfold txt
    rw [pf_append, pf_append]
    rfl
  rw [← j]
  have T : Hid (∀ w, Tab w → _) := fun w t => text_ok addr w t a0 a1
  have N : Hid (∀ w, Tab w → _) := fun w t => itoa_ok bits w t hb.1 (by omega)
  have z1 : (txt addr).size ≤ 15 := by have := tl_len addr; unfold txt; rw [strOfNums_size]; omega
  have z2 := (dd_len bits).2
  rw [← strOfNums_size] at z2
  have zp : (ByteArray.mk #[47]).size = 1 := rfl
  clear j hb h
  generalize txt addr = X at *
  generalize strOfNums (dd bits) = Y at *
  unfold pv at *
  have lt : ∀ o, w.heap.size < (w.alloc o).heap.size := fun o => by simp
  have X0 := pbox_new w addr bits
  have T0 : Hid (∀ o, Tab (w.alloc o)) := fun o => t.alloc o
  clear t
  go_enter Tryd.func10, Tryd.ntmps10
  go_wp2_with (go_at_call 6; refine (C.out _).mono ?_; rintro e w1 ⟨rfl, b1⟩; have X1 := X0.keep (lt _) b1; have k0 := cell_regrown X1.c0; have k1 := cell_regrown X1.c1; have TR : Hid (∀ d os, Tab (grow (redrawn w1 d) os)) := (fun d os => ((T0.out _).keep b1).keep (below_regrown w1 d os)); have Z1 : Hid (Below w.heap.size w w1) := ((Below.refl _ _).alloc (Nat.le_refl _) _).trans (b1.mono (by simp)); clear X1 X0 T0 b1)
  refine wp_region_quiet_below (by kernel_rfl) (by kernel_rfl) ?_
  repeat (go_big_quiet_step (first | (go_at_call 14; exact Calls.regrown_of (T.out _ (TR.out _ _))) | (go_at_call 15; exact Calls.regrown_of (N.out _ (TR.out _ _)))))
  refine wpQuiet_nil ?_
  intro _ hw'
  obtain ⟨⟨dq, osq⟩, hw''⟩ := hw'
  subst hw''
  go_wp2
  go_ret
  exact ⟨rfl, Z1.out.trans ((below_regrown _ dq osq).mono Z1.out.size)⟩
theorem print_any (addr bits : Int) (w : World) (t : Tab w) (a0 : 0 ≤ addr) (a1 : addr < 4294967296) :
    Calls Tryd.prog 10 #[pv addr bits] w fun e w' => e = .returned (.string (prs addr bits)) ∧ Below w.heap.size w w' := by
  unfold prs
  by_cases h : rt addr bits = true
  · rw [if_pos h]; exact print_ok addr bits w t a0 a1 h
  · rw [if_neg h]; exact print_no addr bits w a0 a1 (by simpa using h)
end Go.Proofs.YtnkhafkdmlfdbabDoor
