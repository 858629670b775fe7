/-
  The law PrefixEdges returns true for every prefix: a prefix has its ends, and no address next to them; what lies between them is covered by it alone. The card ties the tables and sentinels of Go's library to the program's text. No condition but the form's own reach.
-/
import Derived.Test.YtnkhafkdmlfdbabDoorPfWorks
import Derived.Test.YtnkhafkdmlfdbabDoorPfHalf
import Derived.Test.YtnkhafkdmlfdbabDoorPfTab
import Derived.Test.YtnkhafkdmlfdbabDoorPfOpen
import Derived.LaidLaws
namespace Go.Proofs.YtnkhafkdmlfdbabDoor.prefixEdges
open Go.ChangeShapes Go.WideShapes Go.ChangeAt Go.RowKit Go.Sort
open Go.ChangeMaps (open_string shut_string)

set_option maxHeartbeats 4000000 in
theorem walk_no (addr bits : Int) (w : World) (t : Tab w) (s0 : 0 ≤ addr) (s1 : addr < 4294967296) (h : rt addr bits = false) :
    Calls Tryd.prog 3 #[pv addr bits] w fun e w' => e = .returned (.bool true) ∧ Below w.heap.size w w' := by
  have WK : Hid (∀ w, Tab w → _) := works_ok
  have EN : Hid (∀ w, _) := fun w => ends_no addr bits w s0 s1 h
  have CP : Hid (∀ w, Calls Tryd.prog 6 #[pv addr bits] w fun e w' => e = .returned (.bool false) ∧ Below w.heap.size w w') := fun w => by
    have := check_ok addr bits w s0 s1
    rwa [h] at this
  have HP : Hid (∀ w, Calls Tryd.prog 7 #[pv addr bits, .int .u32 addr] w fun e w' => e = .returned (.bool false) ∧ Below w.heap.size w w') := fun w => by
    have := has_ok addr bits addr w s0 s1 s0 s1
    have e : inP addr bits addr = false := by unfold inP; rw [h, Bool.false_and, Bool.false_and]
    rwa [e] at this
  clear h
  unfold pv at *
  have lt : ∀ (w : World) o, w.heap.size < (w.alloc o).heap.size := fun w o => by simp
  have al : ∀ (w : World) o, Below w.heap.size w (w.alloc o) := fun w o => (Below.refl _ _).alloc (Nat.le_refl _) _
  have B0 : Hid (PBox (w.alloc (.cells #[.int .u32 addr, .int .i64 bits] 24)) w.heap.size addr bits) := pbox_new w addr bits
  have T0 : Hid (∀ o, Tab (w.alloc o)) := fun o => t.alloc o
  clear t
  go_enter Tryd.func3, Tryd.ntmps3
  go_wp2_with (first
    | (go_at_call 4; refine (WK.out _ (T0.out _)).mono ?_; rintro e w1 ⟨rfl, b1⟩; obtain ⟨l1, d0, d1⟩ := B0.out.keep (lt _ _) b1; have B1 : Hid (PBox w1 w.heap.size addr bits) := ⟨l1, d0, d1⟩; have Z1 : Hid (Below w.heap.size w w1) := (al w _).trans (b1.mono (al w _).size); clear b1 T0 B0)
    | (go_at_call 5; refine (EN.out _).mono ?_; rintro e w2 ⟨rfl, b2⟩; obtain ⟨l2, e0, e1⟩ := B1.out.keep B1.out.lt b2; have B2 : Hid (PBox w2 w.heap.size addr bits) := ⟨l2, e0, e1⟩; have Z2 : Hid (Below w.heap.size w w2) := Z1.out.trans (b2.mono Z1.out.size); clear b2 B1 Z1 d0 d1)
    | (go_at_call 6; refine (CP.out _).mono ?_; rintro e w3 ⟨rfl, b3⟩; obtain ⟨l3, f0, f1⟩ := B2.out.keep B2.out.lt b3; have B3 : Hid (PBox w3 w.heap.size addr bits) := ⟨l3, f0, f1⟩; have Z3 : Hid (Below w.heap.size w w3) := Z2.out.trans (b3.mono Z2.out.size); clear b3 B2 Z2 e0 e1)
    | (go_at_call 7; refine (HP.out _).mono ?_; rintro e w4 ⟨rfl, b4⟩; have Z4 : Hid (Below w.heap.size w w4) := Z3.out.trans (b4.mono Z3.out.size); clear b4 Z3))
  go_ret
  exact ⟨rfl, Z4.out⟩
set_option maxHeartbeats 4000000 in
theorem walk_zz (addr bits : Int) (w : World) (t : Tab w) (s0 : 0 ≤ addr) (s1 : addr < 4294967296) (h : rt addr bits = true) (q0 : addr = 0) (q1 : addr + sz bits - 1 = 4294967295) :
    Calls Tryd.prog 3 #[pv addr bits] w fun e w' => e = .returned (.bool true) ∧ Below w.heap.size w w' := by
  have WK : Hid (∀ w, Tab w → _) := works_ok
  have ei := edge_in h
  have hm := rt_room h s1
  have hz := sz_pos bits
  have EN : Hid (∀ w, _) := fun w => ends_ok addr bits w s0 s1 h
  have CP : Hid (∀ w, Calls Tryd.prog 6 #[pv addr bits] w fun e w' => e = .returned (.bool true) ∧ Below w.heap.size w w') := fun w => by
    have := check_ok addr bits w s0 s1
    rwa [h] at this
  have CV : Hid (∀ w, _) := fun w => cover_ok addr (addr + sz bits - 1) w _ s0 s1 (by omega) (by omega) (edge_cov h)
  have HA : Hid (∀ w, Calls Tryd.prog 7 #[pv addr bits, .int .u32 addr] w fun e w' => e = .returned (.bool true) ∧ Below w.heap.size w w') := fun w => by
    have := has_ok addr bits addr w s0 s1 s0 s1
    rwa [ei.1] at this
  have HH : Hid (∀ w, Calls Tryd.prog 7 #[pv addr bits, .int .u32 (addr + sz bits - 1)] w fun e w' => e = .returned (.bool true) ∧ Below w.heap.size w w') := fun w => by
    have := has_ok addr bits (addr + sz bits - 1) w s0 s1 (by omega) (by omega)
    rwa [ei.2.1] at this
  clear ei h
  generalize hhi : addr + sz bits - 1 = hi at *
  have h0 : 0 ≤ hi := by omega
  have h1 : hi < 4294967296 := by omega
  have g0 : (addr == 0) = true := by simp; exact q0
  have g1 : (hi == 4294967295) = true := by simp; exact q1
  clear hhi hm hz
  clear q0 q1
  unfold pv at *
  have lt : ∀ (w : World) o, w.heap.size < (w.alloc o).heap.size := fun w o => by simp
  have al : ∀ (w : World) o, Below w.heap.size w (w.alloc o) := fun w o => (Below.refl _ _).alloc (Nat.le_refl _) _
  have B0 : Hid (PBox (w.alloc (.cells #[.int .u32 addr, .int .i64 bits] 24)) w.heap.size addr bits) := pbox_new w addr bits
  have T0 : Hid (∀ o, Tab (w.alloc o)) := fun o => t.alloc o
  clear t
  go_enter Tryd.func3, Tryd.ntmps3
  go_wp2_with (first
    | (go_at_call 4; refine (WK.out _ (T0.out _)).mono ?_; rintro e w1 ⟨rfl, b1⟩; obtain ⟨l1, d0, d1⟩ := B0.out.keep (lt _ _) b1; have B1 : Hid (PBox w1 w.heap.size addr bits) := ⟨l1, d0, d1⟩; have Z1 : Hid (Below w.heap.size w w1) := (al w _).trans (b1.mono (al w _).size); clear b1 T0 B0)
    | (go_at_call 5; refine (EN.out _).mono ?_; rintro e w2 ⟨rfl, b2⟩; obtain ⟨l2, e0, e1⟩ := B1.out.keep B1.out.lt b2; have B2 : Hid (PBox w2 w.heap.size addr bits) := ⟨l2, e0, e1⟩; have Z2 : Hid (Below w.heap.size w w2) := Z1.out.trans (b2.mono Z1.out.size); clear b2 B1 Z1 d0 d1)
    | (go_at_call 6; refine (CP.out _).mono ?_; rintro e w3 ⟨rfl, b3⟩; obtain ⟨l3, f0, f1⟩ := B2.out.keep B2.out.lt b3; have B3 : Hid (PBox w3 w.heap.size addr bits) := ⟨l3, f0, f1⟩; have Z3 : Hid (Below w.heap.size w w3) := Z2.out.trans (b3.mono Z2.out.size); clear b3 B2 Z2 e0 e1)
    | (go_at_call 8; refine (CV.out _).mono ?_; rintro e w4 ⟨v4, rfl, o4, b4⟩; have B4 := B3.out.keep B3.out.lt b4; have Z4 : Hid (Below w.heap.size w w4) := Z3.out.trans (b4.mono Z3.out.size); obtain ⟨p4, q4, rfl, D4⟩ := own_slice o4; obtain ⟨g, rfl, lg, _, hcap, cc⟩ := D4.out (by simp); have k0 := cell_regrown B4.c0; have k1 := cell_regrown B4.c1; have k2 := cell_regrown ((cc 0 (by simp)).trans (show _ = some (.int .u32 addr) from rfl)); have k3 := cell_regrown ((cc 1 (by simp)).trans (show _ = some (.int .i64 bits) from rfl)); clear b4 o4 D4 cc B3 Z3 B4 f0 f1))
  refine wp_region_quiet_below (by kernel_rfl) (by kernel_rfl) ?_
  repeat (go_big_quiet_step (first | (go_at_call_of 7 hi; exact Calls.regrown_of (HH.out _)) | (go_at_call_of 7 addr; exact Calls.regrown_of (HA.out _))))
  refine wpQuiet_nil ?_
  intro _ hw'
  obtain ⟨⟨dq, osq⟩, hw''⟩ := hw'
  subst hw''
  go_wp2
  go_ret
  exact ⟨rfl, Z4.out.trans ((below_regrown _ dq osq).mono Z4.out.size)⟩
set_option maxHeartbeats 4000000 in
theorem walk_zn (addr bits : Int) (w : World) (t : Tab w) (s0 : 0 ≤ addr) (s1 : addr < 4294967296) (h : rt addr bits = true) (q0 : addr = 0) (q1 : addr + sz bits - 1 ≠ 4294967295) :
    Calls Tryd.prog 3 #[pv addr bits] w fun e w' => e = .returned (.bool true) ∧ Below w.heap.size w w' := by
  have WK : Hid (∀ w, Tab w → _) := works_ok
  have ei := edge_in h
  have hm := rt_room h s1
  have hz := sz_pos bits
  have EN : Hid (∀ w, _) := fun w => ends_ok addr bits w s0 s1 h
  have CP : Hid (∀ w, Calls Tryd.prog 6 #[pv addr bits] w fun e w' => e = .returned (.bool true) ∧ Below w.heap.size w w') := fun w => by
    have := check_ok addr bits w s0 s1
    rwa [h] at this
  have CV : Hid (∀ w, _) := fun w => cover_ok addr (addr + sz bits - 1) w _ s0 s1 (by omega) (by omega) (edge_cov h)
  have HA : Hid (∀ w, Calls Tryd.prog 7 #[pv addr bits, .int .u32 addr] w fun e w' => e = .returned (.bool true) ∧ Below w.heap.size w w') := fun w => by
    have := has_ok addr bits addr w s0 s1 s0 s1
    rwa [ei.1] at this
  have HH : Hid (∀ w, Calls Tryd.prog 7 #[pv addr bits, .int .u32 (addr + sz bits - 1)] w fun e w' => e = .returned (.bool true) ∧ Below w.heap.size w w') := fun w => by
    have := has_ok addr bits (addr + sz bits - 1) w s0 s1 (by omega) (by omega)
    rwa [ei.2.1] at this
  have HU : Hid (∀ w, Calls Tryd.prog 7 #[pv addr bits, .int .u32 (addr + sz bits - 1 + 1)] w fun e w' => e = .returned (.bool false) ∧ Below w.heap.size w w') := fun w => by
    have := has_ok addr bits (addr + sz bits - 1 + 1) w s0 s1 (by omega) (by omega)
    rw [show addr + sz bits - 1 + 1 = addr + sz bits by omega] at this ⊢
    rwa [ei.2.2.2] at this
  clear ei h
  generalize hhi : addr + sz bits - 1 = hi at *
  have h0 : 0 ≤ hi := by omega
  have h1 : hi < 4294967296 := by omega
  have g0 : (addr == 0) = true := by simp; exact q0
  have g1 : (hi == 4294967295) = false := by simp; exact q1
  clear hhi hm hz
  have wu : IntKind.u32.wrap (hi + 1) = hi + 1 := by simp [IntKind.wrap, IntKind.bits, IntKind.signed]; omega
  generalize hu1 : hi + 1 = up at *
  clear q0 q1
  unfold pv at *
  have lt : ∀ (w : World) o, w.heap.size < (w.alloc o).heap.size := fun w o => by simp
  have al : ∀ (w : World) o, Below w.heap.size w (w.alloc o) := fun w o => (Below.refl _ _).alloc (Nat.le_refl _) _
  have B0 : Hid (PBox (w.alloc (.cells #[.int .u32 addr, .int .i64 bits] 24)) w.heap.size addr bits) := pbox_new w addr bits
  have T0 : Hid (∀ o, Tab (w.alloc o)) := fun o => t.alloc o
  clear t
  go_enter Tryd.func3, Tryd.ntmps3
  go_wp2_with (first
    | (go_at_call 4; refine (WK.out _ (T0.out _)).mono ?_; rintro e w1 ⟨rfl, b1⟩; obtain ⟨l1, d0, d1⟩ := B0.out.keep (lt _ _) b1; have B1 : Hid (PBox w1 w.heap.size addr bits) := ⟨l1, d0, d1⟩; have Z1 : Hid (Below w.heap.size w w1) := (al w _).trans (b1.mono (al w _).size); clear b1 T0 B0)
    | (go_at_call 5; refine (EN.out _).mono ?_; rintro e w2 ⟨rfl, b2⟩; obtain ⟨l2, e0, e1⟩ := B1.out.keep B1.out.lt b2; have B2 : Hid (PBox w2 w.heap.size addr bits) := ⟨l2, e0, e1⟩; have Z2 : Hid (Below w.heap.size w w2) := Z1.out.trans (b2.mono Z1.out.size); clear b2 B1 Z1 d0 d1)
    | (go_at_call 6; refine (CP.out _).mono ?_; rintro e w3 ⟨rfl, b3⟩; obtain ⟨l3, f0, f1⟩ := B2.out.keep B2.out.lt b3; have B3 : Hid (PBox w3 w.heap.size addr bits) := ⟨l3, f0, f1⟩; have Z3 : Hid (Below w.heap.size w w3) := Z2.out.trans (b3.mono Z2.out.size); clear b3 B2 Z2 e0 e1)
    | (go_at_call 8; refine (CV.out _).mono ?_; rintro e w4 ⟨v4, rfl, o4, b4⟩; have B4 := B3.out.keep B3.out.lt b4; have Z4 : Hid (Below w.heap.size w w4) := Z3.out.trans (b4.mono Z3.out.size); obtain ⟨p4, q4, rfl, D4⟩ := own_slice o4; obtain ⟨g, rfl, lg, _, hcap, cc⟩ := D4.out (by simp); have k0 := cell_regrown B4.c0; have k1 := cell_regrown B4.c1; have k2 := cell_regrown ((cc 0 (by simp)).trans (show _ = some (.int .u32 addr) from rfl)); have k3 := cell_regrown ((cc 1 (by simp)).trans (show _ = some (.int .i64 bits) from rfl)); clear b4 o4 D4 cc B3 Z3 B4 f0 f1))
  refine wp_region_quiet_below (by kernel_rfl) (by kernel_rfl) ?_
  repeat (go_big_quiet_step (first | (go_at_call_of 7 up; exact Calls.regrown_of (HU.out _)) | (go_at_call_of 7 hi; exact Calls.regrown_of (HH.out _)) | (go_at_call_of 7 addr; exact Calls.regrown_of (HA.out _))))
  refine wpQuiet_nil ?_
  intro _ hw'
  obtain ⟨⟨dq, osq⟩, hw''⟩ := hw'
  subst hw''
  go_wp2
  go_ret
  exact ⟨rfl, Z4.out.trans ((below_regrown _ dq osq).mono Z4.out.size)⟩
set_option maxHeartbeats 4000000 in
theorem walk_nz (addr bits : Int) (w : World) (t : Tab w) (s0 : 0 ≤ addr) (s1 : addr < 4294967296) (h : rt addr bits = true) (q0 : addr ≠ 0) (q1 : addr + sz bits - 1 = 4294967295) :
    Calls Tryd.prog 3 #[pv addr bits] w fun e w' => e = .returned (.bool true) ∧ Below w.heap.size w w' := by
  have WK : Hid (∀ w, Tab w → _) := works_ok
  have ei := edge_in h
  have hm := rt_room h s1
  have hz := sz_pos bits
  have EN : Hid (∀ w, _) := fun w => ends_ok addr bits w s0 s1 h
  have CP : Hid (∀ w, Calls Tryd.prog 6 #[pv addr bits] w fun e w' => e = .returned (.bool true) ∧ Below w.heap.size w w') := fun w => by
    have := check_ok addr bits w s0 s1
    rwa [h] at this
  have CV : Hid (∀ w, _) := fun w => cover_ok addr (addr + sz bits - 1) w _ s0 s1 (by omega) (by omega) (edge_cov h)
  have HA : Hid (∀ w, Calls Tryd.prog 7 #[pv addr bits, .int .u32 addr] w fun e w' => e = .returned (.bool true) ∧ Below w.heap.size w w') := fun w => by
    have := has_ok addr bits addr w s0 s1 s0 s1
    rwa [ei.1] at this
  have HH : Hid (∀ w, Calls Tryd.prog 7 #[pv addr bits, .int .u32 (addr + sz bits - 1)] w fun e w' => e = .returned (.bool true) ∧ Below w.heap.size w w') := fun w => by
    have := has_ok addr bits (addr + sz bits - 1) w s0 s1 (by omega) (by omega)
    rwa [ei.2.1] at this
  have HL : Hid (∀ w, Calls Tryd.prog 7 #[pv addr bits, .int .u32 (addr - 1)] w fun e w' => e = .returned (.bool false) ∧ Below w.heap.size w w') := fun w => by
    have := has_ok addr bits (addr - 1) w s0 s1 (by omega) (by omega)
    rwa [ei.2.2.1] at this
  clear ei h
  generalize hhi : addr + sz bits - 1 = hi at *
  have h0 : 0 ≤ hi := by omega
  have h1 : hi < 4294967296 := by omega
  have g0 : (addr == 0) = false := by simp; exact q0
  have g1 : (hi == 4294967295) = true := by simp; exact q1
  clear hhi hm hz
  have wl : IntKind.u32.wrap (addr - 1) = addr - 1 := by simp [IntKind.wrap, IntKind.bits, IntKind.signed]; omega
  generalize hl1 : addr - 1 = dn at *
  clear q0 q1
  unfold pv at *
  have lt : ∀ (w : World) o, w.heap.size < (w.alloc o).heap.size := fun w o => by simp
  have al : ∀ (w : World) o, Below w.heap.size w (w.alloc o) := fun w o => (Below.refl _ _).alloc (Nat.le_refl _) _
  have B0 : Hid (PBox (w.alloc (.cells #[.int .u32 addr, .int .i64 bits] 24)) w.heap.size addr bits) := pbox_new w addr bits
  have T0 : Hid (∀ o, Tab (w.alloc o)) := fun o => t.alloc o
  clear t
  go_enter Tryd.func3, Tryd.ntmps3
  go_wp2_with (first
    | (go_at_call 4; refine (WK.out _ (T0.out _)).mono ?_; rintro e w1 ⟨rfl, b1⟩; obtain ⟨l1, d0, d1⟩ := B0.out.keep (lt _ _) b1; have B1 : Hid (PBox w1 w.heap.size addr bits) := ⟨l1, d0, d1⟩; have Z1 : Hid (Below w.heap.size w w1) := (al w _).trans (b1.mono (al w _).size); clear b1 T0 B0)
    | (go_at_call 5; refine (EN.out _).mono ?_; rintro e w2 ⟨rfl, b2⟩; obtain ⟨l2, e0, e1⟩ := B1.out.keep B1.out.lt b2; have B2 : Hid (PBox w2 w.heap.size addr bits) := ⟨l2, e0, e1⟩; have Z2 : Hid (Below w.heap.size w w2) := Z1.out.trans (b2.mono Z1.out.size); clear b2 B1 Z1 d0 d1)
    | (go_at_call 6; refine (CP.out _).mono ?_; rintro e w3 ⟨rfl, b3⟩; obtain ⟨l3, f0, f1⟩ := B2.out.keep B2.out.lt b3; have B3 : Hid (PBox w3 w.heap.size addr bits) := ⟨l3, f0, f1⟩; have Z3 : Hid (Below w.heap.size w w3) := Z2.out.trans (b3.mono Z2.out.size); clear b3 B2 Z2 e0 e1)
    | (go_at_call 8; refine (CV.out _).mono ?_; rintro e w4 ⟨v4, rfl, o4, b4⟩; have B4 := B3.out.keep B3.out.lt b4; have Z4 : Hid (Below w.heap.size w w4) := Z3.out.trans (b4.mono Z3.out.size); obtain ⟨p4, q4, rfl, D4⟩ := own_slice o4; obtain ⟨g, rfl, lg, _, hcap, cc⟩ := D4.out (by simp); have k0 := cell_regrown B4.c0; have k1 := cell_regrown B4.c1; have k2 := cell_regrown ((cc 0 (by simp)).trans (show _ = some (.int .u32 addr) from rfl)); have k3 := cell_regrown ((cc 1 (by simp)).trans (show _ = some (.int .i64 bits) from rfl)); clear b4 o4 D4 cc B3 Z3 B4 f0 f1))
  refine wp_region_quiet_below (by kernel_rfl) (by kernel_rfl) ?_
  repeat (go_big_quiet_step (first | (go_at_call_of 7 dn; exact Calls.regrown_of (HL.out _)) | (go_at_call_of 7 hi; exact Calls.regrown_of (HH.out _)) | (go_at_call_of 7 addr; exact Calls.regrown_of (HA.out _))))
  refine wpQuiet_nil ?_
  intro _ hw'
  obtain ⟨⟨dq, osq⟩, hw''⟩ := hw'
  subst hw''
  go_wp2
  go_ret
  exact ⟨rfl, Z4.out.trans ((below_regrown _ dq osq).mono Z4.out.size)⟩
set_option maxHeartbeats 4000000 in
theorem walk_nn (addr bits : Int) (w : World) (t : Tab w) (s0 : 0 ≤ addr) (s1 : addr < 4294967296) (h : rt addr bits = true) (q0 : addr ≠ 0) (q1 : addr + sz bits - 1 ≠ 4294967295) :
    Calls Tryd.prog 3 #[pv addr bits] w fun e w' => e = .returned (.bool true) ∧ Below w.heap.size w w' := by
  have WK : Hid (∀ w, Tab w → _) := works_ok
  have ei := edge_in h
  have hm := rt_room h s1
  have hz := sz_pos bits
  have EN : Hid (∀ w, _) := fun w => ends_ok addr bits w s0 s1 h
  have CP : Hid (∀ w, Calls Tryd.prog 6 #[pv addr bits] w fun e w' => e = .returned (.bool true) ∧ Below w.heap.size w w') := fun w => by
    have := check_ok addr bits w s0 s1
    rwa [h] at this
  have CV : Hid (∀ w, _) := fun w => cover_ok addr (addr + sz bits - 1) w _ s0 s1 (by omega) (by omega) (edge_cov h)
  have HA : Hid (∀ w, Calls Tryd.prog 7 #[pv addr bits, .int .u32 addr] w fun e w' => e = .returned (.bool true) ∧ Below w.heap.size w w') := fun w => by
    have := has_ok addr bits addr w s0 s1 s0 s1
    rwa [ei.1] at this
  have HH : Hid (∀ w, Calls Tryd.prog 7 #[pv addr bits, .int .u32 (addr + sz bits - 1)] w fun e w' => e = .returned (.bool true) ∧ Below w.heap.size w w') := fun w => by
    have := has_ok addr bits (addr + sz bits - 1) w s0 s1 (by omega) (by omega)
    rwa [ei.2.1] at this
  have HU : Hid (∀ w, Calls Tryd.prog 7 #[pv addr bits, .int .u32 (addr + sz bits - 1 + 1)] w fun e w' => e = .returned (.bool false) ∧ Below w.heap.size w w') := fun w => by
    have := has_ok addr bits (addr + sz bits - 1 + 1) w s0 s1 (by omega) (by omega)
    rw [show addr + sz bits - 1 + 1 = addr + sz bits by omega] at this ⊢
    rwa [ei.2.2.2] at this
  have HL : Hid (∀ w, Calls Tryd.prog 7 #[pv addr bits, .int .u32 (addr - 1)] w fun e w' => e = .returned (.bool false) ∧ Below w.heap.size w w') := fun w => by
    have := has_ok addr bits (addr - 1) w s0 s1 (by omega) (by omega)
    rwa [ei.2.2.1] at this
  clear ei h
  generalize hhi : addr + sz bits - 1 = hi at *
  have h0 : 0 ≤ hi := by omega
  have h1 : hi < 4294967296 := by omega
  have g0 : (addr == 0) = false := by simp; exact q0
  have g1 : (hi == 4294967295) = false := by simp; exact q1
  clear hhi hm hz
  have wu : IntKind.u32.wrap (hi + 1) = hi + 1 := by simp [IntKind.wrap, IntKind.bits, IntKind.signed]; omega
  generalize hu1 : hi + 1 = up at *
  have wl : IntKind.u32.wrap (addr - 1) = addr - 1 := by simp [IntKind.wrap, IntKind.bits, IntKind.signed]; omega
  generalize hl1 : addr - 1 = dn at *
  clear q0 q1
  unfold pv at *
  have lt : ∀ (w : World) o, w.heap.size < (w.alloc o).heap.size := fun w o => by simp
  have al : ∀ (w : World) o, Below w.heap.size w (w.alloc o) := fun w o => (Below.refl _ _).alloc (Nat.le_refl _) _
  have B0 : Hid (PBox (w.alloc (.cells #[.int .u32 addr, .int .i64 bits] 24)) w.heap.size addr bits) := pbox_new w addr bits
  have T0 : Hid (∀ o, Tab (w.alloc o)) := fun o => t.alloc o
  clear t
  go_enter Tryd.func3, Tryd.ntmps3
  go_wp2_with (first
    | (go_at_call 4; refine (WK.out _ (T0.out _)).mono ?_; rintro e w1 ⟨rfl, b1⟩; obtain ⟨l1, d0, d1⟩ := B0.out.keep (lt _ _) b1; have B1 : Hid (PBox w1 w.heap.size addr bits) := ⟨l1, d0, d1⟩; have Z1 : Hid (Below w.heap.size w w1) := (al w _).trans (b1.mono (al w _).size); clear b1 T0 B0)
    | (go_at_call 5; refine (EN.out _).mono ?_; rintro e w2 ⟨rfl, b2⟩; obtain ⟨l2, e0, e1⟩ := B1.out.keep B1.out.lt b2; have B2 : Hid (PBox w2 w.heap.size addr bits) := ⟨l2, e0, e1⟩; have Z2 : Hid (Below w.heap.size w w2) := Z1.out.trans (b2.mono Z1.out.size); clear b2 B1 Z1 d0 d1)
    | (go_at_call 6; refine (CP.out _).mono ?_; rintro e w3 ⟨rfl, b3⟩; obtain ⟨l3, f0, f1⟩ := B2.out.keep B2.out.lt b3; have B3 : Hid (PBox w3 w.heap.size addr bits) := ⟨l3, f0, f1⟩; have Z3 : Hid (Below w.heap.size w w3) := Z2.out.trans (b3.mono Z2.out.size); clear b3 B2 Z2 e0 e1)
    | (go_at_call 8; refine (CV.out _).mono ?_; rintro e w4 ⟨v4, rfl, o4, b4⟩; have B4 := B3.out.keep B3.out.lt b4; have Z4 : Hid (Below w.heap.size w w4) := Z3.out.trans (b4.mono Z3.out.size); obtain ⟨p4, q4, rfl, D4⟩ := own_slice o4; obtain ⟨g, rfl, lg, _, hcap, cc⟩ := D4.out (by simp); have k0 := cell_regrown B4.c0; have k1 := cell_regrown B4.c1; have k2 := cell_regrown ((cc 0 (by simp)).trans (show _ = some (.int .u32 addr) from rfl)); have k3 := cell_regrown ((cc 1 (by simp)).trans (show _ = some (.int .i64 bits) from rfl)); clear b4 o4 D4 cc B3 Z3 B4 f0 f1))
  refine wp_region_quiet_below (by kernel_rfl) (by kernel_rfl) ?_
  repeat (go_big_quiet_step (first | (go_at_call_of 7 dn; exact Calls.regrown_of (HL.out _)) | (go_at_call_of 7 up; exact Calls.regrown_of (HU.out _)) | (go_at_call_of 7 hi; exact Calls.regrown_of (HH.out _)) | (go_at_call_of 7 addr; exact Calls.regrown_of (HA.out _))))
  refine wpQuiet_nil ?_
  intro _ hw'
  obtain ⟨⟨dq, osq⟩, hw''⟩ := hw'
  subst hw''
  go_wp2
  go_ret
  exact ⟨rfl, Z4.out.trans ((below_regrown _ dq osq).mono Z4.out.size)⟩
theorem walk (addr bits : Int) (w : World) (t : Tab w) (s0 : 0 ≤ addr) (s1 : addr < 4294967296) :
    Calls Tryd.prog 3 #[pv addr bits] w fun e w' => e = .returned (.bool true) ∧ Below w.heap.size w w' := by
  cases h : rt addr bits with
  | false => exact walk_no addr bits w t s0 s1 h
  | true =>
    by_cases q0 : addr = 0
    · by_cases q1 : addr + sz bits - 1 = 4294967295
      · exact walk_zz addr bits w t s0 s1 h q0 q1
      · exact walk_zn addr bits w t s0 s1 h q0 q1
    · by_cases q1 : addr + sz bits - 1 = 4294967295
      · exact walk_nz addr bits w t s0 s1 h q0 q1
      · exact walk_nn addr bits w t s0 s1 h q0 q1

set_option maxRecDepth 100000 in
theorem contract (H : Type) (enc : TypeId × Value → H) (W : World) (base : Nat) (args : Array Value) (ds gs : List (DataW H)) (before : List MemPlace)
    (hval : ∀ (j : Nat) t v, Tryd.f3.params[j]? = some t → args[j]? = some v → Value.okWide Tryd.prog W .any base t v)
    (hW : DataW.Whole enc Tryd.prog Tryd.f3.params.toList Rows.prefixEdgesSpec.vars false W args.toList ds gs before) (hT : Tab W) :
    Calls Tryd.prog 3 args W fun e W' => ∃ v, e = .returned v ∧ Rows.prefixEdgesSpec.post enc Tryd.prog Tryd.f3 false true false false W args v W' := by
  have hW' := hW
  obtain ⟨p, q, hA0, hV, rfl, hfz, hnd⟩ := hW
  have hA : DataW.TrodAll enc Tryd.prog W 0 (fun _ => true) true Tryd.f3.params.toList args.toList ds p := hA0
  rw [Tryd.params3] at hA hval
  obtain ⟨v0, vs0, d0, ds0, p0, q0, hargs, rfl, rfl, h0, r0⟩ := trodAll_cons hA
  obtain ⟨rfl, rfl, rfl⟩ := trodAll_nil r0
  obtain rfl : args = #[v0] := by cases args; simp_all
  obtain ⟨rfl, rfl⟩ := trodVars_none hV
  have k0 := h0
  have lt0 : ∀ x ∈ p0, x.block < W.heap.size := by obtain ⟨m, hm⟩ := k0; exact DataW.trod_lt m _ _ _ hm
  obtain ⟨addr, bits, rfl, s0, s1, z0, y0⟩ := open_pfx (hval 0 24 v0 rfl rfl) h0
  clear hA0
  simp only [List.append_nil] at hW'
  refine (walk addr bits W hT s0 s1).mono fun e W' ⟨he, bel⟩ => ?_
  subst he
  exact ⟨_, rfl, _, _, _, [], _, [], hW', trodAll_mk1 (shut_bool Tryd.underlying4 _), (trodAll_cons_mk (Below.trod laidOut (by kernel_rfl) (of_decide_eq_true (by kernel_rfl)) k0 bel lt0) trodAll_mk0), rfl, bel.frame _, fun h => by cases h⟩

set_option maxRecDepth 100000 in
theorem lifted (os : Os) (started : os.Started) (H : Type) (enc : TypeId × Value → H) :
    ReturnsInHanded {} Tryd.checked os 3 .any (fun w args => (Rows.prefixEdgesSpec.pre enc Tryd.prog Tryd.f3 Rows.prefixEdgesRow.domain false w args ∧ laidMetH Tryd.prog Rows.prefixEdgesRow.laid w) ∧ sizedMet enc Tryd.prog Tryd.f3 (OpenSpec.ofChange Rows.prefixEdgesSpec) false w args)
      (Rows.prefixEdgesSpec.post enc Tryd.prog Tryd.f3 false true false false) := by
  refine returnsInHanded_of_change_and (C := Tryd.checked) (X := fun w _ => laidMetH Tryd.prog Rows.prefixEdgesRow.laid w) (fun _ _ _ hh h => h.of_heap hh) own started (by kernel_rfl) Tryd.func3
    (ChangeSpec.witness_shaped (enc := enc) (C := Tryd.checked) (os := os) (X := fun w _ => laidMetH Tryd.prog Rows.prefixEdgesRow.laid w) false (World.laidAll Tryd.prog os Rows.prefixEdgesRow.laid) #[.agg #[.int .u32 0, .int .i64 0]] 8 (World.laidAll_os _ _ _)
      (World.shaped_of_ZipB (by kernel_rfl) (by kernel_rfl)) (by kernel_rfl) (by kernel_rfl) (by kernel_rfl)
      (by rw [MakeChecks.laidMetH_plain _ _ _ (by kernel_rfl)]; exact laidMet_laidAll _ (by kernel_rfl) (by kernel_rfl))) ?_
  intro W base args ds gs before hval hW _ _ hL _
  have hL' : laidMet Tryd.prog Rows.prefixEdgesRow.laid W := by
    rw [MakeChecks.laidMetH_plain _ _ _ (by kernel_rfl)] at hL
    exact hL
  exact contract H enc W base args ds gs before hval hW (tabOf rfl hL')

theorem said : Rows.PrefixEdgesSaid :=
  OpenClaim.holds_of_wide 3 Tryd.f3 rfl rfl rfl rfl rfl rfl rfl ⟨rfl, rfl, rfl, rfl, rfl⟩ rfl rfl rfl rfl rfl (by kernel_rfl) Tryd.func3 (by kernel_rfl)
    (of_decide_eq_true (by kernel_rfl)) (by unfold Func.isWrapper; first | (rw [if_pos (by decide +kernel)]; kernel_rfl) | (rw [if_neg (by decide +kernel)]; exact ⟨rfl, rfl⟩))
    (fun os started H enc _ => lifted os started H enc)

theorem plain (f : FuncId) (fn : Func) (hf : Tryd.pinned.checked.prog.funcNamed Rows.prefixEdgesRow.func = some f) (hfn : Tryd.pinned.checked.prog.funcs[f]? = some fn) :
    (Tryd.pinned.checked.prog.looks [] = Tryd.pinned.checked.prog.looks []) ∧ ∀ (j : Nat) t, fn.params[j]? = some t → Tryd.pinned.checked.prog.wantsStandIn t = false := by
  obtain rfl : f = 3 := Option.some.inj ((show Tryd.prog.funcNamed Rows.prefixEdgesRow.func = some 3 by kernel_rfl).symm.trans hf) |>.symm
  obtain rfl : fn = Tryd.f3 := (Option.some.inj (Tryd.func3.symm.trans hfn)).symm
  refine ⟨rfl, fun j t ht => ?_⟩
  rw [Tryd.params3] at ht
  have hm : t ∈ [24] := by simpa using Array.mem_of_getElem? ht
  have hall : ([24].all fun u => !Tryd.prog.wantsStandIn u) = true := by kernel_rfl
  exact (show Tryd.prog.wantsStandIn t = false by simpa using List.all_eq_true.1 hall t hm)
theorem card : Rows.PrefixEdgesCardSaid :=
  Claim7.holds_tied_plain_at .later [] _ _ _ _ said (fun _ h => by cases h) (by kernel_rfl) (fun _ h => by cases h) prefixEdges_row_tie rfl ⟨rfl, rfl⟩ (by kernel_rfl) rfl (fun f fn hf hfn => ⟨by kernel_rfl, (plain f fn hf hfn).2⟩) (by kernel_rfl)
end Go.Proofs.YtnkhafkdmlfdbabDoor.prefixEdges
namespace Go.Proofs.YtnkhafkdmlfdbabDoor
theorem prefixEdges_card : Rows.PrefixEdgesCardSaid := prefixEdges.card
end Go.Proofs.YtnkhafkdmlfdbabDoor
