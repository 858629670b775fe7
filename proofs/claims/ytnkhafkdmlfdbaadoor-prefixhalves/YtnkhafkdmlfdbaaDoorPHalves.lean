/-
  The law PrefixHalves returns true for every prefix and address: a prefix with a bit to spare is its two halves. The card ties the tables and sentinels of Go's library to the program's text. No condition but the form's own reach.
-/
import Derived.Test.YtnkhafkdmlfdbaaDoorPfWorks
import Derived.Test.YtnkhafkdmlfdbaaDoorPfHalf
import Derived.BigRegion
import Derived.Test.YtnkhafkdmlfdbaaDoorPfTab
import Derived.Test.YtnkhafkdmlfdbaaDoorPfOpen
import Derived.LaidLaws
namespace Go.Proofs.YtnkhafkdmlfdbaaDoor.prefixHalves
open Go.ChangeShapes Go.WideShapes Go.ChangeAt Go.RowKit Go.Sort
open Go.ChangeMaps (open_string shut_string)

theorem half_room {addr bits : Int} (h : rt addr bits = true) (s1 : addr < 4294967296) (hb : bits < 32) : addr + sz (bits + 1) < 4294967296 := by
  have h0 := rt_room h s1
  have h1 := sz_half bits (rt_bits h).1 hb
  have h2 := sz_pos (bits + 1)
  omega
theorem shl_sz (bits : Int) (h0 : 0 ≤ bits) (h : bits < 32) : (2 : Int) ^ (31 - bits).toNat = sz (bits + 1) := by
  unfold sz
  congr 1
  omega
set_option maxHeartbeats 4000000 in
theorem walk_in (addr bits a : Int) (w : World) (t : Tab w) (s0 : 0 ≤ addr) (s1 : addr < 4294967296) (c0 : 0 ≤ a) (c1 : a < 4294967296) (h : rt addr bits = true) (hb : bits < 32) :
    Calls Tryd.prog 6 #[pv addr bits, .int .u32 a] w fun e w' => e = .returned (.bool true) ∧ Below w.heap.size w w' := by
  have WK : Hid (∀ w, Tab w → _) := works_ok
  have hr := rt_bits h
  have hh := half_right h hb
  have hi := half_in h hb a
  have hm := half_room h s1 hb
  have hz := sz_pos (bits + 1)
  have CP : Hid (∀ w, Calls Tryd.prog 16 #[pv addr bits] w fun e w' => e = .returned (.bool true) ∧ Below w.heap.size w w') := fun w => by
    have := check_ok addr bits w s0 s1
    rwa [h] at this
  have CX : Hid (∀ w, Calls Tryd.prog 16 #[pv addr (bits + 1)] w fun e w' => e = .returned (.bool true) ∧ Below w.heap.size w w') := fun w => by
    have := check_ok addr (bits + 1) w s0 s1
    rwa [hh.1] at this
  have CY : Hid (∀ w, Calls Tryd.prog 16 #[pv (addr + sz (bits + 1)) (bits + 1)] w fun e w' => e = .returned (.bool true) ∧ Below w.heap.size w w') := fun w => by
    have := check_ok (addr + sz (bits + 1)) (bits + 1) w (by omega) hm
    rwa [hh.2] at this
  have HP : Hid (∀ w, _) := fun w => has_ok addr bits a w s0 s1 c0 c1
  have HX : Hid (∀ w, _) := fun w => has_ok addr (bits + 1) a w s0 s1 c0 c1
  have HY : Hid (∀ w, _) := fun w => has_ok (addr + sz (bits + 1)) (bits + 1) a w (by omega) hm c0 c1
  have sh := shl_sz bits hr.1 hb
  have szl : sz (bits + 1) < 4294967296 := by omega
  clear hh h
  generalize inP addr bits a = ip at *
  generalize inP addr (bits + 1) a = ix at *
  generalize inP (addr + sz (bits + 1)) (bits + 1) a = iy at *
  generalize sz (bits + 1) = z at *
  have e32 : (bits == 32) = false := by simp; omega
  have wz : IntKind.u32.wrap z = z := by simp [IntKind.wrap, IntKind.bits, IntKind.signed]; omega
  have wy : IntKind.u32.wrap (addr + z) = addr + z := by simp [IntKind.wrap, IntKind.bits, IntKind.signed]; omega
  generalize hyA : addr + z = yA at *
  have bl : 0 ≤ bits := hr.1
  have m0 : (0 : Int) ≤ 31 - bits := by omega
  have m1 : min (31 - bits).toNat 32 = (31 - bits).toNat := by omega
  unfold pv at *
  have lt : ∀ (w : World) o, w.heap.size < (w.alloc o).heap.size := fun w o => by simp
  have al : ∀ (w : World) o, Below w.heap.size w (w.alloc o) := fun w o => (Below.refl _ _).alloc (Nat.le_refl _) _
  have B0 : Hid (PBox (w.alloc (.cells #[.int .u32 addr, .int .i64 bits] 24)) w.heap.size addr bits) := pbox_new w addr bits
  have T0 : Hid (∀ o, Tab (w.alloc o)) := fun o => t.alloc o
  clear t hr
  go_enter Tryd.func6, Tryd.ntmps6
  go_wp2_with (first
    | (go_at_call 15; refine (WK.out _ (T0.out _)).mono ?_; rintro e w1 ⟨rfl, b1⟩; obtain ⟨l1, d0, d1⟩ := B0.out.keep (lt _ _) b1; have B1 : Hid (PBox w1 w.heap.size addr bits) := ⟨l1, d0, d1⟩; have Z1 : Hid (Below w.heap.size w w1) := (al w _).trans (b1.mono (al w _).size); clear b1 T0 B0)
    | (go_at_call 16; refine (CP.out _).mono ?_; rintro e w2 ⟨rfl, b2⟩; obtain ⟨l2, e0, e1⟩ := B1.out.keep B1.out.lt b2; have B2 : Hid (PBox w2 w.heap.size addr bits) := ⟨l2, e0, e1⟩; have Z2 : Hid (Below w.heap.size w w2) := Z1.out.trans (b2.mono Z1.out.size); have f0 : (∀ o, (w2.alloc o).cell? ⟨w.heap.size, 0, none⟩ = some (.int .u32 addr)) := (fun o => (B2.out.keep B2.out.lt (al w2 o)).c0); have f1 : (∀ o, (w2.alloc o).cell? ⟨w.heap.size, 1, none⟩ = some (.int .i64 bits)) := (fun o => (B2.out.keep B2.out.lt (al w2 o)).c1); clear b2 B1 Z1 d0 d1))
  have P3 := B2.out.keep B2.out.lt (al w2 (.cells #[.int .u32 addr, .int .i64 (bits + 1)] 24))
  have X3 := pbox_new w2 addr (bits + 1)
  have Z3 := Z2.out.trans ((al w2 (.cells #[.int .u32 addr, .int .i64 (bits + 1)] 24)).mono Z2.out.size)
  clear f0 f1 e0 e1 B2 Z2 CP WK
  generalize w2.alloc (.cells #[.int .u32 addr, .int .i64 (bits + 1)] 24) = w3 at *
  obtain ⟨l3, e0, e1⟩ := P3
  have P3 : Hid (PBox w3 w.heap.size addr bits) := ⟨l3, e0, e1⟩
  replace X3 : Hid (PBox w3 w2.heap.size addr (bits + 1)) := X3
  replace Z3 : Hid (Below w.heap.size w w3) := Z3
  have f0 : (∀ o, (w3.alloc o).cell? ⟨w.heap.size, 0, none⟩ = some (.int .u32 addr)) := (fun o => (P3.out.keep P3.out.lt (al w3 o)).c0)
  have f1 : (∀ o, (w3.alloc o).cell? ⟨w.heap.size, 1, none⟩ = some (.int .i64 bits)) := (fun o => (P3.out.keep P3.out.lt (al w3 o)).c1)
  have al3 : Hid (∀ o, Below w3.heap.size w3 (w3.alloc o)) := fun o => al w3 o
  clear al lt
  go_region
  have dr : ∀ (w : World) (B : Nat), Below B w w.drew := fun w B => ⟨rfl, rfl, rfl, Nat.le_refl _, fun _ _ => rfl⟩
  have b4 : Below w3.heap.size w3 (w3.alloc (.cells #[.int .u32 yA, .int .i64 (bits + 1)] 24)).drew := (al3.out _).trans (dr _ _)
  have P4 := P3.out.keep P3.out.lt b4
  have X4 := X3.out.keep X3.out.lt b4
  have Y4 := (pbox_new w3 yA (bits + 1)).keep (Nat.lt_succ_self _) (dr _ _)
  have Z4 := Z3.out.trans (b4.mono Z3.out.size)
  clear b4 dr P3 X3 Z3 al3 f0 f1 e0 e1
  generalize (w3.alloc (.cells #[.int .u32 yA, .int .i64 (bits + 1)] 24)).drew = w4 at *
  have k0 := cell_regrown P4.c0
  have k1 := cell_regrown P4.c1
  have k2 := cell_regrown X4.c0
  have k3 := cell_regrown X4.c1
  have k4 := cell_regrown Y4.c0
  have k5 := cell_regrown Y4.c1
  clear l1 l2 l3
  replace Z4 : Hid (Below w.heap.size w w4) := Z4
  replace P4 : Hid _ := P4
  replace X4 : Hid _ := X4
  replace Y4 : Hid _ := Y4
  go_wp2
  refine wp_region_quiet_below (by kernel_rfl) (by kernel_rfl) ?_
  repeat (go_big_quiet_step (first | (go_at_call_of 18 yA; exact Calls.regrown_of (HY.out _)) | (go_at_call_of 18 addr; exact Calls.regrown_of (HX.out _))))
  refine wpQuiet_nil ?_
  intro _ hw'
  obtain ⟨⟨dq, osq⟩, hw''⟩ := hw'
  subst hw''
  have b5 := below_regrown w4 dq osq
  have P5 : Hid (PBox (grow (redrawn w4 dq) osq) w.heap.size addr bits) := P4.out.keep P4.out.lt b5
  have X5 : Hid (PBox (grow (redrawn w4 dq) osq) w2.heap.size addr (bits + 1)) := X4.out.keep X4.out.lt b5
  have Y5 : Hid (PBox (grow (redrawn w4 dq) osq) w3.heap.size yA (bits + 1)) := Y4.out.keep Y4.out.lt b5
  have Z5 : Hid (Below w.heap.size w (grow (redrawn w4 dq) osq)) := Z4.out.trans (b5.mono Z4.out.size)
  clear b5 P4 X4 Y4 Z4 k0 k1 k2 k3 k4 k5
  simp only
  generalize grow (redrawn w4 dq) osq = w5 at *
  have p0 := P5.out.c0
  have p1 := P5.out.c1
  have x0 := X5.out.c0
  have x1 := X5.out.c1
  have y0 := Y5.out.c0
  have y1 := Y5.out.c1
  obtain ⟨hip, hno⟩ := hi
  subst hip
  cases ix with
  | false =>
    cases iy with
    | false =>
      go_wp2_with fail
      clear p0 p1 x0 x1 y0 y1
      refine (CX.out _).mono ?_
      rintro e w6 ⟨rfl, b6⟩
      have P6 : Hid (PBox w6 w.heap.size addr bits) := P5.out.keep P5.out.lt b6
      have X6 : Hid (PBox w6 w2.heap.size addr (bits + 1)) := X5.out.keep X5.out.lt b6
      have Y6 : Hid (PBox w6 w3.heap.size yA (bits + 1)) := Y5.out.keep Y5.out.lt b6
      have Z6 : Hid (Below w.heap.size w w6) := Z5.out.trans (b6.mono Z5.out.size)
      clear P5 X5 Y5 Z5 b6
      have p0 := P6.out.c0
      have p1 := P6.out.c1
      have x0 := X6.out.c0
      have x1 := X6.out.c1
      have y0 := Y6.out.c0
      have y1 := Y6.out.c1
      go_wp2_with fail
      clear p0 p1 x0 x1 y0 y1
      refine (CY.out _).mono ?_
      rintro e w7 ⟨rfl, b7⟩
      have P7 : Hid (PBox w7 w.heap.size addr bits) := P6.out.keep P6.out.lt b7
      have X7 : Hid (PBox w7 w2.heap.size addr (bits + 1)) := X6.out.keep X6.out.lt b7
      have Y7 : Hid (PBox w7 w3.heap.size yA (bits + 1)) := Y6.out.keep Y6.out.lt b7
      have Z7 : Hid (Below w.heap.size w w7) := Z6.out.trans (b7.mono Z6.out.size)
      clear P6 X6 Y6 Z6 b7
      have p0 := P7.out.c0
      have p1 := P7.out.c1
      have x0 := X7.out.c0
      have x1 := X7.out.c1
      have y0 := Y7.out.c0
      have y1 := Y7.out.c1
      go_wp2_with fail
      clear p0 p1 x0 x1 y0 y1
      refine (HP.out _).mono ?_
      rintro e w8 ⟨rfl, b8⟩
      have P8 : Hid (PBox w8 w.heap.size addr bits) := P7.out.keep P7.out.lt b8
      have X8 : Hid (PBox w8 w2.heap.size addr (bits + 1)) := X7.out.keep X7.out.lt b8
      have Y8 : Hid (PBox w8 w3.heap.size yA (bits + 1)) := Y7.out.keep Y7.out.lt b8
      have Z8 : Hid (Below w.heap.size w w8) := Z7.out.trans (b8.mono Z7.out.size)
      clear P7 X7 Y7 Z7 b8
      have p0 := P8.out.c0
      have p1 := P8.out.c1
      have x0 := X8.out.c0
      have x1 := X8.out.c1
      have y0 := Y8.out.c0
      have y1 := Y8.out.c1
      go_wp2_with fail
      clear p0 p1 x0 x1 y0 y1
      refine (HX.out _).mono ?_
      rintro e w9 ⟨rfl, b9⟩
      have Z9 : Hid (Below w.heap.size w w9) := Z8.out.trans (b9.mono Z8.out.size)
      go_wp2_with fail
      go_ret
      exact ⟨rfl, Z9.out⟩
    | true =>
      go_wp2_with fail
      clear p0 p1 x0 x1 y0 y1
      refine (CX.out _).mono ?_
      rintro e w6 ⟨rfl, b6⟩
      have P6 : Hid (PBox w6 w.heap.size addr bits) := P5.out.keep P5.out.lt b6
      have X6 : Hid (PBox w6 w2.heap.size addr (bits + 1)) := X5.out.keep X5.out.lt b6
      have Y6 : Hid (PBox w6 w3.heap.size yA (bits + 1)) := Y5.out.keep Y5.out.lt b6
      have Z6 : Hid (Below w.heap.size w w6) := Z5.out.trans (b6.mono Z5.out.size)
      clear P5 X5 Y5 Z5 b6
      have p0 := P6.out.c0
      have p1 := P6.out.c1
      have x0 := X6.out.c0
      have x1 := X6.out.c1
      have y0 := Y6.out.c0
      have y1 := Y6.out.c1
      go_wp2_with fail
      clear p0 p1 x0 x1 y0 y1
      refine (CY.out _).mono ?_
      rintro e w7 ⟨rfl, b7⟩
      have P7 : Hid (PBox w7 w.heap.size addr bits) := P6.out.keep P6.out.lt b7
      have X7 : Hid (PBox w7 w2.heap.size addr (bits + 1)) := X6.out.keep X6.out.lt b7
      have Y7 : Hid (PBox w7 w3.heap.size yA (bits + 1)) := Y6.out.keep Y6.out.lt b7
      have Z7 : Hid (Below w.heap.size w w7) := Z6.out.trans (b7.mono Z6.out.size)
      clear P6 X6 Y6 Z6 b7
      have p0 := P7.out.c0
      have p1 := P7.out.c1
      have x0 := X7.out.c0
      have x1 := X7.out.c1
      have y0 := Y7.out.c0
      have y1 := Y7.out.c1
      go_wp2_with fail
      clear p0 p1 x0 x1 y0 y1
      refine (HP.out _).mono ?_
      rintro e w8 ⟨rfl, b8⟩
      have P8 : Hid (PBox w8 w.heap.size addr bits) := P7.out.keep P7.out.lt b8
      have X8 : Hid (PBox w8 w2.heap.size addr (bits + 1)) := X7.out.keep X7.out.lt b8
      have Y8 : Hid (PBox w8 w3.heap.size yA (bits + 1)) := Y7.out.keep Y7.out.lt b8
      have Z8 : Hid (Below w.heap.size w w8) := Z7.out.trans (b8.mono Z7.out.size)
      clear P7 X7 Y7 Z7 b8
      have p0 := P8.out.c0
      have p1 := P8.out.c1
      have x0 := X8.out.c0
      have x1 := X8.out.c1
      have y0 := Y8.out.c0
      have y1 := Y8.out.c1
      go_wp2_with fail
      clear p0 p1 x0 x1 y0 y1
      refine (HX.out _).mono ?_
      rintro e w9 ⟨rfl, b9⟩
      have Z9 : Hid (Below w.heap.size w w9) := Z8.out.trans (b9.mono Z8.out.size)
      go_wp2_with fail
      go_ret
      exact ⟨rfl, Z9.out⟩
  | true =>
    cases iy with
    | false =>
      go_wp2_with fail
      clear p0 p1 x0 x1 y0 y1
      refine (CX.out _).mono ?_
      rintro e w6 ⟨rfl, b6⟩
      have P6 : Hid (PBox w6 w.heap.size addr bits) := P5.out.keep P5.out.lt b6
      have X6 : Hid (PBox w6 w2.heap.size addr (bits + 1)) := X5.out.keep X5.out.lt b6
      have Y6 : Hid (PBox w6 w3.heap.size yA (bits + 1)) := Y5.out.keep Y5.out.lt b6
      have Z6 : Hid (Below w.heap.size w w6) := Z5.out.trans (b6.mono Z5.out.size)
      clear P5 X5 Y5 Z5 b6
      have p0 := P6.out.c0
      have p1 := P6.out.c1
      have x0 := X6.out.c0
      have x1 := X6.out.c1
      have y0 := Y6.out.c0
      have y1 := Y6.out.c1
      go_wp2_with fail
      clear p0 p1 x0 x1 y0 y1
      refine (CY.out _).mono ?_
      rintro e w7 ⟨rfl, b7⟩
      have P7 : Hid (PBox w7 w.heap.size addr bits) := P6.out.keep P6.out.lt b7
      have X7 : Hid (PBox w7 w2.heap.size addr (bits + 1)) := X6.out.keep X6.out.lt b7
      have Y7 : Hid (PBox w7 w3.heap.size yA (bits + 1)) := Y6.out.keep Y6.out.lt b7
      have Z7 : Hid (Below w.heap.size w w7) := Z6.out.trans (b7.mono Z6.out.size)
      clear P6 X6 Y6 Z6 b7
      have p0 := P7.out.c0
      have p1 := P7.out.c1
      have x0 := X7.out.c0
      have x1 := X7.out.c1
      have y0 := Y7.out.c0
      have y1 := Y7.out.c1
      go_wp2_with fail
      clear p0 p1 x0 x1 y0 y1
      refine (HP.out _).mono ?_
      rintro e w8 ⟨rfl, b8⟩
      have P8 : Hid (PBox w8 w.heap.size addr bits) := P7.out.keep P7.out.lt b8
      have X8 : Hid (PBox w8 w2.heap.size addr (bits + 1)) := X7.out.keep X7.out.lt b8
      have Y8 : Hid (PBox w8 w3.heap.size yA (bits + 1)) := Y7.out.keep Y7.out.lt b8
      have Z8 : Hid (Below w.heap.size w w8) := Z7.out.trans (b8.mono Z7.out.size)
      clear P7 X7 Y7 Z7 b8
      have p0 := P8.out.c0
      have p1 := P8.out.c1
      have x0 := X8.out.c0
      have x1 := X8.out.c1
      have y0 := Y8.out.c0
      have y1 := Y8.out.c1
      go_wp2_with fail
      clear p0 p1 x0 x1 y0 y1
      refine (HX.out _).mono ?_
      rintro e w9 ⟨rfl, b9⟩
      have P9 : Hid (PBox w9 w.heap.size addr bits) := P8.out.keep P8.out.lt b9
      have X9 : Hid (PBox w9 w2.heap.size addr (bits + 1)) := X8.out.keep X8.out.lt b9
      have Y9 : Hid (PBox w9 w3.heap.size yA (bits + 1)) := Y8.out.keep Y8.out.lt b9
      have Z9 : Hid (Below w.heap.size w w9) := Z8.out.trans (b9.mono Z8.out.size)
      clear P8 X8 Y8 Z8 b9
      have p0 := P9.out.c0
      have p1 := P9.out.c1
      have x0 := X9.out.c0
      have x1 := X9.out.c1
      have y0 := Y9.out.c0
      have y1 := Y9.out.c1
      go_wp2_with fail
      clear p0 p1 x0 x1 y0 y1
      refine (HY.out _).mono ?_
      rintro e w10 ⟨rfl, b10⟩
      have Z10 : Hid (Below w.heap.size w w10) := Z9.out.trans (b10.mono Z9.out.size)
      go_wp2_with fail
      go_ret
      exact ⟨rfl, Z10.out⟩
    | true => exact absurd hno (by decide)
set_option maxHeartbeats 4000000 in
theorem walk_32 (addr bits a : Int) (w : World) (t : Tab w) (s0 : 0 ≤ addr) (s1 : addr < 4294967296) (h : rt addr bits = false ∨ bits = 32) :
    Calls Tryd.prog 6 #[pv addr bits, .int .u32 a] w fun e w' => e = .returned (.bool true) ∧ Below w.heap.size w w' := by
  have WK : Hid (∀ w, Tab w → _) := works_ok
  have CP : Hid (∀ w, Calls Tryd.prog 16 #[pv addr bits] w fun e w' => e = .returned (.bool (rt addr bits)) ∧ Below w.heap.size w w') := fun w => check_ok addr bits w s0 s1
  generalize rt addr bits = q at *
  unfold pv at *
  have lt : ∀ (w : World) o, w.heap.size < (w.alloc o).heap.size := fun w o => by simp
  have al : ∀ (w : World) o, Below w.heap.size w (w.alloc o) := fun w o => (Below.refl _ _).alloc (Nat.le_refl _) _
  have B0 : Hid (PBox (w.alloc (.cells #[.int .u32 addr, .int .i64 bits] 24)) w.heap.size addr bits) := pbox_new w addr bits
  have T0 : Hid (∀ o, Tab (w.alloc o)) := fun o => t.alloc o
  clear t
  cases q with
  | false =>
    clear h
    go_enter Tryd.func6, Tryd.ntmps6
    go_wp2_with (first
      | (go_at_call 15; refine (WK.out _ (T0.out _)).mono ?_; rintro e w1 ⟨rfl, b1⟩; obtain ⟨l1, d0, d1⟩ := B0.out.keep (lt _ _) b1; have Z1 : Hid (Below w.heap.size w w1) := (al w _).trans (b1.mono (al w _).size); clear b1 T0 B0)
      | (go_at_call 16; refine (CP.out _).mono ?_; rintro e w2 ⟨rfl, b2⟩; have Z2 : Hid (Below w.heap.size w w2) := Z1.out.trans (b2.mono Z1.out.size)))
    go_ret
    exact ⟨rfl, Z2.out⟩
  | true =>
    have h32 : bits = 32 := by simpa using h
    subst h32
    clear h
    go_enter Tryd.func6, Tryd.ntmps6
    go_wp2_with (first
      | (go_at_call 15; refine (WK.out _ (T0.out _)).mono ?_; rintro e w1 ⟨rfl, b1⟩; have B1 := B0.out.keep (lt _ _) b1; obtain ⟨l1, d0, d1⟩ := B1; have B1 : Hid (PBox w1 w.heap.size addr 32) := PBox.mk l1 d0 d1; have Z1 : Hid (Below w.heap.size w w1) := (al w _).trans (b1.mono (al w _).size); clear b1 T0 B0)
      | (go_at_call 16; refine (CP.out _).mono ?_; rintro e w2 ⟨rfl, b2⟩; obtain ⟨l2, f0, f1⟩ := B1.out.keep B1.out.lt b2; have Z2 : Hid (Below w.heap.size w w2) := Z1.out.trans (b2.mono Z1.out.size); clear d0 d1 b2))
    go_ret
    exact ⟨rfl, Z2.out⟩
theorem walk (addr bits a : Int) (w : World) (t : Tab w) (s0 : 0 ≤ addr) (s1 : addr < 4294967296) (c0 : 0 ≤ a) (c1 : a < 4294967296) :
    Calls Tryd.prog 6 #[pv addr bits, .int .u32 a] w fun e w' => e = .returned (.bool true) ∧ Below w.heap.size w w' := by
  cases h : rt addr bits with
  | false => exact walk_32 addr bits a w t s0 s1 (.inl h)
  | true =>
    have hb := rt_bits h
    by_cases h32 : bits = 32
    · exact walk_32 addr bits a w t s0 s1 (.inr h32)
    · exact walk_in addr bits a w t s0 s1 c0 c1 h (by omega)

set_option maxRecDepth 100000 in
theorem contract (H : Type) (enc : TypeId × Value → H) (W : World) (base : Nat) (args : Array Value) (ds gs : List (DataW H)) (before : List MemPlace)
    (hval : ∀ (j : Nat) t v, Tryd.f6.params[j]? = some t → args[j]? = some v → Value.okWide Tryd.prog W .any base t v)
    (hW : DataW.Whole enc Tryd.prog Tryd.f6.params.toList Rows.prefixHalvesSpec.vars false W args.toList ds gs before) (hT : Tab W) :
    Calls Tryd.prog 6 args W fun e W' => ∃ v, e = .returned v ∧ Rows.prefixHalvesSpec.post enc Tryd.prog Tryd.f6 false true false false W args v W' := by
  have hW' := hW
  obtain ⟨p, q, hA0, hV, rfl, hfz, hnd⟩ := hW
  have hA : DataW.TrodAll enc Tryd.prog W 0 (fun _ => true) true Tryd.f6.params.toList args.toList ds p := hA0
  rw [Tryd.params6] at hA hval
  obtain ⟨v0, vs0, d0, ds0, p0, q0, hargs, rfl, rfl, h0, r0⟩ := trodAll_cons hA
  obtain ⟨v1, vs1, d1, ds1, p1, q1, rfl, rfl, rfl, h1, r1⟩ := trodAll_cons r0
  obtain ⟨rfl, rfl, rfl⟩ := trodAll_nil r1
  obtain rfl : args = #[v0, v1] := by cases args; simp_all
  obtain ⟨rfl, rfl⟩ := trodVars_none hV
  have k0 := h0
  have lt0 : ∀ x ∈ p0, x.block < W.heap.size := by obtain ⟨m, hm⟩ := k0; exact DataW.trod_lt m _ _ _ hm
  obtain ⟨addr, bits, rfl, s0, s1, z0, y0⟩ := open_pfx (hval 0 24 v0 rfl rfl) h0
  obtain ⟨a1, rfl, rfl, rfl, w1⟩ := open_int Tryd.underlying22 (hval 1 22 v1 rfl rfl) h1
  have b1 := bounds_u32 w1
  clear hA0
  simp only [List.append_nil] at hW'
  refine (walk addr bits a1 W hT s0 s1 (by omega) (by omega)).mono fun e W' ⟨he, bel⟩ => ?_
  subst he
  exact ⟨_, rfl, _, _, _, [], _, [], hW', trodAll_mk1 (shut_bool Tryd.underlying4 _), (trodAll_cons_mk (Below.trod laidOut (by kernel_rfl) (of_decide_eq_true (by kernel_rfl)) k0 bel lt0) (trodAll_cons_mk (shut_int Tryd.underlying22 w1) trodAll_mk0)), rfl, bel.frame _, fun h => by cases h⟩

set_option maxRecDepth 100000 in
theorem lifted (os : Os) (started : os.Started) (H : Type) (enc : TypeId × Value → H) :
    ReturnsInHanded {} Tryd.checked os 6 .any (fun w args => (Rows.prefixHalvesSpec.pre enc Tryd.prog Tryd.f6 Rows.prefixHalvesRow.domain false w args ∧ laidMetH Tryd.prog Rows.prefixHalvesRow.laid w) ∧ sizedMet enc Tryd.prog Tryd.f6 (OpenSpec.ofChange Rows.prefixHalvesSpec) false w args)
      (Rows.prefixHalvesSpec.post enc Tryd.prog Tryd.f6 false true false false) := by
  refine returnsInHanded_of_change_and (C := Tryd.checked) (X := fun w _ => laidMetH Tryd.prog Rows.prefixHalvesRow.laid w) (fun _ _ _ hh h => h.of_heap hh) own started (by kernel_rfl) Tryd.func6
    (ChangeSpec.witness_shaped (enc := enc) (C := Tryd.checked) (os := os) (X := fun w _ => laidMetH Tryd.prog Rows.prefixHalvesRow.laid w) false (World.laidAll Tryd.prog os Rows.prefixHalvesRow.laid) #[.agg #[.int .u32 0, .int .i64 0], .int .u32 0] 8 (World.laidAll_os _ _ _)
      (World.shaped_of_ZipB (by kernel_rfl) (by kernel_rfl)) (by kernel_rfl) (by kernel_rfl) (by kernel_rfl)
      (by rw [MakeChecks.laidMetH_plain _ _ _ (by kernel_rfl)]; exact laidMet_laidAll _ (by kernel_rfl) (by kernel_rfl))) ?_
  intro W base args ds gs before hval hW _ _ hL _
  have hL' : laidMet Tryd.prog Rows.prefixHalvesRow.laid W := by
    rw [MakeChecks.laidMetH_plain _ _ _ (by kernel_rfl)] at hL
    exact hL
  exact contract H enc W base args ds gs before hval hW (tabOf rfl hL')

theorem said : Rows.PrefixHalvesSaid :=
  OpenClaim.holds_of_wide 6 Tryd.f6 rfl rfl rfl rfl rfl rfl rfl ⟨rfl, rfl, rfl, rfl, rfl⟩ rfl rfl rfl rfl rfl (by kernel_rfl) Tryd.func6 (by kernel_rfl)
    (of_decide_eq_true (by kernel_rfl)) (by unfold Func.isWrapper; first | (rw [if_pos (by decide +kernel)]; kernel_rfl) | (rw [if_neg (by decide +kernel)]; exact ⟨rfl, rfl⟩))
    (fun os started H enc _ => lifted os started H enc)

theorem plain (f : FuncId) (fn : Func) (hf : Tryd.pinned.checked.prog.funcNamed Rows.prefixHalvesRow.func = some f) (hfn : Tryd.pinned.checked.prog.funcs[f]? = some fn) :
    (Tryd.pinned.checked.prog.looks [] = Tryd.pinned.checked.prog.looks []) ∧ ∀ (j : Nat) t, fn.params[j]? = some t → Tryd.pinned.checked.prog.wantsStandIn t = false := by
  obtain rfl : f = 6 := Option.some.inj ((show Tryd.prog.funcNamed Rows.prefixHalvesRow.func = some 6 by kernel_rfl).symm.trans hf) |>.symm
  obtain rfl : fn = Tryd.f6 := (Option.some.inj (Tryd.func6.symm.trans hfn)).symm
  refine ⟨rfl, fun j t ht => ?_⟩
  rw [Tryd.params6] at ht
  have hm : t ∈ [24, 22] := by simpa using Array.mem_of_getElem? ht
  have hall : ([24, 22].all fun u => !Tryd.prog.wantsStandIn u) = true := by kernel_rfl
  exact (show Tryd.prog.wantsStandIn t = false by simpa using List.all_eq_true.1 hall t hm)
theorem card : Rows.PrefixHalvesCardSaid :=
  Claim7.holds_tied_plain_at .later [] _ _ _ _ said (fun _ h => by cases h) (by kernel_rfl) (fun _ h => by cases h) prefixHalves_row_tie rfl ⟨rfl, rfl⟩ (by kernel_rfl) rfl (fun f fn hf hfn => ⟨by kernel_rfl, (plain f fn hf hfn).2⟩) (by kernel_rfl)
end Go.Proofs.YtnkhafkdmlfdbaaDoor.prefixHalves
namespace Go.Proofs.YtnkhafkdmlfdbaaDoor
theorem prefixHalves_card : Rows.PrefixHalvesCardSaid := prefixHalves.card
end Go.Proofs.YtnkhafkdmlfdbaaDoor
