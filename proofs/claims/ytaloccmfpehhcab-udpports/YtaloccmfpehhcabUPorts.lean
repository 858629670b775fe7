/-
  The law UdpPorts returns true for every header: Ports tells just of packets of UDP or TCP, at no offset, with four bytes at least, the numbers of those. No condition but the form's own reach.
-/
import Derived.Test.YtaloccmfpehhcabUdpPorts
import Derived.Test.YtaloccmfpehhcabUdpWorks
import Derived.Test.YtaloccmfpehhcabIpOpen
import Derived.LaidLaws
namespace Go.Proofs.Ytaloccmfpehhcab.udpPorts
open Go.ChangeShapes Go.WideShapes Go.ChangeAt Go.RowKit
open Go.ChangeMaps (open_string shut_string)

set_option maxHeartbeats 2000000 in
theorem wX (tos id frag ttl proto src dst : Int) (data : ByteArray) (w : World) (p17 : (proto == 17) = false) (p6 : (proto == 6) = false) (PO : Hid (∀ w, Calls Try.prog 5 #[hv tos id frag ttl proto src dst data] w fun e w' => e = .returned (.tuple #[.int .i64 0, .int .i64 0, .bool false]) ∧ Below w.heap.size w w')) :
    Calls Try.prog 3 #[hv tos id frag ttl proto src dst data] w fun e w' => e = .returned (.bool true) ∧ Below w.heap.size w w' := by
  have lt : ∀ o, w.heap.size < (w.alloc o).heap.size := fun o => by simp
  have le : ∀ (w : World) o, w.heap.size ≤ (w.alloc o).heap.size := fun w o => by simp
  have X0 : Hid _ := box_new w tos id frag ttl proto src dst data
  unfold hv at *
  go_enter Try.func3, Try.ntmps3
  go_wp2_with (first
    | (go_at_call 4; refine (works_ok _).mono ?_; rintro e w1 ⟨rfl, b1⟩; have X1 := X0.out.keep (lt _) b1; obtain ⟨l1, c0, c1, c2, c3, c4, c5, c6, c7⟩ := X1; have Y1 : Hid _ := Box.mk l1 c0 c1 c2 c3 c4 c5 c6 c7; have Z1 : Hid _ := ((Below.refl w.heap.size w).alloc (Nat.le_refl _) _).trans (b1.mono (le w _)); clear b1 X0)
    | (go_at_call 5; refine (PO.out _).mono ?_; rintro e w2 ⟨rfl, b2⟩; obtain ⟨l2, k0, k1, k2, k3, k4, k5, k6, k7⟩ := Y1.out.keep Y1.out.lt b2; have Z2 : Hid _ := Z1.out.trans (b2.mono Z1.out.size); clear b2 Z1 Y1 c0 c1 c2 c3 c4 c5 c6 c7 PO))
  go_ret
  exact ⟨rfl, Z2.out⟩

set_option maxHeartbeats 2000000 in
theorem wF17 (tos id frag ttl src dst : Int) (data : ByteArray) (w : World) (hc : (bits .and .i64 frag 8191 == 0) = false) (PO : Hid (∀ w, Calls Try.prog 5 #[hv tos id frag ttl 17 src dst data] w fun e w' => e = .returned (.tuple #[.int .i64 0, .int .i64 0, .bool false]) ∧ Below w.heap.size w w')) :
    Calls Try.prog 3 #[hv tos id frag ttl 17 src dst data] w fun e w' => e = .returned (.bool true) ∧ Below w.heap.size w w' := by
  have lt : ∀ o, w.heap.size < (w.alloc o).heap.size := fun o => by simp
  have le : ∀ (w : World) o, w.heap.size ≤ (w.alloc o).heap.size := fun w o => by simp
  have X0 : Hid _ := box_new w tos id frag ttl 17 src dst data
  unfold hv at *
  go_enter Try.func3, Try.ntmps3
  go_wp2_with (first
    | (go_at_call 4; refine (works_ok _).mono ?_; rintro e w1 ⟨rfl, b1⟩; have X1 := X0.out.keep (lt _) b1; obtain ⟨l1, c0, c1, c2, c3, c4, c5, c6, c7⟩ := X1; have Y1 : Hid _ := Box.mk l1 c0 c1 c2 c3 c4 c5 c6 c7; have Z1 : Hid _ := ((Below.refl w.heap.size w).alloc (Nat.le_refl _) _).trans (b1.mono (le w _)); clear b1 X0)
    | (go_at_call 5; refine (PO.out _).mono ?_; rintro e w2 ⟨rfl, b2⟩; obtain ⟨l2, k0, k1, k2, k3, k4, k5, k6, k7⟩ := Y1.out.keep Y1.out.lt b2; have Z2 : Hid _ := Z1.out.trans (b2.mono Z1.out.size); clear b2 Z1 Y1 c0 c1 c2 c3 c4 c5 c6 c7 PO))
  go_ret
  exact ⟨rfl, Z2.out⟩

set_option maxHeartbeats 2000000 in
theorem wS17 (tos id frag ttl src dst : Int) (data : ByteArray) (w : World) (hc : (bits .and .i64 frag 8191 == 0) = true) (hd : data.size < 4) (PO : Hid (∀ w, Calls Try.prog 5 #[hv tos id frag ttl 17 src dst data] w fun e w' => e = .returned (.tuple #[.int .i64 0, .int .i64 0, .bool false]) ∧ Below w.heap.size w w')) :
    Calls Try.prog 3 #[hv tos id frag ttl 17 src dst data] w fun e w' => e = .returned (.bool true) ∧ Below w.heap.size w w' := by
  have lt : ∀ o, w.heap.size < (w.alloc o).heap.size := fun o => by simp
  have le : ∀ (w : World) o, w.heap.size ≤ (w.alloc o).heap.size := fun w o => by simp
  have X0 : Hid _ := box_new w tos id frag ttl 17 src dst data
  have hd' : decide ((4 : Int) ≤ data.size) = false := decide_eq_false (by omega)
  unfold hv at *
  go_enter Try.func3, Try.ntmps3
  go_wp2_with (first
    | (go_at_call 4; refine (works_ok _).mono ?_; rintro e w1 ⟨rfl, b1⟩; have X1 := X0.out.keep (lt _) b1; obtain ⟨l1, c0, c1, c2, c3, c4, c5, c6, c7⟩ := X1; have Y1 : Hid _ := Box.mk l1 c0 c1 c2 c3 c4 c5 c6 c7; have Z1 : Hid _ := ((Below.refl w.heap.size w).alloc (Nat.le_refl _) _).trans (b1.mono (le w _)); clear b1 X0)
    | (go_at_call 5; refine (PO.out _).mono ?_; rintro e w2 ⟨rfl, b2⟩; obtain ⟨l2, k0, k1, k2, k3, k4, k5, k6, k7⟩ := Y1.out.keep Y1.out.lt b2; have Z2 : Hid _ := Z1.out.trans (b2.mono Z1.out.size); clear b2 Z1 Y1 c0 c1 c2 c3 c4 c5 c6 c7 PO))
  go_ret
  exact ⟨rfl, Z2.out⟩

set_option maxHeartbeats 2000000 in
theorem wO17 (tos id frag ttl src dst : Int) (data : ByteArray) (w : World) (hc : (bits .and .i64 frag 8191 == 0) = true) (hd : 4 ≤ data.size) (PO : Hid (∀ w, Calls Try.prog 5 #[hv tos id frag ttl 17 src dst data] w fun e w' => e = .returned (.tuple #[.int .i64 (w2 data 0), .int .i64 (w2 data 2), .bool true]) ∧ Below w.heap.size w w')) :
    Calls Try.prog 3 #[hv tos id frag ttl 17 src dst data] w fun e w' => e = .returned (.bool true) ∧ Below w.heap.size w w' := by
  have lt : ∀ o, w.heap.size < (w.alloc o).heap.size := fun o => by simp
  have le : ∀ (w : World) o, w.heap.size ≤ (w.alloc o).heap.size := fun w o => by simp
  have X0 : Hid _ := box_new w tos id frag ttl 17 src dst data
  have hd' : decide ((4 : Int) ≤ data.size) = true := decide_eq_true (by omega)
  have i0 := byt_eq data 0 (by omega)
  have i1 := byt_eq data 1 (by omega)
  have i2 := byt_eq data 2 (by omega)
  have i3 := byt_eq data 3 (by omega)
  have q0 := byt_bd data 0
  have q1 := byt_bd data 1
  have q2 := byt_bd data 2
  have q3 := byt_bd data 3
  have g0 : (0 : Int) < data.size := by omega
  have g1 : (1 : Int) < data.size := by omega
  have g2 : (2 : Int) < data.size := by omega
  have g3 : (3 : Int) < data.size := by omega
  have r0 : w2 data 0 = 256 * byt data 0 + byt data 1 := by show byt data 0 * 256 + byt data 1 = _; omega
  have r2 : w2 data 2 = 256 * byt data 2 + byt data 3 := by show byt data 2 * 256 + byt data 3 = _; omega
  rw [r0, r2] at PO
  clear r0 r2
  generalize byt data 0 = y0 at *
  generalize byt data 1 = y1 at *
  generalize byt data 2 = y2 at *
  generalize byt data 3 = y3 at *
  have u0 : IntKind.i64.wrap (256 * y0) = 256 * y0 := by simp [IntKind.wrap, IntKind.bits, IntKind.signed]; omega
  have u1 : IntKind.i64.wrap (256 * y0 + y1) = 256 * y0 + y1 := by simp [IntKind.wrap, IntKind.bits, IntKind.signed]; omega
  have u2 : IntKind.i64.wrap (256 * y2) = 256 * y2 := by simp [IntKind.wrap, IntKind.bits, IntKind.signed]; omega
  have u3 : IntKind.i64.wrap (256 * y2 + y3) = 256 * y2 + y3 := by simp [IntKind.wrap, IntKind.bits, IntKind.signed]; omega
  unfold hv at *
  go_enter Try.func3, Try.ntmps3
  go_wp2_with (first
    | (go_at_call 4; refine (works_ok _).mono ?_; rintro e w1 ⟨rfl, b1⟩; have X1 := X0.out.keep (lt _) b1; obtain ⟨l1, c0, c1, c2, c3, c4, c5, c6, c7⟩ := X1; have Y1 : Hid _ := Box.mk l1 c0 c1 c2 c3 c4 c5 c6 c7; have Z1 : Hid _ := ((Below.refl w.heap.size w).alloc (Nat.le_refl _) _).trans (b1.mono (le w _)); clear b1 X0)
    | (go_at_call 5; refine (PO.out _).mono ?_; rintro e w2 ⟨rfl, b2⟩; obtain ⟨l2, k0, k1, k2, k3, k4, k5, k6, k7⟩ := Y1.out.keep Y1.out.lt b2; have Z2 : Hid _ := Z1.out.trans (b2.mono Z1.out.size); clear b2 Z1 Y1 c0 c1 c2 c3 c4 c5 c6 c7 PO))
  go_quiet (fail)
  go_wp2
  go_ret
  exact ⟨rfl, Z2.out.trans ⟨rfl, rfl, rfl, Nat.le_refl _, fun _ _ => rfl⟩⟩

set_option maxHeartbeats 2000000 in
theorem wF6 (tos id frag ttl src dst : Int) (data : ByteArray) (w : World) (hc : (bits .and .i64 frag 8191 == 0) = false) (PO : Hid (∀ w, Calls Try.prog 5 #[hv tos id frag ttl 6 src dst data] w fun e w' => e = .returned (.tuple #[.int .i64 0, .int .i64 0, .bool false]) ∧ Below w.heap.size w w')) :
    Calls Try.prog 3 #[hv tos id frag ttl 6 src dst data] w fun e w' => e = .returned (.bool true) ∧ Below w.heap.size w w' := by
  have lt : ∀ o, w.heap.size < (w.alloc o).heap.size := fun o => by simp
  have le : ∀ (w : World) o, w.heap.size ≤ (w.alloc o).heap.size := fun w o => by simp
  have X0 : Hid _ := box_new w tos id frag ttl 6 src dst data
  unfold hv at *
  go_enter Try.func3, Try.ntmps3
  go_wp2_with (first
    | (go_at_call 4; refine (works_ok _).mono ?_; rintro e w1 ⟨rfl, b1⟩; have X1 := X0.out.keep (lt _) b1; obtain ⟨l1, c0, c1, c2, c3, c4, c5, c6, c7⟩ := X1; have Y1 : Hid _ := Box.mk l1 c0 c1 c2 c3 c4 c5 c6 c7; have Z1 : Hid _ := ((Below.refl w.heap.size w).alloc (Nat.le_refl _) _).trans (b1.mono (le w _)); clear b1 X0)
    | (go_at_call 5; refine (PO.out _).mono ?_; rintro e w2 ⟨rfl, b2⟩; obtain ⟨l2, k0, k1, k2, k3, k4, k5, k6, k7⟩ := Y1.out.keep Y1.out.lt b2; have Z2 : Hid _ := Z1.out.trans (b2.mono Z1.out.size); clear b2 Z1 Y1 c0 c1 c2 c3 c4 c5 c6 c7 PO))
  go_ret
  exact ⟨rfl, Z2.out⟩

set_option maxHeartbeats 2000000 in
theorem wS6 (tos id frag ttl src dst : Int) (data : ByteArray) (w : World) (hc : (bits .and .i64 frag 8191 == 0) = true) (hd : data.size < 4) (PO : Hid (∀ w, Calls Try.prog 5 #[hv tos id frag ttl 6 src dst data] w fun e w' => e = .returned (.tuple #[.int .i64 0, .int .i64 0, .bool false]) ∧ Below w.heap.size w w')) :
    Calls Try.prog 3 #[hv tos id frag ttl 6 src dst data] w fun e w' => e = .returned (.bool true) ∧ Below w.heap.size w w' := by
  have lt : ∀ o, w.heap.size < (w.alloc o).heap.size := fun o => by simp
  have le : ∀ (w : World) o, w.heap.size ≤ (w.alloc o).heap.size := fun w o => by simp
  have X0 : Hid _ := box_new w tos id frag ttl 6 src dst data
  have hd' : decide ((4 : Int) ≤ data.size) = false := decide_eq_false (by omega)
  unfold hv at *
  go_enter Try.func3, Try.ntmps3
  go_wp2_with (first
    | (go_at_call 4; refine (works_ok _).mono ?_; rintro e w1 ⟨rfl, b1⟩; have X1 := X0.out.keep (lt _) b1; obtain ⟨l1, c0, c1, c2, c3, c4, c5, c6, c7⟩ := X1; have Y1 : Hid _ := Box.mk l1 c0 c1 c2 c3 c4 c5 c6 c7; have Z1 : Hid _ := ((Below.refl w.heap.size w).alloc (Nat.le_refl _) _).trans (b1.mono (le w _)); clear b1 X0)
    | (go_at_call 5; refine (PO.out _).mono ?_; rintro e w2 ⟨rfl, b2⟩; obtain ⟨l2, k0, k1, k2, k3, k4, k5, k6, k7⟩ := Y1.out.keep Y1.out.lt b2; have Z2 : Hid _ := Z1.out.trans (b2.mono Z1.out.size); clear b2 Z1 Y1 c0 c1 c2 c3 c4 c5 c6 c7 PO))
  go_ret
  exact ⟨rfl, Z2.out⟩

set_option maxHeartbeats 2000000 in
theorem wO6 (tos id frag ttl src dst : Int) (data : ByteArray) (w : World) (hc : (bits .and .i64 frag 8191 == 0) = true) (hd : 4 ≤ data.size) (PO : Hid (∀ w, Calls Try.prog 5 #[hv tos id frag ttl 6 src dst data] w fun e w' => e = .returned (.tuple #[.int .i64 (w2 data 0), .int .i64 (w2 data 2), .bool true]) ∧ Below w.heap.size w w')) :
    Calls Try.prog 3 #[hv tos id frag ttl 6 src dst data] w fun e w' => e = .returned (.bool true) ∧ Below w.heap.size w w' := by
  have lt : ∀ o, w.heap.size < (w.alloc o).heap.size := fun o => by simp
  have le : ∀ (w : World) o, w.heap.size ≤ (w.alloc o).heap.size := fun w o => by simp
  have X0 : Hid _ := box_new w tos id frag ttl 6 src dst data
  have hd' : decide ((4 : Int) ≤ data.size) = true := decide_eq_true (by omega)
  have i0 := byt_eq data 0 (by omega)
  have i1 := byt_eq data 1 (by omega)
  have i2 := byt_eq data 2 (by omega)
  have i3 := byt_eq data 3 (by omega)
  have q0 := byt_bd data 0
  have q1 := byt_bd data 1
  have q2 := byt_bd data 2
  have q3 := byt_bd data 3
  have g0 : (0 : Int) < data.size := by omega
  have g1 : (1 : Int) < data.size := by omega
  have g2 : (2 : Int) < data.size := by omega
  have g3 : (3 : Int) < data.size := by omega
  have r0 : w2 data 0 = 256 * byt data 0 + byt data 1 := by show byt data 0 * 256 + byt data 1 = _; omega
  have r2 : w2 data 2 = 256 * byt data 2 + byt data 3 := by show byt data 2 * 256 + byt data 3 = _; omega
  rw [r0, r2] at PO
  clear r0 r2
  generalize byt data 0 = y0 at *
  generalize byt data 1 = y1 at *
  generalize byt data 2 = y2 at *
  generalize byt data 3 = y3 at *
  have u0 : IntKind.i64.wrap (256 * y0) = 256 * y0 := by simp [IntKind.wrap, IntKind.bits, IntKind.signed]; omega
  have u1 : IntKind.i64.wrap (256 * y0 + y1) = 256 * y0 + y1 := by simp [IntKind.wrap, IntKind.bits, IntKind.signed]; omega
  have u2 : IntKind.i64.wrap (256 * y2) = 256 * y2 := by simp [IntKind.wrap, IntKind.bits, IntKind.signed]; omega
  have u3 : IntKind.i64.wrap (256 * y2 + y3) = 256 * y2 + y3 := by simp [IntKind.wrap, IntKind.bits, IntKind.signed]; omega
  unfold hv at *
  go_enter Try.func3, Try.ntmps3
  go_wp2_with (first
    | (go_at_call 4; refine (works_ok _).mono ?_; rintro e w1 ⟨rfl, b1⟩; have X1 := X0.out.keep (lt _) b1; obtain ⟨l1, c0, c1, c2, c3, c4, c5, c6, c7⟩ := X1; have Y1 : Hid _ := Box.mk l1 c0 c1 c2 c3 c4 c5 c6 c7; have Z1 : Hid _ := ((Below.refl w.heap.size w).alloc (Nat.le_refl _) _).trans (b1.mono (le w _)); clear b1 X0)
    | (go_at_call 5; refine (PO.out _).mono ?_; rintro e w2 ⟨rfl, b2⟩; obtain ⟨l2, k0, k1, k2, k3, k4, k5, k6, k7⟩ := Y1.out.keep Y1.out.lt b2; have Z2 : Hid _ := Z1.out.trans (b2.mono Z1.out.size); clear b2 Z1 Y1 c0 c1 c2 c3 c4 c5 c6 c7 PO))
  go_quiet (fail)
  go_wp2
  go_ret
  exact ⟨rfl, Z2.out.trans ⟨rfl, rfl, rfl, Nat.le_refl _, fun _ _ => rfl⟩⟩

theorem walk (tos id frag ttl proto src dst : Int) (data : ByteArray) (w : World) :
    Calls Try.prog 3 #[hv tos id frag ttl proto src dst data] w fun e w' => e = .returned (.bool true) ∧ Below w.heap.size w w' := by
  by_cases p17 : proto = 17
  · subst p17
    by_cases hc : bits .and .i64 frag 8191 = 0
    · by_cases hd : data.size < 4
      · exact wS17 tos id frag ttl src dst data w (by simp [hc]) hd (fun w => ports_S17 tos id frag ttl src dst data w (by simp [hc]) hd)
      · exact wO17 tos id frag ttl src dst data w (by simp [hc]) (by omega) (fun w => ports_O17 tos id frag ttl src dst data w (by simp [hc]) (by omega))
    · exact wF17 tos id frag ttl src dst data w (by simp [hc]) (fun w => ports_F17 tos id frag ttl src dst data w (by simp [hc]))
  by_cases p6 : proto = 6
  · subst p6
    by_cases hc : bits .and .i64 frag 8191 = 0
    · by_cases hd : data.size < 4
      · exact wS6 tos id frag ttl src dst data w (by simp [hc]) hd (fun w => ports_S6 tos id frag ttl src dst data w (by simp [hc]) hd)
      · exact wO6 tos id frag ttl src dst data w (by simp [hc]) (by omega) (fun w => ports_O6 tos id frag ttl src dst data w (by simp [hc]) (by omega))
    · exact wF6 tos id frag ttl src dst data w (by simp [hc]) (fun w => ports_F6 tos id frag ttl src dst data w (by simp [hc]))
  exact wX tos id frag ttl proto src dst data w (by simp [p17]) (by simp [p6]) (fun w => ports_X tos id frag ttl proto src dst data w (by simp [p17]) (by simp [p6]))

theorem contract (H : Type) (enc : TypeId × Value → H) (W : World) (base : Nat) (args : Array Value) (ds gs : List (DataW H)) (before : List MemPlace)
    (hval : ∀ (j : Nat) t v, Try.f3.params[j]? = some t → args[j]? = some v → Value.okWide Try.prog W .any base t v)
    (hW : DataW.Whole enc Try.prog Try.f3.params.toList Rows.udpPortsSpec.vars false W args.toList ds gs before) :
    Calls Try.prog 3 args W fun e W' => ∃ v, e = .returned v ∧ Rows.udpPortsSpec.post enc Try.prog Try.f3 false true false false W args v W' := by
  have hW' := hW
  obtain ⟨p, q, hA0, hV, rfl, hfz, hnd⟩ := hW
  have hA : DataW.TrodAll enc Try.prog W 0 (fun _ => true) true Try.f3.params.toList args.toList ds p := hA0
  rw [Try.params3] at hA hval
  obtain ⟨v0, vs0, d0, ds0, p0, q0, hargs, rfl, rfl, h0, r0⟩ := trodAll_cons hA
  obtain ⟨rfl, rfl, rfl⟩ := trodAll_nil r0
  obtain rfl : args = #[v0] := by cases args; simp_all
  obtain ⟨rfl, rfl⟩ := trodVars_none hV
  have k0 := h0
  have lt0 : ∀ x ∈ p0, x.block < W.heap.size := by obtain ⟨m, hm⟩ := k0; exact DataW.trod_lt m _ _ _ hm
  obtain ⟨tos, id, frag, ttl, proto, src, dst, data, rfl, s0, s1, d0', d1', z0⟩ := open_hdr (hval 0 24 v0 rfl rfl) h0
  clear hA0
  simp only [List.append_nil] at hW'
  refine (walk tos id frag ttl proto src dst data W).mono fun e W' ⟨he, bel⟩ => ?_
  subst he
  exact ⟨_, rfl, _, _, _, [], _, [], hW', trodAll_mk1 (shut_bool Try.underlying4 _), (trodAll_cons_mk (Below.trod laidOut (by kernel_rfl) (of_decide_eq_true (by kernel_rfl)) k0 bel lt0) trodAll_mk0), rfl, bel.frame _, fun h => by cases h⟩

theorem laid_met (os : Os) : laidMet Try.prog Rows.udpPortsRow.laid ((startWorld Try.prog os).forCall (fun _ _ => 0) ⟨#[], #[.agg #[.int .i64 0, .int .i64 0, .int .i64 0, .int .i64 0, .int .i64 0, .int .u32 0, .int .u32 0, .string ByteArray.empty]], []⟩).memory :=
  laidMet_of_run' 8 (by kernel_rfl) (by kernel_rfl)
theorem reads (os : Os) {H : Type} (enc : TypeId × Value → H) : ∃ places, DataW.whole enc Try.prog ((startWorld Try.prog os).forCall (fun _ _ => 0) ⟨#[], #[.agg #[.int .i64 0, .int .i64 0, .int .i64 0, .int .i64 0, .int .i64 0, .int .u32 0, .int .u32 0, .string ByteArray.empty]], []⟩).memory Try.f3.params.toList Rows.udpPortsSpec.vars false #[Value.agg #[.int .i64 0, .int .i64 0, .int .i64 0, .int .i64 0, .int .i64 0, .int .u32 0, .int .u32 0, .string ByteArray.empty]].toList 8 = some ([.agg [.lit (.int .i64 0), .lit (.int .i64 0), .lit (.int .i64 0), .lit (.int .i64 0), .lit (.int .i64 0), .lit (.int .u32 0), .lit (.int .u32 0), .lit (.string [])]], [], places) :=
  ⟨[], by kernel_rfl⟩

set_option maxRecDepth 100000 in
theorem lifted (os : Os) (started : os.Started) (H : Type) (enc : TypeId × Value → H) (F : Stop.Interp) :
    ReturnsInHanded {} Try.checked os 3 .any ((OpenSpec.ofChange Rows.udpPortsSpec).preRow enc Try.prog Try.f3 Rows.udpPortsRow.domain false Rows.udpPortsRow.laid) (((OpenSpec.ofChange Rows.udpPortsSpec).at F).post enc Try.prog Try.f3 false true false false) := by
  obtain ⟨places, hx⟩ := reads os enc
  refine returnsInHanded_of_row (C := Try.checked) (s := OpenSpec.ofChange Rows.udpPortsSpec) own started (by kernel_rfl) Try.func3
    (witness_row_at (enc := enc) (C := Try.checked) false (startWorld Try.prog os) #[.agg #[.int .i64 0, .int .i64 0, .int .i64 0, .int .i64 0, .int .i64 0, .int .u32 0, .int .u32 0, .string ByteArray.empty]] rfl (by kernel_rfl) (by kernel_rfl) (by kernel_rfl)
      (OpenSpec.preRow_of_cond 8 hx (by kernel_rfl) (fun k hk => by cases hk) (by kernel_rfl) (laid_met os))) ?_
  intro W base args ds gs before hval hW _ _ _ _ _ _
  exact contract H enc W base args ds gs before hval hW

theorem said : Rows.UdpPortsSaid :=
  OpenClaim.holds_of_cond 3 Try.f3 rfl rfl rfl rfl rfl rfl rfl ⟨rfl, rfl, rfl, rfl, rfl⟩ rfl rfl rfl rfl rfl (by kernel_rfl) Try.func3 (by kernel_rfl)
    (of_decide_eq_true (by kernel_rfl)) (by unfold Func.isWrapper; first | (rw [if_pos (by decide +kernel)]; kernel_rfl) | (rw [if_neg (by decide +kernel)]; exact ⟨rfl, rfl⟩))
    (fun os started H enc _ F => by rw [OpenClaim.pre_eq_preRow]; exact lifted os started H enc F)
end Go.Proofs.Ytaloccmfpehhcab.udpPorts
namespace Go.Proofs.Ytaloccmfpehhcab
theorem udpPorts_said : Rows.UdpPortsSaid := udpPorts.said
end Go.Proofs.Ytaloccmfpehhcab
