/-
  The law Ipv4Back returns true for every header and every string: what Build writes Parse reads again, what Parse reads Build writes again. No condition but the form's own reach.
-/
import Derived.Test.YthegfidmkenkeaaIpWorks
import Derived.Test.YthegfidmkenkeaaIpOpen
import Derived.LaidLaws
namespace Go.Proofs.Ythegfidmkenkeaa.ipv4Back
open Go.ChangeShapes Go.WideShapes Go.ChangeAt Go.RowKit
open Go.ChangeMaps (open_string shut_string)

set_option maxHeartbeats 2000000 in
theorem walkA (tos id frag ttl proto src dst : Int) (data s t : ByteArray) (w : World) (B1 : Hid (∀ w, Calls Try.prog 9 #[hv tos id frag ttl proto src dst data] w fun e w' => e = .returned (.tuple #[.string t, .int .i64 0]) ∧ Below w.heap.size w w')) (P1 : Hid (∀ w, Calls Try.prog 13 #[.string t] w fun e w' => e = .returned (.tuple #[hv tos id frag ttl proto src dst data, .int .i64 0]) ∧ Below w.heap.size w w')) (tos2 id2 frag2 ttl2 proto2 src2 dst2 : Int) (data2 : ByteArray) (P2 : Hid (∀ w, Calls Try.prog 13 #[.string s] w fun e w' => e = .returned (.tuple #[hv tos2 id2 frag2 ttl2 proto2 src2 dst2 data2, .int .i64 0]) ∧ Below w.heap.size w w')) (B2 : Hid (∀ w, Calls Try.prog 9 #[hv tos2 id2 frag2 ttl2 proto2 src2 dst2 data2] w fun e w' => e = .returned (.tuple #[.string s, .int .i64 0]) ∧ Below w.heap.size w w')) :
    Calls Try.prog 5 #[hv tos id frag ttl proto src dst data, .string s] w fun e w' => e = .returned (.bool true) ∧ Below w.heap.size w w' := by
  have lt : ∀ o, w.heap.size < (w.alloc o).heap.size := fun o => by simp
  have le : ∀ (w : World) o, w.heap.size ≤ (w.alloc o).heap.size := fun w o => by simp
  have X0 : Hid _ := box_new w tos id frag ttl proto src dst data
  unfold hv at *
  go_enter Try.func5, Try.ntmps5
  go_wp2_with (first
    | (go_at_call 17; refine (works_ok _).mono ?_; rintro e w1 ⟨rfl, b1⟩; have X1 := X0.out.keep (lt _) b1; obtain ⟨l1, c0, c1, c2, c3, c4, c5, c6, c7⟩ := X1; have Y1 : Hid _ := Box.mk l1 c0 c1 c2 c3 c4 c5 c6 c7; have Z1 : Hid _ := ((Below.refl w.heap.size w).alloc (Nat.le_refl _) _).trans (b1.mono (le w _)); clear b1 l1 X0)
    | (go_at_call_of 9 tos; refine (B1.out _).mono ?_; rintro e w2 ⟨rfl, b2⟩; have X2 := Y1.out.keep Y1.out.lt b2; obtain ⟨l2, x0, x1, x2, x3, x4, x5, x6, x7⟩ := X2; have Z2 : Hid _ := Z1.out.trans (b2.mono Z1.out.size); have Y2 : Hid _ := Box.mk l2 x0 x1 x2 x3 x4 x5 x6 x7; clear b2 l2 Z1 Y1 c0 c1 c2 c3 c4 c5 c6 c7 B1)
    | (go_at_call_of 13 t; refine (P1.out _).mono ?_; rintro e w3 ⟨rfl, b3⟩; have X3 := Y2.out.keep Y2.out.lt b3; obtain ⟨l3, y0, y1, y2, y3, y4, y5, y6, y7⟩ := X3; have Z3 : Hid _ := (Z2.out.trans (b3.mono Z2.out.size)); clear b3 Y2 Z2 x0 x1 x2 x3 x4 x5 x6 x7 P1)
    | (go_at_call_of 13 s; refine (P2.out _).mono ?_; rintro e w4 ⟨rfl, b4⟩; have Z4 : Hid _ := (Z3.out.alloc Z3.out.size _).trans (b4.mono (Z3.out.alloc Z3.out.size _).size); clear b4 P2)
    | (go_at_call_of 9 tos2; refine (B2.out _).mono ?_; rintro e w5 ⟨rfl, b5⟩; have Z5 : Hid _ := (Z4.out.alloc Z4.out.size _).trans (b5.mono (Z4.out.alloc Z4.out.size _).size); clear b5 B2))
  go_ret
  exact ⟨rfl, Z5.out⟩

set_option maxHeartbeats 2000000 in
theorem walkB (tos id frag ttl proto src dst : Int) (data s t : ByteArray) (w : World) (B1 : Hid (∀ w, Calls Try.prog 9 #[hv tos id frag ttl proto src dst data] w fun e w' => e = .returned (.tuple #[.string t, .int .i64 0]) ∧ Below w.heap.size w w')) (P1 : Hid (∀ w, Calls Try.prog 13 #[.string t] w fun e w' => e = .returned (.tuple #[hv tos id frag ttl proto src dst data, .int .i64 0]) ∧ Below w.heap.size w w')) (e2 : Int) (he2 : (e2 != 0) = true) (P2 : Hid (∀ w, Calls Try.prog 13 #[.string s] w fun e w' => e = .returned (.tuple #[none', .int .i64 e2]) ∧ Below w.heap.size w w')) :
    Calls Try.prog 5 #[hv tos id frag ttl proto src dst data, .string s] w fun e w' => e = .returned (.bool true) ∧ Below w.heap.size w w' := by
  have lt : ∀ o, w.heap.size < (w.alloc o).heap.size := fun o => by simp
  have le : ∀ (w : World) o, w.heap.size ≤ (w.alloc o).heap.size := fun w o => by simp
  have X0 : Hid _ := box_new w tos id frag ttl proto src dst data
  unfold hv at *
  unfold none' hv at *
  go_enter Try.func5, Try.ntmps5
  go_wp2_with (first
    | (go_at_call 17; refine (works_ok _).mono ?_; rintro e w1 ⟨rfl, b1⟩; have X1 := X0.out.keep (lt _) b1; obtain ⟨l1, c0, c1, c2, c3, c4, c5, c6, c7⟩ := X1; have Y1 : Hid _ := Box.mk l1 c0 c1 c2 c3 c4 c5 c6 c7; have Z1 : Hid _ := ((Below.refl w.heap.size w).alloc (Nat.le_refl _) _).trans (b1.mono (le w _)); clear b1 l1 X0)
    | (go_at_call_of 9 tos; refine (B1.out _).mono ?_; rintro e w2 ⟨rfl, b2⟩; have X2 := Y1.out.keep Y1.out.lt b2; obtain ⟨l2, x0, x1, x2, x3, x4, x5, x6, x7⟩ := X2; have Z2 : Hid _ := Z1.out.trans (b2.mono Z1.out.size); have Y2 : Hid _ := Box.mk l2 x0 x1 x2 x3 x4 x5 x6 x7; clear b2 l2 Z1 Y1 c0 c1 c2 c3 c4 c5 c6 c7 B1)
    | (go_at_call_of 13 t; refine (P1.out _).mono ?_; rintro e w3 ⟨rfl, b3⟩; have X3 := Y2.out.keep Y2.out.lt b3; obtain ⟨l3, y0, y1, y2, y3, y4, y5, y6, y7⟩ := X3; have Z3 : Hid _ := (Z2.out.trans (b3.mono Z2.out.size)); clear b3 Y2 Z2 x0 x1 x2 x3 x4 x5 x6 x7 P1)
    | (go_at_call_of 13 s; refine (P2.out _).mono ?_; rintro e w4 ⟨rfl, b4⟩; have Z4 : Hid _ := (Z3.out.alloc Z3.out.size _).trans (b4.mono (Z3.out.alloc Z3.out.size _).size); clear b4 P2))
  go_ret
  exact ⟨rfl, Z4.out.alloc Z4.out.size _⟩

set_option maxHeartbeats 2000000 in
theorem walkC (tos id frag ttl proto src dst : Int) (data s t : ByteArray) (w : World) (e1 : Int) (he1 : (e1 == 0) = false) (B1 : Hid (∀ w, Calls Try.prog 9 #[hv tos id frag ttl proto src dst data] w fun e w' => e = .returned (.tuple #[.string t, .int .i64 e1]) ∧ Below w.heap.size w w')) (tos2 id2 frag2 ttl2 proto2 src2 dst2 : Int) (data2 : ByteArray) (P2 : Hid (∀ w, Calls Try.prog 13 #[.string s] w fun e w' => e = .returned (.tuple #[hv tos2 id2 frag2 ttl2 proto2 src2 dst2 data2, .int .i64 0]) ∧ Below w.heap.size w w')) (B2 : Hid (∀ w, Calls Try.prog 9 #[hv tos2 id2 frag2 ttl2 proto2 src2 dst2 data2] w fun e w' => e = .returned (.tuple #[.string s, .int .i64 0]) ∧ Below w.heap.size w w')) :
    Calls Try.prog 5 #[hv tos id frag ttl proto src dst data, .string s] w fun e w' => e = .returned (.bool true) ∧ Below w.heap.size w w' := by
  have lt : ∀ o, w.heap.size < (w.alloc o).heap.size := fun o => by simp
  have le : ∀ (w : World) o, w.heap.size ≤ (w.alloc o).heap.size := fun w o => by simp
  have X0 : Hid _ := box_new w tos id frag ttl proto src dst data
  unfold hv at *
  go_enter Try.func5, Try.ntmps5
  go_wp2_with (first
    | (go_at_call 17; refine (works_ok _).mono ?_; rintro e w1 ⟨rfl, b1⟩; have X1 := X0.out.keep (lt _) b1; obtain ⟨l1, c0, c1, c2, c3, c4, c5, c6, c7⟩ := X1; have Y1 : Hid _ := Box.mk l1 c0 c1 c2 c3 c4 c5 c6 c7; have Z1 : Hid _ := ((Below.refl w.heap.size w).alloc (Nat.le_refl _) _).trans (b1.mono (le w _)); clear b1 l1 X0)
    | (go_at_call_of 9 tos; refine (B1.out _).mono ?_; rintro e w2 ⟨rfl, b2⟩; have X2 := Y1.out.keep Y1.out.lt b2; obtain ⟨l2, x0, x1, x2, x3, x4, x5, x6, x7⟩ := X2; have Z2 : Hid _ := Z1.out.trans (b2.mono Z1.out.size); have Y2 : Hid _ := Box.mk l2 x0 x1 x2 x3 x4 x5 x6 x7; clear b2 l2 Z1 Y1 c0 c1 c2 c3 c4 c5 c6 c7 B1)
    | (go_at_call_of 13 s; refine (P2.out _).mono ?_; rintro e w4 ⟨rfl, b4⟩; have Z4 : Hid _ := Z2.out.trans (b4.mono Z2.out.size); clear b4 P2)
    | (go_at_call_of 9 tos2; refine (B2.out _).mono ?_; rintro e w5 ⟨rfl, b5⟩; have Z5 : Hid _ := (Z4.out.alloc Z4.out.size _).trans (b5.mono (Z4.out.alloc Z4.out.size _).size); clear b5 B2))
  go_ret
  exact ⟨rfl, Z5.out⟩

set_option maxHeartbeats 2000000 in
theorem walkD (tos id frag ttl proto src dst : Int) (data s t : ByteArray) (w : World) (e1 : Int) (he1 : (e1 == 0) = false) (B1 : Hid (∀ w, Calls Try.prog 9 #[hv tos id frag ttl proto src dst data] w fun e w' => e = .returned (.tuple #[.string t, .int .i64 e1]) ∧ Below w.heap.size w w')) (e2 : Int) (he2 : (e2 != 0) = true) (P2 : Hid (∀ w, Calls Try.prog 13 #[.string s] w fun e w' => e = .returned (.tuple #[none', .int .i64 e2]) ∧ Below w.heap.size w w')) :
    Calls Try.prog 5 #[hv tos id frag ttl proto src dst data, .string s] w fun e w' => e = .returned (.bool true) ∧ Below w.heap.size w w' := by
  have lt : ∀ o, w.heap.size < (w.alloc o).heap.size := fun o => by simp
  have le : ∀ (w : World) o, w.heap.size ≤ (w.alloc o).heap.size := fun w o => by simp
  have X0 : Hid _ := box_new w tos id frag ttl proto src dst data
  unfold hv at *
  unfold none' hv at *
  go_enter Try.func5, Try.ntmps5
  go_wp2_with (first
    | (go_at_call 17; refine (works_ok _).mono ?_; rintro e w1 ⟨rfl, b1⟩; have X1 := X0.out.keep (lt _) b1; obtain ⟨l1, c0, c1, c2, c3, c4, c5, c6, c7⟩ := X1; have Y1 : Hid _ := Box.mk l1 c0 c1 c2 c3 c4 c5 c6 c7; have Z1 : Hid _ := ((Below.refl w.heap.size w).alloc (Nat.le_refl _) _).trans (b1.mono (le w _)); clear b1 l1 X0)
    | (go_at_call_of 9 tos; refine (B1.out _).mono ?_; rintro e w2 ⟨rfl, b2⟩; have X2 := Y1.out.keep Y1.out.lt b2; obtain ⟨l2, x0, x1, x2, x3, x4, x5, x6, x7⟩ := X2; have Z2 : Hid _ := Z1.out.trans (b2.mono Z1.out.size); have Y2 : Hid _ := Box.mk l2 x0 x1 x2 x3 x4 x5 x6 x7; clear b2 l2 Z1 Y1 c0 c1 c2 c3 c4 c5 c6 c7 B1)
    | (go_at_call_of 13 s; refine (P2.out _).mono ?_; rintro e w4 ⟨rfl, b4⟩; have Z4 : Hid _ := Z2.out.trans (b4.mono Z2.out.size); clear b4 P2))
  go_ret
  exact ⟨rfl, Z4.out.alloc Z4.out.size _⟩

theorem walk (tos id frag ttl proto src dst : Int) (data s : ByteArray) (w : World) (hs : s.size ≤ 9223372036854775807) (s0 : 0 ≤ src) (s1 : src < 4294967296) (d0 : 0 ≤ dst) (d1 : dst < 4294967296) (hz : data.size ≤ 9223372036854775807) :
    Calls Try.prog 5 #[hv tos id frag ttl proto src dst data, .string s] w fun e w' => e = .returned (.bool true) ∧ Below w.heap.size w w' := by
  have P2 := fun w => parse_ok s w hs
  unfold valOf at P2
  by_cases g : Good s
  · have e0 := err_good s g
    rw [e0, if_pos rfl] at P2
    have B2 : ∀ w, _ := fun w => build_ok _ _ _ _ _ _ _ (s.extract 20 s.size) w (hok_of s) (by have := num2_bd s 2; have := g.2.2.1; unfold said at this; rw [ByteArray.size_extract]; omega) (num4_bd s 12).1 (num4_bd s 12).2 (num4_bd s 16).1 (num4_bd s 16).2
    have ag := again_good s g
    unfold pktOf at ag
    rw [ag] at B2
    by_cases hk : HOK tos id frag ttl proto
    · by_cases hl : data.size ≤ 65515
      · have P1 := fun w => parse_ok (pkt tos id frag ttl proto src dst data) w (by rw [pkt_size]; omega)
        unfold valOf at P1
        rw [err_good _ (pkt_good tos id frag ttl proto src dst data hl s0 s1 d0 d1), if_pos rfl, pkt_hd tos id frag ttl proto src dst data hk s0 s1 d0 d1] at P1
        exact walkA tos id frag ttl proto src dst data s _ w (fun w => build_ok tos id frag ttl proto src dst data w hk hl s0 s1 d0 d1) P1 _ _ _ _ _ _ _ _ P2 B2
      · exact walkC tos id frag ttl proto src dst data s _ w 8 rfl (fun w => build_long tos id frag ttl proto src dst data w hk hz (by omega)) _ _ _ _ _ _ _ _ P2 B2
    · exact walkC tos id frag ttl proto src dst data s _ w 2 rfl (fun w => build_range tos id frag ttl proto src dst data w hk) _ _ _ _ _ _ _ _ P2 B2
  · have e0 : errOf s ≠ 0 := fun e => g (good_err s e)
    rw [if_neg e0] at P2
    have e0' : (errOf s != 0) = true := by simp [e0]
    by_cases hk : HOK tos id frag ttl proto
    · by_cases hl : data.size ≤ 65515
      · have P1 := fun w => parse_ok (pkt tos id frag ttl proto src dst data) w (by rw [pkt_size]; omega)
        unfold valOf at P1
        rw [err_good _ (pkt_good tos id frag ttl proto src dst data hl s0 s1 d0 d1), if_pos rfl, pkt_hd tos id frag ttl proto src dst data hk s0 s1 d0 d1] at P1
        exact walkB tos id frag ttl proto src dst data s _ w (fun w => build_ok tos id frag ttl proto src dst data w hk hl s0 s1 d0 d1) P1 _ e0' P2
      · exact walkD tos id frag ttl proto src dst data s _ w 8 rfl (fun w => build_long tos id frag ttl proto src dst data w hk hz (by omega)) _ e0' P2
    · exact walkD tos id frag ttl proto src dst data s _ w 2 rfl (fun w => build_range tos id frag ttl proto src dst data w hk) _ e0' P2

theorem contract (H : Type) (enc : TypeId × Value → H) (W : World) (base : Nat) (args : Array Value) (ds gs : List (DataW H)) (before : List MemPlace)
    (hval : ∀ (j : Nat) t v, Try.f5.params[j]? = some t → args[j]? = some v → Value.okWide Try.prog W .any base t v)
    (hW : DataW.Whole enc Try.prog Try.f5.params.toList Rows.ipv4BackSpec.vars false W args.toList ds gs before) :
    Calls Try.prog 5 args W fun e W' => ∃ v, e = .returned v ∧ Rows.ipv4BackSpec.post enc Try.prog Try.f5 false true false false W args v W' := by
  have hW' := hW
  obtain ⟨p, q, hA0, hV, rfl, hfz, hnd⟩ := hW
  have hA : DataW.TrodAll enc Try.prog W 0 (fun _ => true) true Try.f5.params.toList args.toList ds p := hA0
  rw [Try.params5] at hA hval
  obtain ⟨v0, vs0, d0, ds0, p0, q0, hargs, rfl, rfl, h0, r0⟩ := trodAll_cons hA
  obtain ⟨v1, vs1, d1, ds1, p1, q1, rfl, rfl, rfl, h1, r1⟩ := trodAll_cons r0
  obtain ⟨rfl, rfl, rfl⟩ := trodAll_nil r1
  obtain rfl : args = #[v0, v1] := by cases args; simp_all
  obtain ⟨rfl, rfl⟩ := trodVars_none hV
  have k0 := h0
  have lt0 : ∀ x ∈ p0, x.block < W.heap.size := by obtain ⟨m, hm⟩ := k0; exact DataW.trod_lt m _ _ _ hm
  obtain ⟨tos, id, frag, ttl, proto, src, dst, data, rfl, s0, s1, d0', d1', z0⟩ := open_hdr (hval 0 24 v0 rfl rfl) h0
  obtain ⟨a1, rfl, rfl, rfl, w1⟩ := open_string Try.underlying9 (hval 1 9 v1 rfl rfl) h1
  clear hA0
  simp only [List.append_nil] at hW'
  refine (walk tos id frag ttl proto src dst data a1 W w1 s0 s1 d0' d1' z0).mono fun e W' ⟨he, bel⟩ => ?_
  subst he
  exact ⟨_, rfl, _, _, _, [], _, [], hW', trodAll_mk1 (shut_bool Try.underlying4 _), (trodAll_cons_mk (Below.trod laidOut (by kernel_rfl) (of_decide_eq_true (by kernel_rfl)) k0 bel lt0) (trodAll_cons_mk (shut_string Try.underlying9 w1) trodAll_mk0)), rfl, bel.frame _, fun h => by cases h⟩

theorem laid_met (os : Os) : laidMet Try.prog Rows.ipv4BackRow.laid ((startWorld Try.prog os).forCall (fun _ _ => 0) ⟨#[], #[.agg #[.int .i64 0, .int .i64 0, .int .i64 0, .int .i64 0, .int .i64 0, .int .u32 0, .int .u32 0, .string ByteArray.empty], .string ByteArray.empty], []⟩).memory :=
  laidMet_of_run' 8 (by kernel_rfl) (by kernel_rfl)
theorem reads (os : Os) {H : Type} (enc : TypeId × Value → H) : ∃ places, DataW.whole enc Try.prog ((startWorld Try.prog os).forCall (fun _ _ => 0) ⟨#[], #[.agg #[.int .i64 0, .int .i64 0, .int .i64 0, .int .i64 0, .int .i64 0, .int .u32 0, .int .u32 0, .string ByteArray.empty], .string ByteArray.empty], []⟩).memory Try.f5.params.toList Rows.ipv4BackSpec.vars false #[Value.agg #[.int .i64 0, .int .i64 0, .int .i64 0, .int .i64 0, .int .i64 0, .int .u32 0, .int .u32 0, .string ByteArray.empty], Value.string ByteArray.empty].toList 8 = some ([.agg [.lit (.int .i64 0), .lit (.int .i64 0), .lit (.int .i64 0), .lit (.int .i64 0), .lit (.int .i64 0), .lit (.int .u32 0), .lit (.int .u32 0), .lit (.string [])], .lit (.string [])], [], places) :=
  ⟨[], by kernel_rfl⟩

set_option maxRecDepth 100000 in
theorem lifted (os : Os) (started : os.Started) (H : Type) (enc : TypeId × Value → H) (F : Stop.Interp) :
    ReturnsInHanded {} Try.checked os 5 .any ((OpenSpec.ofChange Rows.ipv4BackSpec).preRow enc Try.prog Try.f5 Rows.ipv4BackRow.domain false Rows.ipv4BackRow.laid) (((OpenSpec.ofChange Rows.ipv4BackSpec).at F).post enc Try.prog Try.f5 false true false false) := by
  obtain ⟨places, hx⟩ := reads os enc
  refine returnsInHanded_of_row (C := Try.checked) (s := OpenSpec.ofChange Rows.ipv4BackSpec) own started (by kernel_rfl) Try.func5
    (witness_row_at (enc := enc) (C := Try.checked) false (startWorld Try.prog os) #[.agg #[.int .i64 0, .int .i64 0, .int .i64 0, .int .i64 0, .int .i64 0, .int .u32 0, .int .u32 0, .string ByteArray.empty], .string ByteArray.empty] rfl (by kernel_rfl) (by kernel_rfl) (by kernel_rfl)
      (OpenSpec.preRow_of_cond 8 hx (by kernel_rfl) (fun k hk => by cases hk) (by kernel_rfl) (laid_met os))) ?_
  intro W base args ds gs before hval hW _ _ _ _ _ _
  exact contract H enc W base args ds gs before hval hW

theorem said : Rows.Ipv4BackSaid :=
  OpenClaim.holds_of_cond 5 Try.f5 rfl rfl rfl rfl rfl rfl rfl ⟨rfl, rfl, rfl, rfl, rfl⟩ rfl rfl rfl rfl rfl (by kernel_rfl) Try.func5 (by kernel_rfl)
    (of_decide_eq_true (by kernel_rfl)) (by unfold Func.isWrapper; first | (rw [if_pos (by decide +kernel)]; kernel_rfl) | (rw [if_neg (by decide +kernel)]; exact ⟨rfl, rfl⟩))
    (fun os started H enc _ F => by rw [OpenClaim.pre_eq_preRow]; exact lifted os started H enc F)
end Go.Proofs.Ythegfidmkenkeaa.ipv4Back
namespace Go.Proofs.Ythegfidmkenkeaa
theorem ipv4Back_said : Rows.Ipv4BackSaid := ipv4Back.said
end Go.Proofs.Ythegfidmkenkeaa
