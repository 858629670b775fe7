/-
  The law UdpWithin returns true for every datagram and every Ttl: a datagram in a packet between its addresses is read out of it, a hop further. No condition but the form's own reach.
-/
import Derived.Test.YtaloccmfpehhcaaUdpMath
import Derived.Test.YtaloccmfpehhcaaUdpWorks
import Derived.Test.YtaloccmfpehhcaaUdpOpen
import Derived.Test.YtaloccmfpehhcaaIpBytes
import Derived.Test.YtaloccmfpehhcaaIpHop
import Derived.Test.YtaloccmfpehhcaaIpPlace
import Derived.Test.YtaloccmfpehhcaaIpOpen
import Derived.LaidLaws
namespace Go.Proofs.Ytaloccmfpehhcaa.udpWithin
open Go.ChangeShapes Go.WideShapes Go.ChangeAt Go.RowKit
open Go.ChangeMaps (open_string shut_string)

set_option maxHeartbeats 2000000 in
theorem wN (src dst fr to : Int) (data : ByteArray) (ttl : Int) (w : World) (e1 : Int) (he1 : (e1 != 0) = true) (B1 : Hid (∀ w, Calls Try.prog 9 #[.int .u32 src, .int .u32 dst, .int .i64 fr, .int .i64 to, .string data] w fun e w' => e = .returned (.tuple #[.string ⟨#[]⟩, .int .i64 e1]) ∧ Below w.heap.size w w')) :
    Calls Try.prog 8 #[gv src dst fr to data, .int .i64 ttl] w fun e w' => e = .returned (.bool true) ∧ Below w.heap.size w w' := by
  have lt : ∀ o, w.heap.size < (w.alloc o).heap.size := fun o => by simp
  have le : ∀ (w : World) o, w.heap.size ≤ (w.alloc o).heap.size := fun w o => by simp
  have X0 : Hid _ := gbox_new w src dst fr to data
  unfold gv at *
  go_enter Try.func8, Try.ntmps8
  go_wp2_with (first
    | (go_at_call 15; refine (works_ok _).mono ?_; rintro e w1 ⟨rfl, b1⟩; have X1 := X0.out.keep (lt _) b1; obtain ⟨l1, c0, c1, c2, c3, c4⟩ := X1; have Y1 : Hid _ := GBox.mk l1 c0 c1 c2 c3 c4; have Z1 : Hid _ := ((Below.refl w.heap.size w).alloc (Nat.le_refl _) _).trans (b1.mono (le w _)); clear b1 X0)
    | (go_at_call 9; refine (B1.out _).mono ?_; rintro e w2 ⟨rfl, b2⟩; have X2 := Y1.out.keep Y1.out.lt b2; have k0 := X2.c0; have k1 := X2.c1; have Y2 : Hid _ := X2; have Z2 : Hid _ := Z1.out.trans (b2.mono Z1.out.size); clear b2 Z1 Y1 c0 c1 c2 c3 c4 B1 X2))
  go_ret
  exact ⟨rfl, Z2.out⟩

set_option maxHeartbeats 2000000 in
theorem wM (src dst fr to : Int) (data : ByteArray) (ttl : Int) (w : World) (s p q : ByteArray) (k : Nat) (ek : wrap64 ((IntKind.u64.wrap ttl).tmod 200) = k) (lk : k < 200) (B1 : Hid (∀ w, Calls Try.prog 9 #[.int .u32 src, .int .u32 dst, .int .i64 fr, .int .i64 to, .string data] w fun e w' => e = .returned (.tuple #[.string s, .int .i64 0]) ∧ Below w.heap.size w w')) (B2 : Hid (∀ w, Calls Try.prog 16 #[hv 0 0 0 (2 + k) 17 src dst s] w fun e w' => e = .returned (.tuple #[.string p, .int .i64 0]) ∧ Below w.heap.size w w')) (HO : Hid (∀ w, Calls Try.prog 17 #[.string p] w fun e w' => e = .returned (.tuple #[.string q, .int .i64 0]) ∧ Below w.heap.size w w')) (PA : Hid (∀ w, Calls Try.prog 18 #[.string q] w fun e w' => e = .returned (.tuple #[hv 0 0 0 (2 + k - 1) 17 src dst s, .int .i64 0]) ∧ Below w.heap.size w w')) (UP : Hid (∀ w, Calls Try.prog 11 #[.int .u32 src, .int .u32 dst, .string s] w fun e w' => e = .returned (.tuple #[.int .i64 fr, .int .i64 to, .string data, .int .i64 0]) ∧ Below w.heap.size w w')) :
    Calls Try.prog 8 #[gv src dst fr to data, .int .i64 ttl] w fun e w' => e = .returned (.bool true) ∧ Below w.heap.size w w' := by
  have lt : ∀ o, w.heap.size < (w.alloc o).heap.size := fun o => by simp
  have le : ∀ (w : World) o, w.heap.size ≤ (w.alloc o).heap.size := fun w o => by simp
  have X0 : Hid _ := gbox_new w src dst fr to data
  have wk : IntKind.i64.wrap (2 + (k : Int)) = 2 + k := by simp [IntKind.wrap, IntKind.bits, IntKind.signed]; omega
  unfold hv at *
  unfold gv at *
  go_enter Try.func8, Try.ntmps8
  go_wp2_with (first
    | (go_at_call 15; refine (works_ok _).mono ?_; rintro e w1 ⟨rfl, b1⟩; have X1 := X0.out.keep (lt _) b1; obtain ⟨l1, c0, c1, c2, c3, c4⟩ := X1; have Y1 : Hid _ := GBox.mk l1 c0 c1 c2 c3 c4; have Z1 : Hid _ := ((Below.refl w.heap.size w).alloc (Nat.le_refl _) _).trans (b1.mono (le w _)); clear b1 X0)
    | (go_at_call 9; refine (B1.out _).mono ?_; rintro e w2 ⟨rfl, b2⟩; have X2 := Y1.out.keep Y1.out.lt b2; have k0 := X2.c0; have k1 := X2.c1; have Y2 : Hid _ := X2; have Z2 : Hid _ := Z1.out.trans (b2.mono Z1.out.size); clear b2 Z1 Y1 c0 c1 c2 c3 c4 B1 X2)
    | (go_at_call 16; refine (B2.out _).mono ?_; rintro e w3 ⟨rfl, b3⟩; have Y3 : Hid _ := Y2.out.keep Y2.out.lt b3; have Z3 : Hid _ := Z2.out.trans (b3.mono Z2.out.size); clear b3 Z2 Y2 k0 k1 B2)
    | (go_at_call 17; refine (HO.out _).mono ?_; rintro e w4 ⟨rfl, b4⟩; have Y4 : Hid _ := Y3.out.keep Y3.out.lt b4; have Z4 : Hid _ := Z3.out.trans (b4.mono Z3.out.size); clear b4 Z3 Y3 HO)
    | (go_at_call 18; refine (PA.out _).mono ?_; rintro e w5 ⟨rfl, b5⟩; have Y5 : Hid _ := Y4.out.keep Y4.out.lt b5; have Z5 : Hid _ := Z4.out.trans (b5.mono Z4.out.size); clear b5 Z4 Y4 PA)
    | (go_at_call 11; refine (UP.out _).mono ?_; rintro e w6 ⟨rfl, b6⟩; have q6 := Y5.out.keep (B := w5.heap.size) Y5.out.lt (((Below.refl _ _).alloc (Nat.le_refl _) _).trans (b6.mono (le w5 _))); obtain ⟨l6, k0, k1, k2, k3, k4⟩ := q6; have Z6 : Hid _ := Z5.out.trans (((((Below.refl _ _).alloc (Nat.le_refl _) _).trans (b6.mono (le w5 _)))).mono Z5.out.size); clear b6 Z5 Y5 UP))
  go_ret
  exact ⟨rfl, Z6.out⟩

theorem walk (src dst fr to : Int) (data : ByteArray) (ttl : Int) (w : World) (s0 : 0 ≤ src) (s1 : src < 4294967296) (d0 : 0 ≤ dst) (d1 : dst < 4294967296) :
    Calls Try.prog 8 #[gv src dst fr to data, .int .i64 ttl] w fun e w' => e = .returned (.bool true) ∧ Below w.heap.size w w' := by
  by_cases hk : (0 ≤ fr ∧ fr ≤ 65535) ∧ (0 ≤ to ∧ to ≤ 65535)
  · by_cases hl : data.size ≤ 65507
    · have B1 : Hid (∀ w, _) := fun w => ub_ok src dst fr to data w s0 s1 d0 d1 hk.1 hk.2 hl
      have z := gram_size src dst fr to data
      have UP : Hid (∀ w, Calls Try.prog 11 #[.int .u32 src, .int .u32 dst, .string (gram src dst fr to data)] w fun e w' => e = .returned (.tuple #[.int .i64 fr, .int .i64 to, .string data, .int .i64 0]) ∧ Below w.heap.size w w') := fun w => by
        have := up_ok src dst (gram src dst fr to data) w (by omega) s0 s1 d0 d1
        rwa [gram_val src dst fr to data hk.1 hk.2 hl] at this
      generalize gram src dst fr to data = s at *
      obtain ⟨k, ek, lk⟩ := place ttl 200 (by decide) (by decide)
      have hs : s.size ≤ 65515 := by omega
      have hok : ∀ m : Int, 0 ≤ m → m ≤ 255 → HOK 0 0 0 m 17 := fun m a b => ⟨⟨by omega, by omega⟩, ⟨a, b⟩, ⟨by omega, by omega⟩, ⟨by omega, by omega⟩, ⟨by omega, by omega⟩⟩
      have PP : ∀ m : Int, 0 ≤ m → m ≤ 255 → ∀ w, Calls Try.prog 18 #[.string (pkt 0 0 0 m 17 src dst s)] w fun e w' => e = .returned (.tuple #[hv 0 0 0 m 17 src dst s, .int .i64 0]) ∧ Below w.heap.size w w' := fun m a b w => by
        have := parse_ok (pkt 0 0 0 m 17 src dst s) w (by rw [pkt_size]; omega)
        unfold valOf at this
        rwa [err_good _ (pkt_good 0 0 0 m 17 src dst s hs s0 s1 d0 d1), if_pos rfl, pkt_hd 0 0 0 m 17 src dst s (hok m a b) s0 s1 d0 d1] at this
      exact wM src dst fr to data ttl w s (pkt 0 0 0 (2 + k) 17 src dst s) (pkt 0 0 0 (2 + k - 1) 17 src dst s) k ek (by omega) B1
        (fun w => build_ok 0 0 0 (2 + k) 17 src dst s w (hok _ (by omega) (by omega)) hs s0 s1 d0 d1)
        (fun w => hop_go _ _ w 0 0 0 (2 + k) 17 src dst s (by omega) (by omega) (PP _ (by omega) (by omega)) (fun w => build_ok 0 0 0 (2 + k - 1) 17 src dst s w (hok _ (by omega) (by omega)) hs s0 s1 d0 d1))
        (PP _ (by omega) (by omega)) UP
    · exact wN src dst fr to data ttl w 8 rfl (fun w => ub_long src dst fr to data w hk.1 hk.2 (by omega))
  · exact wN src dst fr to data ttl w 2 rfl (fun w => ub_range src dst fr to data w hk)

theorem contract (H : Type) (enc : TypeId × Value → H) (W : World) (base : Nat) (args : Array Value) (ds gs : List (DataW H)) (before : List MemPlace)
    (hval : ∀ (j : Nat) t v, Try.f8.params[j]? = some t → args[j]? = some v → Value.okWide Try.prog W .any base t v)
    (hW : DataW.Whole enc Try.prog Try.f8.params.toList Rows.udpWithinSpec.vars false W args.toList ds gs before) :
    Calls Try.prog 8 args W fun e W' => ∃ v, e = .returned v ∧ Rows.udpWithinSpec.post enc Try.prog Try.f8 false true false false W args v W' := by
  have hW' := hW
  obtain ⟨p, q, hA0, hV, rfl, hfz, hnd⟩ := hW
  have hA : DataW.TrodAll enc Try.prog W 0 (fun _ => true) true Try.f8.params.toList args.toList ds p := hA0
  rw [Try.params8] at hA hval
  obtain ⟨v0, vs0, d0, ds0, p0, q0, hargs, rfl, rfl, h0, r0⟩ := trodAll_cons hA
  obtain ⟨v1, vs1, d1, ds1, p1, q1, rfl, rfl, rfl, h1, r1⟩ := trodAll_cons r0
  obtain ⟨rfl, rfl, rfl⟩ := trodAll_nil r1
  obtain rfl : args = #[v0, v1] := by cases args; simp_all
  obtain ⟨rfl, rfl⟩ := trodVars_none hV
  have k0 := h0
  have lt0 : ∀ x ∈ p0, x.block < W.heap.size := by obtain ⟨m, hm⟩ := k0; exact DataW.trod_lt m _ _ _ hm
  obtain ⟨src, dst, fr, to, data, rfl, s0, s1, d0', d1', z0⟩ := open_gram (hval 0 24 v0 rfl rfl) h0
  obtain ⟨a1, rfl, rfl, rfl, w1⟩ := open_int Try.underlying3 (hval 1 3 v1 rfl rfl) h1
  have b1 := bounds_i64 w1
  clear hA0
  simp only [List.append_nil] at hW'
  refine (walk src dst fr to data a1 W s0 s1 d0' d1').mono fun e W' ⟨he, bel⟩ => ?_
  subst he
  exact ⟨_, rfl, _, _, _, [], _, [], hW', trodAll_mk1 (shut_bool Try.underlying4 _), (trodAll_cons_mk (Below.trod laidOut (by kernel_rfl) (of_decide_eq_true (by kernel_rfl)) k0 bel lt0) (trodAll_cons_mk (shut_int Try.underlying3 w1) trodAll_mk0)), rfl, bel.frame _, fun h => by cases h⟩

theorem laid_met (os : Os) : laidMet Try.prog Rows.udpWithinRow.laid ((startWorld Try.prog os).forCall (fun _ _ => 0) ⟨#[], #[.agg #[.int .u32 0, .int .u32 0, .int .i64 0, .int .i64 0, .string ByteArray.empty], .int .i64 0], []⟩).memory :=
  laidMet_of_run' 8 (by kernel_rfl) (by kernel_rfl)
theorem reads (os : Os) {H : Type} (enc : TypeId × Value → H) : ∃ places, DataW.whole enc Try.prog ((startWorld Try.prog os).forCall (fun _ _ => 0) ⟨#[], #[.agg #[.int .u32 0, .int .u32 0, .int .i64 0, .int .i64 0, .string ByteArray.empty], .int .i64 0], []⟩).memory Try.f8.params.toList Rows.udpWithinSpec.vars false #[Value.agg #[.int .u32 0, .int .u32 0, .int .i64 0, .int .i64 0, .string ByteArray.empty], Value.int .i64 0].toList 8 = some ([.agg [.lit (.int .u32 0), .lit (.int .u32 0), .lit (.int .i64 0), .lit (.int .i64 0), .lit (.string [])], .lit (.int .i64 0)], [], places) :=
  ⟨[], by kernel_rfl⟩

set_option maxRecDepth 100000 in
theorem lifted (os : Os) (started : os.Started) (H : Type) (enc : TypeId × Value → H) (F : Stop.Interp) :
    ReturnsInHanded {} Try.checked os 8 .any ((OpenSpec.ofChange Rows.udpWithinSpec).preRow enc Try.prog Try.f8 Rows.udpWithinRow.domain false Rows.udpWithinRow.laid) (((OpenSpec.ofChange Rows.udpWithinSpec).at F).post enc Try.prog Try.f8 false true false false) := by
  obtain ⟨places, hx⟩ := reads os enc
  refine returnsInHanded_of_row (C := Try.checked) (s := OpenSpec.ofChange Rows.udpWithinSpec) own started (by kernel_rfl) Try.func8
    (witness_row_at (enc := enc) (C := Try.checked) false (startWorld Try.prog os) #[.agg #[.int .u32 0, .int .u32 0, .int .i64 0, .int .i64 0, .string ByteArray.empty], .int .i64 0] rfl (by kernel_rfl) (by kernel_rfl) (by kernel_rfl)
      (OpenSpec.preRow_of_cond 8 hx (by kernel_rfl) (fun k hk => by cases hk) (by kernel_rfl) (laid_met os))) ?_
  intro W base args ds gs before hval hW _ _ _ _ _ _
  exact contract H enc W base args ds gs before hval hW

theorem said : Rows.UdpWithinSaid :=
  OpenClaim.holds_of_cond 8 Try.f8 rfl rfl rfl rfl rfl rfl rfl ⟨rfl, rfl, rfl, rfl, rfl⟩ rfl rfl rfl rfl rfl (by kernel_rfl) Try.func8 (by kernel_rfl)
    (of_decide_eq_true (by kernel_rfl)) (by unfold Func.isWrapper; first | (rw [if_pos (by decide +kernel)]; kernel_rfl) | (rw [if_neg (by decide +kernel)]; exact ⟨rfl, rfl⟩))
    (fun os started H enc _ F => by rw [OpenClaim.pre_eq_preRow]; exact lifted os started H enc F)
end Go.Proofs.Ytaloccmfpehhcaa.udpWithin
namespace Go.Proofs.Ytaloccmfpehhcaa
theorem udpWithin_said : Rows.UdpWithinSaid := udpWithin.said
end Go.Proofs.Ytaloccmfpehhcaa
