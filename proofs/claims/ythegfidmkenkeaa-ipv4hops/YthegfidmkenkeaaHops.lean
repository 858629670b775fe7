/-
  The law Ipv4Hops returns true for every header: a packet goes as many hops as its Ttl allows, each time with 1 less, nothing else but the check sum being changed. No condition but the form's own reach.
-/
import Derived.Test.YthegfidmkenkeaaIpWorks
import Derived.Test.YthegfidmkenkeaaIpHop
import Derived.Test.YthegfidmkenkeaaIpHopMath
import Derived.Test.YthegfidmkenkeaaIpOpen
import Derived.LaidLaws
namespace Go.Proofs.Ythegfidmkenkeaa.ipv4Hops
open Go.ChangeShapes Go.WideShapes Go.ChangeAt Go.RowKit
open Go.ChangeMaps (open_string shut_string)
set_option maxHeartbeats 2000000 in
theorem wN (tos id frag ttl proto src dst : Int) (data : ByteArray) (w : World) (e1 : Int) (he1 : (e1 != 0) = true) (s : ByteArray) (B1 : Hid (∀ w, Calls Try.prog 9 #[hv tos id frag ttl proto src dst data] w fun e w' => e = .returned (.tuple #[.string s, .int .i64 e1]) ∧ Below w.heap.size w w')) :
    Calls Try.prog 7 #[hv tos id frag ttl proto src dst data] w fun e w' => e = .returned (.bool true) ∧ Below w.heap.size w w' := by
  have lt : ∀ o, w.heap.size < (w.alloc o).heap.size := fun o => by simp
  have le : ∀ (w : World) o, w.heap.size ≤ (w.alloc o).heap.size := fun w o => by simp
  have X0 : Hid _ := box_new w tos id frag ttl proto src dst data
  unfold hv at *
  go_enter Try.func7, Try.ntmps7
  go_wp2_with (first
    | (go_at_call 17; refine (works_ok _).mono ?_; rintro e w1 ⟨rfl, b1⟩; have X1 := X0.out.keep (lt _) b1; obtain ⟨l1, c0, c1, c2, c3, c4, c5, c6, c7⟩ := X1; have Y1 : Hid _ := Box.mk l1 c0 c1 c2 c3 c4 c5 c6 c7; have Z1 : Hid _ := ((Below.refl w.heap.size w).alloc (Nat.le_refl _) _).trans (b1.mono (le w _)); clear b1 X0)
    | (go_at_call 9; refine (B1.out _).mono ?_; rintro e w2 ⟨rfl, b2⟩; have x3 := (Y1.out.keep Y1.out.lt b2).c3; have Z2 : Hid _ := Z1.out.trans (b2.mono Z1.out.size); clear b2 Z1 Y1 c0 c1 c2 c3 c4 c5 c6 c7 B1))
  go_ret
  exact ⟨rfl, Z2.out⟩
set_option maxHeartbeats 2000000 in
theorem wL (tos id frag ttl proto src dst : Int) (data : ByteArray) (w : World) (s : ByteArray) (B1 : Hid (∀ w, Calls Try.prog 9 #[hv tos id frag ttl proto src dst data] w fun e w' => e = .returned (.tuple #[.string s, .int .i64 0]) ∧ Below w.heap.size w w')) (hl : 200 < s.size) :
    Calls Try.prog 7 #[hv tos id frag ttl proto src dst data] w fun e w' => e = .returned (.bool true) ∧ Below w.heap.size w w' := by
  have lt : ∀ o, w.heap.size < (w.alloc o).heap.size := fun o => by simp
  have le : ∀ (w : World) o, w.heap.size ≤ (w.alloc o).heap.size := fun w o => by simp
  have X0 : Hid _ := box_new w tos id frag ttl proto src dst data
  unfold hv at *
  go_enter Try.func7, Try.ntmps7
  go_wp2_with (first
    | (go_at_call 17; refine (works_ok _).mono ?_; rintro e w1 ⟨rfl, b1⟩; have X1 := X0.out.keep (lt _) b1; obtain ⟨l1, c0, c1, c2, c3, c4, c5, c6, c7⟩ := X1; have Y1 : Hid _ := Box.mk l1 c0 c1 c2 c3 c4 c5 c6 c7; have Z1 : Hid _ := ((Below.refl w.heap.size w).alloc (Nat.le_refl _) _).trans (b1.mono (le w _)); clear b1 X0)
    | (go_at_call 9; refine (B1.out _).mono ?_; rintro e w2 ⟨rfl, b2⟩; have x3 := (Y1.out.keep Y1.out.lt b2).c3; have Z2 : Hid _ := Z1.out.trans (b2.mono Z1.out.size); clear b2 Z1 Y1 c0 c1 c2 c3 c4 c5 c6 c7 B1))
  go_ret
  exact ⟨rfl, Z2.out⟩

set_option maxHeartbeats 2000000 in
theorem wM (tos id frag ttl proto src dst : Int) (data : ByteArray) (w : World) (f : Int → ByteArray) (N : Nat) (hN : 20 ≤ N) (hN2 : N ≤ 200) (ht : 0 ≤ ttl ∧ ttl ≤ 255) (B1 : Hid (∀ w, Calls Try.prog 9 #[hv tos id frag ttl proto src dst data] w fun e w' => e = .returned (.tuple #[.string (f ttl), .int .i64 0]) ∧ Below w.heap.size w w')) (hz : Hid (∀ m, (f m).size = N)) (hzt : (f ttl).size = N) (HG : Hid (∀ m, 1 < m → m ≤ 255 → ∀ w, Calls Try.prog 15 #[.string (f m)] w fun e w' => e = .returned (.tuple #[.string (f (m - 1)), .int .i64 0]) ∧ Below w.heap.size w w')) (HS : Hid (∀ m, 0 ≤ m → m ≤ 1 → ∀ w, Calls Try.prog 15 #[.string (f m)] w fun e w' => e = .returned (.tuple #[.string ⟨#[]⟩, .int .i64 2]) ∧ Below w.heap.size w w')) (F8 : Hid (∀ m, 0 ≤ m → m ≤ 255 → byt (f m) 8 = m)) (F9 : Hid (∀ m n, byt (f m) 9 = byt (f n) 9)) (FA : Hid (∀ m n, (f m).extract 0 8 = (f n).extract 0 8)) (FB : Hid (∀ m n, (f m).extract 12 N = (f n).extract 12 N)) :
    Calls Try.prog 7 #[hv tos id frag ttl proto src dst data] w fun e w' => e = .returned (.bool true) ∧ Below w.heap.size w w' := by
  have lt : ∀ o, w.heap.size < (w.alloc o).heap.size := fun o => by simp
  have le : ∀ (w : World) o, w.heap.size ≤ (w.alloc o).heap.size := fun w o => by simp
  have X0 : Hid _ := box_new w tos id frag ttl proto src dst data
  unfold hv at *
  go_enter Try.func7, Try.ntmps7
  go_wp2_with (first
    | (go_at_call 17; refine (works_ok _).mono ?_; rintro e w1 ⟨rfl, b1⟩; have X1 := X0.out.keep (lt _) b1; obtain ⟨l1, c0, c1, c2, c3, c4, c5, c6, c7⟩ := X1; have Y1 : Hid _ := Box.mk l1 c0 c1 c2 c3 c4 c5 c6 c7; have Z1 : Hid _ := ((Below.refl w.heap.size w).alloc (Nat.le_refl _) _).trans (b1.mono (le w _)); clear b1 X0)
    | (go_at_call 9; refine (B1.out _).mono ?_; rintro e w2 ⟨rfl, b2⟩; have x3 := (Y1.out.keep Y1.out.lt b2).c3; have Z2 : Hid _ := Z1.out.trans (b2.mono Z1.out.size); clear b2 Z1 Y1 c0 c1 c2 c3 c4 c5 c6 c7 B1))
  go_loopw [3, 5] (fun s n w' => ∃ m : Int, (0 ≤ m ∧ m ≤ 255) ∧ n = .int .i64 m ∧ s = .string (f m) ∧ Hid (Below w.heap.size w w')) (fun _ n _ => (intOf n).toNat)
  case atStart => exact ⟨ttl, ht, rfl, rfl, Z2⟩
  case round =>
    obtain ⟨m, hm, rfl, rfl, hbel⟩ := hrel
    clear x3 hzt
    by_cases h1 : 1 < m
    · have G : Hid (∀ w, _) := HG.out m h1 hm.2
      have e8 := F8.out (m - 1) (by omega) (by omega)
      have e9 := F9.out (m - 1) m
      have eA := FA.out (m - 1) m
      have eB := FB.out (m - 1) m
      have z1 := hz.out (m - 1)
      have z2 := hz.out m
      have p8 : 8 < (f (m - 1)).size := by omega
      have p9 : 9 < (f (m - 1)).size := by omega
      have p9' : 9 < (f m).size := by omega
      have i8 := byt_eq (f (m - 1)) 8 p8
      have i9 := byt_eq (f (m - 1)) 9 p9
      have i9' := byt_eq (f m) 9 p9'
      have q9 := byt_bd (f m) 9
      rw [e8] at i8
      rw [e9] at i9
      have wm : IntKind.i64.wrap (m - 1) = m - 1 := by simp [IntKind.wrap, IntKind.bits, IntKind.signed]; omega
      clear HG HS F8 F9 FA FB hz e8 e9
      generalize byt (f m) 9 = q at *
      generalize hVe : f (m - 1) = V at *
      replace hVe : Hid _ := hVe
      generalize hSe : f m = S at *
      replace hSe : Hid _ := hSe
      have l8 : (8 : Int) < V.size := by omega
      have l9 : (9 : Int) < V.size := by omega
      have l9' : (9 : Int) < S.size := by omega
      have k8 : (8 : Int) ≤ V.size := by omega
      have k8' : (8 : Int) ≤ S.size := by omega
      have k12 : (12 : Int) ≤ V.size := by omega
      have k12' : (12 : Int) ≤ S.size := by omega
      go_wp2_with (go_at_call 15; refine (G.out _).mono ?_; rintro e w3 ⟨rfl, b3⟩; replace b3 : Hid _ := b3)
      go_quiet (fail)
      go_wp2
      have hB : Hid (Below w.heap.size w (w3.drewN nq)) := (hbel.out.trans (b3.out.mono hbel.out.size)).trans ⟨rfl, rfl, rfl, Nat.le_refl _, fun _ _ => rfl⟩
      go_roundw
      case rel => exact ⟨m - 1, by omega, rfl, by rw [hVe.out], hB⟩
      case measure => simp [intOf]; omega
    · have S : Hid (∀ w, _) := HS.out m hm.1 (by omega)
      clear HG HS F8 F9 FA FB hz
      generalize f m = s at *
      go_wp2_with (go_at_call 15; refine (S.out _).mono ?_; rintro e w3 ⟨rfl, b3⟩; replace b3 : Hid _ := b3)
      go_ret
      exact ⟨rfl, hbel.out.trans (b3.out.mono hbel.out.size)⟩

theorem walk (tos id frag ttl proto src dst : Int) (data : ByteArray) (w : World) (s0 : 0 ≤ src) (s1 : src < 4294967296) (d0 : 0 ≤ dst) (d1 : dst < 4294967296) (hz : data.size ≤ 9223372036854775807) :
    Calls Try.prog 7 #[hv tos id frag ttl proto src dst data] w fun e w' => e = .returned (.bool true) ∧ Below w.heap.size w w' := by
  by_cases hk : HOK tos id frag ttl proto
  · by_cases hl : data.size ≤ 65515
    · have B1 : Hid (∀ w, _) := fun w => build_ok tos id frag ttl proto src dst data w hk hl s0 s1 d0 d1
      by_cases h200 : 200 < 20 + data.size
      · exact wL tos id frag ttl proto src dst data w _ B1 (by rw [pkt_size]; exact h200)
      · have hok : ∀ m, 0 ≤ m → m ≤ 255 → HOK tos id frag m proto := fun m a b => ⟨hk.1, ⟨a, b⟩, hk.2.2⟩
        have PP : ∀ m, 0 ≤ m → m ≤ 255 → ∀ w, Calls Try.prog 13 #[.string (pkt tos id frag m proto src dst data)] w fun e w' => e = .returned (.tuple #[hv tos id frag m proto src dst data, .int .i64 0]) ∧ Below w.heap.size w w' := fun m a b w => by
          have := parse_ok (pkt tos id frag m proto src dst data) w (by rw [pkt_size]; omega)
          unfold valOf at this
          rwa [err_good _ (pkt_good tos id frag m proto src dst data hl s0 s1 d0 d1), if_pos rfl, pkt_hd tos id frag m proto src dst data (hok m a b) s0 s1 d0 d1] at this
        exact wM tos id frag ttl proto src dst data w (fun m => pkt tos id frag m proto src dst data) (20 + data.size) (by omega) (by omega) hk.2.1 B1 (fun m => pkt_size tos id frag m proto src dst data) (pkt_size tos id frag ttl proto src dst data)
          (fun m a b w => hop_go _ _ w tos id frag m proto src dst data (by omega) b (PP m (by omega) b) (fun w => build_ok tos id frag (m - 1) proto src dst data w (hok (m - 1) (by omega) (by omega)) hl s0 s1 d0 d1))
          (fun m a b w => hop_stop _ w tos id frag m proto src dst data (by omega) (PP m a (by omega)))
          (fun m a b => hop_eight tos id frag m proto src dst data ⟨a, b⟩ s0 s1 d0 d1) (fun m n => hop_nine tos id frag n m proto src dst data s0 s1 d0 d1) (fun m n => hop_front tos id frag n m proto src dst data s0 s1 d0 d1) (fun m n => hop_rest tos id frag n m proto src dst data s0 s1 d0 d1)
    · exact wN tos id frag ttl proto src dst data w 8 rfl _ (fun w => build_long tos id frag ttl proto src dst data w hk hz (by omega))
  · exact wN tos id frag ttl proto src dst data w 2 rfl _ (fun w => build_range tos id frag ttl proto src dst data w hk)

theorem contract (H : Type) (enc : TypeId × Value → H) (W : World) (base : Nat) (args : Array Value) (ds gs : List (DataW H)) (before : List MemPlace)
    (hval : ∀ (j : Nat) t v, Try.f7.params[j]? = some t → args[j]? = some v → Value.okWide Try.prog W .any base t v)
    (hW : DataW.Whole enc Try.prog Try.f7.params.toList Rows.ipv4HopsSpec.vars false W args.toList ds gs before) :
    Calls Try.prog 7 args W fun e W' => ∃ v, e = .returned v ∧ Rows.ipv4HopsSpec.post enc Try.prog Try.f7 false true false false W args v W' := by
  have hW' := hW
  obtain ⟨p, q, hA0, hV, rfl, hfz, hnd⟩ := hW
  have hA : DataW.TrodAll enc Try.prog W 0 (fun _ => true) true Try.f7.params.toList args.toList ds p := hA0
  rw [Try.params7] at hA hval
  obtain ⟨v0, vs0, d0, ds0, p0, q0, hargs, rfl, rfl, h0, r0⟩ := trodAll_cons hA
  obtain ⟨rfl, rfl, rfl⟩ := trodAll_nil r0
  obtain rfl : args = #[v0] := by cases args; simp_all
  obtain ⟨rfl, rfl⟩ := trodVars_none hV
  have k0 := h0
  have lt0 : ∀ x ∈ p0, x.block < W.heap.size := by obtain ⟨m, hm⟩ := k0; exact DataW.trod_lt m _ _ _ hm
  obtain ⟨tos, id, frag, ttl, proto, src, dst, data, rfl, s0, s1, d0', d1', z0⟩ := open_hdr (hval 0 24 v0 rfl rfl) h0
  clear hA0
  simp only [List.append_nil] at hW'
  refine (walk tos id frag ttl proto src dst data W s0 s1 d0' d1' z0).mono fun e W' ⟨he, bel⟩ => ?_
  subst he
  exact ⟨_, rfl, _, _, _, [], _, [], hW', trodAll_mk1 (shut_bool Try.underlying4 _), (trodAll_cons_mk (Below.trod laidOut (by kernel_rfl) (of_decide_eq_true (by kernel_rfl)) k0 bel lt0) trodAll_mk0), rfl, bel.frame _, fun h => by cases h⟩

theorem laid_met (os : Os) : laidMet Try.prog Rows.ipv4HopsRow.laid ((startWorld Try.prog os).forCall (fun _ _ => 0) ⟨#[], #[.agg #[.int .i64 0, .int .i64 0, .int .i64 0, .int .i64 0, .int .i64 0, .int .u32 0, .int .u32 0, .string ByteArray.empty]], []⟩).memory :=
  laidMet_of_run' 8 (by kernel_rfl) (by kernel_rfl)
theorem reads (os : Os) {H : Type} (enc : TypeId × Value → H) : ∃ places, DataW.whole enc Try.prog ((startWorld Try.prog os).forCall (fun _ _ => 0) ⟨#[], #[.agg #[.int .i64 0, .int .i64 0, .int .i64 0, .int .i64 0, .int .i64 0, .int .u32 0, .int .u32 0, .string ByteArray.empty]], []⟩).memory Try.f7.params.toList Rows.ipv4HopsSpec.vars false #[Value.agg #[.int .i64 0, .int .i64 0, .int .i64 0, .int .i64 0, .int .i64 0, .int .u32 0, .int .u32 0, .string ByteArray.empty]].toList 8 = some ([.agg [.lit (.int .i64 0), .lit (.int .i64 0), .lit (.int .i64 0), .lit (.int .i64 0), .lit (.int .i64 0), .lit (.int .u32 0), .lit (.int .u32 0), .lit (.string [])]], [], places) :=
  ⟨[], by kernel_rfl⟩

set_option maxRecDepth 100000 in
theorem lifted (os : Os) (started : os.Started) (H : Type) (enc : TypeId × Value → H) (F : Stop.Interp) :
    ReturnsInHanded {} Try.checked os 7 .any ((OpenSpec.ofChange Rows.ipv4HopsSpec).preRow enc Try.prog Try.f7 Rows.ipv4HopsRow.domain false Rows.ipv4HopsRow.laid) (((OpenSpec.ofChange Rows.ipv4HopsSpec).at F).post enc Try.prog Try.f7 false true false false) := by
  obtain ⟨places, hx⟩ := reads os enc
  refine returnsInHanded_of_row (C := Try.checked) (s := OpenSpec.ofChange Rows.ipv4HopsSpec) own started (by kernel_rfl) Try.func7
    (witness_row_at (enc := enc) (C := Try.checked) false (startWorld Try.prog os) #[.agg #[.int .i64 0, .int .i64 0, .int .i64 0, .int .i64 0, .int .i64 0, .int .u32 0, .int .u32 0, .string ByteArray.empty]] rfl (by kernel_rfl) (by kernel_rfl) (by kernel_rfl)
      (OpenSpec.preRow_of_cond 8 hx (by kernel_rfl) (fun k hk => by cases hk) (by kernel_rfl) (laid_met os))) ?_
  intro W base args ds gs before hval hW _ _ _ _ _ _
  exact contract H enc W base args ds gs before hval hW

theorem said : Rows.Ipv4HopsSaid :=
  OpenClaim.holds_of_cond 7 Try.f7 rfl rfl rfl rfl rfl rfl rfl ⟨rfl, rfl, rfl, rfl, rfl⟩ rfl rfl rfl rfl rfl (by kernel_rfl) Try.func7 (by kernel_rfl)
    (of_decide_eq_true (by kernel_rfl)) (by unfold Func.isWrapper; first | (rw [if_pos (by decide +kernel)]; kernel_rfl) | (rw [if_neg (by decide +kernel)]; exact ⟨rfl, rfl⟩))
    (fun os started H enc _ F => by rw [OpenClaim.pre_eq_preRow]; exact lifted os started H enc F)
end Go.Proofs.Ythegfidmkenkeaa.ipv4Hops
namespace Go.Proofs.Ythegfidmkenkeaa
theorem ipv4Hops_said : Rows.Ipv4HopsSaid := ipv4Hops.said
end Go.Proofs.Ythegfidmkenkeaa
