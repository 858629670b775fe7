/-
  The law Ipv4Cuts returns true for every header, place and string: a packet that is cut off anywhere is too short, one with bytes behind it too long. No condition but the form's own reach.
-/
import Derived.Test.YthegfidmkenkeabIpWorks
import Derived.Test.YthegfidmkenkeabIpPlace
import Derived.Test.YthegfidmkenkeabIpOpen
import Derived.LaidLaws
namespace Go.Proofs.Ythegfidmkenkeab.ipv4Cuts
open Go.ChangeShapes Go.WideShapes Go.ChangeAt Go.RowKit
open Go.ChangeMaps (open_string shut_string)

theorem some_bytes (a : ByteArray) (h : 0 < a.size) : a.toList.isEmpty = false := by
  rw [ByteArray.toList_eq]
  cases hl : a.data.toList with
  | nil =>
    have h0 : a.data.toList.length = a.size := by simp
    rw [hl] at h0
    have h1 : 0 = a.size := h0
    omega
  | cons => rfl
theorem cut_err (s : ByteArray) (j : Nat) (g : Good s) (hj : j < s.size) : errOf (s.extract 0 j) = 1 := by
  obtain ⟨g1, g2, g3, g4⟩ := g
  have hz : (s.extract 0 j).size = j := by rw [ByteArray.size_extract]; omega
  unfold errOf
  rw [hz]
  by_cases h : j < 20
  · rw [if_pos h]
  · have e := fun i (hi : i < 20) => byt_extract s 0 j i (by omega)
    have hs : said (s.extract 0 j) = said s := by
      unfold said
      rw [num2, num2, e 2 (by decide), e (2 + 1) (by decide)]
    rw [if_neg h, if_neg (by rw [num1, e 0 (by decide)]; rw [num1] at g2; simp [g2]), if_pos (by rw [hs]; omega)]
theorem more_err (s t : ByteArray) (g : Good s) (ht : 0 < t.size) : errOf (s ++ t) = 6 := by
  obtain ⟨g1, g2, g3, g4⟩ := g
  have e := fun i (hi : i < 20) => byt_left s t i (by omega)
  have hs : said (s ++ t) = said s := by
    unfold said
    rw [num2, num2, e 2 (by decide), e (2 + 1) (by decide)]
  unfold errOf
  rw [ByteArray.size_append, if_neg (by omega), if_neg (by rw [num1, e 0 (by decide)]; rw [num1] at g2; simp [g2]), if_neg (by rw [hs]; omega), if_pos (by rw [hs]; omega)]

set_option maxHeartbeats 2000000 in
theorem wN (tos id frag ttl proto src dst : Int) (data : ByteArray) (at_ : Int) (more : ByteArray) (w : World) (e1 : Int) (he1 : (e1 != 0) = true) (B1 : Hid (∀ w, Calls Try.prog 5 #[hv tos id frag ttl proto src dst data] w fun e w' => e = .returned (.tuple #[.string ⟨#[]⟩, .int .i64 e1]) ∧ Below w.heap.size w w')) :
    Calls Try.prog 3 #[hv tos id frag ttl proto src dst data, .int .i64 at_, .string more] w fun e w' => e = .returned (.bool true) ∧ Below w.heap.size w w' := by
  have lt : ∀ o, w.heap.size < (w.alloc o).heap.size := fun o => by simp
  have le : ∀ (w : World) o, w.heap.size ≤ (w.alloc o).heap.size := fun w o => by simp
  have X0 : Hid _ := box_new w tos id frag ttl proto src dst data
  unfold hv at *
  go_enter Try.func3, Try.ntmps3
  go_wp2_with (first
    | (go_at_call 4; refine (works_ok _).mono ?_; rintro e w1 ⟨rfl, b1⟩; have X1 := X0.out.keep (lt _) b1; obtain ⟨l1, c0, c1, c2, c3, c4, c5, c6, c7⟩ := X1; have Z1 : Hid _ := ((Below.refl w.heap.size w).alloc (Nat.le_refl _) _).trans (b1.mono (le w _)); clear b1 X0)
    | (go_at_call 5; refine (B1.out _).mono ?_; rintro e w2 ⟨rfl, b2⟩; have Z2 : Hid _ := Z1.out.trans (b2.mono Z1.out.size); clear b2 Z1 c0 c1 c2 c3 c4 c5 c6 c7 B1))
  go_ret
  exact ⟨rfl, Z2.out⟩

set_option maxHeartbeats 2000000 in
theorem wE (tos id frag ttl proto src dst : Int) (data : ByteArray) (at_ : Int) (more : ByteArray) (w : World) (s : ByteArray) (f0 f1 f2 f3 f4 : Int) (f5 f6 : Int) (f7 : ByteArray) (hz : 20 ≤ s.size) (hm : s.size ≤ 65535) (B1 : Hid (∀ w, Calls Try.prog 5 #[hv tos id frag ttl proto src dst data] w fun e w' => e = .returned (.tuple #[.string s, .int .i64 0]) ∧ Below w.heap.size w w')) (k : Nat) (ek : wrap64 ((IntKind.u64.wrap at_).tmod s.size) = k) (lk : (k : Int) < s.size) (P1 : Hid (∀ w, Calls Try.prog 6 #[.string (s.extract 0 k)] w fun e w' => e = .returned (.tuple #[none', .int .i64 1]) ∧ Below w.heap.size w w')) (he : more = ⟨#[]⟩) (P2 : Hid (∀ w, Calls Try.prog 6 #[.string (s ++ ⟨#[]⟩)] w fun e w' => e = .returned (.tuple #[hv f0 f1 f2 f3 f4 f5 f6 f7, .int .i64 0]) ∧ Below w.heap.size w w')) :
    Calls Try.prog 3 #[hv tos id frag ttl proto src dst data, .int .i64 at_, .string more] w fun e w' => e = .returned (.bool true) ∧ Below w.heap.size w w' := by
  have lt : ∀ o, w.heap.size < (w.alloc o).heap.size := fun o => by simp
  have le : ∀ (w : World) o, w.heap.size ≤ (w.alloc o).heap.size := fun w o => by simp
  have X0 : Hid _ := box_new w tos id frag ttl proto src dst data
  have i1 : s.toList.isEmpty = false := some_bytes s (by omega)
  have pz : (0 : Int) < s.size := by omega
  have kz : (0 : Int) ≤ k := by omega
  have kl : (k : Int) ≤ s.size := by omega
  unfold none' at *
  subst he
  unfold hv at *
  go_enter Try.func3, Try.ntmps3
  go_wp2_with (first
    | (go_at_call 4; refine (works_ok _).mono ?_; rintro e w1 ⟨rfl, b1⟩; have X1 := X0.out.keep (lt _) b1; obtain ⟨l1, c0, c1, c2, c3, c4, c5, c6, c7⟩ := X1; have Z1 : Hid _ := ((Below.refl w.heap.size w).alloc (Nat.le_refl _) _).trans (b1.mono (le w _)); clear b1 X0)
    | (go_at_call 5; refine (B1.out _).mono ?_; rintro e w2 ⟨rfl, b2⟩; have Z2 : Hid _ := Z1.out.trans (b2.mono Z1.out.size); clear b2 Z1 c0 c1 c2 c3 c4 c5 c6 c7 B1)
    | (go_at_call_of 6 (s.extract 0 k); refine (P1.out _).mono ?_; rintro e w3 ⟨rfl, b3⟩; have Z3 : Hid _ := Z2.out.trans (b3.mono Z2.out.size); clear b3 Z2 P1)
    | (go_at_call_of 6 (s ++ ByteArray.mk #[]); refine (P2.out _).mono ?_; rintro e w4 ⟨rfl, b4⟩; have Z4 : Hid _ := (Z3.out.alloc Z3.out.size _).trans (b4.mono (Z3.out.alloc Z3.out.size _).size); clear b4))
  go_ret
  exact ⟨rfl, Z4.out.alloc Z4.out.size _⟩

set_option maxHeartbeats 2000000 in
theorem wM (tos id frag ttl proto src dst : Int) (data : ByteArray) (at_ : Int) (more : ByteArray) (w : World) (s : ByteArray) (hz : 20 ≤ s.size) (hm : s.size ≤ 65535) (B1 : Hid (∀ w, Calls Try.prog 5 #[hv tos id frag ttl proto src dst data] w fun e w' => e = .returned (.tuple #[.string s, .int .i64 0]) ∧ Below w.heap.size w w')) (k : Nat) (ek : wrap64 ((IntKind.u64.wrap at_).tmod s.size) = k) (lk : (k : Int) < s.size) (P1 : Hid (∀ w, Calls Try.prog 6 #[.string (s.extract 0 k)] w fun e w' => e = .returned (.tuple #[none', .int .i64 1]) ∧ Below w.heap.size w w')) (hmo : 0 < more.size) (hml : more.size ≤ 140737488351232) (P2 : Hid (∀ w, Calls Try.prog 6 #[.string (s ++ more)] w fun e w' => e = .returned (.tuple #[none', .int .i64 6]) ∧ Below w.heap.size w w')) :
    Calls Try.prog 3 #[hv tos id frag ttl proto src dst data, .int .i64 at_, .string more] w fun e w' => e = .returned (.bool true) ∧ Below w.heap.size w w' := by
  have lt : ∀ o, w.heap.size < (w.alloc o).heap.size := fun o => by simp
  have le : ∀ (w : World) o, w.heap.size ≤ (w.alloc o).heap.size := fun w o => by simp
  have X0 : Hid _ := box_new w tos id frag ttl proto src dst data
  have i1 : s.toList.isEmpty = false := some_bytes s (by omega)
  have pz : (0 : Int) < s.size := by omega
  have kz : (0 : Int) ≤ k := by omega
  have kl : (k : Int) ≤ s.size := by omega
  unfold none' at *
  have i2 : more.toList.isEmpty = false := some_bytes more hmo
  clear hmo
  unfold hv at *
  go_enter Try.func3, Try.ntmps3
  go_wp2_with (first
    | (go_at_call 4; refine (works_ok _).mono ?_; rintro e w1 ⟨rfl, b1⟩; have X1 := X0.out.keep (lt _) b1; obtain ⟨l1, c0, c1, c2, c3, c4, c5, c6, c7⟩ := X1; have Z1 : Hid _ := ((Below.refl w.heap.size w).alloc (Nat.le_refl _) _).trans (b1.mono (le w _)); clear b1 X0)
    | (go_at_call 5; refine (B1.out _).mono ?_; rintro e w2 ⟨rfl, b2⟩; have Z2 : Hid _ := Z1.out.trans (b2.mono Z1.out.size); clear b2 Z1 c0 c1 c2 c3 c4 c5 c6 c7 B1)
    | (go_at_call_of 6 (s.extract 0 k); refine (P1.out _).mono ?_; rintro e w3 ⟨rfl, b3⟩; have Z3 : Hid _ := Z2.out.trans (b3.mono Z2.out.size); clear b3 Z2 P1)
    | (go_at_call_of 6 (s ++ more); refine (P2.out _).mono ?_; rintro e w4 ⟨rfl, b4⟩; have Z4 : Hid _ := (Z3.out.alloc Z3.out.size _).trans (b4.mono (Z3.out.alloc Z3.out.size _).size); clear b4))
  go_ret
  exact ⟨rfl, Z4.out.alloc Z4.out.size _⟩

theorem walk (tos id frag ttl proto src dst : Int) (data : ByteArray) (at_ : Int) (more : ByteArray) (w : World) (hml : more.size ≤ 140737488351232) (s0 : 0 ≤ src) (s1 : src < 4294967296) (d0 : 0 ≤ dst) (d1 : dst < 4294967296) (hz : data.size ≤ 9223372036854775807) :
    Calls Try.prog 3 #[hv tos id frag ttl proto src dst data, .int .i64 at_, .string more] w fun e w' => e = .returned (.bool true) ∧ Below w.heap.size w w' := by
  by_cases hk : HOK tos id frag ttl proto
  · by_cases hl : data.size ≤ 65515
    · have B1 : Hid (∀ w, _) := fun w => build_ok tos id frag ttl proto src dst data w hk hl s0 s1 d0 d1
      have g := pkt_good tos id frag ttl proto src dst data hl s0 s1 d0 d1
      have z := pkt_size tos id frag ttl proto src dst data
      have hd := pkt_hd tos id frag ttl proto src dst data hk s0 s1 d0 d1
      generalize pkt tos id frag ttl proto src dst data = s at *
      obtain ⟨k, ek, lk⟩ := place at_ s.size (by omega) (by omega)
      have P1 : Hid (∀ w, Calls Try.prog 6 #[.string (s.extract 0 k)] w fun e w' => e = .returned (.tuple #[none', .int .i64 1]) ∧ Below w.heap.size w w') := fun w => by
        have e1 := cut_err s k g (by omega)
        have := parse_ok (s.extract 0 k) w (by rw [ByteArray.size_extract]; omega)
        unfold valOf at this
        rwa [e1, if_neg (by omega)] at this
      rcases Nat.eq_zero_or_pos more.size with h0 | h0
      · have he : more = ⟨#[]⟩ := bytes_ext _ _ (by rw [h0]; rfl) fun i hi => by omega
        refine wE tos id frag ttl proto src dst data at_ more w s tos id frag ttl proto src dst data (by omega) (by omega) B1 k ek lk P1 he fun w => ?_
        have := parse_ok s w (by omega)
        unfold valOf at this
        rw [err_good s g, if_pos rfl, hd] at this
        have es : s ++ ByteArray.mk #[] = s := bytes_ext _ _ (by rw [ByteArray.size_append]; rfl) fun i hi => byt_left s _ i (by rw [ByteArray.size_append] at hi; exact hi)
        rwa [es]
      · refine wM tos id frag ttl proto src dst data at_ more w s (by omega) (by omega) B1 k ek lk P1 h0 hml fun w => ?_
        have := parse_ok (s ++ more) w (by rw [ByteArray.size_append]; omega)
        unfold valOf at this
        rwa [more_err s more g h0, if_neg (by omega)] at this
    · exact wN tos id frag ttl proto src dst data at_ more w 8 rfl (fun w => build_long tos id frag ttl proto src dst data w hk hz (by omega))
  · exact wN tos id frag ttl proto src dst data at_ more w 2 rfl (fun w => build_range tos id frag ttl proto src dst data w hk)

theorem contract (H : Type) (enc : TypeId × Value → H) (W : World) (base : Nat) (args : Array Value) (ds gs : List (DataW H)) (before : List MemPlace)
    (hval : ∀ (j : Nat) t v, Try.f3.params[j]? = some t → args[j]? = some v → Value.okWide Try.prog W .any base t v)
    (hW : DataW.Whole enc Try.prog Try.f3.params.toList Rows.ipv4CutsSpec.vars false W args.toList ds gs before)
    (hsz : (DataW.weightsEach Try.prog (Try.f3.params.toList ++ (OpenSpec.ofChange Rows.ipv4CutsSpec).bare.plain.varTypes Try.prog) (ds ++ gs)).all (· ≤ reachBytes) = true) :
    Calls Try.prog 3 args W fun e W' => ∃ v, e = .returned v ∧ Rows.ipv4CutsSpec.post enc Try.prog Try.f3 false true false false W args v W' := by
  have hW' := hW
  obtain ⟨p, q, hA0, hV, rfl, hfz, hnd⟩ := hW
  have hA : DataW.TrodAll enc Try.prog W 0 (fun _ => true) true Try.f3.params.toList args.toList ds p := hA0
  rw [Try.params3] at hA hval hsz
  obtain ⟨v0, vs0, d0, ds0, p0, q0, hargs, rfl, rfl, h0, r0⟩ := trodAll_cons hA
  obtain ⟨v1, vs1, d1, ds1, p1, q1, rfl, rfl, rfl, h1, r1⟩ := trodAll_cons r0
  obtain ⟨v2, vs2, d2, ds2, p2, q2, rfl, rfl, rfl, h2, r2⟩ := trodAll_cons r1
  obtain ⟨rfl, rfl, rfl⟩ := trodAll_nil r2
  obtain rfl : args = #[v0, v1, v2] := by cases args; simp_all
  obtain ⟨rfl, rfl⟩ := trodVars_none hV
  have k0 := h0
  have lt0 : ∀ x ∈ p0, x.block < W.heap.size := by obtain ⟨m, hm⟩ := k0; exact DataW.trod_lt m _ _ _ hm
  obtain ⟨tos, id, frag, ttl, proto, src, dst, data, rfl, s0, s1, d0', d1', z0⟩ := open_hdr (hval 0 24 v0 rfl rfl) h0
  obtain ⟨a1, rfl, rfl, rfl, w1⟩ := open_int Try.underlying3 (hval 1 3 v1 rfl rfl) h1
  have b1 := bounds_i64 w1
  obtain ⟨a2, rfl, rfl, rfl, w2⟩ := open_string Try.underlying9 (hval 2 9 v2 rfl rfl) h2
  have z2 : a2.size ≤ 140737488351232 := by
    have hz := sized_string hsz (j := 2) (t := 9) (bytes := a2.data.toList) rfl rfl
    simpa [reachBytes] using hz
  clear hA0
  simp only [List.append_nil] at hW'
  refine (walk tos id frag ttl proto src dst data a1 a2 W z2 s0 s1 d0' d1' z0).mono fun e W' ⟨he, bel⟩ => ?_
  subst he
  exact ⟨_, rfl, _, _, _, [], _, [], hW', trodAll_mk1 (shut_bool Try.underlying4 _), (trodAll_cons_mk (Below.trod laidOut (by kernel_rfl) (of_decide_eq_true (by kernel_rfl)) k0 bel lt0) (trodAll_cons_mk (shut_int Try.underlying3 w1) (trodAll_cons_mk (shut_string Try.underlying9 w2) trodAll_mk0))), rfl, bel.frame _, fun h => by cases h⟩

theorem laid_met (os : Os) : laidMet Try.prog Rows.ipv4CutsRow.laid ((startWorld Try.prog os).forCall (fun _ _ => 0) ⟨#[], #[.agg #[.int .i64 0, .int .i64 0, .int .i64 0, .int .i64 0, .int .i64 0, .int .u32 0, .int .u32 0, .string ByteArray.empty], .int .i64 0, .string ByteArray.empty], []⟩).memory :=
  laidMet_of_run' 8 (by kernel_rfl) (by kernel_rfl)
theorem reads (os : Os) {H : Type} (enc : TypeId × Value → H) : ∃ places, DataW.whole enc Try.prog ((startWorld Try.prog os).forCall (fun _ _ => 0) ⟨#[], #[.agg #[.int .i64 0, .int .i64 0, .int .i64 0, .int .i64 0, .int .i64 0, .int .u32 0, .int .u32 0, .string ByteArray.empty], .int .i64 0, .string ByteArray.empty], []⟩).memory Try.f3.params.toList Rows.ipv4CutsSpec.vars false #[Value.agg #[.int .i64 0, .int .i64 0, .int .i64 0, .int .i64 0, .int .i64 0, .int .u32 0, .int .u32 0, .string ByteArray.empty], Value.int .i64 0, Value.string ByteArray.empty].toList 8 = some ([.agg [.lit (.int .i64 0), .lit (.int .i64 0), .lit (.int .i64 0), .lit (.int .i64 0), .lit (.int .i64 0), .lit (.int .u32 0), .lit (.int .u32 0), .lit (.string [])], .lit (.int .i64 0), .lit (.string [])], [], places) :=
  ⟨[], by kernel_rfl⟩

set_option maxRecDepth 100000 in
theorem lifted (os : Os) (started : os.Started) (H : Type) (enc : TypeId × Value → H) (F : Stop.Interp) :
    ReturnsInHanded {} Try.checked os 3 .any ((OpenSpec.ofChange Rows.ipv4CutsSpec).preRow enc Try.prog Try.f3 Rows.ipv4CutsRow.domain false Rows.ipv4CutsRow.laid) (((OpenSpec.ofChange Rows.ipv4CutsSpec).at F).post enc Try.prog Try.f3 false true false false) := by
  obtain ⟨places, hx⟩ := reads os enc
  refine returnsInHanded_of_row (C := Try.checked) (s := OpenSpec.ofChange Rows.ipv4CutsSpec) own started (by kernel_rfl) Try.func3
    (witness_row_at (enc := enc) (C := Try.checked) false (startWorld Try.prog os) #[.agg #[.int .i64 0, .int .i64 0, .int .i64 0, .int .i64 0, .int .i64 0, .int .u32 0, .int .u32 0, .string ByteArray.empty], .int .i64 0, .string ByteArray.empty] rfl (by kernel_rfl) (by kernel_rfl) (by kernel_rfl)
      (OpenSpec.preRow_of_cond 8 hx (by kernel_rfl) (fun k hk => by cases hk) (by kernel_rfl) (laid_met os))) ?_
  intro W base args ds gs before hval hW _ _ hsz _ _ _
  exact contract H enc W base args ds gs before hval hW hsz

theorem said : Rows.Ipv4CutsSaid :=
  OpenClaim.holds_of_cond 3 Try.f3 rfl rfl rfl rfl rfl rfl rfl ⟨rfl, rfl, rfl, rfl, rfl⟩ rfl rfl rfl rfl rfl (by kernel_rfl) Try.func3 (by kernel_rfl)
    (of_decide_eq_true (by kernel_rfl)) (by unfold Func.isWrapper; first | (rw [if_pos (by decide +kernel)]; kernel_rfl) | (rw [if_neg (by decide +kernel)]; exact ⟨rfl, rfl⟩))
    (fun os started H enc _ F => by rw [OpenClaim.pre_eq_preRow]; exact lifted os started H enc F)
end Go.Proofs.Ythegfidmkenkeab.ipv4Cuts
namespace Go.Proofs.Ythegfidmkenkeab
theorem ipv4Cuts_said : Rows.Ipv4CutsSaid := ipv4Cuts.said
end Go.Proofs.Ythegfidmkenkeab
