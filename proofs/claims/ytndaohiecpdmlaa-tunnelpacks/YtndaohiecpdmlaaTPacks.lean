/-
  The law TunnelPacks returns true for every emission and all bytes: an emission is packed, bytes are unpacked, or refused, as the chapter says, and each undoes the other. No condition but the statement's own bound of an argument's bytes.
-/
import Derived.Test.YtndaohiecpdmlaaTuPgP
import Derived.Test.YtndaohiecpdmlaaTuRPk
import Derived.Test.YtndaohiecpdmlaaTuOpen
import Derived.LaidLaws
namespace Go.Proofs.Ytndaohiecpdmlaa.tunnelPacks
set_option maxRecDepth 100000
open Go.ChangeShapes Go.WideShapes Go.ChangeAt Go.RowKit Go.Sort
open Go.ChangeMaps (open_string shut_string)

theorem good_pk {m : Em} (h : upkE (pkS m) = 0 → False) (a0 : 0 ≤ m.addr) (a1 : m.addr < 4294967296) : pkS m = ⟨#[]⟩ := by
  by_cases q : isP m.port = true ∧ isP m.to = true
  · exact absurd (unpack_pack q a0 a1).1 h
  · unfold pkS
    rw [if_neg (by simpa using q)]
set_option maxHeartbeats 16000000 in
theorem walk (fp : TuFaceP) (m : Em) (hb : EmB m) (s : ByteArray) (hs : s.size ≤ 140737488351232) (w : World) :
    Calls Try.prog 3 #[emV m, .string s] w fun e w' => e = .returned (.bool true) ∧ Below w.heap.size w w' := by
  have K1 := Lib.hid fun w' => fp.pk m w' hb
  have K2 := Lib.hid fun w' => rpack_ok m w' hb
  have U1 := Lib.hid fun w' => fp.upk s w' (by omega)
  have U2 := Lib.hid fun w' => runpack_ok s w' (by omega)
  have zt : (pkS m).size ≤ 140737488351250 := by
    have := hb.d
    unfold pkS
    split
    · rw [ByteArray.size_append, pk_size]; omega
    · exact Nat.zero_le _
  have U3 := Lib.hid fun w' => fp.upk (pkS m) w' zt
  have TT : Hid ((pkS m = ⟨#[]⟩) ∨ (0 < (pkS m).size ∧ upkE (pkS m) = 0 ∧ upkM (pkS m) = m)) := by
    by_cases q : isP m.port = true ∧ isP m.to = true
    · obtain ⟨u1, u2⟩ := unpack_pack q hb.a0 hb.a1
      refine .inr ⟨?_, u1, by unfold upkM; rw [if_pos u1, u2]⟩
      unfold pkS
      rw [if_pos (by simpa using q), ByteArray.size_append, pk_size]
      omega
    · exact .inl (by unfold pkS; rw [if_neg (by simpa using q)])
  have SS : Hid (upkE s ≠ 0 ∨ (upkE s = 0 ∧ ∀ w', Calls Try.prog 6 #[emV (upkM s)] w' fun e w2 => e = .returned (.string s) ∧ Below w'.heap.size w' w2)) := by
    by_cases q : upkE s = 0
    · refine .inr ⟨q, fun w' => ?_⟩
      have e : upkM s = upkV s := by unfold upkM; rw [if_pos q]
      have p2 := num2_bd s 1
      have p3 := num2_bd s 3
      have p4 := num4_bd s 5
      have := fp.pk (upkV s) w' ⟨⟨by show -9223372036854775808 ≤ num (byt s) 1 2; omega, by show num (byt s) 1 2 ≤ _; omega⟩, p4.1, p4.2, ⟨by show -9223372036854775808 ≤ num (byt s) 3 2; omega, by show num (byt s) 3 2 ≤ _; omega⟩, by show (s.extract 9 s.size).size ≤ _; rw [ByteArray.size_extract]; omega⟩
      rw [pack_unpack q] at this
      rw [e]
      exact this
    · exact .inl q
  clear hb hs zt fp
  generalize hT : pkS m = t at *
  generalize upkE t = k3 at *
  generalize upkM t = m3 at *
  generalize upkE s = k at *
  generalize upkM s = x at *
  clear hT
  obtain ⟨mi, mp, ma, mt, md⟩ := m
  obtain ⟨xi, xp, xa, xt, xd⟩ := x
  obtain ⟨zi, zp, za, zt, zd⟩ := m3
  unfold emV at *
  simp only at *
  obtain ⟨wA, hwA⟩ : ∃ y, y = w.alloc (.cells #[.bool mi, .int .i64 mp, .int .u32 ma, .int .i64 mt, .string md] 24) := ⟨_, rfl⟩
  have b0 : Hid (Below w.heap.size w wA) := by rw [hwA]; exact (Below.refl _ _).alloc (Nat.le_refl _) _
  have EA : Lies wA w.heap.size [.bool mi, .int .i64 mp, .int .u32 ma, .int .i64 mt, .string md] := by rw [hwA]; exact Lies.new w [.bool mi, .int .i64 mp, .int .u32 ma, .int .i64 mt, .string md] _
  replace hwA := Lib.hid hwA
  go_enter Try.func3, Try.ntmps3
  go_upto_region 1 with fail
  rw [← hwA.out]
  clear hwA
  have a0 := EA.cell 0 rfl
  have a1 := EA.cell 1 rfl
  have a2 := EA.cell 2 rfl
  have a3 := EA.cell 3 rfl
  have a4 := EA.cell 4 rfl
  go_wp2_with fail
  refine (K1.out wA).mono ?_
  rintro e w1 ⟨rfl, bs⟩
  clear K1
  clear a0 a1 a2 a3 a4
  replace EA := EA.keep (by show 0 < 5; decide) bs
  replace b0 := Lib.hid (b0.out.trans (bs.mono b0.out.size))
  clear bs
  go_wp2_with fail
  refine (U1.out w1).mono ?_
  rintro e w2 ⟨rfl, b⟩
  clear U1
  go_upto_region 3 with fail
  have bz : Below w2.heap.size w2 (w2.alloc (.cells #[.bool xi, .int .i64 xp, .int .u32 xa, .int .i64 xt, .string xd] 24)) := (Below.refl _ _).alloc (Nat.le_refl _) _
  have E1 : Lies (w2.alloc (.cells #[.bool xi, .int .i64 xp, .int .u32 xa, .int .i64 xt, .string xd] 24)) w2.heap.size [.bool xi, .int .i64 xp, .int .u32 xa, .int .i64 xt, .string xd] := Lies.new w2 [.bool xi, .int .i64 xp, .int .u32 xa, .int .i64 xt, .string xd] _
  have bs := b.trans (bz.mono b.size)
  generalize w2.alloc (.cells #[.bool xi, .int .i64 xp, .int .u32 xa, .int .i64 xt, .string xd] 24) = w3 at *
  generalize w2.heap.size = g1 at *
  clear bz b
  replace EA := EA.keep (by show 0 < 5; decide) bs
  replace b0 := Lib.hid (b0.out.trans (bs.mono b0.out.size))
  clear bs
  go_wp2_with fail
  refine (U2.out w3).mono ?_
  rintro e w4 ⟨rfl, b⟩
  clear U2
  go_upto_region 4 with fail
  have bz : Below w4.heap.size w4 (w4.alloc (.cells #[.bool xi, .int .i64 xp, .int .u32 xa, .int .i64 xt, .string xd] 24)) := (Below.refl _ _).alloc (Nat.le_refl _) _
  have E2 : Lies (w4.alloc (.cells #[.bool xi, .int .i64 xp, .int .u32 xa, .int .i64 xt, .string xd] 24)) w4.heap.size [.bool xi, .int .i64 xp, .int .u32 xa, .int .i64 xt, .string xd] := Lies.new w4 [.bool xi, .int .i64 xp, .int .u32 xa, .int .i64 xt, .string xd] _
  have bs := b.trans (bz.mono b.size)
  generalize w4.alloc (.cells #[.bool xi, .int .i64 xp, .int .u32 xa, .int .i64 xt, .string xd] 24) = w5 at *
  generalize w4.heap.size = g2 at *
  clear bz b
  replace EA := EA.keep (by show 0 < 5; decide) bs
  replace E1 := E1.keep (by show 0 < 5; decide) bs
  replace b0 := Lib.hid (b0.out.trans (bs.mono b0.out.size))
  clear bs
  have a0 := EA.cell 0 rfl
  have a1 := EA.cell 1 rfl
  have a2 := EA.cell 2 rfl
  have a3 := EA.cell 3 rfl
  have a4 := EA.cell 4 rfl
  have e0 := E1.cell 0 rfl
  have e1 := E1.cell 1 rfl
  have e2 := E1.cell 2 rfl
  have e3 := E1.cell 3 rfl
  have e4 := E1.cell 4 rfl
  have f0 := E2.cell 0 rfl
  have f1 := E2.cell 1 rfl
  have f2 := E2.cell 2 rfl
  have f3 := E2.cell 3 rfl
  have f4 := E2.cell 4 rfl
  go_wp2_with fail
  refine (K2.out w5).mono ?_
  rintro e w6 ⟨rfl, bs⟩
  clear K2
  clear a0 a1 a2 a3 a4 e0 e1 e2 e3 e4 f0 f1 f2 f3 f4
  replace EA := EA.keep (by show 0 < 5; decide) bs
  replace E1 := E1.keep (by show 0 < 5; decide) bs
  replace E2 := E2.keep (by show 0 < 5; decide) bs
  replace b0 := Lib.hid (b0.out.trans (bs.mono b0.out.size))
  clear bs
  have a0 := EA.cell 0 rfl
  have a1 := EA.cell 1 rfl
  have a2 := EA.cell 2 rfl
  have a3 := EA.cell 3 rfl
  have a4 := EA.cell 4 rfl
  have e0 := E1.cell 0 rfl
  have e1 := E1.cell 1 rfl
  have e2 := E1.cell 2 rfl
  have e3 := E1.cell 3 rfl
  have e4 := E1.cell 4 rfl
  have f0 := E2.cell 0 rfl
  have f1 := E2.cell 1 rfl
  have f2 := E2.cell 2 rfl
  have f3 := E2.cell 3 rfl
  have f4 := E2.cell 4 rfl
  go_wp2_with fail
  refine (U3.out w6).mono ?_
  rintro e w7 ⟨rfl, b⟩
  clear U3
  go_upto_region 7 with fail
  clear a0 a1 a2 a3 a4 e0 e1 e2 e3 e4 f0 f1 f2 f3 f4
  have bz : Below w7.heap.size w7 (w7.alloc (.cells #[.bool zi, .int .i64 zp, .int .u32 za, .int .i64 zt, .string zd] 24)) := (Below.refl _ _).alloc (Nat.le_refl _) _
  have E3 : Lies (w7.alloc (.cells #[.bool zi, .int .i64 zp, .int .u32 za, .int .i64 zt, .string zd] 24)) w7.heap.size [.bool zi, .int .i64 zp, .int .u32 za, .int .i64 zt, .string zd] := Lies.new w7 [.bool zi, .int .i64 zp, .int .u32 za, .int .i64 zt, .string zd] _
  have bs := b.trans (bz.mono b.size)
  generalize w7.alloc (.cells #[.bool zi, .int .i64 zp, .int .u32 za, .int .i64 zt, .string zd] 24) = w8 at *
  generalize w7.heap.size = g3 at *
  clear bz b
  replace EA := EA.keep (by show 0 < 5; decide) bs
  replace E1 := E1.keep (by show 0 < 5; decide) bs
  replace E2 := E2.keep (by show 0 < 5; decide) bs
  replace b0 := Lib.hid (b0.out.trans (bs.mono b0.out.size))
  clear bs
  have a0 := EA.cell 0 rfl
  have a1 := EA.cell 1 rfl
  have a2 := EA.cell 2 rfl
  have a3 := EA.cell 3 rfl
  have a4 := EA.cell 4 rfl
  have e0 := E1.cell 0 rfl
  have e1 := E1.cell 1 rfl
  have e2 := E1.cell 2 rfl
  have e3 := E1.cell 3 rfl
  have e4 := E1.cell 4 rfl
  have z0 := E3.cell 0 rfl
  have z1 := E3.cell 1 rfl
  have z2 := E3.cell 2 rfl
  have z3 := E3.cell 3 rfl
  have z4 := E3.cell 4 rfl
  clear E2
  rcases TT.out with h | h
  · subst h
    clear TT
    rcases SS.out with g | g
    · clear SS
      have q : (k != 0) = true := by simpa using g
      clear g E1 E3 EA
      go_wp2_with fail
      go_ret
      exact ⟨rfl, b0.out⟩
    · clear SS
      obtain ⟨rfl, PK⟩ := g
      replace PK := Lib.hid PK
      clear E1 E3 EA
      go_wp2_with fail
      refine (PK.out w8).mono ?_
      rintro e w9 ⟨rfl, b⟩
      have b9 := Lib.hid (b0.out.trans (b.mono b0.out.size))
      clear b PK
      go_wp2_with fail
      go_ret
      exact ⟨rfl, b9.out⟩
  · clear TT
    obtain ⟨h1, rfl, h3⟩ := h
    injection h3 with h31 h32 h33 h34 h35
    subst h31 h32 h33 h34 h35
    have tl : t.toList.isEmpty = false := by
      rw [ByteArray.toList_eq]
      cases hq : t.data.toList with
      | nil => rw [← ByteArray.size_data, ← Array.length_toList, hq] at h1; exact absurd h1 (by decide)
      | cons _ _ => rfl
    clear h1
    rcases SS.out with g | g
    · clear SS
      have q : (k != 0) = true := by simpa using g
      clear g E1 E3 EA
      go_wp2_with fail
      go_ret
      exact ⟨rfl, b0.out⟩
    · clear SS
      obtain ⟨rfl, PK⟩ := g
      replace PK := Lib.hid PK
      clear E1 E3 EA
      go_wp2_with fail
      refine (PK.out w8).mono ?_
      rintro e w9 ⟨rfl, b⟩
      have b9 := Lib.hid (b0.out.trans (b.mono b0.out.size))
      clear b PK
      go_wp2_with fail
      go_ret
      exact ⟨rfl, b9.out⟩

theorem contract (H : Type) (enc : TypeId × Value → H) (W : World) (base : Nat) (args : Array Value) (ds gs : List (DataW H)) (before : List MemPlace)
    (hval : ∀ (j : Nat) t v, Try.f3.params[j]? = some t → args[j]? = some v → Value.okWide Try.prog W .any base t v)
    (hW : DataW.Whole enc Try.prog Try.f3.params.toList Rows.tunnelPacksSpec.vars false W args.toList ds gs before)
    (hsz : (DataW.weightsEach Try.prog (Try.f3.params.toList ++ (OpenSpec.ofChange Rows.tunnelPacksSpec).bare.plain.varTypes Try.prog) (ds ++ gs)).all (· ≤ reachBytes) = true) :
    Calls Try.prog 3 args W fun e W' => ∃ v, e = .returned v ∧ Rows.tunnelPacksSpec.post enc Try.prog Try.f3 false true false false W args v W' := by
  have hW' := hW
  obtain ⟨p, q, hA0, hV, rfl, hfz, hnd⟩ := hW
  have hA : DataW.TrodAll enc Try.prog W 0 (fun _ => true) true Try.f3.params.toList args.toList ds p := hA0
  rw [Try.params3] at hA hval hsz
  obtain ⟨v0, vs0, d0, ds0, p0, q0, hargs, rfl, rfl, h0, r0⟩ := trodAll_cons hA
  obtain ⟨v1, vs1, d1, ds1, p1, q1, rfl, rfl, rfl, h1, r1⟩ := trodAll_cons r0
  obtain ⟨rfl, rfl, rfl⟩ := trodAll_nil r1
  obtain rfl : args = #[v0, v1] := by cases args; simp_all
  obtain ⟨rfl, rfl⟩ := trodVars_none hV
  have k0 := h0
  have lt0 : ∀ x ∈ p0, x.block < W.heap.size := by obtain ⟨m, hm⟩ := k0; exact DataW.trod_lt m _ _ _ hm
  obtain ⟨m0, rfl, hb0⟩ := open_em (hval 0 24 v0 rfl rfl) h0 (fun n hn => by simpa using List.all_eq_true.1 hsz _ (DataW.weights_mem_each (j := 0) (t := 24) rfl rfl n hn))
  obtain ⟨a1, rfl, rfl, rfl, w1⟩ := open_string Try.underlying9 (hval 1 9 v1 rfl rfl) h1
  have z1 : a1.size ≤ 140737488351232 := by
    have hz := sized_string hsz (j := 1) (t := 9) (bytes := a1.data.toList) rfl rfl
    simpa [reachBytes] using hz
  clear hA0
  simp only [List.append_nil] at hW'
  refine (walk faceP m0 hb0 a1 z1 W).mono fun e W' ⟨he, bel⟩ => ?_
  subst he
  exact ⟨_, rfl, _, _, _, [], _, [], hW', trodAll_mk1 (shut_bool Try.underlying4 _), (trodAll_cons_mk (Below.trod laidOut (by kernel_rfl) (of_decide_eq_true (by kernel_rfl)) k0 bel lt0) (trodAll_cons_mk (shut_string Try.underlying9 w1) trodAll_mk0)), rfl, bel.frame _, fun h => by cases h⟩

theorem laid_met (os : Os) : laidMet Try.prog Rows.tunnelPacksRow.laid ((startWorld Try.prog os).forCall (fun _ _ => 0) ⟨#[], #[.agg #[.bool false, .int .i64 0, .int .u32 0, .int .i64 0, .string ByteArray.empty], .string ByteArray.empty], []⟩).memory :=
  laidMet_of_run' 8 (by kernel_rfl) (by kernel_rfl)
theorem reads (os : Os) {H : Type} (enc : TypeId × Value → H) : ∃ places, DataW.whole enc Try.prog ((startWorld Try.prog os).forCall (fun _ _ => 0) ⟨#[], #[.agg #[.bool false, .int .i64 0, .int .u32 0, .int .i64 0, .string ByteArray.empty], .string ByteArray.empty], []⟩).memory Try.f3.params.toList Rows.tunnelPacksSpec.vars false #[Value.agg #[.bool false, .int .i64 0, .int .u32 0, .int .i64 0, .string ByteArray.empty], Value.string ByteArray.empty].toList 8 = some ([.agg [.lit (.bool false), .lit (.int .i64 0), .lit (.int .u32 0), .lit (.int .i64 0), .lit (.string [])], .lit (.string [])], [], places) :=
  ⟨[], by kernel_rfl⟩

set_option maxRecDepth 100000 in
theorem lifted (os : Os) (started : os.Started) (H : Type) (enc : TypeId × Value → H) (F : Stop.Interp) :
    ReturnsInHanded {} Try.checked os 3 .any ((OpenSpec.ofChange Rows.tunnelPacksSpec).preRow enc Try.prog Try.f3 Rows.tunnelPacksRow.domain false Rows.tunnelPacksRow.laid) (((OpenSpec.ofChange Rows.tunnelPacksSpec).at F).post enc Try.prog Try.f3 false true false false) := by
  obtain ⟨places, hx⟩ := reads os enc
  refine returnsInHanded_of_row (C := Try.checked) (s := OpenSpec.ofChange Rows.tunnelPacksSpec) own started (by kernel_rfl) Try.func3
    (witness_row_at (enc := enc) (C := Try.checked) false (startWorld Try.prog os) #[.agg #[.bool false, .int .i64 0, .int .u32 0, .int .i64 0, .string ByteArray.empty], .string ByteArray.empty] rfl (by kernel_rfl) (by kernel_rfl) (by kernel_rfl)
      (OpenSpec.preRow_of_cond 8 hx (by kernel_rfl) (fun k hk => by cases hk) (by kernel_rfl) (laid_met os))) ?_
  intro W base args ds gs before hval hW _ _ hsz _ _ _
  exact contract H enc W base args ds gs before hval hW hsz

theorem said : Rows.TunnelPacksSaid :=
  OpenClaim.holds_of_cond 3 Try.f3 rfl rfl rfl rfl rfl rfl rfl ⟨rfl, rfl, rfl, rfl, rfl⟩ rfl rfl rfl rfl rfl (by kernel_rfl) Try.func3 (by kernel_rfl)
    (of_decide_eq_true (by kernel_rfl)) (by unfold Func.isWrapper; first | (rw [if_pos (by decide +kernel)]; kernel_rfl) | (rw [if_neg (by decide +kernel)]; exact ⟨rfl, rfl⟩))
    (fun os started H enc _ F => by rw [OpenClaim.pre_eq_preRow]; exact lifted os started H enc F)
end Go.Proofs.Ytndaohiecpdmlaa.tunnelPacks
namespace Go.Proofs.Ytndaohiecpdmlaa
theorem tunnelPacks_said : Rows.TunnelPacksSaid := tunnelPacks.said
end Go.Proofs.Ytndaohiecpdmlaa
