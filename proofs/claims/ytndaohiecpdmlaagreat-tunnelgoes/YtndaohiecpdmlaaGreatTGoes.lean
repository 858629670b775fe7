/-
  The law TunnelGoes returns true for every tunnel, all bytes, every source and port: what goes up and down, and whether the tunnel may be opened, is what the chapter says. No condition but the statement's own bound of an argument's bytes.
-/
import Derived.Test.YtndaohiecpdmlaaGreatTuPg
import Derived.Test.YtndaohiecpdmlaaGreatTuRUp
import Derived.Test.YtndaohiecpdmlaaGreatTuRDn
import Derived.Test.YtndaohiecpdmlaaGreatTuOpen
import Derived.LaidLaws
namespace Go.Proofs.YtndaohiecpdmlaaGreat.tunnelGoes
set_option maxRecDepth 100000
open Go.ChangeShapes Go.WideShapes Go.ChangeAt Go.RowKit Go.Sort
open Go.ChangeMaps (open_string shut_string)

set_option maxHeartbeats 16000000 in
theorem walk (fa : TuFace) (fo : TuOpenF) (T : Tu) (v : Value) (w : World) (h : RusAt w v T.rules) (hb : TuB T) (hrt : T.rt = true ↔ anyR T.rules) (s : ByteArray) (hs : s.size ≤ 140737488351232) (src fr : Int) :
    Calls Tryz.prog 3 #[tuV T v, .string s, .int .u32 src, .int .i64 fr] w fun e w' => e = .returned (.bool true) ∧ Below w.heap.size w w' := by
  have IT := Lib.hid fun w' (hr : RusAt w' v T.rules) => its_ok T v w' hr hb
  have UP := Lib.hid fun w' v' (hr : RusAt w' v' T.rules) => fa.up T v' w' hr hb s hs
  have UR := Lib.hid fun w' (hr : RusAt w' v T.rules) => rup_ok T v w' hr hb hrt s hs
  have DP := Lib.hid fun w' v' (hr : RusAt w' v' T.rules) => fa.dn T v' w' hr hb src fr s hs
  have DR := Lib.hid fun w' (hr : RusAt w' v T.rules) => rdown_ok T v w' hr src fr s hs
  have OP := Lib.hid fun w' v' (hr : RusAt w' v' T.rules) => fo.opn T v' w' hr hb hrt
  have OR := Lib.hid fun w' (hr : RusAt w' v T.rules) => ropen_ok T v w' hr hb hrt
  generalize upM T s = m at *
  generalize upE T s = k at *
  generalize dnS T src fr s = ds at *
  generalize dnE T src fr s = dk at *
  generalize openE T = ok at *
  obtain ⟨a, n, c, rfl⟩ := h.form
  obtain ⟨tA, bA⟩ := TL.new h 27
  clear hb hrt h fa fo hs
  obtain ⟨ip, addr, tp, own, port, rules, rt⟩ := T
  obtain ⟨mi, mp, ma, mt, md⟩ := m
  unfold tuV emV at *
  simp only at *
  obtain ⟨wA, hwA⟩ : ∃ x, x = w.alloc (.cells #[.bool ip, .int .u32 addr, .int .i64 tp, .int .u32 own, .int .i64 port, .slice a n c] 27) := ⟨_, rfl⟩
  rw [← hwA] at tA bA
  replace hwA := Lib.hid hwA
  replace bA := Lib.hid bA
  go_enter Tryz.func3, Tryz.ntmps3
  go_upto_region 1 with fail
  rw [← hwA.out]
  clear hwA
  have a0 := tA.c.cell 0 rfl
  have a1 := tA.c.cell 1 rfl
  have a2 := tA.c.cell 2 rfl
  have a3 := tA.c.cell 3 rfl
  have a4 := tA.c.cell 4 rfl
  have a5 := tA.c.cell 5 rfl
  go_wp2_with fail
  refine (IT.out wA tA.r).mono ?_
  rintro e w1 ⟨v', rfl, r1, b1⟩
  clear IT a0 a1 a2 a3 a4 a5
  obtain ⟨a', n', c', rfl⟩ := r1.form
  go_upto_region 2 with fail
  obtain ⟨tX, bX⟩ := TL.new (T := ⟨ip, addr, tp, own, port, rules, rt⟩) r1 28
  have bs := b1.trans (bX.mono b1.size)
  generalize w1.alloc (.cells #[.bool (Tu.ip ⟨ip, addr, tp, own, port, rules, rt⟩), .int .u32 (Tu.addr ⟨ip, addr, tp, own, port, rules, rt⟩), .int .i64 (Tu.tp ⟨ip, addr, tp, own, port, rules, rt⟩), .int .u32 (Tu.own ⟨ip, addr, tp, own, port, rules, rt⟩), .int .i64 (Tu.port ⟨ip, addr, tp, own, port, rules, rt⟩), .slice a' n' c'] 28) = w2 at *
  generalize w1.heap.size = gX at *
  replace tA := tA.keep bs
  replace bA := Lib.hid (bA.out.trans (bs.mono bA.out.size))
  clear bs b1 bX r1
  have x0 := tX.c.cell 0 rfl
  have x1 := tX.c.cell 1 rfl
  have x2 := tX.c.cell 2 rfl
  have x3 := tX.c.cell 3 rfl
  have x4 := tX.c.cell 4 rfl
  have x5 := tX.c.cell 5 rfl
  go_wp2_with fail
  refine (UP.out w2 _ tX.r).mono ?_
  rintro e w3 ⟨rfl, b⟩
  clear UP x0 x1 x2 x3 x4 x5
  go_upto_region 3 with fail
  have bz : Below w3.heap.size w3 (w3.alloc (.cells #[.bool mi, .int .i64 mp, .int .u32 ma, .int .i64 mt, .string md] 31)) := (Below.refl _ _).alloc (Nat.le_refl _) _
  have E1 : Lies (w3.alloc (.cells #[.bool mi, .int .i64 mp, .int .u32 ma, .int .i64 mt, .string md] 31)) w3.heap.size [.bool mi, .int .i64 mp, .int .u32 ma, .int .i64 mt, .string md] := Lies.new w3 [.bool mi, .int .i64 mp, .int .u32 ma, .int .i64 mt, .string md] _
  have bs := b.trans (bz.mono b.size)
  generalize w3.alloc (.cells #[.bool mi, .int .i64 mp, .int .u32 ma, .int .i64 mt, .string md] 31) = w4 at *
  generalize w3.heap.size = g1 at *
  clear bz b
  replace tA := tA.keep bs
  replace tX := tX.keep bs
  replace bA := Lib.hid (bA.out.trans (bs.mono bA.out.size))
  clear bs
  have a0 := tA.c.cell 0 rfl
  have a1 := tA.c.cell 1 rfl
  have a2 := tA.c.cell 2 rfl
  have a3 := tA.c.cell 3 rfl
  have a4 := tA.c.cell 4 rfl
  have a5 := tA.c.cell 5 rfl
  go_wp2_with fail
  refine (UR.out w4 tA.r).mono ?_
  rintro e w5 ⟨rfl, b⟩
  clear UR a0 a1 a2 a3 a4 a5
  go_upto_region 4 with fail
  have bz : Below w5.heap.size w5 (w5.alloc (.cells #[.bool mi, .int .i64 mp, .int .u32 ma, .int .i64 mt, .string md] 31)) := (Below.refl _ _).alloc (Nat.le_refl _) _
  have E2 : Lies (w5.alloc (.cells #[.bool mi, .int .i64 mp, .int .u32 ma, .int .i64 mt, .string md] 31)) w5.heap.size [.bool mi, .int .i64 mp, .int .u32 ma, .int .i64 mt, .string md] := Lies.new w5 [.bool mi, .int .i64 mp, .int .u32 ma, .int .i64 mt, .string md] _
  have bs := b.trans (bz.mono b.size)
  generalize w5.alloc (.cells #[.bool mi, .int .i64 mp, .int .u32 ma, .int .i64 mt, .string md] 31) = w6 at *
  generalize w5.heap.size = g2 at *
  clear bz b
  replace tA := tA.keep bs
  replace tX := tX.keep bs
  replace E1 := E1.keep (by show 0 < 5; decide) bs
  replace bA := Lib.hid (bA.out.trans (bs.mono bA.out.size))
  clear bs
  have x0 := tX.c.cell 0 rfl
  have x1 := tX.c.cell 1 rfl
  have x2 := tX.c.cell 2 rfl
  have x3 := tX.c.cell 3 rfl
  have x4 := tX.c.cell 4 rfl
  have x5 := tX.c.cell 5 rfl
  go_wp2_with fail
  refine (DP.out w6 _ tX.r).mono ?_
  rintro e w7 ⟨rfl, bs⟩
  clear DP x0 x1 x2 x3 x4 x5
  replace tA := tA.keep bs
  replace tX := tX.keep bs
  replace E1 := E1.keep (by show 0 < 5; decide) bs
  replace E2 := E2.keep (by show 0 < 5; decide) bs
  replace bA := Lib.hid (bA.out.trans (bs.mono bA.out.size))
  clear bs
  go_upto_region 5 with fail
  have a0 := tA.c.cell 0 rfl
  have a1 := tA.c.cell 1 rfl
  have a2 := tA.c.cell 2 rfl
  have a3 := tA.c.cell 3 rfl
  have a4 := tA.c.cell 4 rfl
  have a5 := tA.c.cell 5 rfl
  go_wp2_with fail
  refine (DR.out w7 tA.r).mono ?_
  rintro e w8 ⟨rfl, bs⟩
  clear DR a0 a1 a2 a3 a4 a5
  replace tA := tA.keep bs
  replace tX := tX.keep bs
  replace E1 := E1.keep (by show 0 < 5; decide) bs
  replace E2 := E2.keep (by show 0 < 5; decide) bs
  replace bA := Lib.hid (bA.out.trans (bs.mono bA.out.size))
  clear bs
  go_upto_region 6 with fail
  have a0 := fun d os => cell_regrown (w := w8) (tA.c.cell 0 rfl) d os
  have x0 := fun d os => cell_regrown (w := w8) (tX.c.cell 0 rfl) d os
  have a1 := fun d os => cell_regrown (w := w8) (tA.c.cell 1 rfl) d os
  have x1 := fun d os => cell_regrown (w := w8) (tX.c.cell 1 rfl) d os
  have a2 := fun d os => cell_regrown (w := w8) (tA.c.cell 2 rfl) d os
  have x2 := fun d os => cell_regrown (w := w8) (tX.c.cell 2 rfl) d os
  have a3 := fun d os => cell_regrown (w := w8) (tA.c.cell 3 rfl) d os
  have x3 := fun d os => cell_regrown (w := w8) (tX.c.cell 3 rfl) d os
  have a4 := fun d os => cell_regrown (w := w8) (tA.c.cell 4 rfl) d os
  have x4 := fun d os => cell_regrown (w := w8) (tX.c.cell 4 rfl) d os
  have a5 := fun d os => cell_regrown (w := w8) (tA.c.cell 5 rfl) d os
  have x5 := fun d os => cell_regrown (w := w8) (tX.c.cell 5 rfl) d os
  have e0 := fun d os => cell_regrown (w := w8) (E1.cell 0 rfl) d os
  have f0 := fun d os => cell_regrown (w := w8) (E2.cell 0 rfl) d os
  have e1 := fun d os => cell_regrown (w := w8) (E1.cell 1 rfl) d os
  have f1 := fun d os => cell_regrown (w := w8) (E2.cell 1 rfl) d os
  have e2 := fun d os => cell_regrown (w := w8) (E1.cell 2 rfl) d os
  have f2 := fun d os => cell_regrown (w := w8) (E2.cell 2 rfl) d os
  have e3 := fun d os => cell_regrown (w := w8) (E1.cell 3 rfl) d os
  have f3 := fun d os => cell_regrown (w := w8) (E2.cell 3 rfl) d os
  have e4 := fun d os => cell_regrown (w := w8) (E1.cell 4 rfl) d os
  have f4 := fun d os => cell_regrown (w := w8) (E2.cell 4 rfl) d os
  have C1 : Hid (∀ d os, _) := fun d os => Calls.regrown_of (P := Tryz.prog) (w := w8) (d := d) (os := os) (OP.out _ _ (tX.r.keep (below_regrown w8 d os)))
  have C2 : Hid (∀ d os, _) := fun d os => Calls.regrown_of (P := Tryz.prog) (w := w8) (d := d) (os := os) (OR.out _ (tA.r.keep (below_regrown w8 d os)))
  clear tA tX E1 E2 OP OR
  refine wp_region_quiet_below (by kernel_rfl) (by kernel_rfl) ?_
  repeat (go_big_quiet_step (first | (go_at_call 9; exact C1.out _ _) | (go_at_call 10; exact C2.out _ _)))
  refine wpQuiet_nil ?_
  intro _ hw'
  obtain ⟨⟨dq, osq⟩, hw''⟩ := hw'
  subst hw''
  have br := below_regrown w8 dq osq
  have bF := Lib.hid (bA.out.trans (br.mono bA.out.size))
  clear C1 C2 br bA a0 a1 a2 a3 a4 a5 x0 x1 x2 x3 x4 x5 e0 f0 e1 f1 e2 f2 e3 f3 e4 f4
  simp only
  generalize Go.Sort.grow (redrawn w8 dq) osq = w9 at *
  go_wp2_with fail
  go_ret
  exact ⟨rfl, bF.out⟩

theorem contract (H : Type) (enc : TypeId × Value → H) (W : World) (base : Nat) (args : Array Value) (ds gs : List (DataW H)) (before : List MemPlace)
    (hval : ∀ (j : Nat) t v, Tryz.f3.params[j]? = some t → args[j]? = some v → Value.okWide Tryz.prog W .any base t v)
    (hW : DataW.Whole enc Tryz.prog Tryz.f3.params.toList Rows.tunnelGoesSpec.vars false W args.toList ds gs before)
    (hsz : (DataW.weightsEach Tryz.prog (Tryz.f3.params.toList ++ (OpenSpec.ofChange Rows.tunnelGoesSpec).bare.plain.varTypes Tryz.prog) (ds ++ gs)).all (· ≤ reachBytes) = true) :
    Calls Tryz.prog 3 args W fun e W' => ∃ v, e = .returned v ∧ Rows.tunnelGoesSpec.post enc Tryz.prog Tryz.f3 false true false false W args v W' := by
  have hW' := hW
  obtain ⟨p, q, hA0, hV, rfl, hfz, hnd⟩ := hW
  have hA : DataW.TrodAll enc Tryz.prog W 0 (fun _ => true) true Tryz.f3.params.toList args.toList ds p := hA0
  rw [Tryz.params3] at hA hval hsz
  obtain ⟨v0, vs0, d0, ds0, p0, q0, hargs, rfl, rfl, h0, r0⟩ := trodAll_cons hA
  obtain ⟨v1, vs1, d1, ds1, p1, q1, rfl, rfl, rfl, h1, r1⟩ := trodAll_cons r0
  obtain ⟨v2, vs2, d2, ds2, p2, q2, rfl, rfl, rfl, h2, r2⟩ := trodAll_cons r1
  obtain ⟨v3, vs3, d3, ds3, p3, q3, rfl, rfl, rfl, h3, r3⟩ := trodAll_cons r2
  obtain ⟨rfl, rfl, rfl⟩ := trodAll_nil r3
  obtain rfl : args = #[v0, v1, v2, v3] := by cases args; simp_all
  obtain ⟨rfl, rfl⟩ := trodVars_none hV
  have k0 := h0
  have lt0 : ∀ x ∈ p0, x.block < W.heap.size := by obtain ⟨m, hm⟩ := k0; exact DataW.trod_lt m _ _ _ hm
  obtain ⟨rtf0, hrt0⟩ := some_rt
  obtain ⟨T0, g0, rfl, hs0, hb0, hr0⟩ := open_tun rtf0 (hval 0 27 v0 rfl rfl) h0 (fun n hn => by simpa using List.all_eq_true.1 hsz _ (DataW.weights_mem_each (j := 0) (t := 27) rfl rfl n hn))
  obtain ⟨a1, rfl, rfl, rfl, w1⟩ := open_string Tryz.underlying9 (hval 1 9 v1 rfl rfl) h1
  obtain ⟨a2, rfl, rfl, rfl, w2⟩ := open_int Tryz.underlying22 (hval 2 22 v2 rfl rfl) h2
  have b2 := bounds_u32 w2
  obtain ⟨a3, rfl, rfl, rfl, w3⟩ := open_int Tryz.underlying3 (hval 3 3 v3 rfl rfl) h3
  have b3 := bounds_i64 w3
  have z1 : a1.size ≤ 140737488351232 := by
    have hz := sized_string hsz (j := 1) (t := 9) (bytes := a1.data.toList) rfl rfl
    simpa [reachBytes] using hz
  clear hA0
  simp only [List.append_nil] at hW'
  refine (walk face22 open22 T0 g0 W hs0 hb0 (by rw [hr0]; exact hrt0 _) a1 z1 a2 a3).mono fun e W' ⟨he, bel⟩ => ?_
  subst he
  exact ⟨_, rfl, _, _, _, [], _, [], hW', trodAll_mk1 (shut_bool Tryz.underlying4 _), (trodAll_cons_mk (Below.trod laidOut (by kernel_rfl) (of_decide_eq_true (by kernel_rfl)) k0 bel lt0) (trodAll_cons_mk (shut_string Tryz.underlying9 w1) (trodAll_cons_mk (shut_int Tryz.underlying22 w2) (trodAll_cons_mk (shut_int Tryz.underlying3 w3) trodAll_mk0)))), rfl, bel.frame _, fun h => by cases h⟩

theorem laid_met (os : Os) : laidMet Tryz.prog Rows.tunnelGoesRow.laid ((startWorld Tryz.prog os).forCall (fun _ _ => 0) ⟨#[], #[.agg #[.bool false, .int .u32 0, .int .i64 0, .int .u32 0, .int .i64 0, .slice none 0 0], .string ByteArray.empty, .int .u32 0, .int .i64 0], []⟩).memory :=
  laidMet_of_run' 8 (by kernel_rfl) (by kernel_rfl)
theorem reads (os : Os) {H : Type} (enc : TypeId × Value → H) : ∃ places, DataW.whole enc Tryz.prog ((startWorld Tryz.prog os).forCall (fun _ _ => 0) ⟨#[], #[.agg #[.bool false, .int .u32 0, .int .i64 0, .int .u32 0, .int .i64 0, .slice none 0 0], .string ByteArray.empty, .int .u32 0, .int .i64 0], []⟩).memory Tryz.f3.params.toList Rows.tunnelGoesSpec.vars false #[Value.agg #[.bool false, .int .u32 0, .int .i64 0, .int .u32 0, .int .i64 0, .slice none 0 0], Value.string ByteArray.empty, Value.int .u32 0, Value.int .i64 0].toList 8 = some ([.agg [.agg [.lit (.bool false), .lit (.int .u32 0), .lit (.int .i64 0)], .lit (.int .u32 0), .lit (.int .i64 0), .nil], .lit (.string []), .lit (.int .u32 0), .lit (.int .i64 0)], [], places) :=
  ⟨[], by kernel_rfl⟩

set_option maxRecDepth 100000 in
theorem lifted (os : Os) (started : os.Started) (H : Type) (enc : TypeId × Value → H) (F : Stop.Interp) :
    ReturnsInHanded {} Tryz.checked os 3 .any ((OpenSpec.ofChange Rows.tunnelGoesSpec).preRow enc Tryz.prog Tryz.f3 Rows.tunnelGoesRow.domain false Rows.tunnelGoesRow.laid) (((OpenSpec.ofChange Rows.tunnelGoesSpec).at F).post enc Tryz.prog Tryz.f3 false true false false) := by
  obtain ⟨places, hx⟩ := reads os enc
  refine returnsInHanded_of_row (C := Tryz.checked) (s := OpenSpec.ofChange Rows.tunnelGoesSpec) own started (by kernel_rfl) Tryz.func3
    (witness_row_at (enc := enc) (C := Tryz.checked) false (startWorld Tryz.prog os) #[.agg #[.bool false, .int .u32 0, .int .i64 0, .int .u32 0, .int .i64 0, .slice none 0 0], .string ByteArray.empty, .int .u32 0, .int .i64 0] rfl (by kernel_rfl) (by kernel_rfl) (by kernel_rfl)
      (OpenSpec.preRow_of_cond 8 hx (by kernel_rfl) (fun k hk => by cases hk) (by kernel_rfl) (laid_met os))) ?_
  intro W base args ds gs before hval hW _ _ hsz _ _ _
  exact contract H enc W base args ds gs before hval hW hsz

theorem said : Rows.TunnelGoesSaid :=
  OpenClaim.holds_of_cond 3 Tryz.f3 rfl rfl rfl rfl rfl rfl rfl ⟨rfl, rfl, rfl, rfl, rfl⟩ rfl rfl rfl rfl rfl (by kernel_rfl) Tryz.func3 (by kernel_rfl)
    (of_decide_eq_true (by kernel_rfl)) (by unfold Func.isWrapper; first | (rw [if_pos (by decide +kernel)]; kernel_rfl) | (rw [if_neg (by decide +kernel)]; exact ⟨rfl, rfl⟩))
    (fun os started H enc _ F => by rw [OpenClaim.pre_eq_preRow]; exact lifted os started H enc F)
end Go.Proofs.YtndaohiecpdmlaaGreat.tunnelGoes
namespace Go.Proofs.YtndaohiecpdmlaaGreat
theorem tunnelGoes_said : Rows.TunnelGoesSaid := tunnelGoes.said
end Go.Proofs.YtndaohiecpdmlaaGreat
