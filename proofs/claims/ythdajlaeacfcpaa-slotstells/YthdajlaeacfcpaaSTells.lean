/-
  The law SlotsTells returns true for every table, tick, tenant and number of bytes: whose a tick is, whose the next one, how far apart, and the sizes are told as the document has them. No condition.
-/
import Derived.Test.YthdajlaeacfcpaaSlPg
import Derived.Test.YthdajlaeacfcpaaObDraw
import Derived.Deep.Cut
import Derived.BigQuiet
import Derived.Test.YthdajlaeacfcpaaSlOpen
import Derived.LaidLaws
namespace Go.Proofs.Ythdajlaeacfcpaa.slotsTells
set_option maxRecDepth 100000
open Go.ChangeShapes Go.WideShapes Go.ChangeAt Go.RowKit
open Go.ChangeMaps (open_string shut_string)

set_option maxHeartbeats 4000000 in
theorem walk (face : SlFace) (v : Value) (l : List Int) (t who m : Int) (W : World) (hv : Tb W v l) (ht : In64 t) (hw : In64 who) (hm : In64 m) :
    Calls Try.prog 3 #[v, .int .i64 t, .int .i64 who, .int .i64 m] W fun e w' => e = .returned (.bool true) ∧ Below W.heap.size W w' := by
  have P1 : Hid (∀ w', Below W.heap.size W w' → _) := fun w' b => face.owner (hv.keep b) t ht
  have P2 : Hid (∀ w', Below W.heap.size W w' → _) := fun w' b => rowner_ok (hv.keep b) t
  have P3 : Hid (∀ w', Below W.heap.size W w' → _) := fun w' b => face.turn (hv.keep b) t who ht hw
  have P4 : Hid (∀ w', Below W.heap.size W w' → _) := fun w' b => rturn_ok (hv.keep b) t who
  have P5 : Hid (∀ w', Below W.heap.size W w' → _) := fun w' b => face.round (hv.keep b) who hw
  have P6 : Hid (∀ w', Below W.heap.size W w' → _) := fun w' b => rround_ok (hv.keep b) who
  have P7 := Lib.hid fun w' => face.cls w' m hm
  have P8 := Lib.hid fun w' => rclass_ok m w'
  have P9 := Lib.hid (face.clss W)
  have P10 := Lib.hid fun w' => rclasses_ok w'
  obtain ⟨a, c, rfl⟩ := hv.slice
  have hz := hv.z
  obtain ⟨n, hn⟩ : ∃ n, n = l.length := ⟨_, rfl⟩
  have n64 : n ≤ 9223372036854775807 := by omega
  have ea : (ownV l t == ownV l t) = true := by simp
  have eb : (turnV l t who == turnV l t who) = true := by simp
  have ec : (roundV l who == roundV l who) = true := by simp
  have ed : (classV m == classV m) = true := by simp
  rw [← hn] at P1 P2 P3 P4 P5 P6 ⊢
  generalize ownV l t = xa at *
  generalize turnV l t who = xb at *
  generalize roundV l who = xc at *
  generalize classV m = xd at *
  clear hv hz hn ht hw hm face
  by_cases h2 : 2000 < n
  · have q1 : decide (2000 < n) = true := decide_eq_true h2
    have q2 : decide ((2000 : Int) < (n : Int)) = true := decide_eq_true (by omega)
    clear P1 P2 P3 P4 P5 P6 P7 P8 P9 P10
    go_enter Try.func3, Try.ntmps3
    go_wp2_with fail
    go_ret
    exact ⟨rfl, Below.refl _ _⟩
  have q1 : decide (2000 < n) = false := decide_eq_false h2
  have q2 : decide ((2000 : Int) < (n : Int)) = false := decide_eq_false (by omega)
  go_enter Try.func3, Try.ntmps3
  go_wp2_with fail
  refine P9.out.mono ?_
  rintro e w1 ⟨v1, rfl, t1, b1⟩
  obtain ⟨a1, c1, rfl⟩ := t1.slice
  clear P9 q1 q2 h2
  have C := Lib.hid (P10.out w1)
  clear P10
  replace b1 := Lib.hid b1
  replace t1 := Lib.hid t1
  go_wp2_with fail
  refine C.out.mono ?_
  rintro e w2 ⟨rfl, hw2⟩
  clear C
  have l2 : Tb w2 (.slice (some ⟨w1.heap.size, 0, none⟩) 4 4) clsV := by rw [hw2]; exact Tb.lit w1 clsV (by decide)
  have b12 : Below w1.heap.size w1 w2 := by rw [hw2]; exact (Below.refl _ _).alloc (Nat.le_refl _) _
  have t2 := t1.out.keep b12
  have b2 := Lib.hid (b1.out.trans (b12.mono b1.out.size))
  have c4 : clsV.length = 4 := rfl
  rw [c4] at t2
  have A1 : Hid (∀ i : Nat, i < 4 → ∃ g o, a1 = some ⟨g, o, none⟩ ∧ (∀ w' (z : Int), z = i → (Instr.indexAt 22 (.slice a1 4 c1) (.int .i64 z)).run Try.prog w' = .ok (.pointer (some ⟨g, o + i, none⟩)) w') ∧ w2.cell? ⟨g, o + i, none⟩ = some (.int .i64 (clsV.getD i 0))) := fun i hi => t2.at i hi
  have A2 : Hid (∀ i : Nat, i < 4 → ∃ g o, some (⟨w1.heap.size, 0, none⟩ : Addr) = some ⟨g, o, none⟩ ∧ (∀ w' (z : Int), z = i → (Instr.indexAt 22 (.slice (some ⟨w1.heap.size, 0, none⟩) 4 4) (.int .i64 z)).run Try.prog w' = .ok (.pointer (some ⟨g, o + i, none⟩)) w') ∧ w2.cell? ⟨g, o + i, none⟩ = some (.int .i64 (clsV.getD i 0))) := fun i hi => l2.at i hi
  rw [c4]
  clear hw2 l2 b12 t1 t2 c4 b1
  generalize w1.heap.size = g1 at *
  go_wp2_with fail
  go_loopg [11] 4 (fun g' s wr => ∃ i : Nat, i + g' = 4 ∧ s = .int .i64 i ∧ Hid (∃ k, wr = w2.drewN k))
  case atStart => exact ⟨0, by omega, rfl, 0, rfl⟩
  case round =>
    obtain ⟨i, hi, rfl, WR⟩ := hrel
    by_cases hlt : i < 4
    · have q1 : decide (i < 4) = true := decide_eq_true hlt
      have q2 : decide ((i : Int) < 4) = true := decide_eq_true (by omega)
      have wi : Hid (wrap64 ((i : Int) + 1) = (i : Int) + 1) := wrap_in rfl (by omega) (by omega)
      have gi : Hid (i + 1 + (4 - (i + 1)) = 4) := by unfold Hid; omega
      have gm : Hid (4 - (i + 1) < gk) := by unfold Hid; omega
      obtain ⟨g, o, rfl, ia, ca⟩ := A1.out i hlt
      obtain ⟨g', o', e2, ib, cb⟩ := A2.out i hlt
      injection e2 with e2
      injection e2 with e3 e4
      subst e3 e4
      replace ia := fun w' => ia w' (i : Int) rfl
      replace ib := fun w' => ib w' (i : Int) rfl
      replace ca : wr.cell? ⟨g, o + i, none⟩ = some (.int .i64 (clsV.getD i 0)) := by obtain ⟨k, rfl⟩ := WR.out; exact ca
      rw [Nat.zero_add] at cb
      simp only [Nat.zero_add] at ib
      replace cb : wr.cell? ⟨g1, i, none⟩ = some (.int .i64 (clsV.getD i 0)) := by obtain ⟨k, rfl⟩ := WR.out; exact cb
      have ee : (clsV.getD i 0 != clsV.getD i 0) = false := by simp
      generalize clsV.getD i 0 = x at *
      clear hi A1 A2 P1 P2 P3 P4 P5 P6 P7 P8
      have DD : Hid (∀ j, ∃ k', wr.drewN j = w2.drewN k') := fun j => by
        obtain ⟨k, rfl⟩ := WR.out
        exact ⟨k + j, by simp [World.drewN, Nat.add_assoc]⟩
      clear WR
      go_upto_region 9 with fail
      go_quiet (fail)
      have WR2 : Hid (∃ k', wr.drewN nq = w2.drewN k') := DD.out nq
      clear q1 q2 hlt ia ib ca cb DD
      generalize wr.drewN nq = w4 at *
      go_upto_region 8 with fail
      clear ee
      replace wi := wi.out
      go_wp2_with fail
      go_roundg (4 - (i + 1))
      case measure => exact gm.out
      case rel => exact ⟨i + 1, gi.out, by go_num, WR2⟩
    · obtain rfl : i = 4 := by omega
      have q2 : decide (((4 : Nat) : Int) < 4) = false := by decide
      have q3 : decide ((4 : Int) < 4) = false := by decide
      have bk : Below W.heap.size W wr := by
        obtain ⟨k, rfl⟩ := WR.out
        exact b2.out.trans ⟨rfl, rfl, rfl, Nat.le_refl _, fun _ _ => rfl⟩
      clear hi hlt A1 A2 b2 WR
      rename World => w3
      have C1 := Lib.hid (P1.out _ bk)
      replace bk := Lib.hid bk
      clear P1
      go_wp2_with fail
      refine C1.out.mono ?_
      rintro e w4 ⟨rfl, d4⟩
      have b4 := bk.out.trans (d4.mono bk.out.size)
      have C2 := Lib.hid (P2.out w4 b4)
      have C3 := Lib.hid (P3.out w4 b4)
      replace b4 := Lib.hid b4
      clear C1 P2 P3 d4 bk
      go_wp2_with fail
      refine C2.out.mono ?_
      rintro e w5 ⟨rfl, rfl⟩
      clear C2
      go_wp2_with fail
      refine C3.out.mono ?_
      rintro e w5 ⟨rfl, d5⟩
      have b5 := b4.out.trans (d5.mono b4.out.size)
      have C4 := Lib.hid (P4.out w5 b5)
      have C5 := Lib.hid (P5.out w5 b5)
      replace b5 := Lib.hid b5
      clear C3 P4 P5 d5 b4
      go_wp2_with fail
      refine C4.out.mono ?_
      rintro e w6 ⟨rfl, rfl⟩
      clear C4
      go_wp2_with fail
      refine C5.out.mono ?_
      rintro e w6 ⟨rfl, d6⟩
      have b6 := b5.out.trans (d6.mono b5.out.size)
      have C6 := Lib.hid (P6.out w6 b6)
      have C7 := Lib.hid (P7.out w6)
      replace b6 := Lib.hid b6
      clear C5 P6 P7 d6 b5
      go_wp2_with fail
      refine C6.out.mono ?_
      rintro e w7 ⟨rfl, rfl⟩
      clear C6
      go_wp2_with fail
      refine C7.out.mono ?_
      rintro e w7 ⟨rfl, d7⟩
      have b7 := b6.out.trans (d7.mono b6.out.size)
      have C8 := Lib.hid (P8.out w7)
      replace b7 := Lib.hid b7
      clear C7 P8 d7 b6
      go_wp2_with fail
      refine C8.out.mono ?_
      rintro e w8 ⟨rfl, d8⟩
      have b8 := Lib.hid (b7.out.trans (d8.mono b7.out.size))
      clear C8 d8 b7
      go_wp2_with fail
      go_ret
      exact ⟨rfl, b8.out⟩

theorem contract (H : Type) (enc : TypeId × Value → H) (W : World) (base : Nat) (args : Array Value) (ds gs : List (DataW H)) (before : List MemPlace)
    (hval : ∀ (j : Nat) t v, Try.f3.params[j]? = some t → args[j]? = some v → Value.okWide Try.prog W .any base t v)
    (hW : DataW.Whole enc Try.prog Try.f3.params.toList Rows.slotsTellsSpec.vars false W args.toList ds gs before)
    (hsz : (DataW.weightsEach Try.prog (Try.f3.params.toList ++ (OpenSpec.ofChange Rows.slotsTellsSpec).bare.plain.varTypes Try.prog) (ds ++ gs)).all (· ≤ reachBytes) = true) :
    Calls Try.prog 3 args W fun e W' => ∃ v, e = .returned v ∧ Rows.slotsTellsSpec.post enc Try.prog Try.f3 false true false false W args v W' := by
  have hW' := hW
  obtain ⟨p, q, hA0, hV, rfl, hfz, hnd⟩ := hW
  have hA : DataW.TrodAll enc Try.prog W 0 (fun _ => true) true Try.f3.params.toList args.toList ds p := hA0
  rw [Try.params3] at hA hval hsz
  obtain ⟨v0, vs0, d0, ds0, p0, q0, hargs, rfl, rfl, h0, r0⟩ := trodAll_cons hA
  obtain ⟨v1, vs1, d1, ds1, p1, q1, rfl, rfl, rfl, h1, r1⟩ := trodAll_cons r0
  obtain ⟨v2, vs2, d2, ds2, p2, q2, rfl, rfl, rfl, h2, r2⟩ := trodAll_cons r1
  obtain ⟨v3, vs3, d3, ds3, p3, q3, rfl, rfl, rfl, h3, r3⟩ := trodAll_cons r2
  obtain ⟨rfl, rfl, rfl⟩ := trodAll_nil r3
  obtain rfl : args = #[v0, v1, v2, v3] := by cases args; simp_all
  obtain ⟨rfl, rfl⟩ := trodVars_none hV
  have k0 := h0
  have lt0 : ∀ x ∈ p0, x.block < W.heap.size := by obtain ⟨m, hm⟩ := k0; exact DataW.trod_lt m _ _ _ hm
  obtain ⟨l0, hs0, hz0, hb0⟩ := open_nums (hval 0 22 v0 rfl rfl) h0 (fun n hn => by simpa using List.all_eq_true.1 hsz _ (DataW.weights_mem_each (j := 0) (t := 22) rfl rfl n hn))
  obtain ⟨a1, rfl, rfl, rfl, w1⟩ := open_int Try.underlying2 (hval 1 2 v1 rfl rfl) h1
  have b1 := bounds_i64 w1
  obtain ⟨a2, rfl, rfl, rfl, w2⟩ := open_int Try.underlying3 (hval 2 3 v2 rfl rfl) h2
  have b2 := bounds_i64 w2
  obtain ⟨a3, rfl, rfl, rfl, w3⟩ := open_int Try.underlying3 (hval 3 3 v3 rfl rfl) h3
  have b3 := bounds_i64 w3
  clear hA0
  simp only [List.append_nil] at hW'
  refine (walk face21 v0 l0 a1 a2 a3 W ⟨hs0, by omega⟩ b1 b2 b3).mono fun e W' ⟨he, bel⟩ => ?_
  subst he
  exact ⟨_, rfl, _, _, _, [], _, [], hW', trodAll_mk1 (shut_bool Try.underlying4 _), (trodAll_cons_mk (Below.trod laidOut (by kernel_rfl) (of_decide_eq_true (by kernel_rfl)) k0 bel lt0) (trodAll_cons_mk (shut_int Try.underlying2 w1) (trodAll_cons_mk (shut_int Try.underlying3 w2) (trodAll_cons_mk (shut_int Try.underlying3 w3) trodAll_mk0)))), rfl, bel.frame _, fun h => by cases h⟩

theorem laid_met (os : Os) : laidMet Try.prog Rows.slotsTellsRow.laid ((startWorld Try.prog os).forCall (fun _ _ => 0) ⟨#[], #[.slice none 0 0, .int .i64 0, .int .i64 0, .int .i64 0], []⟩).memory :=
  laidMet_of_run' 8 (by kernel_rfl) (by kernel_rfl)
theorem reads (os : Os) {H : Type} (enc : TypeId × Value → H) : ∃ places, DataW.whole enc Try.prog ((startWorld Try.prog os).forCall (fun _ _ => 0) ⟨#[], #[.slice none 0 0, .int .i64 0, .int .i64 0, .int .i64 0], []⟩).memory Try.f3.params.toList Rows.slotsTellsSpec.vars false #[Value.slice none 0 0, Value.int .i64 0, Value.int .i64 0, Value.int .i64 0].toList 8 = some ([.nil, .lit (.int .i64 0), .lit (.int .i64 0), .lit (.int .i64 0)], [], places) :=
  ⟨[], by kernel_rfl⟩

set_option maxRecDepth 100000 in
theorem lifted (os : Os) (started : os.Started) (H : Type) (enc : TypeId × Value → H) (F : Stop.Interp) :
    ReturnsInHanded {} Try.checked os 3 .any ((OpenSpec.ofChange Rows.slotsTellsSpec).preRow enc Try.prog Try.f3 Rows.slotsTellsRow.domain false Rows.slotsTellsRow.laid) (((OpenSpec.ofChange Rows.slotsTellsSpec).at F).post enc Try.prog Try.f3 false true false false) := by
  obtain ⟨places, hx⟩ := reads os enc
  refine returnsInHanded_of_row (C := Try.checked) (s := OpenSpec.ofChange Rows.slotsTellsSpec) own started (by kernel_rfl) Try.func3
    (witness_row_at (enc := enc) (C := Try.checked) false (startWorld Try.prog os) #[.slice none 0 0, .int .i64 0, .int .i64 0, .int .i64 0] rfl (by kernel_rfl) (by kernel_rfl) (by kernel_rfl)
      (OpenSpec.preRow_of_cond 8 hx (by kernel_rfl) (fun k hk => by cases hk) (by kernel_rfl) (laid_met os))) ?_
  intro W base args ds gs before hval hW _ _ hsz _ _ _
  exact contract H enc W base args ds gs before hval hW hsz

theorem said : Rows.SlotsTellsSaid :=
  OpenClaim.holds_of_cond 3 Try.f3 rfl rfl rfl rfl rfl rfl rfl ⟨rfl, rfl, rfl, rfl, rfl⟩ rfl rfl rfl rfl rfl (by kernel_rfl) Try.func3 (by kernel_rfl)
    (of_decide_eq_true (by kernel_rfl)) (by unfold Func.isWrapper; first | (rw [if_pos (by decide +kernel)]; kernel_rfl) | (rw [if_neg (by decide +kernel)]; exact ⟨rfl, rfl⟩))
    (fun os started H enc _ F => by rw [OpenClaim.pre_eq_preRow]; exact lifted os started H enc F)
end Go.Proofs.Ythdajlaeacfcpaa.slotsTells
namespace Go.Proofs.Ythdajlaeacfcpaa
theorem slotsTells_said : Rows.SlotsTellsSaid := slotsTells.said
end Go.Proofs.Ythdajlaeacfcpaa
