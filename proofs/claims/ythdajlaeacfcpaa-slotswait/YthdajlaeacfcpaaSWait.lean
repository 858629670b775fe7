/-
  The law SlotsWait returns true for every table, tick and tenant: from any tick on who ever has one has the next within a round, and none between. No condition.
-/
import Derived.Test.YthdajlaeacfcpaaSlPg
import Derived.Test.YthdajlaeacfcpaaObDraw
import Derived.Deep.Cut
import Derived.BigQuiet
import Derived.Test.YthdajlaeacfcpaaSlOpen
import Derived.LaidLaws
namespace Go.Proofs.Ythdajlaeacfcpaa.slotsWait
set_option maxRecDepth 100000
open Go.ChangeShapes Go.WideShapes Go.ChangeAt Go.RowKit
open Go.ChangeMaps (open_string shut_string)

set_option maxHeartbeats 4000000 in
theorem walk (face : SlFace) (v : Value) (l : List Int) (t who : Int) (W : World) (hv : Tb W v l) (ht : In64 t) (hw : In64 who) :
    Calls Try.prog 4 #[v, .int .i64 t, .int .i64 who] W fun e w' => e = .returned (.bool true) ∧ Below W.heap.size W w' := by
  have WK := Lib.hid (works21_ok face W)
  have P1 : Hid (∀ w', Below W.heap.size W w' → ∀ t, In64 t → _) := fun w' b t ht => face.owner (hv.keep b) t ht
  have P3 : Hid (∀ w', Below W.heap.size W w' → _) := fun w' b => face.turn (hv.keep b) t who ht hw
  have P5 : Hid (∀ w', Below W.heap.size W w' → _) := fun w' b => face.round (hv.keep b) who hw
  obtain ⟨a, c, rfl⟩ := hv.slice
  have hz := hv.z
  obtain ⟨n, hn⟩ : ∃ n, n = l.length := ⟨_, rfl⟩
  have n64 : n ≤ 9223372036854775807 := by omega
  rw [← hn] at P1 P3 P5 ⊢
  clear hv face
  go_enter Try.func4, Try.ntmps4
  go_wp2_with fail
  refine WK.out.mono ?_
  rintro e w0 ⟨rfl, b0⟩
  clear WK
  replace b0 := Lib.hid b0
  by_cases h3 : 500 < n
  · have q1 : decide (500 < n) = true := decide_eq_true h3
    have q2 : decide ((500 : Int) < (n : Int)) = true := decide_eq_true (by omega)
    clear P1 P3 P5
    go_wp2_with fail
    go_ret
    exact ⟨rfl, b0.out⟩
  have q1 : decide (500 < n) = false := decide_eq_false h3
  have q2 : decide ((500 : Int) < (n : Int)) = false := decide_eq_false (by omega)
  by_cases h4 : t < 0
  · have q3 : decide (t < 0) = true := decide_eq_true h4
    clear P1 P3 P5
    go_wp2_with fail
    go_ret
    exact ⟨rfl, b0.out⟩
  have q3 : decide (t < 0) = false := decide_eq_false h4
  by_cases h5 : 1152921504606846976 < t
  · have q4 : decide (1152921504606846976 < t) = true := decide_eq_true h5
    clear P1 P3 P5
    go_wp2_with fail
    go_ret
    exact ⟨rfl, b0.out⟩
  have q4 : decide (1152921504606846976 < t) = false := decide_eq_false h5
  have C1 := Lib.hid (P3.out _ b0.out)
  replace h3 := Lib.hid h3
  replace h4 := Lib.hid h4
  replace h5 := Lib.hid h5
  replace ht := Lib.hid ht
  replace hw := Lib.hid hw
  replace hz := Lib.hid hz
  replace hn := Lib.hid hn
  clear P3
  go_wp2_with fail
  refine C1.out.mono ?_
  rintro e w1 ⟨rfl, d1⟩
  have b1 := b0.out.trans (d1.mono b0.out.size)
  have C2 := Lib.hid (P5.out _ b1)
  replace b1 := Lib.hid b1
  clear C1 P5 d1 q1 q2 q3 q4 b0
  go_wp2_with fail
  refine C2.out.mono ?_
  rintro e w2 ⟨rfl, d2⟩
  have b2 := b1.out.trans (d2.mono b1.out.size)
  replace b2 := Lib.hid b2
  clear C2 d2 b1
  replace h3 := h3.out
  replace h4 := h4.out
  replace h5 := h5.out
  replace ht := ht.out
  replace hw := hw.out
  replace hz := hz.out
  replace hn := hn.out
  obtain ⟨T, hT⟩ : ∃ T : Nat, t = (T : Int) := Int.eq_ofNat_of_zero_le (by omega)
  subst hT
  have PE : Per (prp l who) n := by rw [hn]; exact prp_per l who
  by_cases hb : who < 0 ∨ (0 ≤ who ∧ fstP (prp l who) T n = none)
  · have e1 : turnV l (T : Int) who = -1 := by
      rcases hb with h | ⟨h, h'⟩
      · exact turn_bad (.inl h)
      · rw [turn_in (by omega), Int.toNat_natCast, ← hn, h']
    have e2 : roundV l who = 0 := by
      unfold roundV
      rcases hb with h | ⟨h, h'⟩
      · rw [if_pos (.inl h)]
      · rw [if_neg (by omega), ← hn]
        unfold gapP
        cases hf : fstP (prp l who) 0 n with
        | none => rfl
        | some a0 =>
          obtain ⟨f1, f2, f3, -⟩ := fst_some hf
          obtain ⟨u, hu⟩ := PE.some (by omega) f3 T
          rw [h'] at hu
          cases hu
    rw [e1, e2]
    clear PE hb P1 e1 e2 ht hw hz hn n64 h3 h4 h5
    go_wp2_with fail
    go_ret
    exact ⟨rfl, b2.out⟩
  have hw0 : 0 ≤ who := by omega
  obtain ⟨u, hu⟩ : ∃ u, fstP (prp l who) T n = some u := by
    cases hf : fstP (prp l who) T n with
    | none => exact absurd (.inr ⟨hw0, hf⟩) hb
    | some u => exact ⟨u, rfl⟩
  have e1 : turnV l (T : Int) who = (u : Int) := by rw [turn_in (by omega), Int.toNat_natCast, ← hn, hu]
  obtain ⟨G, hG⟩ : ∃ G, G = gapP (prp l who) n := ⟨_, rfl⟩
  have e2 : roundV l who = (G : Int) := by unfold roundV; rw [if_neg (by omega), ← hn, hG]
  obtain ⟨u1, u2, u3, u4⟩ := fst_some hu
  have hg1 : u - T < G := by rw [hG]; exact wait_lt PE (by omega) hu
  have hg2 : G ≤ n := by rw [hG]; exact gap_most _ _
  have OV : Hid (∀ i : Nat, (prp l who i = true → ownV l (i : Int) = who) ∧ (prp l who i = false → ownV l (i : Int) ≠ who)) := fun i => ⟨fun h => of_decide_eq_true h, fun h => of_decide_eq_false h⟩
  have o1 : ownV l (u : Int) = who := (OV.out u).1 u3
  have o2 : ownV l ((u + n : Nat) : Int) = who := (OV.out (u + n)).1 (by rw [PE]; exact u3)
  have NB : Hid (∀ i : Nat, T ≤ i → i < u → ownV l (i : Int) ≠ who) := fun i h1 h2 => (OV.out i).2 (u4 i h1 h2)
  rw [e1, e2]
  obtain ⟨d, hd⟩ : ∃ d, d = u - T := ⟨_, rfl⟩
  have wd : Hid (wrap64 ((u : Int) - (T : Int)) = (d : Int)) := wrap_in (by omega) (by omega) (by omega)
  have wn : Hid (wrap64 ((u : Int) + (n : Int)) = ((u + n : Nat) : Int)) := wrap_in (by omega) (by omega) (by omega)
  have r0 : decide ((u : Int) < 0) = false := decide_eq_false (by omega)
  have r1 : decide ((u : Int) < (T : Int)) = false := decide_eq_false (by omega)
  have r1' : decide (u < T) = false := decide_eq_false (by omega)
  have r2 : decide ((G : Int) < (d : Int)) = false := decide_eq_false (by omega)
  have r2' : decide (G < d) = false := decide_eq_false (by omega)
  have r2a : decide ((G : Int) < (u : Int) - (T : Int)) = false := decide_eq_false (by omega)
  have r2b : ¬ (G : Int) < (u : Int) - (T : Int) := by omega
  have r2c : (u : Int) - (T : Int) ≤ (G : Int) := by omega
  have r3 : decide ((G : Int) < 1) = false := decide_eq_false (by omega)
  have r3' : decide (G < 1) = false := decide_eq_false (by omega)
  have r3'' : ¬ G = 0 := by omega
  have r4 : decide ((n : Int) < (G : Int)) = false := decide_eq_false (by omega)
  have r4' : decide (n < G) = false := decide_eq_false (by omega)
  have eq1 : (who != who) = false := by simp
  have eq2 : (who == who) = true := by simp
  have C3 := Lib.hid (P1.out _ b2.out (u : Int) (by unfold In64; omega))
  have C4 : Hid (∀ w', Below W.heap.size W w' → _) := fun w' b => P1.out w' b ((u + n : Nat) : Int) (by unfold In64; omega)
  have C5 : Hid (∀ w', Below W.heap.size W w' → ∀ i : Nat, i ≤ u → _) := fun w' b i hi => P1.out w' b (i : Int) (by unfold In64; omega)
  rw [o1] at C3
  rw [o2] at C4
  have hu9 : u ≤ 2000000000000000000 := by omega
  clear o1 o2 OV u3 u4 hu hG hg1 hg2 e1 e2 hb PE P1 hw ht hz hn h3 h4 h5 hd n64
  replace wd := wd.out
  go_wp2_with fail
  refine C3.out.mono ?_
  rintro e w3 ⟨rfl, d3⟩
  have b3 := Lib.hid (b2.out.trans (d3.mono b2.out.size))
  clear C3 d3 b2
  go_wp2_with fail
  clear r0 r1 r1' r2 r2' r2a r2b r2c r3 r3' r3'' r4 r4' wd
  go_loopg [9] (u - T) (fun g' s wr => ∃ i : Nat, i + g' = u ∧ T ≤ i ∧ s = .int .i64 i ∧ Hid (Below W.heap.size W wr))
  case atStart => exact ⟨T, by omega, Nat.le_refl _, rfl, b3⟩
  case round =>
    clear b3
    obtain ⟨i, hi, hT, rfl, b⟩ := hrel
    by_cases hlt : i < u
    · have q1 : decide (i < u) = true := decide_eq_true hlt
      have q2 : decide ((i : Int) < (u : Int)) = true := decide_eq_true (by omega)
      have wi : Hid (wrap64 ((i : Int) + 1) = (i : Int) + 1) := wrap_in rfl (by omega) (by omega)
      have gi : Hid (i + 1 + (u - (i + 1)) = u) := by unfold Hid; omega
      have gm : Hid (u - (i + 1) < gk) := by unfold Hid; omega
      have gt : Hid (T ≤ i + 1) := by unfold Hid; omega
      have C := Lib.hid (C5.out _ b.out i (by omega))
      have nb := NB.out i hT hlt
      obtain ⟨x, hx⟩ : ∃ x, x = ownV l (i : Int) := ⟨_, rfl⟩
      rw [← hx] at C nb
      have e1 : (x == who) = false := by simp [nb]
      have e2 : decide (x = who) = false := decide_eq_false nb
      clear hx hi hT C4 C5 NB wn eq1 eq2 hu9 nb u1 u2
      go_wp2_with fail
      refine C.out.mono ?_
      rintro e w5 ⟨rfl, d5⟩
      have b5 := Lib.hid (b.out.trans (d5.mono b.out.size))
      clear C d5 b
      go_upto_region 13 with fail
      clear q1 q2 hlt e1 e2
      replace wi := wi.out
      go_wp2_with fail
      go_roundg (u - (i + 1))
      case measure => exact gm.out
      case rel => exact ⟨i + 1, gi.out, gt.out, by go_num, b5⟩
    · obtain rfl : i = u := by omega
      have q1 : decide (i < i) = false := decide_eq_false hlt
      have q2 : decide ((i : Int) < (i : Int)) = false := decide_eq_false (by omega)
      have C := Lib.hid (C4.out _ b.out)
      replace wn := wn.out
      obtain ⟨un, hun⟩ : ∃ m : Nat, m = i + n := ⟨_, rfl⟩
      rw [← hun] at C wn
      clear hi hT C4 C5 NB hlt hun hu9 u1 u2
      go_wp2_with fail
      refine C.out.mono ?_
      rintro e w5 ⟨rfl, d5⟩
      have b5 := Lib.hid (b.out.trans (d5.mono b.out.size))
      clear C d5 b
      go_wp2_with fail
      go_ret
      exact ⟨rfl, b5.out⟩

theorem contract (H : Type) (enc : TypeId × Value → H) (W : World) (base : Nat) (args : Array Value) (ds gs : List (DataW H)) (before : List MemPlace)
    (hval : ∀ (j : Nat) t v, Try.f4.params[j]? = some t → args[j]? = some v → Value.okWide Try.prog W .any base t v)
    (hW : DataW.Whole enc Try.prog Try.f4.params.toList Rows.slotsWaitSpec.vars false W args.toList ds gs before)
    (hsz : (DataW.weightsEach Try.prog (Try.f4.params.toList ++ (OpenSpec.ofChange Rows.slotsWaitSpec).bare.plain.varTypes Try.prog) (ds ++ gs)).all (· ≤ reachBytes) = true) :
    Calls Try.prog 4 args W fun e W' => ∃ v, e = .returned v ∧ Rows.slotsWaitSpec.post enc Try.prog Try.f4 false true false false W args v W' := by
  have hW' := hW
  obtain ⟨p, q, hA0, hV, rfl, hfz, hnd⟩ := hW
  have hA : DataW.TrodAll enc Try.prog W 0 (fun _ => true) true Try.f4.params.toList args.toList ds p := hA0
  rw [Try.params4] at hA hval hsz
  obtain ⟨v0, vs0, d0, ds0, p0, q0, hargs, rfl, rfl, h0, r0⟩ := trodAll_cons hA
  obtain ⟨v1, vs1, d1, ds1, p1, q1, rfl, rfl, rfl, h1, r1⟩ := trodAll_cons r0
  obtain ⟨v2, vs2, d2, ds2, p2, q2, rfl, rfl, rfl, h2, r2⟩ := trodAll_cons r1
  obtain ⟨rfl, rfl, rfl⟩ := trodAll_nil r2
  obtain rfl : args = #[v0, v1, v2] := by cases args; simp_all
  obtain ⟨rfl, rfl⟩ := trodVars_none hV
  have k0 := h0
  have lt0 : ∀ x ∈ p0, x.block < W.heap.size := by obtain ⟨m, hm⟩ := k0; exact DataW.trod_lt m _ _ _ hm
  obtain ⟨l0, hs0, hz0, hb0⟩ := open_nums (hval 0 22 v0 rfl rfl) h0 (fun n hn => by simpa using List.all_eq_true.1 hsz _ (DataW.weights_mem_each (j := 0) (t := 22) rfl rfl n hn))
  obtain ⟨a1, rfl, rfl, rfl, w1⟩ := open_int Try.underlying2 (hval 1 2 v1 rfl rfl) h1
  have b1 := bounds_i64 w1
  obtain ⟨a2, rfl, rfl, rfl, w2⟩ := open_int Try.underlying3 (hval 2 3 v2 rfl rfl) h2
  have b2 := bounds_i64 w2
  clear hA0
  simp only [List.append_nil] at hW'
  refine (walk face21 v0 l0 a1 a2 W ⟨hs0, by omega⟩ b1 b2).mono fun e W' ⟨he, bel⟩ => ?_
  subst he
  exact ⟨_, rfl, _, _, _, [], _, [], hW', trodAll_mk1 (shut_bool Try.underlying4 _), (trodAll_cons_mk (Below.trod laidOut (by kernel_rfl) (of_decide_eq_true (by kernel_rfl)) k0 bel lt0) (trodAll_cons_mk (shut_int Try.underlying2 w1) (trodAll_cons_mk (shut_int Try.underlying3 w2) trodAll_mk0))), rfl, bel.frame _, fun h => by cases h⟩

theorem laid_met (os : Os) : laidMet Try.prog Rows.slotsWaitRow.laid ((startWorld Try.prog os).forCall (fun _ _ => 0) ⟨#[], #[.slice none 0 0, .int .i64 0, .int .i64 0], []⟩).memory :=
  laidMet_of_run' 8 (by kernel_rfl) (by kernel_rfl)
theorem reads (os : Os) {H : Type} (enc : TypeId × Value → H) : ∃ places, DataW.whole enc Try.prog ((startWorld Try.prog os).forCall (fun _ _ => 0) ⟨#[], #[.slice none 0 0, .int .i64 0, .int .i64 0], []⟩).memory Try.f4.params.toList Rows.slotsWaitSpec.vars false #[Value.slice none 0 0, Value.int .i64 0, Value.int .i64 0].toList 8 = some ([.nil, .lit (.int .i64 0), .lit (.int .i64 0)], [], places) :=
  ⟨[], by kernel_rfl⟩

set_option maxRecDepth 100000 in
theorem lifted (os : Os) (started : os.Started) (H : Type) (enc : TypeId × Value → H) (F : Stop.Interp) :
    ReturnsInHanded {} Try.checked os 4 .any ((OpenSpec.ofChange Rows.slotsWaitSpec).preRow enc Try.prog Try.f4 Rows.slotsWaitRow.domain false Rows.slotsWaitRow.laid) (((OpenSpec.ofChange Rows.slotsWaitSpec).at F).post enc Try.prog Try.f4 false true false false) := by
  obtain ⟨places, hx⟩ := reads os enc
  refine returnsInHanded_of_row (C := Try.checked) (s := OpenSpec.ofChange Rows.slotsWaitSpec) own started (by kernel_rfl) Try.func4
    (witness_row_at (enc := enc) (C := Try.checked) false (startWorld Try.prog os) #[.slice none 0 0, .int .i64 0, .int .i64 0] rfl (by kernel_rfl) (by kernel_rfl) (by kernel_rfl)
      (OpenSpec.preRow_of_cond 8 hx (by kernel_rfl) (fun k hk => by cases hk) (by kernel_rfl) (laid_met os))) ?_
  intro W base args ds gs before hval hW _ _ hsz _ _ _
  exact contract H enc W base args ds gs before hval hW hsz

theorem said : Rows.SlotsWaitSaid :=
  OpenClaim.holds_of_cond 4 Try.f4 rfl rfl rfl rfl rfl rfl rfl ⟨rfl, rfl, rfl, rfl, rfl⟩ rfl rfl rfl rfl rfl (by kernel_rfl) Try.func4 (by kernel_rfl)
    (of_decide_eq_true (by kernel_rfl)) (by unfold Func.isWrapper; first | (rw [if_pos (by decide +kernel)]; kernel_rfl) | (rw [if_neg (by decide +kernel)]; exact ⟨rfl, rfl⟩))
    (fun os started H enc _ F => by rw [OpenClaim.pre_eq_preRow]; exact lifted os started H enc F)
end Go.Proofs.Ythdajlaeacfcpaa.slotsWait
namespace Go.Proofs.Ythdajlaeacfcpaa
theorem slotsWait_said : Rows.SlotsWaitSaid := slotsWait.said
end Go.Proofs.Ythdajlaeacfcpaa
