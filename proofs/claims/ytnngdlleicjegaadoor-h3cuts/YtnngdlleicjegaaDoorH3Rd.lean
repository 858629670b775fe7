/-
  The law H3Reads over what it asks of the program's calls (H3Face) and the document's Feed: any bytes, in any pieces, are told as the chapter says. No condition but the form's own reach.
-/
import Derived.Test.YtnngdlleicjegaaDoorH3Pure
import Derived.Test.YtnngdlleicjegaaDoorH3Same
import Derived.Test.YtnngdlleicjegaaDoorH3One
namespace Go.Proofs.YtnngdlleicjegaaDoor
set_option maxRecDepth 100000
open Go.RowKit

section
variable {T : World → Prop} {PR : (Nat → Prop) → World → Value → Bool → List L → Prop}
/-- The document's Feed. -/
def RFeed : Prop := ∀ (w : World) (R : Nat) (r : Hr) (t : ByteArray), RH w R r → r.s.length + t.size < 1000000 → r.left ≤ 4611686018427387903 → Calls Tryd.prog 11 #[.pointer (some ⟨R, 0, none⟩), .string t] w fun e w' => ∃ v, e = .returned (.tuple #[v, .int .i64 (r.feed (toL t)).1.code]) ∧ RH w' R (r.feed (toL t)).1 ∧ EvR w.heap.size w' v (r.feed (toL t)).2 ∧ Kept (fun k => k = R) w w'
theorem at_strs15 (B o N cap i : Nat) (w : World) (h : i < N) :
    (Instr.indexAt 22 (.slice (some ⟨B, o, none⟩) N cap) (.int .i64 (i : Int))).run Tryd.prog w = .ok (.pointer (some ⟨B, o + i, none⟩)) w := by
  have e : Tryd.prog.elem 22 = 9 := by kernel_rfl
  rw [run_indexAt_slice (P := Tryd.prog) w 22 ⟨B, o, none⟩ N cap .i64 i (by rw [e]; exact Tryd.underlying22), if_pos (by omega), e]
  have s : (sizeOf 9).run Tryd.prog w = .ok 1 w := Tryd.sizeOf9 w
  rw [s]
  simp [Addr.add_mid]
/-- A reader of the program's, and the document's, fed the same pieces. -/
structure H2R (T : World → Prop) (PR : (Nat → Prop) → World → Value → Bool → List L → Prop) (w0 w : World) (v : Value) (R : Nat) (c : Bool) (ts : List L) : Prop where
  ex : ∃ F : Nat → Prop, PR F w v c ts ∧ (∀ k, F k → w0.heap.size ≤ k) ∧ ¬ F R ∧ w0.heap.size ≤ R ∧ RH w R (fed c ts) ∧ Below w0.heap.size w0 w ∧ T w
theorem RH.lt {w : World} {R : Nat} {r : Hr} (h : RH w R r) : R < w.heap.size := by
  obtain ⟨s, -, l⟩ := h
  exact l.lt (by show 0 < 7; decide)
theorem RH.of {w w' : World} {R : Nat} {r : Hr} (h : RH w R r) (e : w'.heap[R]? = w.heap[R]?) : RH w' R r := by
  obtain ⟨s, hs, l⟩ := h
  exact ⟨s, hs, l.of_block e⟩
theorem H2R.below {w0 w : World} {v : Value} {R : Nat} {c : Bool} {ts : List L} (h : H2R T PR w0 w v R c ts) : Below w0.heap.size w0 w := by
  obtain ⟨_, _, _, _, _, _, h, _⟩ := h.ex; exact h
/-- Both are fed one more piece. -/
theorem h2_feed (f : H3Face T PR) {w0 w : World} {v : Value} {R : Nat} {c : Bool} {ts : List L} (h : H2R T PR w0 w v R c ts) (t : ByteArray) (hz : bytesL ts + t.size < 1000000) :
    Calls Tryd.prog 10 #[v, .string t] w fun e w' => ∃ ev : Value, e = .returned (.tuple #[ev, .int .i64 ((fed c ts).feed (toL t)).1.code]) ∧ (∃ F : Nat → Prop, PR F w' v c (ts ++ [toL t]) ∧ (∀ k, F k → w0.heap.size ≤ k) ∧ ¬ F R ∧ w0.heap.size ≤ R ∧ RH w' R (fed c ts) ∧ Below w0.heap.size w0 w' ∧ T w') ∧ EvAt w' ev ((fed c ts).feed (toL t)).2 ∧ (∀ k, ev.ownBlock = some k → k < w'.heap.size ∧ k ≠ R) := by
  obtain ⟨F, h, hF, nR, gR, rh, b0, tw⟩ := h.ex
  refine (f.feed t tw h hz).mono ?_
  rintro e w' ⟨F', ev, rfl, h', hF', k', v', o'⟩
  have hR := rh.lt
  refine ⟨ev, rfl, ⟨F', h', fun k hk => ?_, fun q => ?_, gR, rh.of (k'.block R hR nR), b0.trans (k'.below b0.size hF), f.still tw h k'⟩, v', fun k hk => ⟨(o' k hk).2.1, fun q => ?_⟩⟩
  · rcases hF' k hk with q | q
    · exact hF k q
    · exact Nat.le_trans b0.size q
  · rcases hF' R q with q | q
    · exact nR q
    · omega
  · have := (o' k hk).1
    omega
set_option maxHeartbeats 8000000 in
theorem reads15_ok (f : H3Face T PR) (rf : RFeed) (c : Bool) (a : Option Addr) (n cap : Nat) (g : Nat → ByteArray) (w : World) (t : T w) (hS : ∀ i, i < n → ∃ b off, a = some ⟨b, off, none⟩ ∧ w.cell? ⟨b, off + i, none⟩ = some (.string (g i))) :
    Calls Tryd.prog 3 #[.bool c, .slice a n cap] w fun e w' => e = .returned (.bool true) ∧ Below w.heap.size w w' := by
  have NW : Hid (∀ _ : Unit, _) := fun _ => f.new c w t
  have RF : Hid RFeed := rf
  have SS := Lib.hid hS
  have T0 := Lib.hid t
  clear t hS rf
  go_enter Tryd.func3, Tryd.ntmps3
  go_wp2_with fail
  refine (NW.out ()).mono ?_
  rintro e w1 ⟨pa, F, rfl, p1, g1, b1⟩
  have L0 := Lies.new w1 (rdV ⟨#[]⟩ (Hr.new c)) 27
  have bA : Below w1.heap.size w1 (w1.alloc (.cells (rdV ⟨#[]⟩ (Hr.new c)).toArray 27)) := (Below.refl _ _).alloc (Nat.le_refl _) _
  have H0 : Hid (H2R T PR w (w1.alloc (.cells (rdV ⟨#[]⟩ (Hr.new c)).toArray 27)) (.pointer (some pa)) w1.heap.size c []) := ⟨F, f.of p1 fun k hk => bA.block k (f.lt p1 k hk), g1, fun q => absurd (f.lt p1 _ q) (Nat.lt_irrefl _), b1.size, ⟨⟨#[]⟩, rfl, L0⟩, b1.trans (bA.mono b1.size), f.keep (f.keep T0.out b1) bA⟩
  clear p1 g1 b1 L0 bA NW
  change Hid (H2R T PR w (w1.alloc (.cells #[.bool c, .string ⟨#[]⟩, .bool false, .bool false, .int .i64 0, .bool false, .int .i64 0] 27)) (.pointer (some pa)) w1.heap.size c []) at H0
  go_upto_region 2 with fail
  generalize hw : w1.alloc (.cells #[.bool c, .string ⟨#[]⟩, .bool false, .bool false, .int .i64 0, .bool false, .int .i64 0] 27) = w2 at H0 ⊢
  clear hw
  generalize w1.heap.size = R at H0 ⊢
  go_wp2_with fail
  go_loopg [7] 60 (fun gg iv wr => ∃ (i : Nat) (ts : List L), i + gg = 60 ∧ iv = .int .i64 (i : Int) ∧ Hid (bytesL ts ≤ 6000 * i) ∧ Hid (H2R T PR w wr (.pointer (some pa)) R c ts))
  case atStart => exact ⟨0, [], by omega, rfl, Nat.le_refl _, H0⟩
  case round =>
    obtain ⟨i, ts, hi, rfl, hB, X⟩ := hrel
    clear H0
    by_cases h1 : i < n
    · have q1 : decide ((i : Int) < (n : Int)) = true := decide_eq_true (by omega)
      by_cases h2 : i < 60
      · have q2 : decide ((i : Int) < 60) = true := decide_eq_true (by omega)
        obtain ⟨b, off, rfl, ci⟩ := SS.out i h1
        have hbw := World.block_lt_of_cell? w _ ci
        have ci' := (X.out.below.cell hbw).trans ci
        have ia := fun w' => at_strs15 b off n cap i w' h1
        generalize g i = S at *
        by_cases h3 : S.size ≤ 6000
        · have q3 : decide ((6000 : Int) < (S.size : Int)) = false := decide_eq_false (by omega)
          have hB' := hB.out
          have hts : bytesL ts + S.size < 1000000 := by omega
          have FA : Hid (∀ _ : Unit, _) := fun _ => h2_feed f X.out S hts
          have sm := fed_small c ts
          have RB : Hid (∀ w', RH w' R (fed c ts) → _) := fun w' h => RF.out w' R (fed c ts) S h (by omega) sm.2
          have ES := Lib.hid (fed_snoc c ts (toL S))
          have BN : Hid (bytesL (ts ++ [toL S]) ≤ 6000 * (i + 1)) := by unfold Hid; rw [bytes_snoc, toL_len]; omega
          have hev : ((fed c ts).feed (toL S)).2.length < 1000000000 := by
            have := feed_few (fed c ts) (toL S)
            rw [toL_len] at this
            omega
          obtain ⟨evs, hevs⟩ : ∃ evs, evs = ((fed c ts).feed (toL S)).2 := ⟨_, rfl⟩
          rw [← hevs] at FA RB hev
          obtain ⟨q, hq⟩ : ∃ q, q = ((fed c ts).feed (toL S)).1 := ⟨_, rfl⟩
          rw [← hq] at FA RB ES
          clear hB' hB sm X hevs hq hts
          go_wp2_with fail
          refine (FA.out ()).mono ?_
          rintro e w3 ⟨ev, rfl, ⟨F3, p3, g3, n3, r3, rh3, b3, t3⟩, v3, o3⟩
          have ci3 := (b3.cell hbw).trans ci
          have P3 := Lib.hid p3
          have RH3 := Lib.hid rh3
          have B3 := Lib.hid b3
          have V3 := Lib.hid v3
          have lt3 := Lib.hid (f.lt p3)
          replace g3 : Hid _ := g3
          replace n3 : Hid _ := n3
          replace r3 : Hid _ := r3
          replace o3 : Hid _ := o3
          clear p3 rh3 b3 v3 t3 FA ci'
          go_wp2_with fail
          refine (RB.out _ RH3.out).mono ?_
          rintro e w4 ⟨v4, rfl, rh4, ev4, k4⟩
          have B4 : Hid (Below w.heap.size w w4) := B3.out.trans (k4.below B3.out.size (fun k hk => by rw [hk]; exact r3.out))
          have P4 := Lib.hid (f.of P3.out fun k hk => k4.block k (lt3.out k hk) (fun c => n3.out (c ▸ hk)))
          have T4 := Lib.hid (f.keep T0.out B4.out)
          have V4 := Lib.hid (V3.out.of fun k hk => k4.block k (o3.out k hk).1 (o3.out k hk).2)
          have RH4 := Lib.hid rh4
          have SM : Hid (∀ _ : Unit, _) := fun _ => same15_ok ev v4 evs w4 V4.out ev4.at hev
          clear rh4 ev4 k4 B3 P3 RH3 V3 V4 lt3 o3 RB ci3
          go_wp2_with fail
          refine (SM.out ()).mono ?_
          rintro e w5 ⟨rfl, b5⟩
          have B5 : Hid (Below w.heap.size w w5) := B4.out.trans (b5.mono B4.out.size)
          have T5 := Lib.hid (f.keep T0.out B5.out)
          have P5 := Lib.hid (f.of P4.out fun k hk => b5.block k (f.lt P4.out k hk))
          have RH5 := Lib.hid (RH4.out.keep b5)
          have EN : Hid (∀ _ : Unit, _) := fun _ => f.fin T5.out P5.out
          rw [ES.out] at EN
          clear b5 B4 T4 P4 RH4 SM
          go_wp2_with fail
          refine (EN.out ()).mono ?_
          rintro e w6 ⟨F6, rfl, p6, s6, k6⟩
          have B6 : Hid (Below w.heap.size w w6) := B5.out.trans (k6.below B5.out.size g3.out)
          have RH6 := Lib.hid (RH5.out.of (k6.block R RH5.out.lt n3.out))
          have P6 := Lib.hid p6
          have G6 : Hid (∀ k, F6 k → w.heap.size ≤ k) := fun k hk => by
            rcases s6 k hk with x | x
            · exact g3.out k x
            · exact Nat.le_trans B5.out.size x
          have N6 : Hid (¬ F6 R) := fun x => by
            rcases s6 R x with y | y
            · exact n3.out y
            · have := RH5.out.lt
              omega
          have EX : Hid (∀ _ : Unit, _) := fun _ => rend15_ok w6 R q RH6.out
          clear p6 s6 k6 B5 T5 P5 RH5 EN n3 g3
          go_wp2_with fail
          refine (EX.out ()).mono ?_
          rintro e w7 ⟨rfl, b7⟩
          have NX : Hid (H2R T PR w w7 (.pointer (some pa)) R c (ts ++ [toL S])) := ⟨F6, f.of P6.out fun k hk => b7.block k (f.lt P6.out k hk), G6.out, N6.out, r3.out, by rw [ES.out]; exact RH6.out.keep b7, B6.out.trans (b7.mono B6.out.size), f.keep T0.out (B6.out.trans (b7.mono B6.out.size))⟩
          clear b7 B6 RH6 P6 G6 N6 EX
          go_wp2_with fail
          go_roundg (59 - i)
          case measure => omega
          case rel => exact ⟨i + 1, _, by omega, by simp, BN, NX⟩
        · have q3 : decide ((6000 : Int) < (S.size : Int)) = true := decide_eq_true (by omega)
          have ZZ := Lib.hid X.out.below
          clear X
          go_wp2_with fail
          go_ret
          exact ⟨rfl, ZZ.out⟩
      · have q2 : decide ((i : Int) < 60) = false := decide_eq_false (by omega)
        have ZZ := Lib.hid X.out.below
        clear X
        go_wp2_with fail
        go_ret
        exact ⟨rfl, ZZ.out⟩
    · have q1 : decide ((i : Int) < (n : Int)) = false := decide_eq_false (by omega)
      have ZZ := Lib.hid X.out.below
      clear X
      go_wp2_with fail
      go_ret
      exact ⟨rfl, ZZ.out⟩
end
end Go.Proofs.YtnngdlleicjegaaDoor
