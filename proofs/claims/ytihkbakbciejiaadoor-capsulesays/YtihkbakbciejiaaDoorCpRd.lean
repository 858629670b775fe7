/-
  What the law CapsuleReads answers. The table of sizes lies as the row's list gives it; no condition but the form's own reach.
-/
import Derived.Test.YtihkbakbciejiaaDoorCpFc
namespace Go.Proofs.YtihkbakbciejiaaDoor
set_option maxRecDepth 100000
open Go.RowKit Go.Sort

theorem at_strs16 (B o N cap i : Nat) (w : World) (h : i < N) :
    (Instr.indexAt 22 (.slice (some ⟨B, o, none⟩) N cap) (.int .i64 (i : Int))).run Tryd.prog w = .ok (.pointer (some ⟨B, o + i, none⟩)) w := by
  have e : Tryd.prog.elem 22 = 9 := by kernel_rfl
  rw [run_indexAt_slice (P := Tryd.prog) w 22 ⟨B, o, none⟩ N cap .i64 i (by rw [e]; exact Tryd.underlying22), if_pos (by omega), e]
  have s : (sizeOf 9).run Tryd.prog w = .ok 1 w := Tryd.sizeOf9 w
  rw [s]
  simp [Addr.add_mid]
theorem RC.lt {w : World} {R : Nat} {r : Cr} (h : RC w R r) : R < w.heap.size := by
  obtain ⟨s, -, l⟩ := h
  exact l.lt (by show 0 < 2; decide)
theorem RC.of {w w' : World} {R : Nat} {r : Cr} (h : RC w R r) (e : w'.heap[R]? = w.heap[R]?) : RC w' R r := by
  obtain ⟨s, hs, l⟩ := h
  exact ⟨s, hs, l.of_block e⟩
/-- The program's reader, and the document's, fed the same pieces. -/
structure H2 (w0 w : World) (R1 R2 : Nat) (r : Cr) : Prop where
  p : PC w R1 r
  d : RC w R2 r
  ne : R1 ≠ R2
  g1 : w0.heap.size ≤ R1
  g2 : w0.heap.size ≤ R2
  bel : Below w0.heap.size w0 w
set_option maxHeartbeats 8000000 in
theorem reads16_ok (a : Option Addr) (n cap : Nat) (g : Nat → ByteArray) (k : Int) (d : ByteArray) (w : World) (t : VTab w) (hd : d.size ≤ 4611686018427387000) (hS : ∀ i, i < n → ∃ b off, a = some ⟨b, off, none⟩ ∧ w.cell? ⟨b, off + i, none⟩ = some (.string (g i))) :
    Calls Tryd.prog 3 #[.slice a n cap, .agg #[.int .i64 k, .string d]] w fun e w' => e = .returned (.bool true) ∧ Below w.heap.size w w' := by
  have SS := Lib.hid hS
  have T0 := Lib.hid t
  have B0 : Below w.heap.size w (w.alloc (.cells #[.int .i64 k, .string d] 24)) := (Below.refl _ _).alloc (Nat.le_refl _) _
  have L0 : Lies (w.alloc (.cells #[.int .i64 k, .string d] 24)) w.heap.size [.int .i64 k, .string d] := Lies.new w [.int .i64 k, .string d] 24
  obtain ⟨w0, hw0⟩ : ∃ w0, w0 = w.alloc (.cells #[.int .i64 k, .string d] 24) := ⟨_, rfl⟩
  rw [← hw0] at B0 L0
  obtain ⟨K, hK⟩ : ∃ K, K = w.heap.size := ⟨_, rfl⟩
  rw [← hK] at L0
  have NW := Lib.hid (pnew_ok w0 (t.below B0))
  replace B0 := Lib.hid B0
  replace L0 := Lib.hid L0
  clear t hS
  go_enter Tryd.func3, Tryd.ntmps3
  go_upto_region 1 with fail
  rw [← hw0, ← hK]
  clear hw0
  replace hK := Lib.hid hK
  go_wp2_with fail
  refine NW.out.mono ?_
  rintro e w1 ⟨rfl, p1, b1⟩
  have bA : Below w1.heap.size w1 (w1.alloc (.cells #[.string ⟨#[]⟩, .bool false] 29)) := (Below.refl _ _).alloc (Nat.le_refl _) _
  have LA : Lies (w1.alloc (.cells #[.string ⟨#[]⟩, .bool false] 29)) w1.heap.size [.string ⟨#[]⟩, .bool false] := Lies.new w1 [.string ⟨#[]⟩, .bool false] 29
  have H0 : Hid (H2 w (w1.alloc (.cells #[.string ⟨#[]⟩, .bool false] 29)) w0.heap.size w1.heap.size cNew) := ⟨p1.keep bA, ⟨⟨#[]⟩, rfl, LA⟩, Nat.ne_of_lt p1.lt, B0.out.size, Nat.le_trans B0.out.size b1.size, (B0.out.trans (b1.mono B0.out.size)).trans (bA.mono (Nat.le_trans B0.out.size b1.size))⟩
  have LK := Lib.hid ((L0.out.keep (by show 0 < 2; decide) b1).keep (by show 0 < 2; decide) bA)
  clear p1 b1 bA LA NW L0
  go_upto_region 2 with fail
  generalize w1.alloc (.cells #[.string ⟨#[]⟩, .bool false] 29) = w2 at *
  generalize w0.heap.size = R1 at *
  generalize w1.heap.size = R2 at *
  have x0 : ∀ d' os', (grow (redrawn w2 d') os').cell? ⟨K, 0, none⟩ = some (.int .i64 k) := fun d' os' => cell_regrown (LK.out.cell 0 rfl) d' os'
  have x1 : ∀ d' os', (grow (redrawn w2 d') os').cell? ⟨K, 1, none⟩ = some (.string d) := fun d' os' => cell_regrown (LK.out.cell 1 rfl) d' os'
  have PW : Hid (∀ d' os', Calls Tryd.prog 10 #[.agg #[.int .i64 k, .string d]] (grow (redrawn w2 d') os') fun e w' => e = .returned (.string (strL (frI k (toL d)))) ∧ Below (grow (redrawn w2 d') os').heap.size (grow (redrawn w2 d') os') w') := fun d' os' => pwr_ok k d _ ((T0.out.below H0.out.bel).below (below_regrown w2 d' os')) hd
  have RW : Hid (∀ d' os', Calls Tryd.prog 11 #[.agg #[.int .i64 k, .string d]] (grow (redrawn w2 d') os') fun e w' => e = .returned (.string (strL (frI k (toL d)))) ∧ Below (grow (redrawn w2 d') os').heap.size (grow (redrawn w2 d') os') w') := fun d' os' => rwr16_ok k d _ hd
  generalize strL (frI k (toL d)) = X at *
  refine wp_region_quiet_below (by kernel_rfl) (by kernel_rfl) ?_
  repeat (go_big_quiet_step (first | (go_at_call 10; exact Calls.regrown_of (PW.out _ _)) | (go_at_call 11; exact Calls.regrown_of (RW.out _ _))))
  refine wpQuiet_nil ?_
  intro _ hw'
  obtain ⟨⟨dq, osq⟩, hw''⟩ := hw'
  subst hw''
  have bq := below_regrown w2 dq osq
  have H1 : Hid (H2 w (grow (redrawn w2 dq) osq) R1 R2 cNew) := ⟨H0.out.p.keep bq, H0.out.d.of (bq.block R2 H0.out.d.lt), H0.out.ne, H0.out.g1, H0.out.g2, H0.out.bel.trans (bq.mono H0.out.bel.size)⟩
  clear PW RW x0 x1 bq LK H0 B0
  simp only
  generalize grow (redrawn w2 dq) osq = w3 at *
  go_wp2_with fail
  go_loopg [7] 60 (fun gg iv wr => ∃ (i : Nat) (r : Cr), i + gg = 60 ∧ iv = .int .i64 (i : Int) ∧ Hid (r.s.length ≤ 6000 * i) ∧ Hid (H2 w wr R1 R2 r))
  case atStart => exact ⟨0, cNew, by omega, rfl, Nat.le_refl _, H1⟩
  case round =>
    obtain ⟨i, r, hi, rfl, hB, Y⟩ := hrel
    clear H1
    by_cases h1 : i < n
    · have q1 : decide ((i : Int) < (n : Int)) = true := decide_eq_true (by omega)
      by_cases h2 : i < 60
      · have q2 : decide ((i : Int) < 60) = true := decide_eq_true (by omega)
        obtain ⟨b, off, rfl, ci⟩ := SS.out i h1
        have hbw := World.block_lt_of_cell? w _ ci
        have ci' := (Y.out.bel.cell hbw).trans ci
        have ia := fun w' => at_strs16 b off n cap i w' h1
        generalize g i = S at *
        by_cases h3 : S.size ≤ 6000
        · have q3 : decide ((6000 : Int) < (S.size : Int)) = false := decide_eq_false (by omega)
          have hB' := hB.out
          have hz : r.s.length + S.size < 1000000 := by omega
          have few := feed_few r (toL S)
          have lef := feed_left r (toL S)
          rw [toL_len] at few lef
          have BN : Hid ((r.feed (toL S)).1.s.length ≤ 6000 * (i + 1)) := by unfold Hid; omega
          have FA : Hid (∀ _ : Unit, _) := fun _ => pfeed_ok wr R1 r S (T0.out.below Y.out.bel) Y.out.p (fun _ => hz)
          have RB : Hid (∀ w', RC w' R2 r → _) := fun w' h => rcfeed_ok w' R2 r S h hz
          have hev : (r.feed (toL S)).2.length < 1000000000 := by omega
          obtain ⟨q, hq⟩ : ∃ q, q = (r.feed (toL S)).1 := ⟨_, rfl⟩
          obtain ⟨evs, hevs⟩ : ∃ evs, evs = (r.feed (toL S)).2 := ⟨_, rfl⟩
          rw [← hq, ← hevs] at FA RB
          rw [← hevs] at hev
          rw [← hq] at BN
          have Y2 : Hid (RC wr R2 r ∧ R1 ≠ R2 ∧ w.heap.size ≤ R1 ∧ w.heap.size ≤ R2 ∧ R1 < wr.heap.size) := ⟨Y.out.d, Y.out.ne, Y.out.g1, Y.out.g2, Y.out.p.lt⟩
          have ZB := Lib.hid Y.out.bel
          clear hB' hB few lef hq hevs hz Y
          go_wp2_with fail
          refine (FA.out ()).mono ?_
          rintro e w4 ⟨ev, rfl, p4, r4, k4⟩
          have B4 := Lib.hid (ZB.out.trans (k4.below ZB.out.size (fun k hk => by rw [hk]; exact Y2.out.2.2.1)))
          have ci4 := (B4.out.cell hbw).trans ci
          have D4 := Lib.hid (Y2.out.1.of (k4.block R2 Y2.out.1.lt (fun c => Y2.out.2.1 c.symm)))
          have P4 := Lib.hid p4
          have V4 := Lib.hid r4.at
          have O4 : Hid (∀ k, ev.ownBlock = some k → k < w4.heap.size ∧ k ≠ R2) := fun k hk => ⟨(r4.row.lt k hk).2, fun c => by have := (r4.row.lt k hk).1; have := Y2.out.1.lt; omega⟩
          clear p4 r4 k4 FA ci'
          go_wp2_with fail
          refine (RB.out w4 D4.out).mono ?_
          rintro e w5 ⟨v5, rfl, d5, r5, k5⟩
          have B5 := Lib.hid (B4.out.trans (k5.below B4.out.size (fun k hk => by rw [hk]; exact Y2.out.2.2.2.1)))
          have P5 := Lib.hid (P4.out.of (k5.block R1 P4.out.lt (fun c => Y2.out.2.1 c)))
          have D5 := Lib.hid d5
          have V5 := Lib.hid (V4.out.of fun k hk => k5.block k (O4.out k hk).1 (O4.out k hk).2)
          have SM : Hid (∀ _ : Unit, _) := fun _ => same16_ok ev v5 evs w5 V5.out r5.at hev
          clear d5 r5 k5 B4 P4 D4 V4 V5 O4 RB ci4
          go_wp2_with fail
          refine (SM.out ()).mono ?_
          rintro e w6 ⟨rfl, b6⟩
          have B6 := Lib.hid (B5.out.trans (b6.mono B5.out.size))
          have P6 := Lib.hid (P5.out.keep b6)
          have D6 := Lib.hid (D5.out.of (b6.block R2 D5.out.lt))
          have EN : Hid (∀ _ : Unit, _) := fun _ => pend_ok w6 R1 q P6.out
          have EX : Hid (∀ _ : Unit, _) := fun _ => rcend_ok w6 R2 q D6.out
          unfold Cr.fin at EN
          have NX : Hid (H2 w w6 R1 R2 q) := ⟨P6.out, D6.out, Y2.out.2.1, Y2.out.2.2.1, Y2.out.2.2.2.1, B6.out⟩
          generalize (!q.bad && decide (q.s = [])) = FF at *
          generalize cErr q = CC at *
          clear b6 B5 P5 D5 SM P6 D6 B6 Y2 ZB
          go_wp2_with fail
          refine (EN.out ()).mono ?_
          rintro e w7 ⟨rfl, rfl⟩
          clear EN
          go_wp2_with fail
          refine (EX.out ()).mono ?_
          rintro e w7 ⟨rfl, rfl⟩
          clear EX
          go_wp2_with fail
          go_roundg (59 - i)
          case measure => omega
          case rel => exact ⟨i + 1, _, by omega, by simp, BN, NX⟩
        · have q3 : decide ((6000 : Int) < (S.size : Int)) = true := decide_eq_true (by omega)
          have ZZ := Lib.hid Y.out.bel
          clear Y
          go_wp2_with fail
          go_ret
          exact ⟨rfl, ZZ.out⟩
      · have q2 : decide ((i : Int) < 60) = false := decide_eq_false (by omega)
        have ZZ := Lib.hid Y.out.bel
        clear Y
        go_wp2_with fail
        go_ret
        exact ⟨rfl, ZZ.out⟩
    · have q1 : decide ((i : Int) < (n : Int)) = false := decide_eq_false (by omega)
      have ZZ := Lib.hid Y.out.bel
      clear Y
      go_wp2_with fail
      go_ret
      exact ⟨rfl, ZZ.out⟩
end Go.Proofs.YtihkbakbciejiaaDoor
