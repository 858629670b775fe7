/-
  The law OutboxThere returns true for every text and every rows, by what is asked of the program's calls (OuFace, InFace). No other condition.
-/
import Derived.Test.YtdmoaeegjjenmaaOuThMath
import Derived.Test.YtdmoaeegjjenmaaOuWorks
import Derived.Deep.LoopGhost
import Derived.Lib.QuietBelow
import Derived.BigQuiet
import Derived.Deep.DeepCutAuto
namespace Go.Proofs.Ytdmoaeegjjenmaa
set_option maxRecDepth 100000
open Go.RowKit Go.Sort

theorem sixty_at (a : Int) : ∃ k : Nat, wrap64 (1 + wrap64 ((IntKind.u64.wrap a).tmod 60)) = (k : Int) ∧ 1 ≤ k ∧ k ≤ 60 := by
  have h : 0 ≤ IntKind.u64.wrap a := by rw [IntKind.wrap_u64]; omega
  rw [Int.tmod_eq_emod_of_nonneg h]
  have h1 := Int.emod_nonneg (IntKind.u64.wrap a) (show (60 : Int) ≠ 0 by decide)
  have h2 := Int.emod_lt_of_pos (IntKind.u64.wrap a) (show (0 : Int) < 60 by decide)
  refine ⟨(1 + (IntKind.u64.wrap a) % 60).toNat, ?_, by omega, by omega⟩
  unfold wrap64
  omega
theorem at_nums (B o N cap i : Nat) (w : World) (h : i < N) (z : Int) (hz : z = i) (p : Nat) (hp : p = o + i) :
    (Instr.indexAt 47 (.slice (some ⟨B, o, none⟩) N cap) (.int .i64 z)).run Try.prog w = .ok (.pointer (some ⟨B, p, none⟩)) w := by
  subst hz hp
  have e : Try.prog.elem 47 = 3 := by kernel_rfl
  rw [run_indexAt_slice (P := Try.prog) w 47 ⟨B, o, none⟩ N cap .i64 i (by rw [e]; exact Try.underlying47), if_pos (by omega), e]
  have s : (sizeOf 3).run Try.prog w = .ok 1 w := Try.sizeOf3 w
  rw [s]
  simp [Addr.add_mid]
theorem Flags.get {w w' : World} {a : Option Addr} {n i : Nat} {f : Nat → Bool} (h : Flags w a n f) (hi : i < n) (b : Below w.heap.size w w') : ∃ B o, a = some ⟨B, o, none⟩ ∧ w'.cell? ⟨B, o + i, none⟩ = some (.bool (f i)) := by
  rcases h with h | ⟨B, o, rfl, hb, hc⟩
  · omega
  · exact ⟨B, o, rfl, (b.cell (p := ⟨B, o + i, none⟩) hb).trans (hc i hi)⟩
theorem Nums.get {w w' : World} {a : Option Addr} {n i : Nat} {f : Nat → Int} (h : Nums w a n f) (hi : i < n) (b : Below w.heap.size w w') : ∃ B o, a = some ⟨B, o, none⟩ ∧ w'.cell? ⟨B, o + i, none⟩ = some (.int .i64 (f i)) := by
  rcases h with h | ⟨B, o, rfl, hb, hc⟩
  · omega
  · exact ⟨B, o, rfl, (b.cell (p := ⟨B, o + i, none⟩) hb).trans (hc i hi)⟩
/-- How far it has come by so many rounds. -/
structure Prog12 (s : ByteArray) (n i : Nat) (x : Int) (b : ib.Bx) (t : ByteArray) : Prop where
  a : n ≤ s.size
  f : (x = 0 ∧ i ≤ n + 300) ∨ (x = 2 ∧ n = s.size ∧ i ≤ n + 301)
  e : IB s n x b (6000 * i)
  o : t = s.extract 0 n
set_option maxHeartbeats 16000000 in
theorem there_s {LS : OSt} {LI : ib.BSt} (fc : OuFace LS) (gc : ib.InFace LI) (t : ByteArray) (ma : Option Addr) (mn mc : Nat) (mf : Nat → Int) (la : Option Addr) (ln lc : Nat) (lf : Nat → Bool) (ta : Option Addr) (tn tc : Nat) (tf : Nat → Bool) (w : World) (hs : t.size ≤ 3000)
    (hmn : mn ≤ maxLen) (hln : ln ≤ maxLen) (htn : tn ≤ maxLen) (hM : Nums w ma mn mf) (hL : Flags w la ln lf) (hT : Flags w ta tn tf) :
    Calls Try.prog 4 #[.string t, .slice ma mn mc, .slice la ln lc, .slice ta tn tc] w fun e w' => e = .returned (.bool true) ∧ Below w.heap.size w w' := by
  obtain ⟨s, hse, hsz⟩ : ∃ s : ByteArray, t = s ∧ s.size ≤ 3000 := ⟨_, rfl, by exact hs⟩
  have z1 : decide ((3000 : Int) < (t.size : Int)) = false := decide_eq_false (by omega)
  have z2 : decide (3000 < t.size) = false := decide_eq_false (by omega)
  subst hse
  replace hM := Lib.hid hM
  replace hL := Lib.hid hL
  replace hT := Lib.hid hT
  have hmx : mn ≤ 9223372036854775807 ∧ ln ≤ 9223372036854775807 ∧ tn ≤ 9223372036854775807 := by unfold maxLen at *; omega
  obtain ⟨hm1, hl1, ht1⟩ := hmx
  have WK : Hid (∀ _ : Unit, _) := fun _ => works_ok fc w
  have NP : Hid (∀ w', Below w.heap.size w w' → _) := fun w' b => po_new fc (fun _ => False) w w' b (fun _ q => q.elim)
  have NI : Hid (∀ w' B F, PO LS (fun _ => False) w w' B F ox0 → _) := fun w' B F h => th_new fc gc (LI := LI) (w0 := w) (w := w') (B := B) (F := F) h
  have W1 : Hid (∀ w' B F I G, TH LS LI (fun _ => False) w w' B F ox0 I G ib.bx0 → _) := fun w' B F I G h => th_write fc gc t true (w0 := w) (w := w') (B := B) (F := F) (I := I) (G := G) h (by decide) (by omega)
  obtain ⟨r1, r2⟩ := tx_write0 t 2 true (by omega)
  rw [r1, r2] at W1
  have e3 : (if true = true then (0 : Int) else 3) = 0 := rfl
  rw [e3] at W1
  clear r1 r2 e3 hmn hln htn
  go_enter Try.func4, Try.ntmps4
  go_wp2_with fail
  refine (WK.out ()).mono ?_
  rintro e w0 ⟨rfl, b0⟩
  have B0 := Lib.hid b0
  clear b0 WK
  go_wp2_with fail
  refine (NP.out _ B0.out).mono ?_
  rintro e w1 ⟨B, F1, rfl, n1, -, -⟩
  have N1 := Lib.hid n1
  clear n1 NP B0
  go_wp2_with fail
  refine (NI.out _ _ _ N1.out).mono ?_
  rintro e w2 ⟨I, G2, rfl, n2⟩
  have N2 := Lib.hid n2
  clear n2 N1 NI
  go_wp2_with fail
  refine (W1.out _ _ _ _ _ N2.out).mono ?_
  rintro e w3 ⟨rfl, F3, n3, -⟩
  have N3 := Lib.hid n3
  clear n3 N2 W1
  go_wp2_with fail
  go_loopg [11, 12] 4000 (fun g ov iv wr => ∃ (i a : Nat) (f : Int) (F G : Nat → Prop) (e : ib.Bx) (o : ByteArray), Hid (i + g = 4000) ∧ iv = .int .i64 i ∧ ov = .string o ∧ Hid (Prog12 t a i f e o) ∧ Hid (TH LS LI (fun _ => False) w wr B F (tx t a 2 f 4096) I G e))
  case atStart => exact ⟨0, 0, 0, F3, G2, ib.bx0, ⟨#[]⟩, Lib.hid (by omega), rfl, rfl, ⟨by omega, .inl ⟨rfl, by omega⟩, IB.new t, (ext_nil t 0).symm⟩, N3⟩
  case round =>
    clear N3
    obtain ⟨i, a, f, F, G, e, o, hi, rfl, rfl, hp, N⟩ := hrel
    have hi4 : i < 3302 := by have := hp.out.f; have := hp.out.a; omega
    have q1 : decide ((i : Int) < 4000) = true := decide_eq_true (by omega)
    have q2 : decide (i < 4000) = true := decide_eq_true (by omega)
    go_upto_region 13 with fail
    go_cut [50] (fun c wx => c = .bool (decide (i < mn ∧ i < 300)) ∧ wx = wr)
    case first =>
      by_cases p1 : i < mn
      · have d1 : decide ((i : Int) < (mn : Int)) = true := decide_eq_true (by omega)
        have d1' : decide (i < mn) = true := decide_eq_true p1
        by_cases p2 : i < 300
        · have d2 : decide ((i : Int) < 300) = true := decide_eq_true (by omega)
          have d2' : decide (i < 300) = true := decide_eq_true p2
          have eC := decide_eq_true (show i < mn ∧ i < 300 from ⟨p1, p2⟩)
          go_wp2_with fail
          go_meet
          exact ⟨congrArg Value.bool eC.symm, rfl⟩
        · have d2 : decide ((i : Int) < 300) = false := decide_eq_false (by omega)
          have d2' : decide (i < 300) = false := decide_eq_false p2
          have eC := decide_eq_false (show ¬ (i < mn ∧ i < 300) from fun q => p2 q.2)
          go_wp2_with fail
          go_meet
          exact ⟨congrArg Value.bool eC.symm, rfl⟩
      · have d1 : decide ((i : Int) < (mn : Int)) = false := decide_eq_false (by omega)
        have d1' : decide (i < mn) = false := decide_eq_false p1
        have eC := decide_eq_false (show ¬ (i < mn ∧ i < 300) from fun q => p1 q.1)
        go_wp2_with fail
        go_meet
        exact ⟨congrArg Value.bool eC.symm, rfl⟩
    case rest =>
      obtain ⟨rfl, rfl⟩ := hcut
      go_upto_if 50 with fail
      go_cut [13] (fun mv wx => ∃ m : Nat, 1 ≤ m ∧ m ≤ 60 ∧ mv = .int .i64 m ∧ wx = wc)
      case first =>
        by_cases hP : i < mn ∧ i < 300
        · rw [decide_eq_true hP]
          obtain ⟨mb, mo, rfl, hcm⟩ := hM.out.get hP.1 N.out.o.bel
          have im := fun w' => at_nums mb mo mn mc i w' hP.1 (i : Int) rfl (mo + i) rfl
          obtain ⟨k, hk, hk1, hk2⟩ := sixty_at (mf i)
          clear hP
          go_wp2_with fail
          go_meet
          exact ⟨k, hk1, hk2, by go_num, rfl⟩
        · rw [decide_eq_false hP]
          clear hP
          go_wp2_with fail
          go_meet
          exact ⟨50, by omega, by omega, by go_num, rfl⟩
      case rest =>
        obtain ⟨m, hm1', hm2', rfl, rfl⟩ := hcut
        have hms : Hid (4000 - (i + 1) < gk) := by have := hi.out; unfold Hid; omega
        have hi2 : Hid (i + 1 + (4000 - (i + 1)) = 4000) := by unfold Hid; omega
        have hds : (tx t a 2 f 4096).s.size < 50000000 := by show t.size < _; omega
        rcases hp.out.f with ⟨rfl, hif⟩ | ⟨rfl, has, hif⟩
        · obtain ⟨hn1, hn2⟩ := th_nxt t a m hsz hp.out.a hm1'
          have AA : Hid (∀ _ : Unit, _) := fun _ => th_next fc gc (m : Int) N.out hds (by unfold In64; omega) (.inl (show (0 : Int) ≠ 2 by decide))
          rw [hn1, hn2] at AA
          have v1 : nxtV (tx t a 2 0 4096) (some (pieceP t a m)) = .tuple #[.agg #[.int .i64 (a : Int), .string (t.extract a (a + pieceN t a m)), .bool (decide (a + pieceN t a m = t.size))], .bool true] := rfl
          rw [v1] at AA
          have hpl := piece_le t a m hp.out.a
          have CK := Lib.hid (piece_ok t a m hp.out.a)
          have CA := Lib.hid (piece_ack t a m hp.out.a)
          have CL := Lib.hid (piece_lost t a m hp.out.a)
          have vp : pieceP t a m = ⟨a, pieceN t a m, decide (a + pieceN t a m = t.size)⟩ := rfl
          have hk0 : pieceN t a m = 0 → a = t.size := fun q => by unfold pieceN at q; have := hp.out.a; omega
          rw [vp] at AA CK CA CL
          clear hn1 hn2 v1 vp
          generalize pieceN t a m = k at *
          replace hk0 := Lib.hid hk0
          obtain ⟨hpl1, hpl2⟩ := hpl
          obtain ⟨fb, hfb⟩ : ∃ fb, fb = decide (a + k = t.size) := ⟨_, rfl⟩
          rw [← hfb] at AA CK CA CL
          replace hfb := Lib.hid hfb
          obtain ⟨D, hD⟩ : ∃ D, D = aftO (tx t a 2 0 4096) ⟨a, k, fb⟩ := ⟨_, rfl⟩
          rw [← hD] at AA CK CA CL
          have hDs : D.s.size < 50000000 := by rw [hD]; exact hds
          clear hD hds
          obtain ⟨x, hx⟩ : ∃ x, x = t.extract a (a + k) := ⟨_, rfl⟩
          have hxs : x.size = k := by rw [hx]; exact ext_sz t a k hpl1
          rw [← hx] at AA CK
          have hxe : t.extract a (a + k) = x := hx.symm
          replace hx := Lib.hid hx
          go_wp2_with fail
          refine (AA.out ()).mono ?_
          rintro y w4 ⟨rfl, F4, n4, -⟩
          have N4 := Lib.hid n4
          clear n4 N AA
          go_upto_region 16 with fail
          have al : Below w4.heap.size w4 (w4.alloc (.cells #[.int .i64 (a : Int), .string x, .bool fb] 33)) := (Below.refl _ _).alloc (Nat.le_refl _) _
          have N5 : Hid (TH LS LI (fun k => k = w4.heap.size) w (w4.alloc (.cells #[.int .i64 (a : Int), .string x, .bool fb] 33)) B F4 D I G e) := N4.out.fresh fc gc al (fun k q => .inr ⟨by omega, by simp; omega⟩)
          have P5 : Hid (Lies (w4.alloc (.cells #[.int .i64 (a : Int), .string x, .bool fb] 33)) w4.heap.size [.int .i64 (a : Int), .string x, .bool fb]) := Lies.new w4 _ _
          clear al N4
          generalize w4.alloc (.cells #[.int .i64 (a : Int), .string x, .bool fb] 33) = w5 at *
          generalize w4.heap.size = g at *
          have k0 := fun d os => cell_regrown (w := w5) (P5.out.cell 0 (v := .int .i64 (a : Int)) rfl) d os
          have k1 := fun d os => cell_regrown (w := w5) (P5.out.cell 1 (v := .string x) rfl) d os
          have y1 : decide ((m : Int) < (k : Int)) = false := decide_eq_false (by omega)
          have y1' : decide (m < k) = false := decide_eq_false (by omega)
          have y2 : decide ((a : Int) < 0) = false := decide_eq_false (by omega)
          have y3 : decide ((t.size : Int) - (k : Int) < (a : Int)) = false := decide_eq_false (by omega)
          have hxl : a + k ≤ t.size := hpl1
          go_wp2_with fail
          refine wp_region_quiet_below (by kernel_rfl) (by kernel_rfl) ?_
          repeat (go_big_quiet_step (fail))
          refine wpQuiet_nil ?_
          intro _ hw'
          obtain ⟨⟨dq, osq⟩, hw''⟩ := hw'
          subst hw''
          have br := below_regrown w5 dq osq
          have N6 := Lib.hid (N5.out.keep fc gc br)
          have P6 := Lib.hid (P5.out.keep (by show 0 < 3; decide) br)
          simp only
          generalize Go.Sort.grow (redrawn w5 dq) osq = w6 at *
          clear k0 k1 y1 y1' y2 y3 br N5 P5
          go_upto_region 19 with fail
          go_cut [116] (fun c wx => ∃ lb, c = .bool lb ∧ (lb = true → i < 300) ∧ wx = w6)
          case first =>
            by_cases p1 : i < ln
            · have d1 : decide ((i : Int) < (ln : Int)) = true := decide_eq_true (by omega)
              have d1' : decide (i < ln) = true := decide_eq_true p1
              by_cases p2 : i < 300
              · have d2 : decide ((i : Int) < 300) = true := decide_eq_true (by omega)
                have d2' : decide (i < 300) = true := decide_eq_true p2
                obtain ⟨lb, lo, rfl, hcl⟩ := hL.out.get p1 N6.out.o.bel
                have il := fun w' => at_flags lb lo ln lc i w' p1 (i : Int) rfl (lo + i) rfl
                go_wp2_with fail
                go_meet
                exact ⟨lf i, rfl, fun _ => p2, rfl⟩
              · have d2 : decide ((i : Int) < 300) = false := decide_eq_false (by omega)
                have d2' : decide (i < 300) = false := decide_eq_false p2
                go_wp2_with fail
                go_meet
                exact ⟨false, rfl, fun q => (by cases q), rfl⟩
            · have d1 : decide ((i : Int) < (ln : Int)) = false := decide_eq_false (by omega)
              have d1' : decide (i < ln) = false := decide_eq_false p1
              go_wp2_with fail
              go_meet
              exact ⟨false, rfl, fun q => (by cases q), rfl⟩
          case rest =>
            obtain ⟨lb, rfl, hlb, rfl⟩ := hcut
            have p0 := P6.out.cell 0 (v := .int .i64 (a : Int)) rfl
            have p1 := P6.out.cell 1 (v := .string x) rfl
            have p2 := P6.out.cell 2 (v := .bool fb) rfl
            cases lb with
            | true =>
              have LO : Hid (∀ _ : Unit, _) := fun _ => th_lost fc gc (Pc.mk a k fb) x N6.out hDs CK.out
              rw [CL.out] at LO
              have vp : pcV (Pc.mk a k fb) x = .agg #[.int .i64 (a : Int), .string x, .bool fb] := rfl
              rw [vp] at LO
              have hp2 : Hid (Prog12 t a (i + 1) 0 e o) := ⟨hp.out.a, .inl ⟨rfl, by have := hlb rfl; omega⟩, ⟨hp.out.e.rd, hp.out.e.most, hp.out.e.size, hp.out.e.rst, hp.out.e.got, by have := hp.out.e.cnt; omega⟩, hp.out.o⟩
              clear vp hlb CK CA CL N6 P6
              go_wp2_with fail
              refine (LO.out ()).mono ?_
              rintro y w7 ⟨rfl, F7, n7, -⟩
              have N7 := Lib.hid (n7.sub (Z := fun _ => False) fun _ q => q.elim)
              clear n7 LO p0 p1 p2
              go_wp2_with fail
              go_roundg (4000 - (i + 1))
              case measure => exact hms.out
              case rel => exact ⟨i + 1, a, 0, F7, G, e, o, hi2, by go_num, rfl, hp2, N7⟩
            | false =>
              clear hlb CL
              obtain ⟨E1, C1⟩ := hp.out.e.put hsz hpl1 fb hfb.out
              rw [hxe] at E1 C1
              obtain ⟨E2, C2⟩ := C1.put hsz hpl1 hfb.out
              rw [hxe] at E2 C2
              have PU : Hid (∀ _ : Unit, _) := fun _ => th_put fc gc (a : Int) x fb N6.out (by unfold In64; omega) (by omega) (by have := hp.out.e.cnt; omega)
              rw [E1] at PU
              have PU2 : Hid (∀ w' G', TH LS LI (fun k => k = g) w w' B F4 D I G' (ib.putB e a x fb) → _) := fun w' G' h => th_put fc gc (a : Int) x fb h (by unfold In64; omega) (by omega) (by have := C1.cnt; omega)
              rw [E2] at PU2
              replace C1 := Lib.hid C1
              replace C2 := Lib.hid C2
              clear E1 E2
              generalize ib.putB e a x fb = e1 at *
              generalize ib.putB e1 a x fb = e2 at *
              go_upto_region 21 with fail
              go_cut [151] (fun c wx => c = .bool false ∧ ∃ (G7 : Nat → Prop) (e7 : ib.Bx), Hid (TH LS LI (fun k => k = g) w wx B F4 D I G7 e7) ∧ Hid (IC t a k fb e7 (6000 * (i + 1))) ∧ Hid (Lies wx g [.int .i64 (a : Int), .string x, .bool fb]))
              case first =>
                by_cases q3 : i < tn
                · have d1 : decide ((i : Int) < (tn : Int)) = true := decide_eq_true (by omega)
                  have d1' : decide (i < tn) = true := decide_eq_true q3
                  go_wp2_with fail
                  refine (PU.out ()).mono ?_
                  rintro y w7 ⟨rfl, G7, n7, s7⟩
                  have N7 := Lib.hid n7
                  have P7 : Hid (Lies w7 g [.int .i64 (a : Int), .string x, .bool fb]) := P6.out.asIs s7 rfl
                  clear n7 s7 N6 P6 PU p0 p1 p2
                  have p0 := P7.out.cell 0 (v := .int .i64 (a : Int)) rfl
                  have p1 := P7.out.cell 1 (v := .string x) rfl
                  have p2 := P7.out.cell 2 (v := .bool fb) rfl
                  obtain ⟨tb, tt, rfl, hct⟩ := hT.out.get q3 N7.out.o.bel
                  have it := fun w' => at_flags tb tt tn tc i w' q3 (i : Int) rfl (tt + i) rfl
                  cases htf : tf i with
                  | true =>
                    rw [htf] at hct
                    replace htf := Lib.hid htf
                    go_wp2_with fail
                    refine (PU2.out _ _ N7.out).mono ?_
                    rintro y w8 ⟨rfl, G8, n8, s8⟩
                    have N8 := Lib.hid n8
                    have P8 : Hid (Lies w8 g [.int .i64 (a : Int), .string x, .bool fb]) := P7.out.asIs s8 rfl
                    clear n8 s8 N7 P7 PU2 p0 p1 p2 hct it
                    have C9 : Hid (IC t a k fb e2 (6000 * (i + 1))) := ⟨C2.out.rd, C2.out.most, C2.out.size, C2.out.rst, C2.out.got, C2.out.none, by have := C2.out.cnt; omega⟩
                    go_wp2_with fail
                    go_meet
                    exact ⟨rfl, G8, e2, N8, C9, P8⟩
                  | false =>
                    rw [htf] at hct
                    replace htf := Lib.hid htf
                    have C9 : Hid (IC t a k fb e1 (6000 * (i + 1))) := ⟨C1.out.rd, C1.out.most, C1.out.size, C1.out.rst, C1.out.got, C1.out.none, by have := C1.out.cnt; omega⟩
                    clear PU2
                    go_wp2_with fail
                    go_meet
                    exact ⟨rfl, G7, e1, N7, C9, P7⟩
                · have d1 : decide ((i : Int) < (tn : Int)) = false := decide_eq_false (by omega)
                  have d1' : decide (i < tn) = false := decide_eq_false q3
                  have C9 : Hid (IC t a k fb e1 (6000 * (i + 1))) := ⟨C1.out.rd, C1.out.most, C1.out.size, C1.out.rst, C1.out.got, C1.out.none, by have := C1.out.cnt; omega⟩
                  clear PU2
                  go_wp2_with fail
                  refine (PU.out ()).mono ?_
                  rintro y w7 ⟨rfl, G7, n7, s7⟩
                  have N7 := Lib.hid n7
                  have P7 : Hid (Lies w7 g [.int .i64 (a : Int), .string x, .bool fb]) := P6.out.asIs s7 rfl
                  clear n7 s7 N6 P6 PU p0 p1 p2
                  go_wp2_with fail
                  go_meet
                  exact ⟨rfl, G7, e1, N7, C9, P7⟩
              case rest =>
                obtain ⟨rfl, G7, e7, N7, C7, P7⟩ := hcut
                clear PU PU2 C1 C2 p0 p1 p2 N6 P6
                have p0 := P7.out.cell 0 (v := .int .i64 (a : Int)) rfl
                have p1 := P7.out.cell 1 (v := .string x) rfl
                have p2 := P7.out.cell 2 (v := .bool fb) rfl
                have AK : Hid (∀ _ : Unit, _) := fun _ => th_acked fc gc (Pc.mk a k fb) x N7.out hDs CK.out
                rw [CA.out] at AK
                have vp : pcV (Pc.mk a k fb) x = .agg #[.int .i64 (a : Int), .string x, .bool fb] := rfl
                rw [vp] at AK
                obtain ⟨f2, hf2⟩ : ∃ f2 : Int, f2 = if a + k = t.size then 2 else 0 := ⟨_, rfl⟩
                rw [← hf2] at AK
                have hfbb : (f2 = 2 ∧ fb = true) ∨ (f2 = 0 ∧ fb = false) := by
                  rw [hf2, hfb.out]
                  by_cases q : a + k = t.size
                  · left; simp [q]
                  · right; simp [q]
                obtain ⟨R1, R2⟩ := C7.out.read hsz hpl1 f2 hfbb
                rw [hxe] at R1
                have RD : Hid (∀ w' F', TH LS LI (fun k => k = g) w w' B F' (tx t (a + k) 2 f2 4096) I G7 e7 → _) := fun w' F' h => th_read fc gc 5000 h (by decide) (by rw [C7.out.rd]; omega)
                rw [R1] at RD
                have hcat : o ++ x = t.extract 0 (a + k) := by rw [hp.out.o, hx.out, ext_cat]
                have hos : o.size = a := by rw [hp.out.o, ByteArray.size_extract]; omega
                have hp2 : Hid (Prog12 t (a + k) (i + 1) f2 (ib.takeB e7 5000) (o ++ x)) := by
                  refine ⟨hpl1, ?_, R2, hcat⟩
                  by_cases q : a + k = t.size
                  · right
                    rw [if_pos q] at hf2
                    exact ⟨hf2, q, by omega⟩
                  · left
                    rw [if_neg q] at hf2
                    refine ⟨hf2, ?_⟩
                    have : k ≠ 0 := fun c => q (by have := hk0.out c; omega)
                    omega
                replace hcat := Lib.hid hcat
                generalize ib.takeB e7 5000 = e8 at *
                clear vp R1 R2 CK CA hfbb hf2 P7 C7
                go_wp2_with fail
                refine (AK.out ()).mono ?_
                rintro y w8 ⟨rfl, F8, n8, -⟩
                have N8 := Lib.hid n8
                clear n8 N7 AK p0 p1 p2
                go_wp2_with fail
                refine (RD.out _ _ N8.out).mono ?_
                rintro y w9 ⟨rfl, G9, n9, -⟩
                have N9 := Lib.hid (n9.sub (Z := fun _ => False) fun _ q => q.elim)
                clear n9 N8 RD
                go_wp2_with fail
                go_roundg (4000 - (i + 1))
                case measure => exact hms.out
                case rel => exact ⟨i + 1, a + k, f2, F8, G9, e8, o ++ x, hi2, by go_num, rfl, hp2, N9⟩
        · subst has
          obtain ⟨hn1, hn2⟩ := th_stop t m
          have AA : Hid (∀ _ : Unit, _) := fun _ => th_next fc gc (m : Int) N.out hds (by unfold In64; omega) (.inr hn1)
          rw [hn1, hn2] at AA
          have v1 : nxtV (tx t t.size 2 2 4096) none = .tuple #[.agg #[.int .i64 0, .string ⟨#[]⟩, .bool false], .bool false] := rfl
          rw [v1] at AA
          have ho : o = t := by rw [hp.out.o]; exact ext_all t
          have hen := hp.out.e.done
          have EE := Lib.hid hp.out.e
          have z7 : allB (tx t t.size 2 2 4096) = true := tx_all t 4096
          have z8 : thereN (tx t t.size 2 2 4096) = t.size := tx_there t 2 4096
          have z9 : (tx t t.size 2 2 4096).s.size = t.size := rfl
          have OST : Hid (∀ w' F' (X : Nat → Prop), PO LS X w w' B F' (tx t t.size 2 2 4096) → _) := fun w' F' X h => po_state fc h hds
          rw [z7, z8, z9] at OST
          have IST : Hid (∀ w', ib.PI LI w w' I G e → _) := fun w' h => ib.pi_state gc h
          rw [hen] at IST
          rw [ho]
          replace ho := Lib.hid ho
          clear hn1 hn2 v1 hen z7 z8 z9 hp hi hif EE
          generalize tx t t.size 2 2 4096 = D at *
          go_wp2_with fail
          refine (AA.out ()).mono ?_
          rintro y w4 ⟨rfl, F4, n4, -⟩
          have N4 := Lib.hid n4
          clear n4 N AA
          go_upto_region 16 with fail
          have al : Below w4.heap.size w4 (w4.alloc (.cells #[.int .i64 0, .string ⟨#[]⟩, .bool false] 33)) := (Below.refl _ _).alloc (Nat.le_refl _) _
          have N5 := Lib.hid (N4.out.keep fc gc al)
          clear al N4
          generalize w4.alloc (.cells #[.int .i64 0, .string ⟨#[]⟩, .bool false] 33) = w5 at *
          generalize w4.heap.size = g at *
          go_wp2_with fail
          refine (OST.out _ _ _ N5.out.o).mono ?_
          rintro y w6 ⟨rfl, b6⟩
          have N6 := Lib.hid (N5.out.keep fc gc b6)
          clear b6 N5 OST
          go_wp2_with fail
          refine (IST.out _ N6.out.i).mono ?_
          rintro y w7 ⟨rfl, b7⟩
          have bel := Lib.hid (N6.out.keep fc gc b7).o.bel
          clear b7 N6 IST
          go_wp2_with fail
          go_ret
          exact ⟨rfl, bel.out⟩
set_option maxHeartbeats 16000000 in
theorem there_l {LS : OSt} {LI : ib.BSt} (fc : OuFace LS) (gc : ib.InFace LI) (t : ByteArray) (ma : Option Addr) (mn mc : Nat) (mf : Nat → Int) (la : Option Addr) (ln lc : Nat) (lf : Nat → Bool) (ta : Option Addr) (tn tc : Nat) (tf : Nat → Bool) (w : World) (hs : 3000 < t.size) (hm : t.size ≤ 140737488351232)
    (hmn : mn ≤ maxLen) (hln : ln ≤ maxLen) (htn : tn ≤ maxLen) (hM : Nums w ma mn mf) (hL : Flags w la ln lf) (hT : Flags w ta tn tf) :
    Calls Try.prog 4 #[.string t, .slice ma mn mc, .slice la ln lc, .slice ta tn tc] w fun e w' => e = .returned (.bool true) ∧ Below w.heap.size w w' := by
  obtain ⟨s, hse, hsz⟩ : ∃ s : ByteArray, t.extract 0 3000 = s ∧ s.size ≤ 3000 := ⟨_, rfl, by rw [ByteArray.size_extract]; omega⟩
  have z1 : decide ((3000 : Int) < (t.size : Int)) = true := decide_eq_true (by omega)
  have z2 : decide (3000 < t.size) = true := decide_eq_true hs
  have z3 : 3000 ≤ t.size := by omega
  replace hM := Lib.hid hM
  replace hL := Lib.hid hL
  replace hT := Lib.hid hT
  have hmx : mn ≤ 9223372036854775807 ∧ ln ≤ 9223372036854775807 ∧ tn ≤ 9223372036854775807 := by unfold maxLen at *; omega
  obtain ⟨hm1, hl1, ht1⟩ := hmx
  have WK : Hid (∀ _ : Unit, _) := fun _ => works_ok fc w
  have NP : Hid (∀ w', Below w.heap.size w w' → _) := fun w' b => po_new fc (fun _ => False) w w' b (fun _ q => q.elim)
  have NI : Hid (∀ w' B F, PO LS (fun _ => False) w w' B F ox0 → _) := fun w' B F h => th_new fc gc (LI := LI) (w0 := w) (w := w') (B := B) (F := F) h
  have W1 : Hid (∀ w' B F I G, TH LS LI (fun _ => False) w w' B F ox0 I G ib.bx0 → _) := fun w' B F I G h => th_write fc gc s true (w0 := w) (w := w') (B := B) (F := F) (I := I) (G := G) h (by decide) (by omega)
  obtain ⟨r1, r2⟩ := tx_write0 s 2 true (by omega)
  rw [r1, r2] at W1
  have e3 : (if true = true then (0 : Int) else 3) = 0 := rfl
  rw [e3] at W1
  clear r1 r2 e3 hmn hln htn
  go_enter Try.func4, Try.ntmps4
  go_wp2_with fail
  refine (WK.out ()).mono ?_
  rintro e w0 ⟨rfl, b0⟩
  have B0 := Lib.hid b0
  clear b0 WK
  go_wp2_with fail
  refine (NP.out _ B0.out).mono ?_
  rintro e w1 ⟨B, F1, rfl, n1, -, -⟩
  have N1 := Lib.hid n1
  clear n1 NP B0
  go_wp2_with fail
  refine (NI.out _ _ _ N1.out).mono ?_
  rintro e w2 ⟨I, G2, rfl, n2⟩
  have N2 := Lib.hid n2
  clear n2 N1 NI
  go_wp2_with fail
  refine (W1.out _ _ _ _ _ N2.out).mono ?_
  rintro e w3 ⟨rfl, F3, n3, -⟩
  have N3 := Lib.hid n3
  clear n3 N2 W1
  go_wp2_with fail
  go_loopg [11, 12] 4000 (fun g ov iv wr => ∃ (i a : Nat) (f : Int) (F G : Nat → Prop) (e : ib.Bx) (o : ByteArray), Hid (i + g = 4000) ∧ iv = .int .i64 i ∧ ov = .string o ∧ Hid (Prog12 s a i f e o) ∧ Hid (TH LS LI (fun _ => False) w wr B F (tx s a 2 f 4096) I G e))
  case atStart => exact ⟨0, 0, 0, F3, G2, ib.bx0, ⟨#[]⟩, Lib.hid (by omega), rfl, rfl, ⟨by omega, .inl ⟨rfl, by omega⟩, IB.new s, (ext_nil s 0).symm⟩, N3⟩
  case round =>
    clear N3
    obtain ⟨i, a, f, F, G, e, o, hi, rfl, rfl, hp, N⟩ := hrel
    have hi4 : i < 3302 := by have := hp.out.f; have := hp.out.a; omega
    have q1 : decide ((i : Int) < 4000) = true := decide_eq_true (by omega)
    have q2 : decide (i < 4000) = true := decide_eq_true (by omega)
    go_upto_region 13 with fail
    go_cut [50] (fun c wx => c = .bool (decide (i < mn ∧ i < 300)) ∧ wx = wr)
    case first =>
      by_cases p1 : i < mn
      · have d1 : decide ((i : Int) < (mn : Int)) = true := decide_eq_true (by omega)
        have d1' : decide (i < mn) = true := decide_eq_true p1
        by_cases p2 : i < 300
        · have d2 : decide ((i : Int) < 300) = true := decide_eq_true (by omega)
          have d2' : decide (i < 300) = true := decide_eq_true p2
          have eC := decide_eq_true (show i < mn ∧ i < 300 from ⟨p1, p2⟩)
          go_wp2_with fail
          go_meet
          exact ⟨congrArg Value.bool eC.symm, rfl⟩
        · have d2 : decide ((i : Int) < 300) = false := decide_eq_false (by omega)
          have d2' : decide (i < 300) = false := decide_eq_false p2
          have eC := decide_eq_false (show ¬ (i < mn ∧ i < 300) from fun q => p2 q.2)
          go_wp2_with fail
          go_meet
          exact ⟨congrArg Value.bool eC.symm, rfl⟩
      · have d1 : decide ((i : Int) < (mn : Int)) = false := decide_eq_false (by omega)
        have d1' : decide (i < mn) = false := decide_eq_false p1
        have eC := decide_eq_false (show ¬ (i < mn ∧ i < 300) from fun q => p1 q.1)
        go_wp2_with fail
        go_meet
        exact ⟨congrArg Value.bool eC.symm, rfl⟩
    case rest =>
      obtain ⟨rfl, rfl⟩ := hcut
      go_upto_if 50 with fail
      go_cut [13] (fun mv wx => ∃ m : Nat, 1 ≤ m ∧ m ≤ 60 ∧ mv = .int .i64 m ∧ wx = wc)
      case first =>
        by_cases hP : i < mn ∧ i < 300
        · rw [decide_eq_true hP]
          obtain ⟨mb, mo, rfl, hcm⟩ := hM.out.get hP.1 N.out.o.bel
          have im := fun w' => at_nums mb mo mn mc i w' hP.1 (i : Int) rfl (mo + i) rfl
          obtain ⟨k, hk, hk1, hk2⟩ := sixty_at (mf i)
          clear hP
          go_wp2_with fail
          go_meet
          exact ⟨k, hk1, hk2, by go_num, rfl⟩
        · rw [decide_eq_false hP]
          clear hP
          go_wp2_with fail
          go_meet
          exact ⟨50, by omega, by omega, by go_num, rfl⟩
      case rest =>
        obtain ⟨m, hm1', hm2', rfl, rfl⟩ := hcut
        have hms : Hid (4000 - (i + 1) < gk) := by have := hi.out; unfold Hid; omega
        have hi2 : Hid (i + 1 + (4000 - (i + 1)) = 4000) := by unfold Hid; omega
        have hds : (tx s a 2 f 4096).s.size < 50000000 := by show s.size < _; omega
        rcases hp.out.f with ⟨rfl, hif⟩ | ⟨rfl, has, hif⟩
        · obtain ⟨hn1, hn2⟩ := th_nxt s a m hsz hp.out.a hm1'
          have AA : Hid (∀ _ : Unit, _) := fun _ => th_next fc gc (m : Int) N.out hds (by unfold In64; omega) (.inl (show (0 : Int) ≠ 2 by decide))
          rw [hn1, hn2] at AA
          have v1 : nxtV (tx s a 2 0 4096) (some (pieceP s a m)) = .tuple #[.agg #[.int .i64 (a : Int), .string (s.extract a (a + pieceN s a m)), .bool (decide (a + pieceN s a m = s.size))], .bool true] := rfl
          rw [v1] at AA
          have hpl := piece_le s a m hp.out.a
          have CK := Lib.hid (piece_ok s a m hp.out.a)
          have CA := Lib.hid (piece_ack s a m hp.out.a)
          have CL := Lib.hid (piece_lost s a m hp.out.a)
          have vp : pieceP s a m = ⟨a, pieceN s a m, decide (a + pieceN s a m = s.size)⟩ := rfl
          have hk0 : pieceN s a m = 0 → a = s.size := fun q => by unfold pieceN at q; have := hp.out.a; omega
          rw [vp] at AA CK CA CL
          clear hn1 hn2 v1 vp
          generalize pieceN s a m = k at *
          replace hk0 := Lib.hid hk0
          obtain ⟨hpl1, hpl2⟩ := hpl
          obtain ⟨fb, hfb⟩ : ∃ fb, fb = decide (a + k = s.size) := ⟨_, rfl⟩
          rw [← hfb] at AA CK CA CL
          replace hfb := Lib.hid hfb
          obtain ⟨D, hD⟩ : ∃ D, D = aftO (tx s a 2 0 4096) ⟨a, k, fb⟩ := ⟨_, rfl⟩
          rw [← hD] at AA CK CA CL
          have hDs : D.s.size < 50000000 := by rw [hD]; exact hds
          clear hD hds
          obtain ⟨x, hx⟩ : ∃ x, x = s.extract a (a + k) := ⟨_, rfl⟩
          have hxs : x.size = k := by rw [hx]; exact ext_sz s a k hpl1
          rw [← hx] at AA CK
          have hxe : s.extract a (a + k) = x := hx.symm
          replace hx := Lib.hid hx
          go_wp2_with fail
          refine (AA.out ()).mono ?_
          rintro y w4 ⟨rfl, F4, n4, -⟩
          have N4 := Lib.hid n4
          clear n4 N AA
          go_upto_region 16 with fail
          have al : Below w4.heap.size w4 (w4.alloc (.cells #[.int .i64 (a : Int), .string x, .bool fb] 33)) := (Below.refl _ _).alloc (Nat.le_refl _) _
          have N5 : Hid (TH LS LI (fun k => k = w4.heap.size) w (w4.alloc (.cells #[.int .i64 (a : Int), .string x, .bool fb] 33)) B F4 D I G e) := N4.out.fresh fc gc al (fun k q => .inr ⟨by omega, by simp; omega⟩)
          have P5 : Hid (Lies (w4.alloc (.cells #[.int .i64 (a : Int), .string x, .bool fb] 33)) w4.heap.size [.int .i64 (a : Int), .string x, .bool fb]) := Lies.new w4 _ _
          clear al N4
          generalize w4.alloc (.cells #[.int .i64 (a : Int), .string x, .bool fb] 33) = w5 at *
          generalize w4.heap.size = g at *
          have k0 := fun d os => cell_regrown (w := w5) (P5.out.cell 0 (v := .int .i64 (a : Int)) rfl) d os
          have k1 := fun d os => cell_regrown (w := w5) (P5.out.cell 1 (v := .string x) rfl) d os
          have y1 : decide ((m : Int) < (k : Int)) = false := decide_eq_false (by omega)
          have y1' : decide (m < k) = false := decide_eq_false (by omega)
          have y2 : decide ((a : Int) < 0) = false := decide_eq_false (by omega)
          have y3 : decide ((s.size : Int) - (k : Int) < (a : Int)) = false := decide_eq_false (by omega)
          have hxl : a + k ≤ s.size := hpl1
          go_wp2_with fail
          refine wp_region_quiet_below (by kernel_rfl) (by kernel_rfl) ?_
          repeat (go_big_quiet_step (fail))
          refine wpQuiet_nil ?_
          intro _ hw'
          obtain ⟨⟨dq, osq⟩, hw''⟩ := hw'
          subst hw''
          have br := below_regrown w5 dq osq
          have N6 := Lib.hid (N5.out.keep fc gc br)
          have P6 := Lib.hid (P5.out.keep (by show 0 < 3; decide) br)
          simp only
          generalize Go.Sort.grow (redrawn w5 dq) osq = w6 at *
          clear k0 k1 y1 y1' y2 y3 br N5 P5
          go_upto_region 19 with fail
          go_cut [116] (fun c wx => ∃ lb, c = .bool lb ∧ (lb = true → i < 300) ∧ wx = w6)
          case first =>
            by_cases p1 : i < ln
            · have d1 : decide ((i : Int) < (ln : Int)) = true := decide_eq_true (by omega)
              have d1' : decide (i < ln) = true := decide_eq_true p1
              by_cases p2 : i < 300
              · have d2 : decide ((i : Int) < 300) = true := decide_eq_true (by omega)
                have d2' : decide (i < 300) = true := decide_eq_true p2
                obtain ⟨lb, lo, rfl, hcl⟩ := hL.out.get p1 N6.out.o.bel
                have il := fun w' => at_flags lb lo ln lc i w' p1 (i : Int) rfl (lo + i) rfl
                go_wp2_with fail
                go_meet
                exact ⟨lf i, rfl, fun _ => p2, rfl⟩
              · have d2 : decide ((i : Int) < 300) = false := decide_eq_false (by omega)
                have d2' : decide (i < 300) = false := decide_eq_false p2
                go_wp2_with fail
                go_meet
                exact ⟨false, rfl, fun q => (by cases q), rfl⟩
            · have d1 : decide ((i : Int) < (ln : Int)) = false := decide_eq_false (by omega)
              have d1' : decide (i < ln) = false := decide_eq_false p1
              go_wp2_with fail
              go_meet
              exact ⟨false, rfl, fun q => (by cases q), rfl⟩
          case rest =>
            obtain ⟨lb, rfl, hlb, rfl⟩ := hcut
            have p0 := P6.out.cell 0 (v := .int .i64 (a : Int)) rfl
            have p1 := P6.out.cell 1 (v := .string x) rfl
            have p2 := P6.out.cell 2 (v := .bool fb) rfl
            cases lb with
            | true =>
              have LO : Hid (∀ _ : Unit, _) := fun _ => th_lost fc gc (Pc.mk a k fb) x N6.out hDs CK.out
              rw [CL.out] at LO
              have vp : pcV (Pc.mk a k fb) x = .agg #[.int .i64 (a : Int), .string x, .bool fb] := rfl
              rw [vp] at LO
              have hp2 : Hid (Prog12 s a (i + 1) 0 e o) := ⟨hp.out.a, .inl ⟨rfl, by have := hlb rfl; omega⟩, ⟨hp.out.e.rd, hp.out.e.most, hp.out.e.size, hp.out.e.rst, hp.out.e.got, by have := hp.out.e.cnt; omega⟩, hp.out.o⟩
              clear vp hlb CK CA CL N6 P6
              go_wp2_with fail
              refine (LO.out ()).mono ?_
              rintro y w7 ⟨rfl, F7, n7, -⟩
              have N7 := Lib.hid (n7.sub (Z := fun _ => False) fun _ q => q.elim)
              clear n7 LO p0 p1 p2
              go_wp2_with fail
              go_roundg (4000 - (i + 1))
              case measure => exact hms.out
              case rel => exact ⟨i + 1, a, 0, F7, G, e, o, hi2, by go_num, rfl, hp2, N7⟩
            | false =>
              clear hlb CL
              obtain ⟨E1, C1⟩ := hp.out.e.put hsz hpl1 fb hfb.out
              rw [hxe] at E1 C1
              obtain ⟨E2, C2⟩ := C1.put hsz hpl1 hfb.out
              rw [hxe] at E2 C2
              have PU : Hid (∀ _ : Unit, _) := fun _ => th_put fc gc (a : Int) x fb N6.out (by unfold In64; omega) (by omega) (by have := hp.out.e.cnt; omega)
              rw [E1] at PU
              have PU2 : Hid (∀ w' G', TH LS LI (fun k => k = g) w w' B F4 D I G' (ib.putB e a x fb) → _) := fun w' G' h => th_put fc gc (a : Int) x fb h (by unfold In64; omega) (by omega) (by have := C1.cnt; omega)
              rw [E2] at PU2
              replace C1 := Lib.hid C1
              replace C2 := Lib.hid C2
              clear E1 E2
              generalize ib.putB e a x fb = e1 at *
              generalize ib.putB e1 a x fb = e2 at *
              go_upto_region 21 with fail
              go_cut [151] (fun c wx => c = .bool false ∧ ∃ (G7 : Nat → Prop) (e7 : ib.Bx), Hid (TH LS LI (fun k => k = g) w wx B F4 D I G7 e7) ∧ Hid (IC s a k fb e7 (6000 * (i + 1))) ∧ Hid (Lies wx g [.int .i64 (a : Int), .string x, .bool fb]))
              case first =>
                by_cases q3 : i < tn
                · have d1 : decide ((i : Int) < (tn : Int)) = true := decide_eq_true (by omega)
                  have d1' : decide (i < tn) = true := decide_eq_true q3
                  go_wp2_with fail
                  refine (PU.out ()).mono ?_
                  rintro y w7 ⟨rfl, G7, n7, s7⟩
                  have N7 := Lib.hid n7
                  have P7 : Hid (Lies w7 g [.int .i64 (a : Int), .string x, .bool fb]) := P6.out.asIs s7 rfl
                  clear n7 s7 N6 P6 PU p0 p1 p2
                  have p0 := P7.out.cell 0 (v := .int .i64 (a : Int)) rfl
                  have p1 := P7.out.cell 1 (v := .string x) rfl
                  have p2 := P7.out.cell 2 (v := .bool fb) rfl
                  obtain ⟨tb, tt, rfl, hct⟩ := hT.out.get q3 N7.out.o.bel
                  have it := fun w' => at_flags tb tt tn tc i w' q3 (i : Int) rfl (tt + i) rfl
                  cases htf : tf i with
                  | true =>
                    rw [htf] at hct
                    replace htf := Lib.hid htf
                    go_wp2_with fail
                    refine (PU2.out _ _ N7.out).mono ?_
                    rintro y w8 ⟨rfl, G8, n8, s8⟩
                    have N8 := Lib.hid n8
                    have P8 : Hid (Lies w8 g [.int .i64 (a : Int), .string x, .bool fb]) := P7.out.asIs s8 rfl
                    clear n8 s8 N7 P7 PU2 p0 p1 p2 hct it
                    have C9 : Hid (IC s a k fb e2 (6000 * (i + 1))) := ⟨C2.out.rd, C2.out.most, C2.out.size, C2.out.rst, C2.out.got, C2.out.none, by have := C2.out.cnt; omega⟩
                    go_wp2_with fail
                    go_meet
                    exact ⟨rfl, G8, e2, N8, C9, P8⟩
                  | false =>
                    rw [htf] at hct
                    replace htf := Lib.hid htf
                    have C9 : Hid (IC s a k fb e1 (6000 * (i + 1))) := ⟨C1.out.rd, C1.out.most, C1.out.size, C1.out.rst, C1.out.got, C1.out.none, by have := C1.out.cnt; omega⟩
                    clear PU2
                    go_wp2_with fail
                    go_meet
                    exact ⟨rfl, G7, e1, N7, C9, P7⟩
                · have d1 : decide ((i : Int) < (tn : Int)) = false := decide_eq_false (by omega)
                  have d1' : decide (i < tn) = false := decide_eq_false q3
                  have C9 : Hid (IC s a k fb e1 (6000 * (i + 1))) := ⟨C1.out.rd, C1.out.most, C1.out.size, C1.out.rst, C1.out.got, C1.out.none, by have := C1.out.cnt; omega⟩
                  clear PU2
                  go_wp2_with fail
                  refine (PU.out ()).mono ?_
                  rintro y w7 ⟨rfl, G7, n7, s7⟩
                  have N7 := Lib.hid n7
                  have P7 : Hid (Lies w7 g [.int .i64 (a : Int), .string x, .bool fb]) := P6.out.asIs s7 rfl
                  clear n7 s7 N6 P6 PU p0 p1 p2
                  go_wp2_with fail
                  go_meet
                  exact ⟨rfl, G7, e1, N7, C9, P7⟩
              case rest =>
                obtain ⟨rfl, G7, e7, N7, C7, P7⟩ := hcut
                clear PU PU2 C1 C2 p0 p1 p2 N6 P6
                have p0 := P7.out.cell 0 (v := .int .i64 (a : Int)) rfl
                have p1 := P7.out.cell 1 (v := .string x) rfl
                have p2 := P7.out.cell 2 (v := .bool fb) rfl
                have AK : Hid (∀ _ : Unit, _) := fun _ => th_acked fc gc (Pc.mk a k fb) x N7.out hDs CK.out
                rw [CA.out] at AK
                have vp : pcV (Pc.mk a k fb) x = .agg #[.int .i64 (a : Int), .string x, .bool fb] := rfl
                rw [vp] at AK
                obtain ⟨f2, hf2⟩ : ∃ f2 : Int, f2 = if a + k = s.size then 2 else 0 := ⟨_, rfl⟩
                rw [← hf2] at AK
                have hfbb : (f2 = 2 ∧ fb = true) ∨ (f2 = 0 ∧ fb = false) := by
                  rw [hf2, hfb.out]
                  by_cases q : a + k = s.size
                  · left; simp [q]
                  · right; simp [q]
                obtain ⟨R1, R2⟩ := C7.out.read hsz hpl1 f2 hfbb
                rw [hxe] at R1
                have RD : Hid (∀ w' F', TH LS LI (fun k => k = g) w w' B F' (tx s (a + k) 2 f2 4096) I G7 e7 → _) := fun w' F' h => th_read fc gc 5000 h (by decide) (by rw [C7.out.rd]; omega)
                rw [R1] at RD
                have hcat : o ++ x = s.extract 0 (a + k) := by rw [hp.out.o, hx.out, ext_cat]
                have hos : o.size = a := by rw [hp.out.o, ByteArray.size_extract]; omega
                have hp2 : Hid (Prog12 s (a + k) (i + 1) f2 (ib.takeB e7 5000) (o ++ x)) := by
                  refine ⟨hpl1, ?_, R2, hcat⟩
                  by_cases q : a + k = s.size
                  · right
                    rw [if_pos q] at hf2
                    exact ⟨hf2, q, by omega⟩
                  · left
                    rw [if_neg q] at hf2
                    refine ⟨hf2, ?_⟩
                    have : k ≠ 0 := fun c => q (by have := hk0.out c; omega)
                    omega
                replace hcat := Lib.hid hcat
                generalize ib.takeB e7 5000 = e8 at *
                clear vp R1 R2 CK CA hfbb hf2 P7 C7
                go_wp2_with fail
                refine (AK.out ()).mono ?_
                rintro y w8 ⟨rfl, F8, n8, -⟩
                have N8 := Lib.hid n8
                clear n8 N7 AK p0 p1 p2
                go_wp2_with fail
                refine (RD.out _ _ N8.out).mono ?_
                rintro y w9 ⟨rfl, G9, n9, -⟩
                have N9 := Lib.hid (n9.sub (Z := fun _ => False) fun _ q => q.elim)
                clear n9 N8 RD
                go_wp2_with fail
                go_roundg (4000 - (i + 1))
                case measure => exact hms.out
                case rel => exact ⟨i + 1, a + k, f2, F8, G9, e8, o ++ x, hi2, by go_num, rfl, hp2, N9⟩
        · subst has
          obtain ⟨hn1, hn2⟩ := th_stop s m
          have AA : Hid (∀ _ : Unit, _) := fun _ => th_next fc gc (m : Int) N.out hds (by unfold In64; omega) (.inr hn1)
          rw [hn1, hn2] at AA
          have v1 : nxtV (tx s s.size 2 2 4096) none = .tuple #[.agg #[.int .i64 0, .string ⟨#[]⟩, .bool false], .bool false] := rfl
          rw [v1] at AA
          have ho : o = s := by rw [hp.out.o]; exact ext_all s
          have hen := hp.out.e.done
          have EE := Lib.hid hp.out.e
          have z7 : allB (tx s s.size 2 2 4096) = true := tx_all s 4096
          have z8 : thereN (tx s s.size 2 2 4096) = s.size := tx_there s 2 4096
          have z9 : (tx s s.size 2 2 4096).s.size = s.size := rfl
          have OST : Hid (∀ w' F' (X : Nat → Prop), PO LS X w w' B F' (tx s s.size 2 2 4096) → _) := fun w' F' X h => po_state fc h hds
          rw [z7, z8, z9] at OST
          have IST : Hid (∀ w', ib.PI LI w w' I G e → _) := fun w' h => ib.pi_state gc h
          rw [hen] at IST
          rw [ho]
          replace ho := Lib.hid ho
          clear hn1 hn2 v1 hen z7 z8 z9 hp hi hif EE
          generalize tx s s.size 2 2 4096 = D at *
          go_wp2_with fail
          refine (AA.out ()).mono ?_
          rintro y w4 ⟨rfl, F4, n4, -⟩
          have N4 := Lib.hid n4
          clear n4 N AA
          go_upto_region 16 with fail
          have al : Below w4.heap.size w4 (w4.alloc (.cells #[.int .i64 0, .string ⟨#[]⟩, .bool false] 33)) := (Below.refl _ _).alloc (Nat.le_refl _) _
          have N5 := Lib.hid (N4.out.keep fc gc al)
          clear al N4
          generalize w4.alloc (.cells #[.int .i64 0, .string ⟨#[]⟩, .bool false] 33) = w5 at *
          generalize w4.heap.size = g at *
          go_wp2_with fail
          refine (OST.out _ _ _ N5.out.o).mono ?_
          rintro y w6 ⟨rfl, b6⟩
          have N6 := Lib.hid (N5.out.keep fc gc b6)
          clear b6 N5 OST
          go_wp2_with fail
          refine (IST.out _ N6.out.i).mono ?_
          rintro y w7 ⟨rfl, b7⟩
          have bel := Lib.hid (N6.out.keep fc gc b7).o.bel
          clear b7 N6 IST
          go_wp2_with fail
          go_ret
          exact ⟨rfl, bel.out⟩
theorem there_walk {LS : OSt} {LI : ib.BSt} (fc : OuFace LS) (gc : ib.InFace LI) (t : ByteArray) (ma : Option Addr) (mn mc : Nat) (mf : Nat → Int) (la : Option Addr) (ln lc : Nat) (lf : Nat → Bool) (ta : Option Addr) (tn tc : Nat) (tf : Nat → Bool) (w : World) (hm : t.size ≤ 140737488351232)
    (hmn : mn ≤ maxLen) (hln : ln ≤ maxLen) (htn : tn ≤ maxLen) (hM : Nums w ma mn mf) (hL : Flags w la ln lf) (hT : Flags w ta tn tf) :
    Calls Try.prog 4 #[.string t, .slice ma mn mc, .slice la ln lc, .slice ta tn tc] w fun e w' => e = .returned (.bool true) ∧ Below w.heap.size w w' := by
  by_cases h : t.size ≤ 3000
  · exact there_s fc gc t ma mn mc mf la ln lc lf ta tn tc tf w h hmn hln htn hM hL hT
  · exact there_l fc gc t ma mn mc mf la ln lc lf ta tn tc tf w (by omega) hm hmn hln htn hM hL hT
end Go.Proofs.Ytdmoaeegjjenmaa
