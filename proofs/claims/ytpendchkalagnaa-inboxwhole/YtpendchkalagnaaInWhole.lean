/-
  The law InboxWhole returns true for every text, every row of cuts and every row of numbers, by what is asked of the program's calls (InFace). No other condition.
-/
import Derived.Test.YtpendchkalagnaaInWorks
import Derived.Test.YtpendchkalagnaaInWhMath
import Derived.Test.YtpendchkalagnaaInFlow
import Derived.Test.YtpendchkalagnaaInFirst
namespace Go.Proofs.Ytpendchkalagnaa
set_option maxRecDepth 100000
open Go.RowKit Go.Sort

theorem at_cuts (B o N cap i : Nat) (w : World) (h : i < N) (z : Int) (hz : z = i) (p : Nat) (hp : p = o + 2 * i) :
    (Instr.indexAt 41 (.slice (some ⟨B, o, none⟩) N cap) (.int .i64 z)).run Try.prog w = .ok (.pointer (some ⟨B, p, none⟩)) w := by
  subst hz hp
  have e : Try.prog.elem 41 = 46 := by kernel_rfl
  rw [run_indexAt_slice (P := Try.prog) w 41 ⟨B, o, none⟩ N cap .i64 i (by rw [e]; exact Try.underlying41), if_pos (by omega), e]
  have s : (sizeOf 46).run Try.prog w = .ok 2 w := Try.sizeOf46 w
  rw [s]
  simp [Addr.add_mid, Nat.mul_comm]
theorem ext_none (T : ByteArray) : T.extract 0 0 = ⟨#[]⟩ := by
  apply ba_ext
  rw [ext_data]
  rfl
theorem wh_put {LS : BSt} (fc : InFace LS) {w w' : World} {B : Nat} {F : Nat → Prop} {T : ByteArray} {d : Bx} {r c : Nat} (hw : Wh T d r c) (hc : c ≤ 100000) (hT : T.size ≤ 2000) (i j : Nat) (hij : i ≤ j) (hj : j ≤ T.size) (hs : j - i ≤ 500) (h : PI LS w w' B F d) (fin : Bool) (hf : decide (j = T.size) = fin) :
    Calls Try.prog 9 #[ptr B, .int .i64 (i : Int), .string (T.extract i j), .bool fin] w' fun e w'' => e = .returned (.int .i64 0) ∧ ∃ F' d', PI LS w w'' B F' d' ∧ Wh T d' r (c + 500) := by
  subst hf
  have hcn := hw.cnt
  have := pi_put fc (i : Int) (T.extract i j) (decide (j = T.size)) h (by unfold In64; omega) (by rw [ext_size _ _ _ hj]; omega) (by omega)
  rw [hw.isOk hT i j hij hj] at this
  refine this.mono ?_
  rintro e w'' ⟨rfl, F', hp, -, -⟩
  have w2 := hw.put hT i j hij hj
  exact ⟨rfl, F', _, hp, w2.rst, w2.rd, w2.le, w2.most, w2.size, w2.got, by have := w2.cnt; omega⟩
theorem wh_read {LS : BSt} (fc : InFace LS) {w w' : World} {B : Nat} {F : Nat → Prop} {T : ByteArray} {d : Bx} {r c : Nat} (hw : Wh T d r c) (hT : T.size ≤ 2000) (n : Nat) (hn : n ≤ 100000) (h : PI LS w w' B F d) (o : ByteArray) (ho : o = T.extract 0 r) :
    Calls Try.prog 13 #[ptr B, .int .i64 (n : Int)] w' fun e w'' => ∃ s o2, e = .returned (.string s) ∧ o ++ s = o2 ∧ o2.size ≤ T.size ∧ T.extract 0 o2.size = o2 ∧ ∃ F' d' r', o2 = T.extract 0 r' ∧ PI LS w w'' B F' d' ∧ Wh T d' r' c := by
  have hrd := hw.rd
  have hle := hw.le
  refine (pi_read fc (n : Int) h (by unfold In64; omega) (by omega)).mono ?_
  rintro e w'' ⟨rfl, F', hp, -, -⟩
  obtain ⟨q1, q2⟩ := hw.run (n : Int)
  have e2 : o ++ strOfNums (takeL d (n : Int)) = T.extract 0 (r + (takeL d (n : Int)).length) := by rw [q1, ho, ext_app]
  have es : (T.extract 0 (r + (takeL d (n : Int)).length)).size = r + (takeL d (n : Int)).length := by rw [ext_size _ _ _ q2]; omega
  exact ⟨_, _, rfl, e2, by rw [es]; exact q2, by rw [es], F', _, _, rfl, hp, hw.take (n : Int)⟩
theorem wh_end {LS : BSt} (fc : InFace LS) {w w' : World} {B : Nat} {F : Nat → Prop} {T : ByteArray} {d : Bx} {r c : Nat} (hw : Wh T d r c) (hc : c ≤ 100000) (hT : T.size ≤ 2000) (h : PI LS w w' B F d) (o : ByteArray) (ho : o = T.extract 0 r) :
    Calls Try.prog 9 #[ptr B, .int .i64 0, .string T, .bool true] w' fun e w'' => e = .returned (.int .i64 0) ∧
      Calls Try.prog 13 #[ptr B, .int .i64 ((T.size : Int) + 1)] w'' fun e w3 => ∃ s, e = .returned (.string s) ∧ o ++ s = T ∧
        Calls Try.prog 15 #[ptr B] w3 fun e w4 => ∃ x, e = .returned (.tuple #[.int .i64 (T.size : Int), .int .i64 x, .int .i64 1]) ∧
          Calls Try.prog 13 #[ptr B, .int .i64 5] w4 fun e w5 => e = .returned (.string ⟨#[]⟩) ∧ Below w.heap.size w w5 := by
  obtain ⟨a1, a2, a3, a4, a5⟩ := hw.all hT
  have hcn := hw.cnt
  have hrd := hw.rd
  have hle := hw.le
  have := pi_put fc 0 T true h (by decide) (by omega) (by omega)
  rw [a1] at this
  refine this.mono ?_
  rintro e w'' ⟨rfl, F', hp, -, -⟩
  have r2 := a2.rd
  refine ⟨rfl, (pi_read fc ((T.size : Int) + 1) hp (by unfold In64; omega) (by omega)).mono ?_⟩
  rintro e w3 ⟨rfl, F3, hp3, -, -⟩
  have q1 := (a2.run ((T.size : Int) + 1)).1
  have w3' := a2.take ((T.size : Int) + 1)
  rw [a3] at q1 w3'
  have er : r + (T.size - r) = T.size := by omega
  rw [er] at w3'
  refine ⟨_, rfl, ?_, ?_⟩
  · rw [q1, ho, ext_app, er, ext_all]
  · refine (pi_state fc hp3).mono ?_
    rintro e w4 ⟨rfl, b4⟩
    have hp4 := hp3.keep fc b4
    have hr3 := w3'.rd
    refine ⟨_, by rw [hr3, a4], (pi_read fc 5 hp4 (by decide) (by omega)).mono ?_⟩
    rintro e w5 ⟨rfl, F5, hp5, -, -⟩
    exact ⟨by rw [a5]; rfl, hp5.bel⟩
set_option maxHeartbeats 16000000 in
theorem whole_any {LS : BSt} (fc : InFace LS) (text : ByteArray) (f g : Nat → Int) (a : Option Addr) (m cap M : Nat) (rf : Nat → Int) (ra : Option Addr) (rm rcap : Nat) (w : World) (ht : text.size ≤ 140737488355328) (hm : m ≤ 9223372036854775807) (hrm : rm ≤ 9223372036854775807) (hM : (M = m ∧ m ≤ 100) ∨ (M = 100 ∧ 100 < m)) (hs : Cuts w a m f g) (hrs : Nums w ra rm rf) :
    Calls Try.prog 4 #[.string text, .slice a m cap, .slice ra rm rcap] w fun e w' => e = .returned (.bool true) ∧ Below w.heap.size w w' := by
  have hMn : M ≤ m ∧ M ≤ 100 := by omega
  replace hs := Lib.hid hs
  replace hrs := Lib.hid hrs
  have WO : Hid (∀ _ : Unit, _) := fun _ => inworks_ok fc w
  have NP : Hid (∀ w', Below w.heap.size w w' → _) := fun w' b => pi_new fc w w' b
  by_cases hbig : 2000 < text.size
  · have p1 : decide ((2000 : Int) < (text.size : Int)) = true := decide_eq_true (by omega)
    have p2 : decide (2000 < text.size) = true := decide_eq_true hbig
    obtain ⟨T, eT⟩ : ∃ T, T = text.extract 0 2000 := ⟨_, rfl⟩
    have hT : T.size ≤ 2000 := by rw [eT, ext_size _ _ _ (by omega)]; omega
    go_enter Try.func4, Try.ntmps4
    go_wp2_with fail
    refine (WO.out ()).mono ?_
    rintro e w1 ⟨rfl, b1⟩
    have Z1 := Lib.hid b1
    clear b1 WO
    go_upto_region 5 with fail
    rw [← eT]
    clear eT p1 p2 hbig ht
    go_wp2_with fail
    refine (NP.out _ Z1.out).mono ?_
    rintro e w2 ⟨B, F0, rfl, h2, -⟩
    have N2 := Lib.hid h2
    clear h2 NP Z1
    go_wp2_with fail
    go_loopg [8, 9] M (fun gg ov iv wr => ∃ (i r : Nat) (o : ByteArray) (F : Nat → Prop) (d : Bx), i + gg = M ∧ iv = .int .i64 i ∧ ov = .string o ∧ Hid (o = T.extract 0 r) ∧ Hid (Wh T d r (500 * i)) ∧ Hid (PI LS w wr B F d))
    case atStart => exact ⟨0, 0, ⟨#[]⟩, F0, bx0, by omega, rfl, rfl, (ext_none T).symm, Wh.new T, N2⟩
    case round =>
      clear N2
      obtain ⟨i, r, o, F, d, hi, rfl, rfl, ho, hw, N⟩ := hrel
      by_cases hlt : i < M
      · have q1 : decide (i < m) = true := decide_eq_true (by omega)
        have q2 : decide ((i : Int) < 100) = true := decide_eq_true (by omega)
        have q3 : decide (i < 100) = true := decide_eq_true (by omega)
        rcases hs.out with h0 | ⟨b, off, rfl, hb, hc⟩
        · omega
        · have ia := fun w' => at_cuts b off m cap i w' (by omega) (i : Int) rfl (off + 2 * i) rfl
          obtain ⟨cc0, cc1⟩ := hc i (by omega)
          have c0 := (N.out.bel.cell (p := ⟨b, off + 2 * i, none⟩) hb).trans cc0
          have c1 := (N.out.bel.cell (p := ⟨b, off + 2 * i + 1, none⟩) hb).trans cc1
          obtain ⟨k1, hk1, hk1le⟩ := rem_place (f i) T.size (by omega)
          obtain ⟨k2, hk2, hk2lt⟩ := rem_of (g i) 500 (by decide) (by decide)
          clear cc0 cc1 hc
          by_cases hE : T.size ≤ k1 + k2
          · have e1 : decide ((T.size : Int) ≤ (k1 : Int) + (k2 : Int)) = true := decide_eq_true (by omega)
            have e2 : (T.size : Int) ≤ (k1 : Int) + (k2 : Int) := by omega
            have e3 : T.size ≤ k1 + k2 := hE
            have P1 : Hid (∀ _ : Unit, _) := fun _ => wh_put fc hw.out (by omega) hT k1 T.size hk1le (Nat.le_refl _) (by omega) N.out true (decide_eq_true rfl)
            have gT : ((T.size : Int) == (T.size : Int)) = true := by simp
            go_wp2_with fail
            refine (P1.out ()).mono ?_
            rintro e w3 ⟨rfl, F3, d3, n3, w3h⟩
            have N3 := Lib.hid n3
            have W3 := Lib.hid w3h
            clear n3 w3h P1 N hw c0 c1 gT e1 e2 e3
            by_cases hr : i < rm
            · have y1 : decide ((i : Int) < (rm : Int)) = true := decide_eq_true (by omega)
              have y2 : decide (i < rm) = true := decide_eq_true hr
              rcases hrs.out with h0 | ⟨rb, roff, rfl, hrb, hrc⟩
              · omega
              · have ir := fun w' => at_rds rb roff rm rcap i w' hr (i : Int) rfl (roff + i) rfl
                have rc := (N3.out.bel.cell (p := ⟨rb, roff + i, none⟩) hrb).trans (hrc i hr)
                obtain ⟨k3, hk3, hk3lt⟩ := rem_of (rf i) 100 (by decide) (by decide)
                have P2 : Hid (∀ _ : Unit, _) := fun _ => wh_read fc W3.out hT k3 (by omega) N3.out o ho.out
                clear hrc
                go_wp2_with fail
                refine (P2.out ()).mono ?_
                rintro e w4 ⟨s, o2, rfl, oe, osz, oex, F4, d4, r4, o4, n4, w4h⟩
                have hcat : o.size + s.size ≤ 2000 := by have := app_size o s; rw [oe] at this; omega
                have N4 := Lib.hid n4
                have W4 : Hid (Wh T d4 r4 (500 * (i + 1))) := ⟨w4h.rst, w4h.rd, w4h.le, w4h.most, w4h.size, w4h.got, by have := w4h.cnt; omega⟩
                replace o4 := Lib.hid o4
                have u1 : decide ((T.size : Int) < (o2.size : Int)) = false := decide_eq_false (by omega)
                have u2 : decide (T.size < o2.size) = false := decide_eq_false (by omega)
                clear n4 w4h P2 N3 W3 rc ho
                go_wp2_with fail
                go_roundg (M - (i + 1))
                case measure => omega
                case rel => exact ⟨i + 1, r4, o2, F4, d4, by omega, by go_num, rfl, o4, W4, N4⟩
            · have y1 : decide ((i : Int) < (rm : Int)) = false := decide_eq_false (by omega)
              have y2 : decide (i < rm) = false := decide_eq_false hr
              have hle := W3.out.le
              have osz : o.size ≤ T.size := by rw [ho.out, ext_size _ _ _ hle]; omega
              have oex : T.extract 0 o.size = o := by
                have : o.size = r := by rw [ho.out, ext_size _ _ _ hle]; omega
                rw [this]
                exact ho.out.symm
              have W4 : Hid (Wh T d3 r (500 * (i + 1))) := ⟨W3.out.rst, W3.out.rd, W3.out.le, W3.out.most, W3.out.size, W3.out.got, by have := W3.out.cnt; omega⟩
              have u1 : decide ((T.size : Int) < (o.size : Int)) = false := decide_eq_false (by omega)
              have u2 : decide (T.size < o.size) = false := decide_eq_false (by omega)
              clear W3
              go_wp2_with fail
              go_roundg (M - (i + 1))
              case measure => omega
              case rel => exact ⟨i + 1, r, o, F3, d3, by omega, by go_num, rfl, ho, W4, N3⟩
          · have e1 : decide ((T.size : Int) ≤ (k1 : Int) + (k2 : Int)) = false := decide_eq_false (by omega)
            have e2 : ¬ (T.size : Int) ≤ (k1 : Int) + (k2 : Int) := by omega
            have e3 : ¬ T.size ≤ k1 + k2 := hE
            have P1 : Hid (∀ _ : Unit, _) := fun _ => wh_put fc hw.out (by omega) hT k1 (k1 + k2) (by omega) (by omega) (by omega) N.out false (decide_eq_false (by omega))
            have gT : (((k1 : Int) + (k2 : Int)) == (T.size : Int)) = false := by rw [beq_eq_false_iff_ne]; omega
            go_wp2_with fail
            refine (P1.out ()).mono ?_
            rintro e w3 ⟨rfl, F3, d3, n3, w3h⟩
            have N3 := Lib.hid n3
            have W3 := Lib.hid w3h
            clear n3 w3h P1 N hw c0 c1 gT e1 e2 e3
            by_cases hr : i < rm
            · have y1 : decide ((i : Int) < (rm : Int)) = true := decide_eq_true (by omega)
              have y2 : decide (i < rm) = true := decide_eq_true hr
              rcases hrs.out with h0 | ⟨rb, roff, rfl, hrb, hrc⟩
              · omega
              · have ir := fun w' => at_rds rb roff rm rcap i w' hr (i : Int) rfl (roff + i) rfl
                have rc := (N3.out.bel.cell (p := ⟨rb, roff + i, none⟩) hrb).trans (hrc i hr)
                obtain ⟨k3, hk3, hk3lt⟩ := rem_of (rf i) 100 (by decide) (by decide)
                have P2 : Hid (∀ _ : Unit, _) := fun _ => wh_read fc W3.out hT k3 (by omega) N3.out o ho.out
                clear hrc
                go_wp2_with fail
                refine (P2.out ()).mono ?_
                rintro e w4 ⟨s, o2, rfl, oe, osz, oex, F4, d4, r4, o4, n4, w4h⟩
                have hcat : o.size + s.size ≤ 2000 := by have := app_size o s; rw [oe] at this; omega
                have N4 := Lib.hid n4
                have W4 : Hid (Wh T d4 r4 (500 * (i + 1))) := ⟨w4h.rst, w4h.rd, w4h.le, w4h.most, w4h.size, w4h.got, by have := w4h.cnt; omega⟩
                replace o4 := Lib.hid o4
                have u1 : decide ((T.size : Int) < (o2.size : Int)) = false := decide_eq_false (by omega)
                have u2 : decide (T.size < o2.size) = false := decide_eq_false (by omega)
                clear n4 w4h P2 N3 W3 rc ho
                go_wp2_with fail
                go_roundg (M - (i + 1))
                case measure => omega
                case rel => exact ⟨i + 1, r4, o2, F4, d4, by omega, by go_num, rfl, o4, W4, N4⟩
            · have y1 : decide ((i : Int) < (rm : Int)) = false := decide_eq_false (by omega)
              have y2 : decide (i < rm) = false := decide_eq_false hr
              have hle := W3.out.le
              have osz : o.size ≤ T.size := by rw [ho.out, ext_size _ _ _ hle]; omega
              have oex : T.extract 0 o.size = o := by
                have : o.size = r := by rw [ho.out, ext_size _ _ _ hle]; omega
                rw [this]
                exact ho.out.symm
              have W4 : Hid (Wh T d3 r (500 * (i + 1))) := ⟨W3.out.rst, W3.out.rd, W3.out.le, W3.out.most, W3.out.size, W3.out.got, by have := W3.out.cnt; omega⟩
              have u1 : decide ((T.size : Int) < (o.size : Int)) = false := decide_eq_false (by omega)
              have u2 : decide (T.size < o.size) = false := decide_eq_false (by omega)
              clear W3
              go_wp2_with fail
              go_roundg (M - (i + 1))
              case measure => omega
              case rel => exact ⟨i + 1, r, o, F3, d3, by omega, by go_num, rfl, ho, W4, N3⟩
      · by_cases hin : i < m
        · have q1 : decide (i < m) = true := decide_eq_true hin
          have q2 : decide ((i : Int) < 100) = false := decide_eq_false (by omega)
          have q3 : decide (i < 100) = false := decide_eq_false (by omega)
          have PE : Hid (∀ _ : Unit, _) := fun _ => wh_end fc hw.out (by omega) hT N.out o ho.out
          clear hw N ho
          go_wp2_with fail
          refine (PE.out ()).mono ?_
          rintro e w3 ⟨rfl, c3⟩
          have C3 := Lib.hid c3
          clear c3 PE
          go_wp2_with fail
          refine Calls.mono C3.out ?_
          rintro e w4 ⟨s, rfl, oe, c4⟩
          have hcat : o.size + s.size ≤ 2000 := by have := app_size o s; rw [oe] at this; omega
          have C4 := Lib.hid c4
          clear c4 C3
          go_wp2_with fail
          refine Calls.mono C4.out ?_
          rintro e w5 ⟨x, rfl, c5⟩
          have C5 := Lib.hid c5
          clear c5 C4
          go_wp2_with fail
          refine Calls.mono C5.out ?_
          rintro e w6 ⟨rfl, b6⟩
          have B6 := Lib.hid b6
          clear b6 C5
          go_wp2_with fail
          go_ret
          exact ⟨rfl, B6.out⟩
        · have q1 : decide (i < m) = false := decide_eq_false hin
          have PE : Hid (∀ _ : Unit, _) := fun _ => wh_end fc hw.out (by omega) hT N.out o ho.out
          clear hw N ho
          go_wp2_with fail
          refine (PE.out ()).mono ?_
          rintro e w3 ⟨rfl, c3⟩
          have C3 := Lib.hid c3
          clear c3 PE
          go_wp2_with fail
          refine Calls.mono C3.out ?_
          rintro e w4 ⟨s, rfl, oe, c4⟩
          have hcat : o.size + s.size ≤ 2000 := by have := app_size o s; rw [oe] at this; omega
          have C4 := Lib.hid c4
          clear c4 C3
          go_wp2_with fail
          refine Calls.mono C4.out ?_
          rintro e w5 ⟨x, rfl, c5⟩
          have C5 := Lib.hid c5
          clear c5 C4
          go_wp2_with fail
          refine Calls.mono C5.out ?_
          rintro e w6 ⟨rfl, b6⟩
          have B6 := Lib.hid b6
          clear b6 C5
          go_wp2_with fail
          go_ret
          exact ⟨rfl, B6.out⟩
  · have p1 : decide ((2000 : Int) < (text.size : Int)) = false := decide_eq_false (by omega)
    have p2 : decide (2000 < text.size) = false := decide_eq_false hbig
    obtain ⟨T, eT⟩ : ∃ T, T = text := ⟨_, rfl⟩
    rw [← eT] at p1 p2 hbig ht ⊢
    have hT : T.size ≤ 2000 := by omega
    clear eT hbig ht
    go_enter Try.func4, Try.ntmps4
    go_wp2_with fail
    refine (WO.out ()).mono ?_
    rintro e w1 ⟨rfl, b1⟩
    have Z1 := Lib.hid b1
    clear b1 WO
    go_upto_region 5 with fail
    clear p1 p2
    go_wp2_with fail
    refine (NP.out _ Z1.out).mono ?_
    rintro e w2 ⟨B, F0, rfl, h2, -⟩
    have N2 := Lib.hid h2
    clear h2 NP Z1
    go_wp2_with fail
    go_loopg [8, 9] M (fun gg ov iv wr => ∃ (i r : Nat) (o : ByteArray) (F : Nat → Prop) (d : Bx), i + gg = M ∧ iv = .int .i64 i ∧ ov = .string o ∧ Hid (o = T.extract 0 r) ∧ Hid (Wh T d r (500 * i)) ∧ Hid (PI LS w wr B F d))
    case atStart => exact ⟨0, 0, ⟨#[]⟩, F0, bx0, by omega, rfl, rfl, (ext_none T).symm, Wh.new T, N2⟩
    case round =>
      clear N2
      obtain ⟨i, r, o, F, d, hi, rfl, rfl, ho, hw, N⟩ := hrel
      by_cases hlt : i < M
      · have q1 : decide (i < m) = true := decide_eq_true (by omega)
        have q2 : decide ((i : Int) < 100) = true := decide_eq_true (by omega)
        have q3 : decide (i < 100) = true := decide_eq_true (by omega)
        rcases hs.out with h0 | ⟨b, off, rfl, hb, hc⟩
        · omega
        · have ia := fun w' => at_cuts b off m cap i w' (by omega) (i : Int) rfl (off + 2 * i) rfl
          obtain ⟨cc0, cc1⟩ := hc i (by omega)
          have c0 := (N.out.bel.cell (p := ⟨b, off + 2 * i, none⟩) hb).trans cc0
          have c1 := (N.out.bel.cell (p := ⟨b, off + 2 * i + 1, none⟩) hb).trans cc1
          obtain ⟨k1, hk1, hk1le⟩ := rem_place (f i) T.size (by omega)
          obtain ⟨k2, hk2, hk2lt⟩ := rem_of (g i) 500 (by decide) (by decide)
          clear cc0 cc1 hc
          by_cases hE : T.size ≤ k1 + k2
          · have e1 : decide ((T.size : Int) ≤ (k1 : Int) + (k2 : Int)) = true := decide_eq_true (by omega)
            have e2 : (T.size : Int) ≤ (k1 : Int) + (k2 : Int) := by omega
            have e3 : T.size ≤ k1 + k2 := hE
            have P1 : Hid (∀ _ : Unit, _) := fun _ => wh_put fc hw.out (by omega) hT k1 T.size hk1le (Nat.le_refl _) (by omega) N.out true (decide_eq_true rfl)
            have gT : ((T.size : Int) == (T.size : Int)) = true := by simp
            go_wp2_with fail
            refine (P1.out ()).mono ?_
            rintro e w3 ⟨rfl, F3, d3, n3, w3h⟩
            have N3 := Lib.hid n3
            have W3 := Lib.hid w3h
            clear n3 w3h P1 N hw c0 c1 gT e1 e2 e3
            by_cases hr : i < rm
            · have y1 : decide ((i : Int) < (rm : Int)) = true := decide_eq_true (by omega)
              have y2 : decide (i < rm) = true := decide_eq_true hr
              rcases hrs.out with h0 | ⟨rb, roff, rfl, hrb, hrc⟩
              · omega
              · have ir := fun w' => at_rds rb roff rm rcap i w' hr (i : Int) rfl (roff + i) rfl
                have rc := (N3.out.bel.cell (p := ⟨rb, roff + i, none⟩) hrb).trans (hrc i hr)
                obtain ⟨k3, hk3, hk3lt⟩ := rem_of (rf i) 100 (by decide) (by decide)
                have P2 : Hid (∀ _ : Unit, _) := fun _ => wh_read fc W3.out hT k3 (by omega) N3.out o ho.out
                clear hrc
                go_wp2_with fail
                refine (P2.out ()).mono ?_
                rintro e w4 ⟨s, o2, rfl, oe, osz, oex, F4, d4, r4, o4, n4, w4h⟩
                have hcat : o.size + s.size ≤ 2000 := by have := app_size o s; rw [oe] at this; omega
                have N4 := Lib.hid n4
                have W4 : Hid (Wh T d4 r4 (500 * (i + 1))) := ⟨w4h.rst, w4h.rd, w4h.le, w4h.most, w4h.size, w4h.got, by have := w4h.cnt; omega⟩
                replace o4 := Lib.hid o4
                have u1 : decide ((T.size : Int) < (o2.size : Int)) = false := decide_eq_false (by omega)
                have u2 : decide (T.size < o2.size) = false := decide_eq_false (by omega)
                clear n4 w4h P2 N3 W3 rc ho
                go_wp2_with fail
                go_roundg (M - (i + 1))
                case measure => omega
                case rel => exact ⟨i + 1, r4, o2, F4, d4, by omega, by go_num, rfl, o4, W4, N4⟩
            · have y1 : decide ((i : Int) < (rm : Int)) = false := decide_eq_false (by omega)
              have y2 : decide (i < rm) = false := decide_eq_false hr
              have hle := W3.out.le
              have osz : o.size ≤ T.size := by rw [ho.out, ext_size _ _ _ hle]; omega
              have oex : T.extract 0 o.size = o := by
                have : o.size = r := by rw [ho.out, ext_size _ _ _ hle]; omega
                rw [this]
                exact ho.out.symm
              have W4 : Hid (Wh T d3 r (500 * (i + 1))) := ⟨W3.out.rst, W3.out.rd, W3.out.le, W3.out.most, W3.out.size, W3.out.got, by have := W3.out.cnt; omega⟩
              have u1 : decide ((T.size : Int) < (o.size : Int)) = false := decide_eq_false (by omega)
              have u2 : decide (T.size < o.size) = false := decide_eq_false (by omega)
              clear W3
              go_wp2_with fail
              go_roundg (M - (i + 1))
              case measure => omega
              case rel => exact ⟨i + 1, r, o, F3, d3, by omega, by go_num, rfl, ho, W4, N3⟩
          · have e1 : decide ((T.size : Int) ≤ (k1 : Int) + (k2 : Int)) = false := decide_eq_false (by omega)
            have e2 : ¬ (T.size : Int) ≤ (k1 : Int) + (k2 : Int) := by omega
            have e3 : ¬ T.size ≤ k1 + k2 := hE
            have P1 : Hid (∀ _ : Unit, _) := fun _ => wh_put fc hw.out (by omega) hT k1 (k1 + k2) (by omega) (by omega) (by omega) N.out false (decide_eq_false (by omega))
            have gT : (((k1 : Int) + (k2 : Int)) == (T.size : Int)) = false := by rw [beq_eq_false_iff_ne]; omega
            go_wp2_with fail
            refine (P1.out ()).mono ?_
            rintro e w3 ⟨rfl, F3, d3, n3, w3h⟩
            have N3 := Lib.hid n3
            have W3 := Lib.hid w3h
            clear n3 w3h P1 N hw c0 c1 gT e1 e2 e3
            by_cases hr : i < rm
            · have y1 : decide ((i : Int) < (rm : Int)) = true := decide_eq_true (by omega)
              have y2 : decide (i < rm) = true := decide_eq_true hr
              rcases hrs.out with h0 | ⟨rb, roff, rfl, hrb, hrc⟩
              · omega
              · have ir := fun w' => at_rds rb roff rm rcap i w' hr (i : Int) rfl (roff + i) rfl
                have rc := (N3.out.bel.cell (p := ⟨rb, roff + i, none⟩) hrb).trans (hrc i hr)
                obtain ⟨k3, hk3, hk3lt⟩ := rem_of (rf i) 100 (by decide) (by decide)
                have P2 : Hid (∀ _ : Unit, _) := fun _ => wh_read fc W3.out hT k3 (by omega) N3.out o ho.out
                clear hrc
                go_wp2_with fail
                refine (P2.out ()).mono ?_
                rintro e w4 ⟨s, o2, rfl, oe, osz, oex, F4, d4, r4, o4, n4, w4h⟩
                have hcat : o.size + s.size ≤ 2000 := by have := app_size o s; rw [oe] at this; omega
                have N4 := Lib.hid n4
                have W4 : Hid (Wh T d4 r4 (500 * (i + 1))) := ⟨w4h.rst, w4h.rd, w4h.le, w4h.most, w4h.size, w4h.got, by have := w4h.cnt; omega⟩
                replace o4 := Lib.hid o4
                have u1 : decide ((T.size : Int) < (o2.size : Int)) = false := decide_eq_false (by omega)
                have u2 : decide (T.size < o2.size) = false := decide_eq_false (by omega)
                clear n4 w4h P2 N3 W3 rc ho
                go_wp2_with fail
                go_roundg (M - (i + 1))
                case measure => omega
                case rel => exact ⟨i + 1, r4, o2, F4, d4, by omega, by go_num, rfl, o4, W4, N4⟩
            · have y1 : decide ((i : Int) < (rm : Int)) = false := decide_eq_false (by omega)
              have y2 : decide (i < rm) = false := decide_eq_false hr
              have hle := W3.out.le
              have osz : o.size ≤ T.size := by rw [ho.out, ext_size _ _ _ hle]; omega
              have oex : T.extract 0 o.size = o := by
                have : o.size = r := by rw [ho.out, ext_size _ _ _ hle]; omega
                rw [this]
                exact ho.out.symm
              have W4 : Hid (Wh T d3 r (500 * (i + 1))) := ⟨W3.out.rst, W3.out.rd, W3.out.le, W3.out.most, W3.out.size, W3.out.got, by have := W3.out.cnt; omega⟩
              have u1 : decide ((T.size : Int) < (o.size : Int)) = false := decide_eq_false (by omega)
              have u2 : decide (T.size < o.size) = false := decide_eq_false (by omega)
              clear W3
              go_wp2_with fail
              go_roundg (M - (i + 1))
              case measure => omega
              case rel => exact ⟨i + 1, r, o, F3, d3, by omega, by go_num, rfl, ho, W4, N3⟩
      · by_cases hin : i < m
        · have q1 : decide (i < m) = true := decide_eq_true hin
          have q2 : decide ((i : Int) < 100) = false := decide_eq_false (by omega)
          have q3 : decide (i < 100) = false := decide_eq_false (by omega)
          have PE : Hid (∀ _ : Unit, _) := fun _ => wh_end fc hw.out (by omega) hT N.out o ho.out
          clear hw N ho
          go_wp2_with fail
          refine (PE.out ()).mono ?_
          rintro e w3 ⟨rfl, c3⟩
          have C3 := Lib.hid c3
          clear c3 PE
          go_wp2_with fail
          refine Calls.mono C3.out ?_
          rintro e w4 ⟨s, rfl, oe, c4⟩
          have hcat : o.size + s.size ≤ 2000 := by have := app_size o s; rw [oe] at this; omega
          have C4 := Lib.hid c4
          clear c4 C3
          go_wp2_with fail
          refine Calls.mono C4.out ?_
          rintro e w5 ⟨x, rfl, c5⟩
          have C5 := Lib.hid c5
          clear c5 C4
          go_wp2_with fail
          refine Calls.mono C5.out ?_
          rintro e w6 ⟨rfl, b6⟩
          have B6 := Lib.hid b6
          clear b6 C5
          go_wp2_with fail
          go_ret
          exact ⟨rfl, B6.out⟩
        · have q1 : decide (i < m) = false := decide_eq_false hin
          have PE : Hid (∀ _ : Unit, _) := fun _ => wh_end fc hw.out (by omega) hT N.out o ho.out
          clear hw N ho
          go_wp2_with fail
          refine (PE.out ()).mono ?_
          rintro e w3 ⟨rfl, c3⟩
          have C3 := Lib.hid c3
          clear c3 PE
          go_wp2_with fail
          refine Calls.mono C3.out ?_
          rintro e w4 ⟨s, rfl, oe, c4⟩
          have hcat : o.size + s.size ≤ 2000 := by have := app_size o s; rw [oe] at this; omega
          have C4 := Lib.hid c4
          clear c4 C3
          go_wp2_with fail
          refine Calls.mono C4.out ?_
          rintro e w5 ⟨x, rfl, c5⟩
          have C5 := Lib.hid c5
          clear c5 C4
          go_wp2_with fail
          refine Calls.mono C5.out ?_
          rintro e w6 ⟨rfl, b6⟩
          have B6 := Lib.hid b6
          clear b6 C5
          go_wp2_with fail
          go_ret
          exact ⟨rfl, B6.out⟩
theorem whole_walk {LS : BSt} (fc : InFace LS) (text : ByteArray) (f g : Nat → Int) (a : Option Addr) (m cap : Nat) (rf : Nat → Int) (ra : Option Addr) (rm rcap : Nat) (w : World) (ht : text.size ≤ 140737488355328) (hm : m ≤ maxLen) (hrm : rm ≤ maxLen) (hs : Cuts w a m f g) (hrs : Nums w ra rm rf) :
    Calls Try.prog 4 #[.string text, .slice a m cap, .slice ra rm rcap] w fun e w' => e = .returned (.bool true) ∧ Below w.heap.size w w' := by
  have hm' : m ≤ 9223372036854775807 := by unfold maxLen at hm; omega
  have hrm' : rm ≤ 9223372036854775807 := by unfold maxLen at hrm; omega
  by_cases h : m ≤ 100
  · exact whole_any fc text f g a m cap m rf ra rm rcap w ht hm' hrm' (.inl ⟨rfl, h⟩) hs hrs
  · exact whole_any fc text f g a m cap 100 rf ra rm rcap w ht hm' hrm' (.inr ⟨rfl, by omega⟩) hs hrs
end Go.Proofs.Ytpendchkalagnaa
