/-
  What the document's own block answers: of eight numbers, the constants and sixty-four bytes the eight numbers that the chapter says, in a slice of its own. No other condition.
-/
import Derived.Test.YtbicfhilehllnaaGreatDoorShWords
import Derived.Lib.QuietBelow
import Derived.Lib.Hide
import Derived.Deep.RegionWith
namespace Go.Proofs.YtbicfhilehllnaaGreatDoor
set_option maxRecDepth 100000
open Go.RowKit Go.Sort

theorem and_int (a b : Nat) (ha : a < 4294967296) (hb : b < 4294967296) : bits .and .u32 (a : Int) (b : Int) = ((a &&& b : Nat) : Int) := u32_and_nat a b ha hb
theorem nb_lit (w : World) (e : TypeId) (a b c d f g h i : Nat) : NB (w.alloc (.cells #[.int .u32 (a : Int), .int .u32 (b : Int), .int .u32 (c : Int), .int .u32 (d : Int), .int .u32 (f : Int), .int .u32 (g : Int), .int .u32 (h : Int), .int .u32 (i : Int)] e)) w.heap.size 8 [a, b, c, d, f, g, h, i] := by
  refine ⟨by simp, fun j hj => ?_, fun j hj => by simp⟩
  rw [World.cell?_alloc_new]
  match j, hj with
  | 0, _ => rfl
  | 1, _ => rfl
  | 2, _ => rfl
  | 3, _ => rfl
  | 4, _ => rfl
  | 5, _ => rfl
  | 6, _ => rfl
  | 7, _ => rfl
theorem t1_eq (s : St) (k w : Nat) : t1 s k w = ((((s.h + bs1 s.e) % 4294967296 + cho s.e s.f s.g) % 4294967296 + k) % 4294967296 + w) % 4294967296 := by unfold t1; omega
set_option maxHeartbeats 8000000 in
set_option maxRecDepth 100000 in
theorem rblock_ok (o : St) (Bo co Bk ck : Nat) (s : ByteArray) (w : World) (hs : s.size = 64) (hok : o.Ok) (O : NB w Bo 8 o.list) (K : NB w Bk 64 ks) :
    Calls Tryz.prog 211 #[.slice (some ⟨Bo, 0, none⟩) 8 co, .slice (some ⟨Bk, 0, none⟩) 64 ck, .string s] w fun e w' => ∃ B, e = .returned (.slice (some ⟨B, 0, none⟩) 8 8) ∧ NB w' B 8 (blk o (nb s)).list ∧ w.heap.size ≤ B ∧ Below w.heap.size w w' := by
  have WD : Hid (∀ w, _) := fun w => rwords_ok s w hs
  have hW := wrds_w32 (nb_lt s)
  have hb : blk o (nb s) = plus (rnds o ks (wrds (nb s)) 64) o := rfl
  rw [hb]
  clear hb
  generalize wrds (nb s) = W at *
  go_enter Tryz.func211, Tryz.ntmps211
  go_wp2_with (go_at_call 265; refine (WD.out _).mono ?_; rintro e w1 ⟨Bw, rfl, X1, hBw, b1⟩; refine Hid.out ?_)
  refine Lib.hid ?_
  have O1 : Hid (NB w1 Bo 8 o.list) := O.keep O.lt b1
  have K1 : Hid (NB w1 Bk 64 ks) := K.keep K.lt b1
  replace X1 : Hid (NB w1 Bw 64 W) := X1
  have Z1 : Hid (Below w.heap.size w w1) := b1
  clear b1 O K WD
  have c0 : w1.cell? ⟨Bo, 0, none⟩ = some (.int .u32 ((o.a : Nat) : Int)) := O1.out.c 0 (by decide)
  have c1 : w1.cell? ⟨Bo, 1, none⟩ = some (.int .u32 ((o.b : Nat) : Int)) := O1.out.c 1 (by decide)
  have c2 : w1.cell? ⟨Bo, 2, none⟩ = some (.int .u32 ((o.c : Nat) : Int)) := O1.out.c 2 (by decide)
  have c3 : w1.cell? ⟨Bo, 3, none⟩ = some (.int .u32 ((o.d : Nat) : Int)) := O1.out.c 3 (by decide)
  have c4 : w1.cell? ⟨Bo, 4, none⟩ = some (.int .u32 ((o.e : Nat) : Int)) := O1.out.c 4 (by decide)
  have c5 : w1.cell? ⟨Bo, 5, none⟩ = some (.int .u32 ((o.f : Nat) : Int)) := O1.out.c 5 (by decide)
  have c6 : w1.cell? ⟨Bo, 6, none⟩ = some (.int .u32 ((o.g : Nat) : Int)) := O1.out.c 6 (by decide)
  have c7 : w1.cell? ⟨Bo, 7, none⟩ = some (.int .u32 ((o.h : Nat) : Int)) := O1.out.c 7 (by decide)
  go_wp2
  go_quiet (fail)
  clear c0 c1 c2 c3 c4 c5 c6 c7
  go_wp2
  go_loopw [8, 9, 10, 11, 12, 13, 14, 15, 16] (fun va vb vc vd ve vf vg vh vi wr => ∃ t : Nat, t ≤ 64 ∧ vi = .int .i64 t ∧ va = .int .u32 (((rnds o ks W t).a : Nat) : Int) ∧ vb = .int .u32 (((rnds o ks W t).b : Nat) : Int) ∧ vc = .int .u32 (((rnds o ks W t).c : Nat) : Int) ∧ vd = .int .u32 (((rnds o ks W t).d : Nat) : Int) ∧ ve = .int .u32 (((rnds o ks W t).e : Nat) : Int) ∧ vf = .int .u32 (((rnds o ks W t).f : Nat) : Int) ∧ vg = .int .u32 (((rnds o ks W t).g : Nat) : Int) ∧ vh = .int .u32 (((rnds o ks W t).h : Nat) : Int) ∧ Hid (NB wr Bo 8 o.list) ∧ Hid (NB wr Bk 64 ks) ∧ Hid (NB wr Bw 64 W) ∧ Hid (Below w.heap.size w wr)) (fun _ _ _ _ _ _ _ _ vi _ => 64 - (intOf vi).toNat)
  case atStart => exact ⟨0, Nat.zero_le _, rfl, rfl, rfl, rfl, rfl, rfl, rfl, rfl, rfl, O1.out.keep O1.out.lt ⟨rfl, rfl, rfl, Nat.le_refl _, fun _ _ => rfl⟩, K1.out.keep K1.out.lt ⟨rfl, rfl, rfl, Nat.le_refl _, fun _ _ => rfl⟩, X1.out.keep X1.out.lt ⟨rfl, rfl, rfl, Nat.le_refl _, fun _ _ => rfl⟩, Z1.out.trans ⟨rfl, rfl, rfl, Nat.le_refl _, fun _ _ => rfl⟩⟩
  case round =>
    clear O1 K1 X1 Z1
    obtain ⟨t, ht, rfl, rfl, rfl, rfl, rfl, rfl, rfl, rfl, rfl, O1, K1, X1, Z1⟩ := hrel
    by_cases h64 : t < 64
    · have g1 : decide ((t : Int) < 64) = true := decide_eq_true (by omega)
      have hS := rnds_ok hok ks W t
      have hR : rnds o ks W (t + 1) = rnd (rnds o ks W t) (ks.getD t 0) (W.getD t 0) := rfl
      generalize hRR : rnds o ks W (t + 1) = R at *
      generalize rnds o ks W t = S at *
      have ck0 := K1.out.c t (by omega)
      have cw0 := X1.out.c t (by omega)
      have kk := w32_get ks_w32 t
      have kw := w32_get hW t
      generalize ks.getD t 0 = kt at *
      generalize W.getD t 0 = wt at *
      have hT1 := t1_eq S kt wt
      have hT2 : t2 S = (bs0 S.a + maj S.a S.b S.c) % 4294967296 := rfl
      unfold rnd at hR
      have U6 : Hid (∀ w, Calls Tryz.prog 266 #[.int .u32 (S.e : Nat), .int .i64 6] w fun e w' => e = .returned (.int .u32 (rot S.e 6 : Nat)) ∧ Below w.heap.size w w') := fun w => rturn_ok S.e 6 w hS.e (by decide) (by decide)
      have U11 : Hid (∀ w, Calls Tryz.prog 266 #[.int .u32 (S.e : Nat), .int .i64 11] w fun e w' => e = .returned (.int .u32 (rot S.e 11 : Nat)) ∧ Below w.heap.size w w') := fun w => rturn_ok S.e 11 w hS.e (by decide) (by decide)
      have U25 : Hid (∀ w, Calls Tryz.prog 266 #[.int .u32 (S.e : Nat), .int .i64 25] w fun e w' => e = .returned (.int .u32 (rot S.e 25 : Nat)) ∧ Below w.heap.size w w') := fun w => rturn_ok S.e 25 w hS.e (by decide) (by decide)
      have U2 : Hid (∀ w, Calls Tryz.prog 266 #[.int .u32 (S.a : Nat), .int .i64 2] w fun e w' => e = .returned (.int .u32 (rot S.a 2 : Nat)) ∧ Below w.heap.size w w') := fun w => rturn_ok S.a 2 w hS.a (by decide) (by decide)
      have U13 : Hid (∀ w, Calls Tryz.prog 266 #[.int .u32 (S.a : Nat), .int .i64 13] w fun e w' => e = .returned (.int .u32 (rot S.a 13 : Nat)) ∧ Below w.heap.size w w') := fun w => rturn_ok S.a 13 w hS.a (by decide) (by decide)
      have U22 : Hid (∀ w, Calls Tryz.prog 266 #[.int .u32 (S.a : Nat), .int .i64 22] w fun e w' => e = .returned (.int .u32 (rot S.a 22 : Nat)) ∧ Below w.heap.size w w') := fun w => rturn_ok S.a 22 w hS.a (by decide) (by decide)
      have x1 := xor_int (rot S.e 6) (rot S.e 11) (rot_lt _ hS.e) (rot_lt _ hS.e)
      have x2 : bits .xor .u32 ((rot S.e 6 ^^^ rot S.e 11 : Nat) : Int) ((rot S.e 25 : Nat) : Int) = ((bs1 S.e : Nat) : Int) := xor_int _ _ (xor_lt32 (rot_lt _ hS.e) (rot_lt _ hS.e)) (rot_lt _ hS.e)
      have n1 := and_int S.e S.f hS.e hS.f
      have n2 : IntKind.u32.wrap (4294967295 - (S.e : Int)) = ((4294967295 - S.e : Nat) : Int) := by have := hS.e; simp [IntKind.wrap, IntKind.bits, IntKind.signed]; omega
      have n3 := and_int (4294967295 - S.e) S.g (by omega) hS.g
      have n4 : bits .xor .u32 ((S.e &&& S.f : Nat) : Int) (((4294967295 - S.e) &&& S.g : Nat) : Int) = ((cho S.e S.f S.g : Nat) : Int) := xor_int _ _ (and_lt32 _ hS.e) (and_lt32 _ (by omega))
      have y1 := xor_int (rot S.a 2) (rot S.a 13) (rot_lt _ hS.a) (rot_lt _ hS.a)
      have y2 : bits .xor .u32 ((rot S.a 2 ^^^ rot S.a 13 : Nat) : Int) ((rot S.a 22 : Nat) : Int) = ((bs0 S.a : Nat) : Int) := xor_int _ _ (xor_lt32 (rot_lt _ hS.a) (rot_lt _ hS.a)) (rot_lt _ hS.a)
      have m1 := and_int S.a S.b hS.a hS.b
      have m2 := and_int S.a S.c hS.a hS.c
      have m3 := xor_int (S.a &&& S.b) (S.a &&& S.c) (and_lt32 _ hS.a) (and_lt32 _ hS.a)
      have m4 := and_int S.b S.c hS.b hS.c
      have m5 : bits .xor .u32 (((S.a &&& S.b) ^^^ (S.a &&& S.c) : Nat) : Int) ((S.b &&& S.c : Nat) : Int) = ((maj S.a S.b S.c : Nat) : Int) := xor_int _ _ (xor_lt32 (and_lt32 _ hS.a) (and_lt32 _ hS.a)) (and_lt32 _ hS.b)
      generalize maj S.a S.b S.c = mj at *
      generalize (S.a &&& S.b) ^^^ (S.a &&& S.c) = mx at *
      generalize S.a &&& S.b = ma at *
      generalize S.a &&& S.c = mb at *
      generalize S.b &&& S.c = mc at *
      generalize cho S.e S.f S.g = ch at *
      generalize (4294967295 - S.e) &&& S.g = na at *
      generalize S.e &&& S.f = nc at *
      generalize 4294967295 - S.e = ne at *
      generalize bs1 S.e = b1 at *
      generalize bs0 S.a = b0 at *
      generalize rot S.e 6 ^^^ rot S.e 11 = xe at *
      generalize rot S.a 2 ^^^ rot S.a 13 = xa at *
      generalize rot S.e 6 = r6 at *
      generalize rot S.e 11 = r11 at *
      generalize rot S.e 25 = r25 at *
      generalize rot S.a 2 = r2 at *
      generalize rot S.a 13 = r13 at *
      generalize rot S.a 22 = r22 at *
      generalize t1 S kt wt = T1 at *
      generalize t2 S = T2 at *
      have hd := hS.d
      clear hS hW
      obtain ⟨sa, sb, sc, sd, se, sf, sg, sh⟩ := S
      simp only at *
      have p1 := add_int sh b1
      generalize (sh + b1) % 4294967296 = P1 at *
      have p2 := add_int P1 ch
      generalize (P1 + ch) % 4294967296 = P2 at *
      have p3 := add_int P2 kt
      generalize (P2 + kt) % 4294967296 = P3 at *
      have p4 := add_int P3 wt
      rw [← hT1] at p4
      have p5 := add_int b0 mj
      rw [← hT2] at p5
      have p6 := add_int sd T1
      have p7 := add_int T1 T2
      clear hT1 hT2
      have i1 := fun w' => at_u32 Bk 64 ck t w' (by omega) (t : Int) rfl
      have i2 := fun w' => at_u32 Bw 64 64 t w' (by omega) (t : Int) rfl
      have k0 := cell_regrown ck0
      have k1 := cell_regrown cw0
      clear ck0 cw0
      go_wp2
      refine wp_region_quiet_below (by kernel_rfl) (by kernel_rfl) ?_
      repeat (go_big_quiet_step (first | (go_at_call_of 266 (6 : Int); exact Calls.regrown_of (U6.out _)) | (go_at_call_of 266 (11 : Int); exact Calls.regrown_of (U11.out _)) | (go_at_call_of 266 (25 : Int); exact Calls.regrown_of (U25.out _))))
      refine wpQuiet_nil ?_
      intro _ hw'
      obtain ⟨⟨dq, osq⟩, hw''⟩ := hw'
      subst hw''
      have bq := below_regrown wr dq osq
      have O2 : Hid (NB (grow (redrawn wr dq) osq) Bo 8 o.list) := O1.out.keep O1.out.lt bq
      have K2 : Hid (NB (grow (redrawn wr dq) osq) Bk 64 ks) := K1.out.keep K1.out.lt bq
      have X2 : Hid (NB (grow (redrawn wr dq) osq) Bw 64 W) := X1.out.keep X1.out.lt bq
      have Z2 : Hid (Below w.heap.size w (grow (redrawn wr dq) osq)) := Z1.out.trans (bq.mono Z1.out.size)
      clear bq O1 K1 X1 Z1 k0 k1 i1 i2 x1 x2 n1 n2 n3 n4 p1 p2 p3 p4 U6 U11 U25
      simp only
      generalize grow (redrawn wr dq) osq = w2 at *
      have q5 : ((b0 : Int) + mj) % 4294967296 = T2 := by rw [← p5]; simp [IntKind.wrap, IntKind.bits, IntKind.signed]
      have q6 : ((sd : Int) + T1) % 4294967296 = (((sd + T1) % 4294967296 : Nat) : Int) := by omega
      have q7 : ((T1 : Int) + T2) % 4294967296 = (((T1 + T2) % 4294967296 : Nat) : Int) := by omega
      generalize (sd + T1) % 4294967296 = D1 at *
      generalize (T1 + T2) % 4294967296 = A1 at *
      go_wp2_with fail
      refine (U2.out _).mono ?_
      rintro e w3 ⟨rfl, b3'⟩
      have O3 : Hid (NB w3 Bo 8 o.list) := O2.out.keep O2.out.lt b3'
      have K3 : Hid (NB w3 Bk 64 ks) := K2.out.keep K2.out.lt b3'
      have X3 : Hid (NB w3 Bw 64 W) := X2.out.keep X2.out.lt b3'
      have Z3 : Hid (Below w.heap.size w w3) := Z2.out.trans (b3'.mono Z2.out.size)
      clear b3' O2 K2 X2 Z2 U2
      go_wp2_with fail
      refine (U13.out _).mono ?_
      rintro e w4 ⟨rfl, b4'⟩
      have O4 : Hid (NB w4 Bo 8 o.list) := O3.out.keep O3.out.lt b4'
      have K4 : Hid (NB w4 Bk 64 ks) := K3.out.keep K3.out.lt b4'
      have X4 : Hid (NB w4 Bw 64 W) := X3.out.keep X3.out.lt b4'
      have Z4 : Hid (Below w.heap.size w w4) := Z3.out.trans (b4'.mono Z3.out.size)
      clear b4' O3 K3 X3 Z3 U13
      go_wp2_with fail
      refine (U22.out _).mono ?_
      rintro e w5 ⟨rfl, b5'⟩
      have O5 : Hid (NB w5 Bo 8 o.list) := O4.out.keep O4.out.lt b5'
      have K5 : Hid (NB w5 Bk 64 ks) := K4.out.keep K4.out.lt b5'
      have X5 : Hid (NB w5 Bw 64 W) := X4.out.keep X4.out.lt b5'
      have Z5 : Hid (Below w.heap.size w w5) := Z4.out.trans (b5'.mono Z4.out.size)
      clear b5' O4 K4 X4 Z4 U22
      go_wp2_with fail
      go_roundw
      case rel =>
        refine ⟨t + 1, by omega, by go_num, ?_, ?_, ?_, ?_, ?_, ?_, ?_, ?_, O5, K5, X5, Z5⟩ <;> rw [show rnds o ks W (t + 1) = R from hRR] <;> rw [hR]
      case measure => simp [intOf]; omega
    · have e64 : (t : Int) = 64 := by omega
      rw [e64]
      clear e64
      obtain rfl : t = 64 := by omega
      generalize hS64 : rnds o ks W 64 = S at *
      have c0 : wr.cell? ⟨Bo, 0, none⟩ = some (.int .u32 ((o.a : Nat) : Int)) := O1.out.c 0 (by decide)
      have i0 := fun w' => at_u32 Bo 8 co 0 w' (by decide) (0 : Int) rfl
      have a0 := add_int o.a S.a
      have c1 : wr.cell? ⟨Bo, 1, none⟩ = some (.int .u32 ((o.b : Nat) : Int)) := O1.out.c 1 (by decide)
      have i1 := fun w' => at_u32 Bo 8 co 1 w' (by decide) (1 : Int) rfl
      have a1 := add_int o.b S.b
      have c2 : wr.cell? ⟨Bo, 2, none⟩ = some (.int .u32 ((o.c : Nat) : Int)) := O1.out.c 2 (by decide)
      have i2 := fun w' => at_u32 Bo 8 co 2 w' (by decide) (2 : Int) rfl
      have a2 := add_int o.c S.c
      have c3 : wr.cell? ⟨Bo, 3, none⟩ = some (.int .u32 ((o.d : Nat) : Int)) := O1.out.c 3 (by decide)
      have i3 := fun w' => at_u32 Bo 8 co 3 w' (by decide) (3 : Int) rfl
      have a3 := add_int o.d S.d
      have c4 : wr.cell? ⟨Bo, 4, none⟩ = some (.int .u32 ((o.e : Nat) : Int)) := O1.out.c 4 (by decide)
      have i4 := fun w' => at_u32 Bo 8 co 4 w' (by decide) (4 : Int) rfl
      have a4 := add_int o.e S.e
      have c5 : wr.cell? ⟨Bo, 5, none⟩ = some (.int .u32 ((o.f : Nat) : Int)) := O1.out.c 5 (by decide)
      have i5 := fun w' => at_u32 Bo 8 co 5 w' (by decide) (5 : Int) rfl
      have a5 := add_int o.f S.f
      have c6 : wr.cell? ⟨Bo, 6, none⟩ = some (.int .u32 ((o.g : Nat) : Int)) := O1.out.c 6 (by decide)
      have i6 := fun w' => at_u32 Bo 8 co 6 w' (by decide) (6 : Int) rfl
      have a6 := add_int o.g S.g
      have c7 : wr.cell? ⟨Bo, 7, none⟩ = some (.int .u32 ((o.h : Nat) : Int)) := O1.out.c 7 (by decide)
      have i7 := fun w' => at_u32 Bo 8 co 7 w' (by decide) (7 : Int) rfl
      have a7 := add_int o.h S.h
      have N6 : Hid (NB (wr.alloc (.cells #[.int .u32 (((o.a + S.a) % 4294967296 : Nat) : Int), .int .u32 (((o.b + S.b) % 4294967296 : Nat) : Int), .int .u32 (((o.c + S.c) % 4294967296 : Nat) : Int), .int .u32 (((o.d + S.d) % 4294967296 : Nat) : Int), .int .u32 (((o.e + S.e) % 4294967296 : Nat) : Int), .int .u32 (((o.f + S.f) % 4294967296 : Nat) : Int), .int .u32 (((o.g + S.g) % 4294967296 : Nat) : Int), .int .u32 (((o.h + S.h) % 4294967296 : Nat) : Int)] 228)) wr.heap.size 8 (plus S o).list) := nb_lit wr _ _ _ _ _ _ _ _ _
      have Z6 : Hid (Below w.heap.size w (wr.alloc (.cells #[.int .u32 (((o.a + S.a) % 4294967296 : Nat) : Int), .int .u32 (((o.b + S.b) % 4294967296 : Nat) : Int), .int .u32 (((o.c + S.c) % 4294967296 : Nat) : Int), .int .u32 (((o.d + S.d) % 4294967296 : Nat) : Int), .int .u32 (((o.e + S.e) % 4294967296 : Nat) : Int), .int .u32 (((o.f + S.f) % 4294967296 : Nat) : Int), .int .u32 (((o.g + S.g) % 4294967296 : Nat) : Int), .int .u32 (((o.h + S.h) % 4294967296 : Nat) : Int)] 228))) := Z1.out.alloc Z1.out.size _
      have hB := Z1.out.size
      clear O1 K1 X1 Z1 hW hok
      generalize (o.a + S.a) % 4294967296 = qa at *
      generalize (o.b + S.b) % 4294967296 = qb at *
      generalize (o.c + S.c) % 4294967296 = qc at *
      generalize (o.d + S.d) % 4294967296 = qd at *
      generalize (o.e + S.e) % 4294967296 = qe at *
      generalize (o.f + S.f) % 4294967296 = qf at *
      generalize (o.g + S.g) % 4294967296 = qg at *
      generalize (o.h + S.h) % 4294967296 = qh at *
      go_wp2
      go_still_tail 40, (by kernel_rfl)
      clear c0 i0 a0 c1 i1 a1 c2 i2 a2 c3 i3 a3 c4 i4 a4 c5 i5 a5 c6 i6 a6 c7 i7 a7
      refine (show wpList _ _ _ _ _ wr.drew from ?_)
      go_wp2
      go_ret
      exact ⟨wr.heap.size, rfl, by rw [hS64]; exact N6.out.keep N6.out.lt (dr _ _), hB, Z6.out.trans (dr _ _)⟩
end Go.Proofs.YtbicfhilehllnaaGreatDoor
