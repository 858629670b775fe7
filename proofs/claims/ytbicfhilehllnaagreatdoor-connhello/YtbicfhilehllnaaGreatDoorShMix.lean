/-
  What the program's own mix answers: of eight numbers and sixty-four bytes the eight numbers that the chapter says, by value, in every world that holds the table of cubes. No other condition.
-/
import Derived.Test.YtbicfhilehllnaaGreatDoorShSpread
import Derived.Test.YtbicfhilehllnaaGreatDoorShBlock
import Derived.Deep.RegionWith
namespace Go.Proofs.YtbicfhilehllnaaGreatDoor
set_option maxRecDepth 100000
open Go.RowKit

/-- The table of cubes lies where the program's text lays it. -/
structure Tab (w : World) : Prop where
  pos : 2 < w.heap.size
  c : ∀ j, j < 64 → w.cell? ⟨2, j, none⟩ = some (.int .u32 ((ks.getD j 0 : Nat) : Int))
theorem Tab.keep {w w' : World} (h : Tab w) (b : Below w.heap.size w w') : Tab w' :=
  ⟨Nat.lt_of_lt_of_le h.pos b.size, fun j hj => (b.cell h.pos).trans (h.c j hj)⟩
theorem Tab.keepC {w w' : World} {C : Nat} (h : Tab w) (b : Below C w w') (hC : 2 < C) : Tab w' :=
  ⟨Nat.lt_of_lt_of_le h.pos b.size, fun j hj => (b.cell hC).trans (h.c j hj)⟩
theorem st_w32 {s : St} (h : s.Ok) : W32 s.list := by
  intro x hx
  simp only [St.list, List.mem_cons, List.mem_nil_iff, or_false] at hx
  rcases hx with rfl | rfl | rfl | rfl | rfl | rfl | rfl | rfl
  · exact h.a
  · exact h.b
  · exact h.c
  · exact h.d
  · exact h.e
  · exact h.f
  · exact h.g
  · exact h.h
theorem not_int (x : Nat) (h : x < 4294967296) : bits .xor .u32 IntKind.u32.max (x : Int) = ((4294967295 - x : Nat) : Int) := by
  have e : (IntKind.u32.max : Int) = ((4294967295 : Nat) : Int) := by decide
  rw [e, xor_int 4294967295 x (by decide) h]
  congr 1
  have e1 : 4294967295 - x = 2 ^ 32 - (x + 1) := by omega
  rw [e1]
  refine Nat.eq_of_testBit_eq fun i => ?_
  rw [Nat.testBit_xor, Nat.testBit_two_pow_sub_succ h, show (4294967295 : Nat) = 2 ^ 32 - 1 by decide, Nat.testBit_two_pow_sub_one]
  by_cases hi : i < 32
  · simp [hi]
  · have : x.testBit i = false := Nat.testBit_lt_two_pow (Nat.lt_of_lt_of_le h (Nat.pow_le_pow_right (show 2 > 0 by decide) (by omega : 32 ≤ i)))
    simp [hi, this]
theorem plus_list (s o : St) : nv .u32 (plus s o).list = [.int .u32 (((o.a + s.a) % 4294967296 : Nat) : Int), .int .u32 (((o.b + s.b) % 4294967296 : Nat) : Int), .int .u32 (((o.c + s.c) % 4294967296 : Nat) : Int), .int .u32 (((o.d + s.d) % 4294967296 : Nat) : Int), .int .u32 (((o.e + s.e) % 4294967296 : Nat) : Int), .int .u32 (((o.f + s.f) % 4294967296 : Nat) : Int), .int .u32 (((o.g + s.g) % 4294967296 : Nat) : Int), .int .u32 (((o.h + s.h) % 4294967296 : Nat) : Int)] := rfl
set_option maxHeartbeats 8000000 in
set_option maxRecDepth 100000 in
theorem mix_ok (o : St) (b : List Nat) (w : World) (tab : Tab w) (hok : o.Ok) (hb : b.length = 64) (h256 : ∀ x ∈ b, x < 256) :
    Calls Tryz.prog 323 #[.agg (nv .u32 o.list).toArray, .agg (nv .u8 b).toArray] w fun e w' => e = .returned (.agg (nv .u32 (blk o b).list).toArray) ∧ Below w.heap.size w w' := by
  have SP : Hid (∀ w, _) := fun w => spread_ok b w hb h256
  have hW := wrds_w32 h256
  have hWl := wrds_length b
  obtain ⟨EE, hEE⟩ : ∃ EE, EE = (blk o b).list := ⟨_, rfl⟩
  rw [← hEE]
  have hb2 : blk o b = plus (rnds o ks (wrds b) 64) o := rfl
  rw [hb2] at hEE
  clear hb2
  replace hEE : Hid _ := hEE
  generalize wrds b = W at *
  generalize hol : o.list = ol at *
  have holl : ol.length = 8 := by rw [← hol]; rfl
  replace hol : Hid _ := hol
  have i41 : (Tryz.prog.info? 328).map (·.size) = some 64 := by kernel_rfl
  have i45 : (Tryz.prog.info? 363).map (·.size) = some 8 := by kernel_rfl
  have i55 : (Tryz.prog.info? 376).map (·.size) = some 64 := by kernel_rfl
  replace i41 : Hid _ := i41
  replace i45 : Hid _ := i45
  replace i55 : Hid _ := i55
  have O0 : Hid (At .u32 (((w.alloc (.cells (nv .u32 ol).toArray 363)).alloc (.cells (nv .u8 b).toArray 328)).alloc (.cells (nv .u32 (List.replicate 8 0)).toArray 363)) w.heap.size 0 ol) :=
    ((At.new .u32 w ol 363).keep (Nat.lt_succ_self _) ((Below.refl _ _).alloc (by simp) _)).keep (Nat.lt_succ_self _) ((Below.refl _ _).alloc (by simp) _)
  have Y0 : Hid (At .u8 (((w.alloc (.cells (nv .u32 ol).toArray 363)).alloc (.cells (nv .u8 b).toArray 328)).alloc (.cells (nv .u32 (List.replicate 8 0)).toArray 363)) (w.heap.size + 1) 0 b) := by
    have := At.new .u8 (w.alloc (.cells (nv .u32 ol).toArray 363)) b 328
    rw [World.size_alloc] at this
    exact this.keep (Nat.lt_succ_self _) ((Below.refl _ _).alloc (by simp) _)
  have R0 : Hid (At .u32 (((w.alloc (.cells (nv .u32 ol).toArray 363)).alloc (.cells (nv .u8 b).toArray 328)).alloc (.cells (nv .u32 (List.replicate 8 0)).toArray 363)) (w.heap.size + 1 + 1) 0 (List.replicate 8 0)) := by
    have := At.new .u32 ((w.alloc (.cells (nv .u32 ol).toArray 363)).alloc (.cells (nv .u8 b).toArray 328)) (List.replicate 8 0) 363
    rw [World.size_alloc, World.size_alloc] at this
    exact this
  have Z0 : Hid (Below w.heap.size w (((w.alloc (.cells (nv .u32 ol).toArray 363)).alloc (.cells (nv .u8 b).toArray 328)).alloc (.cells (nv .u32 (List.replicate 8 0)).toArray 363))) :=
    (((Below.refl _ _).alloc (Nat.le_refl _) _).alloc (by simp) _).alloc (by simp; omega) _
  go_enter Tryz.func323, Tryz.ntmps323
  go_wp2_with (first
    | (refine Y0.out.wload (t := 328) Tryz.underlying328 (by rw [hb]; exact i41.out) rfl rfl rfl ?_)
    | (go_at_call 336; refine (SP.out _).mono ?_; rintro e w1 ⟨rfl, b1⟩; refine Hid.out ?_))
  refine Lib.hid ?_
  have O1 : Hid (At .u32 w1 w.heap.size 0 ol) := O0.out.keep (by simp only [World.size_alloc]; omega) b1
  have R1 : Hid (At .u32 w1 (w.heap.size + 1 + 1) 0 (List.replicate 8 0)) := R0.out.keep (by simp only [World.size_alloc]; omega) b1
  have Z1 : Hid (Below w.heap.size w w1) := Z0.out.trans (b1.mono (by simp only [World.size_alloc]; omega))
  have g1 : w.heap.size + 3 ≤ w1.heap.size := by have := b1.size; simp only [World.size_alloc] at this; omega
  clear b1 O0 Y0 R0 Z0 SP
  have X1 : Hid (At .u32 (w1.alloc (.cells (nv .u32 (List.replicate 64 0)).toArray 376)) w1.heap.size 0 (List.replicate 64 0)) := At.new .u32 w1 (List.replicate 64 0) 376
  go_wp2_with (refine X1.out.wstore W (by rw [hWl, List.length_replicate]) (t := 376) (by rw [List.length_replicate]; exact i55.out) rfl rfl rfl rfl rfl ?_)
  obtain ⟨w2, hw2⟩ : ∃ w2, w2 = ((w1.alloc (.cells (nv .u32 (List.replicate 64 0)).toArray 376)).setCells w1.heap.size 0 (nv .u32 W)) := ⟨_, rfl⟩
  rw [← hw2]
  have bb : Below w1.heap.size w1 w2 := by rw [hw2]; exact below_cells ((Below.refl _ _).alloc (Nat.le_refl _) _) (Nat.le_refl _) _ _
  have X2 : Hid (At .u32 w2 w1.heap.size 0 W) := by rw [hw2]; exact X1.out.store W (by rw [hWl, List.length_replicate])
  have O2 : Hid (At .u32 w2 w.heap.size 0 ol) := O1.out.keep (by omega) bb
  have R2 : Hid (At .u32 w2 (w.heap.size + 1 + 1) 0 (List.replicate 8 0)) := R1.out.keep (by omega) bb
  have Z2 : Hid (Below w.heap.size w w2) := Z1.out.trans (bb.mono (by omega))
  clear bb X1 O1 R1 Z1 hw2
  have T2 : Hid (Tab w2) := tab.keep Z2.out
  obtain ⟨Br, hBr⟩ : ∃ Br, Br = w.heap.size + 1 + 1 := ⟨_, rfl⟩
  rw [← hBr] at R2
  rw [← hBr]
  have gBr : w.heap.size < Br ∧ Br < w1.heap.size := by omega
  clear hBr g1
  generalize w1.heap.size = Bw at *
  clear tab
  have c0 : w2.cell? ⟨w.heap.size, 0, none⟩ = some (.int .u32 ((o.a : Nat) : Int)) := by have := O2.out.cell0 0 (by omega); rw [← hol.out] at this; exact this
  have c1 : w2.cell? ⟨w.heap.size, 1, none⟩ = some (.int .u32 ((o.b : Nat) : Int)) := by have := O2.out.cell0 1 (by omega); rw [← hol.out] at this; exact this
  have c2 : w2.cell? ⟨w.heap.size, 2, none⟩ = some (.int .u32 ((o.c : Nat) : Int)) := by have := O2.out.cell0 2 (by omega); rw [← hol.out] at this; exact this
  have c3 : w2.cell? ⟨w.heap.size, 3, none⟩ = some (.int .u32 ((o.d : Nat) : Int)) := by have := O2.out.cell0 3 (by omega); rw [← hol.out] at this; exact this
  have c4 : w2.cell? ⟨w.heap.size, 4, none⟩ = some (.int .u32 ((o.e : Nat) : Int)) := by have := O2.out.cell0 4 (by omega); rw [← hol.out] at this; exact this
  have c5 : w2.cell? ⟨w.heap.size, 5, none⟩ = some (.int .u32 ((o.f : Nat) : Int)) := by have := O2.out.cell0 5 (by omega); rw [← hol.out] at this; exact this
  have c6 : w2.cell? ⟨w.heap.size, 6, none⟩ = some (.int .u32 ((o.g : Nat) : Int)) := by have := O2.out.cell0 6 (by omega); rw [← hol.out] at this; exact this
  have c7 : w2.cell? ⟨w.heap.size, 7, none⟩ = some (.int .u32 ((o.h : Nat) : Int)) := by have := O2.out.cell0 7 (by omega); rw [← hol.out] at this; exact this
  have j0 := fun w' => at_arr w.heap.size 0 8 0 w' 363 228 Tryz.underlying363 Tryz.sizeOf228 (by omega) (0 : Int) rfl 0 rfl
  have j1 := fun w' => at_arr w.heap.size 0 8 1 w' 363 228 Tryz.underlying363 Tryz.sizeOf228 (by omega) (1 : Int) rfl 1 rfl
  have j2 := fun w' => at_arr w.heap.size 0 8 2 w' 363 228 Tryz.underlying363 Tryz.sizeOf228 (by omega) (2 : Int) rfl 2 rfl
  have j3 := fun w' => at_arr w.heap.size 0 8 3 w' 363 228 Tryz.underlying363 Tryz.sizeOf228 (by omega) (3 : Int) rfl 3 rfl
  have j4 := fun w' => at_arr w.heap.size 0 8 4 w' 363 228 Tryz.underlying363 Tryz.sizeOf228 (by omega) (4 : Int) rfl 4 rfl
  have j5 := fun w' => at_arr w.heap.size 0 8 5 w' 363 228 Tryz.underlying363 Tryz.sizeOf228 (by omega) (5 : Int) rfl 5 rfl
  have j6 := fun w' => at_arr w.heap.size 0 8 6 w' 363 228 Tryz.underlying363 Tryz.sizeOf228 (by omega) (6 : Int) rfl 6 rfl
  have j7 := fun w' => at_arr w.heap.size 0 8 7 w' 363 228 Tryz.underlying363 Tryz.sizeOf228 (by omega) (7 : Int) rfl 7 rfl
  go_quiet (fail)
  have O3 : Hid (At .u32 (w2.drewN nq) w.heap.size 0 ol) := O2.out.of_block rfl
  have R3 : Hid (At .u32 (w2.drewN nq) Br 0 (List.replicate 8 0)) := R2.out.of_block rfl
  have X3 : Hid (At .u32 (w2.drewN nq) Bw 0 W) := X2.out.of_block rfl
  have Z3 : Hid (Below w.heap.size w (w2.drewN nq)) := Z2.out.trans ⟨rfl, rfl, rfl, Nat.le_refl _, fun _ _ => rfl⟩
  have T3 : Hid (Tab (w2.drewN nq)) := T2.out.keep ⟨rfl, rfl, rfl, Nat.le_refl _, fun _ _ => rfl⟩
  clear O2 R2 X2 Z2 T2 c0 c1 c2 c3 c4 c5 c6 c7
  generalize w2.drewN nq = w3 at *
  have c4 : w3.cell? ⟨w.heap.size, 4, none⟩ = some (.int .u32 ((o.e : Nat) : Int)) := by have := O3.out.cell0 4 (by omega); rw [← hol.out] at this; exact this
  have c5 : w3.cell? ⟨w.heap.size, 5, none⟩ = some (.int .u32 ((o.f : Nat) : Int)) := by have := O3.out.cell0 5 (by omega); rw [← hol.out] at this; exact this
  have c6 : w3.cell? ⟨w.heap.size, 6, none⟩ = some (.int .u32 ((o.g : Nat) : Int)) := by have := O3.out.cell0 6 (by omega); rw [← hol.out] at this; exact this
  have c7 : w3.cell? ⟨w.heap.size, 7, none⟩ = some (.int .u32 ((o.h : Nat) : Int)) := by have := O3.out.cell0 7 (by omega); rw [← hol.out] at this; exact this
  clear j0 j1 j2 j3
  go_wp2
  go_quiet (fail)
  have O2 : Hid (At .u32 (w3.drewN nq) w.heap.size 0 ol) := O3.out.of_block rfl
  have R2 : Hid (At .u32 (w3.drewN nq) Br 0 (List.replicate 8 0)) := R3.out.of_block rfl
  have X2 : Hid (At .u32 (w3.drewN nq) Bw 0 W) := X3.out.of_block rfl
  have Z2 : Hid (Below w.heap.size w (w3.drewN nq)) := Z3.out.trans ⟨rfl, rfl, rfl, Nat.le_refl _, fun _ _ => rfl⟩
  have T2 : Hid (Tab (w3.drewN nq)) := T3.out.keep ⟨rfl, rfl, rfl, Nat.le_refl _, fun _ _ => rfl⟩
  clear O3 R3 X3 Z3 T3 c4 c5 c6 c7 j4 j5 j6 j7
  generalize w3.drewN nq = w4 at *
  go_wp2
  go_loopw [6, 7, 8, 9, 10, 11, 12, 13, 39] (fun va vb vc vd ve vf vg vh vi wr => ∃ t : Nat, t ≤ 64 ∧ vi = .int .i64 t ∧ va = .int .u32 (((rnds o ks W t).a : Nat) : Int) ∧ vb = .int .u32 (((rnds o ks W t).b : Nat) : Int) ∧ vc = .int .u32 (((rnds o ks W t).c : Nat) : Int) ∧ vd = .int .u32 (((rnds o ks W t).d : Nat) : Int) ∧ ve = .int .u32 (((rnds o ks W t).e : Nat) : Int) ∧ vf = .int .u32 (((rnds o ks W t).f : Nat) : Int) ∧ vg = .int .u32 (((rnds o ks W t).g : Nat) : Int) ∧ vh = .int .u32 (((rnds o ks W t).h : Nat) : Int) ∧ Hid (At .u32 wr w.heap.size 0 ol) ∧ Hid (At .u32 wr Br 0 (List.replicate 8 0)) ∧ Hid (At .u32 wr Bw 0 W) ∧ Hid (Below w.heap.size w wr) ∧ Hid (Tab wr)) (fun _ _ _ _ _ _ _ _ vi _ => 64 - (intOf vi).toNat)
  case atStart => exact ⟨0, Nat.zero_le _, rfl, rfl, rfl, rfl, rfl, rfl, rfl, rfl, rfl, O2, R2, X2, Z2, T2⟩
  case round =>
    clear O2 R2 X2 Z2 T2
    obtain ⟨t, ht, rfl, rfl, rfl, rfl, rfl, rfl, rfl, rfl, rfl, O1, R1, X1, Z1, T1⟩ := hrel
    by_cases h64 : t < 64
    · have g1 : decide ((t : Int) < 64) = true := decide_eq_true (by omega)
      have hS := rnds_ok hok ks W t
      have hR : rnds o ks W (t + 1) = rnd (rnds o ks W t) (ks.getD t 0) (W.getD t 0) := rfl
      generalize hRR : rnds o ks W (t + 1) = R at *
      generalize rnds o ks W t = S at *
      have ck0 := T1.out.c t (by omega)
      have cw0 := X1.out.cell0 t (by omega)
      generalize ks.getD t 0 = kt at *
      generalize W.getD t 0 = wt at *
      have hT1 := t1_eq S kt wt
      have hT2 : t2 S = (bs0 S.a + maj S.a S.b S.c) % 4294967296 := rfl
      unfold rnd at hR
      have U6 : Hid (∀ w, Calls Tryz.prog 337 #[.int .u32 (S.e : Nat), .int .u64 6] w fun e w' => e = .returned (.int .u32 (rot S.e 6 : Nat)) ∧ w = w') := fun w => turn_ok S.e 6 w hS.e (by decide) (by decide)
      have U11 : Hid (∀ w, Calls Tryz.prog 337 #[.int .u32 (S.e : Nat), .int .u64 11] w fun e w' => e = .returned (.int .u32 (rot S.e 11 : Nat)) ∧ w = w') := fun w => turn_ok S.e 11 w hS.e (by decide) (by decide)
      have U25 : Hid (∀ w, Calls Tryz.prog 337 #[.int .u32 (S.e : Nat), .int .u64 25] w fun e w' => e = .returned (.int .u32 (rot S.e 25 : Nat)) ∧ w = w') := fun w => turn_ok S.e 25 w hS.e (by decide) (by decide)
      have U2 : Hid (∀ w, Calls Tryz.prog 337 #[.int .u32 (S.a : Nat), .int .u64 2] w fun e w' => e = .returned (.int .u32 (rot S.a 2 : Nat)) ∧ w = w') := fun w => turn_ok S.a 2 w hS.a (by decide) (by decide)
      have U13 : Hid (∀ w, Calls Tryz.prog 337 #[.int .u32 (S.a : Nat), .int .u64 13] w fun e w' => e = .returned (.int .u32 (rot S.a 13 : Nat)) ∧ w = w') := fun w => turn_ok S.a 13 w hS.a (by decide) (by decide)
      have U22 : Hid (∀ w, Calls Tryz.prog 337 #[.int .u32 (S.a : Nat), .int .u64 22] w fun e w' => e = .returned (.int .u32 (rot S.a 22 : Nat)) ∧ w = w') := fun w => turn_ok S.a 22 w hS.a (by decide) (by decide)
      have x1 := xor_int (rot S.e 6) (rot S.e 11) (rot_lt _ hS.e) (rot_lt _ hS.e)
      have x2 : bits .xor .u32 ((rot S.e 6 ^^^ rot S.e 11 : Nat) : Int) ((rot S.e 25 : Nat) : Int) = ((bs1 S.e : Nat) : Int) := xor_int _ _ (xor_lt32 (rot_lt _ hS.e) (rot_lt _ hS.e)) (rot_lt _ hS.e)
      have n1 := and_int S.e S.f hS.e hS.f
      have n2 := not_int S.e hS.e
      have n3 := and_int (4294967295 - S.e) S.g (by omega) hS.g
      have n4 : bits .xor .u32 ((S.e &&& S.f : Nat) : Int) (((4294967295 - S.e) &&& S.g : Nat) : Int) = ((cho S.e S.f S.g : Nat) : Int) := xor_int _ _ (and_lt32 _ hS.e) (and_lt32 _ (by omega))
      have y1 := xor_int (rot S.a 2) (rot S.a 13) (rot_lt _ hS.a) (rot_lt _ hS.a)
      have y2 : bits .xor .u32 ((rot S.a 2 ^^^ rot S.a 13 : Nat) : Int) ((rot S.a 22 : Nat) : Int) = ((bs0 S.a : Nat) : Int) := xor_int _ _ (xor_lt32 (rot_lt _ hS.a) (rot_lt _ hS.a)) (rot_lt _ hS.a)
      have m1 := and_int S.a S.b hS.a hS.b
      have m2 := and_int S.a S.c hS.a hS.c
      have m3 := xor_int (S.a &&& S.b) (S.a &&& S.c) (and_lt32 _ hS.a) (and_lt32 _ hS.a)
      have m4 := and_int S.b S.c hS.b hS.c
      have m5 : bits .xor .u32 (((S.a &&& S.b) ^^^ (S.a &&& S.c) : Nat) : Int) ((S.b &&& S.c : Nat) : Int) = ((maj S.a S.b S.c : Nat) : Int) := xor_int _ _ (xor_lt32 (and_lt32 _ hS.a) (and_lt32 _ hS.a)) (and_lt32 _ hS.b)
      generalize maj S.a S.b S.c = mj at *
      generalize (S.a &&& S.b) ^^^ (S.a &&& S.c) = mx at *
      generalize S.a &&& S.b = ma at *
      generalize S.a &&& S.c = mb at *
      generalize S.b &&& S.c = mc at *
      generalize cho S.e S.f S.g = ch at *
      generalize (4294967295 - S.e) &&& S.g = na at *
      generalize S.e &&& S.f = nc at *
      generalize 4294967295 - S.e = ne at *
      generalize bs1 S.e = b1 at *
      generalize bs0 S.a = b0 at *
      generalize rot S.e 6 ^^^ rot S.e 11 = xe at *
      generalize rot S.a 2 ^^^ rot S.a 13 = xa at *
      generalize rot S.e 6 = r6 at *
      generalize rot S.e 11 = r11 at *
      generalize rot S.e 25 = r25 at *
      generalize rot S.a 2 = r2 at *
      generalize rot S.a 13 = r13 at *
      generalize rot S.a 22 = r22 at *
      generalize t1 S kt wt = T1v at *
      generalize t2 S = T2v at *
      have hse := hS.e
      clear hS
      obtain ⟨sa, sb, sc, sd, se, sf, sg, sh⟩ := S
      simp only at *
      go_wp2_with (first
        | (go_at_call_of 337 (6 : Int); refine (U6.out _).mono ?_; rintro e w' ⟨rfl, rfl⟩)
        | (go_at_call_of 337 (11 : Int); refine (U11.out _).mono ?_; rintro e w' ⟨rfl, rfl⟩)
        | (go_at_call_of 337 (25 : Int); refine (U25.out _).mono ?_; rintro e w' ⟨rfl, rfl⟩))
      have i1 := fun w' => at_arr 2 0 64 t w' 376 228 Tryz.underlying376 Tryz.sizeOf228 (by omega) (t : Int) rfl t (by omega)
      have i2 := fun w' => at_arr Bw 0 64 t w' 376 228 Tryz.underlying376 Tryz.sizeOf228 (by omega) (t : Int) rfl t (by omega)
      go_quiet (fail)
      have q1 : (((sh : Int) + b1 + ch + kt) % 4294967296 + wt) % 4294967296 = T1v := by omega
      rw [q1]
      have O2 : Hid (At .u32 (wr.drewN nq) w.heap.size 0 ol) := O1.out.of_block rfl
      have R2 : Hid (At .u32 (wr.drewN nq) Br 0 (List.replicate 8 0)) := R1.out.of_block rfl
      have X2 : Hid (At .u32 (wr.drewN nq) Bw 0 W) := X1.out.of_block rfl
      have Z2 : Hid (Below w.heap.size w (wr.drewN nq)) := Z1.out.trans ⟨rfl, rfl, rfl, Nat.le_refl _, fun _ _ => rfl⟩
      have T2 : Hid (Tab (wr.drewN nq)) := T1.out.keep ⟨rfl, rfl, rfl, Nat.le_refl _, fun _ _ => rfl⟩
      have q5 : ((b0 : Int) + mj) % 4294967296 = T2v := by omega
      have q6 : ((sd : Int) + T1v) % 4294967296 = (((sd + T1v) % 4294967296 : Nat) : Int) := by omega
      have q7 : ((T1v : Int) + T2v) % 4294967296 = (((T1v + T2v) % 4294967296 : Nat) : Int) := by omega
      clear O1 R1 X1 Z1 T1 hT1 hT2 q1 i1 i2 ck0 cw0 x1 x2 n1 n2 n3 n4 U6 U11 U25
      generalize wr.drewN nq = w5 at *
      generalize (sd + T1v) % 4294967296 = D1 at *
      generalize (T1v + T2v) % 4294967296 = A1 at *
      go_wp2_with (first
        | (go_at_call_of 337 (2 : Int); refine (U2.out _).mono ?_; rintro e w' ⟨rfl, rfl⟩)
        | (go_at_call_of 337 (13 : Int); refine (U13.out _).mono ?_; rintro e w' ⟨rfl, rfl⟩)
        | (go_at_call_of 337 (22 : Int); refine (U22.out _).mono ?_; rintro e w' ⟨rfl, rfl⟩))
      go_roundw
      case rel =>
        refine ⟨t + 1, by omega, by go_num, ?_, ?_, ?_, ?_, ?_, ?_, ?_, ?_, O2, R2, X2, Z2, T2⟩ <;> rw [show rnds o ks W (t + 1) = R from hRR] <;> rw [hR] <;> first | rw [q7] | rw [q6]
      case measure => simp [intOf]; omega
    · obtain rfl : t = 64 := by omega
      generalize rnds o ks W 64 = S at *
      have ek : ((64 : Nat) : Int) = 64 := rfl
      rw [ek]
      clear ek
      have c0 : wr.cell? ⟨w.heap.size, 0, none⟩ = some (.int .u32 ((o.a : Nat) : Int)) := by have := O1.out.cell0 0 (by omega); rw [← hol.out] at this; exact this
      have j0 := fun w' => at_arr w.heap.size 0 8 0 w' 363 228 Tryz.underlying363 Tryz.sizeOf228 (by omega) (0 : Int) rfl 0 rfl
      have c1 : wr.cell? ⟨w.heap.size, 1, none⟩ = some (.int .u32 ((o.b : Nat) : Int)) := by have := O1.out.cell0 1 (by omega); rw [← hol.out] at this; exact this
      have j1 := fun w' => at_arr w.heap.size 0 8 1 w' 363 228 Tryz.underlying363 Tryz.sizeOf228 (by omega) (1 : Int) rfl 1 rfl
      have c2 : wr.cell? ⟨w.heap.size, 2, none⟩ = some (.int .u32 ((o.c : Nat) : Int)) := by have := O1.out.cell0 2 (by omega); rw [← hol.out] at this; exact this
      have j2 := fun w' => at_arr w.heap.size 0 8 2 w' 363 228 Tryz.underlying363 Tryz.sizeOf228 (by omega) (2 : Int) rfl 2 rfl
      have c3 : wr.cell? ⟨w.heap.size, 3, none⟩ = some (.int .u32 ((o.d : Nat) : Int)) := by have := O1.out.cell0 3 (by omega); rw [← hol.out] at this; exact this
      have j3 := fun w' => at_arr w.heap.size 0 8 3 w' 363 228 Tryz.underlying363 Tryz.sizeOf228 (by omega) (3 : Int) rfl 3 rfl
      have c4 : wr.cell? ⟨w.heap.size, 4, none⟩ = some (.int .u32 ((o.e : Nat) : Int)) := by have := O1.out.cell0 4 (by omega); rw [← hol.out] at this; exact this
      have j4 := fun w' => at_arr w.heap.size 0 8 4 w' 363 228 Tryz.underlying363 Tryz.sizeOf228 (by omega) (4 : Int) rfl 4 rfl
      have c5 : wr.cell? ⟨w.heap.size, 5, none⟩ = some (.int .u32 ((o.f : Nat) : Int)) := by have := O1.out.cell0 5 (by omega); rw [← hol.out] at this; exact this
      have j5 := fun w' => at_arr w.heap.size 0 8 5 w' 363 228 Tryz.underlying363 Tryz.sizeOf228 (by omega) (5 : Int) rfl 5 rfl
      have c6 : wr.cell? ⟨w.heap.size, 6, none⟩ = some (.int .u32 ((o.g : Nat) : Int)) := by have := O1.out.cell0 6 (by omega); rw [← hol.out] at this; exact this
      have j6 := fun w' => at_arr w.heap.size 0 8 6 w' 363 228 Tryz.underlying363 Tryz.sizeOf228 (by omega) (6 : Int) rfl 6 rfl
      have c7 : wr.cell? ⟨w.heap.size, 7, none⟩ = some (.int .u32 ((o.h : Nat) : Int)) := by have := O1.out.cell0 7 (by omega); rw [← hol.out] at this; exact this
      have j7 := fun w' => at_arr w.heap.size 0 8 7 w' 363 228 Tryz.underlying363 Tryz.sizeOf228 (by omega) (7 : Int) rfl 7 rfl
      have hEl : EE.length = 8 := by rw [hEE.out]; rfl
      go_wp2_with (refine R1.out.wstoreV EE (by rw [hEl, List.length_replicate]) (t := 363) (by rw [List.length_replicate]; exact i45.out) rfl rfl rfl rfl rfl ?cells (Hid.out ?rest))
      case cells => rw [hEE.out, plus_list]; simp
      case rest =>
        refine Lib.hid ?_
        have RA := R1.out.store EE (by rw [hEl, List.length_replicate])
        go_wp2
        refine RA.ret (ty := 363) Tryz.underlying363 (by rw [hEl]; exact i45.out) rfl rfl rfl ⟨rfl, ?_⟩
        exact below_cells Z1.out (by omega) _ _
end Go.Proofs.YtbicfhilehllnaaGreatDoor
