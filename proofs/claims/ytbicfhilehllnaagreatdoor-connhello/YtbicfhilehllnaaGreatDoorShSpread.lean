/-
  What the program's own spread answers: of sixty-four bytes the sixty-four numbers that the chapter says, by value. No other condition.
-/
import Derived.Test.YtbicfhilehllnaaGreatDoorShArr
import Derived.Test.YtbicfhilehllnaaGreatDoorShWords
namespace Go.Proofs.YtbicfhilehllnaaGreatDoor
set_option maxRecDepth 100000
open Go.RowKit

/-- The program's own turn. -/
theorem turn_ok (x n : Nat) (w : World) (hx : x < 4294967296) (h0 : 0 < n) (h : n < 32) :
    Calls Tryz.prog 337 #[.int .u32 x, .int .u64 n] w fun e w' => e = .returned (.int .u32 (rot x n)) ∧ w = w' := by
  have b0 : (0 : Int) ≤ n := by omega
  have b1 : (n : Int) < 32 := by omega
  go_enter Tryz.func337, Tryz.ntmps337
  go_wp2
  go_ret
  exact ⟨by rw [rot_int x n hx]; rfl, rfl⟩
theorem NB.at {w : World} {B N : Nat} {l : List Nat} (h : NB w B N l) (hl : l.length = N) : At .u32 w B 0 l := by
  subst hl
  refine ⟨fun j v hv => ?_, fun j hj => ⟨?_, ?_⟩⟩
  · have hj : j < l.length := by have := (List.getElem?_eq_some_iff.1 hv).1; rwa [nv_length] at this
    rw [nv_get _ _ _ hj] at hv
    rw [Nat.zero_add, h.c j hj]
    exact hv
  · rw [Nat.zero_add, h.c j hj]; rfl
  · rw [Nat.zero_add, h.f j hj]
theorem At.nb0 {w : World} {B N : Nat} (h : At .u32 w B 0 (List.replicate N 0)) (hN : 0 < N) : NB w B N [] := by
  refine ⟨h.lt (by simpa using hN), fun j hj => ?_, fun j hj => h.free0 j (by simpa using hj)⟩
  rw [h.cell0 j (by simpa using hj)]
  simp [List.getD, hj]
theorem or_add (a b i : Nat) (h : b < 2 ^ i) (ha : a % 2 ^ i = 0) (hs : a + b < 4294967296) : bits .or .u32 (a : Int) (b : Int) = (a : Int) + b := by
  rw [u32_or_nat a b (by omega) (by omega)]
  have e : a ||| b = a + b := by
    obtain ⟨c, rfl⟩ := Nat.dvd_of_mod_eq_zero ha
    exact (Nat.two_pow_add_eq_or_of_lt h c).symm
  rw [e]
  omega
theorem slice_arr (B o n l h : Nat) (w : World) (t e : TypeId) (hu : Tryz.prog.underlying t = some (.array n e)) (hs : ∀ w, (sizeOf e).run Tryz.prog w = .ok 1 w) (hl : l ≤ h) (hh : h ≤ n) (hlt : l < n)
    (zl zh : Int) (hzl : zl = l) (hzh : zh = h) (p : Nat) (hp : p = o + l) (m c : Nat) (hm : m = h - l) (hc : c = n - l) :
    (Instr.sliceAt t (.pointer (some ⟨B, o, none⟩)) (some (.int .i64 zl)) (some (.int .i64 zh)) none).run Tryz.prog w = .ok (.slice (some ⟨B, p, none⟩) m c) w := by
  subst hzl hzh hp hm hc
  have h3 : ¬ n = l := by omega
  simp [Instr.sliceAt, run_underlying hu, Instr.sureAddr, Instr.sliceBounds, Instr.sliceBound, asIntOf, hs, h3, hl, hh, Addr.add_mid]
theorem at_u8s (B o N cap i : Nat) (w : World) (h : i < N) (z : Int) (hz : z = i) (p : Nat) (hp : p = o + i) :
    (Instr.indexAt 129 (.slice (some ⟨B, o, none⟩) N cap) (.int .i64 z)).run Tryz.prog w = .ok (.pointer (some ⟨B, p, none⟩)) w := by
  subst hz hp
  have e : Tryz.prog.elem 129 = 5 := by kernel_rfl
  rw [run_indexAt_slice (P := Tryz.prog) w 129 ⟨B, o, none⟩ N cap .i64 i (by rw [e]; exact Tryz.underlying129), if_pos (by omega), e]
  have s : (sizeOf 5).run Tryz.prog w = .ok 1 w := Tryz.sizeOf5 w
  rw [s]
  simp [Addr.add_mid]
theorem at_arr (B o n i : Nat) (w : World) (t e : TypeId) (hu : Tryz.prog.underlying t = some (.array n e)) (hs : ∀ w, (sizeOf e).run Tryz.prog w = .ok 1 w) (h : i < n) (z : Int) (hz : z = i) (p : Nat) (hp : p = o + i) :
    (Instr.indexAt t (.pointer (some ⟨B, o, none⟩)) (.int .i64 z)).run Tryz.prog w = .ok (.pointer (some ⟨B, p, none⟩)) w := by
  subst hz hp
  have h1 : (i : Int) < n := by omega
  simp [Instr.indexAt, run_underlying hu, Instr.sureAddr, asIntOf, hs, Addr.add_mid]
  intro h2
  omega
theorem heads_succ (b : List Nat) (k : Nat) : heads b (k + 1) = heads b k ++ [num4 b k] := by unfold heads; rw [List.range_succ, List.map_append]; rfl
theorem heads_length (b : List Nat) (k : Nat) : (heads b k).length = k := by unfold heads; simp
theorem byte_lt {b : List Nat} (h : ∀ x ∈ b, x < 256) (i : Nat) : b.getD i 0 < 256 := by
  rw [List.getD]
  cases e : b[i]? with
  | none => decide
  | some x => exact h x (List.mem_of_getElem? e)
set_option maxHeartbeats 4000000 in
set_option maxRecDepth 100000 in
theorem spread_ok (b : List Nat) (w : World) (hb : b.length = 64) (h256 : ∀ x ∈ b, x < 256) :
    Calls Tryz.prog 336 #[.agg (nv .u8 b).toArray] w fun e w' => e = .returned (.agg (nv .u32 (wrds b)).toArray) ∧ Below w.heap.size w w' := by
  obtain ⟨WW, hWW⟩ : ∃ WW, WW = wrds b := ⟨_, rfl⟩
  rw [← hWW]
  replace hWW : Hid _ := hWW
  go_enter Tryz.func336, Tryz.ntmps336
  go_wp2
  obtain ⟨B2, hB2⟩ : ∃ B2, B2 = w.heap.size + 1 + 1 := ⟨_, rfl⟩
  obtain ⟨B1, hB1⟩ : ∃ B1, B1 = w.heap.size + 1 := ⟨_, rfl⟩
  rw [← hB2, ← hB1]
  have hBs : w.heap.size < B1 ∧ B1 < B2 := by omega
  replace hB1 : Hid _ := hB1
  replace hB2 : Hid _ := hB2
  go_loopw [11] (fun i wr => ∃ k : Nat, k ≤ 16 ∧ i = .int .i64 k ∧ Hid (At .u8 wr w.heap.size 0 b) ∧ Hid (At .u32 wr B1 0 (List.replicate 64 0)) ∧ Hid (NB wr B2 64 (heads b k)) ∧ Hid (Below w.heap.size w wr)) (fun i _ => 16 - (intOf i).toNat)
  case atStart =>
    have hB1 := hB1.out
    have hB2 := hB2.out
    subst hB1 hB2
    have z1 := At.new .u32 (w.alloc (.cells (nv .u8 b).toArray 328)) (List.replicate 64 0) 376
    have z2 := At.new .u32 ((w.alloc (.cells (nv .u8 b).toArray 328)).alloc (.cells (nv .u32 (List.replicate 64 0)).toArray 376)) (List.replicate 64 0) 376
    simp only [World.size_alloc] at z1 z2
    refine ⟨0, Nat.zero_le _, rfl, ?_, ?_, ?_, ?_⟩
    · exact ((At.new .u8 w b 328).keep (Nat.lt_succ_self _) ((Below.refl _ _).alloc (by simp) _)).keep (Nat.lt_succ_self _) ((Below.refl _ _).alloc (by simp) _)
    · exact z1.keep (Nat.lt_succ_self _) ((Below.refl _ _).alloc (by simp) _)
    · exact z2.nb0 (by decide)
    · exact (((Below.refl _ _).alloc (Nat.le_refl _) _).alloc (by simp) _).alloc (by simp; omega) _
  case round =>
    obtain ⟨k, hk, rfl, Y, R, X, bel⟩ := hrel
    by_cases h16 : k < 16
    · have g1 : decide ((k : Int) < 16) = true := decide_eq_true (by omega)
      have ia := fun w' => slice_arr w.heap.size 0 64 (4 * k) (4 * k + 4) w' 328 5 Tryz.underlying328 Tryz.sizeOf5 (by omega) (by omega) (by omega) (4 * (k : Int)) (4 * (k : Int) + 4) (by omega) (by omega) (4 * k) (by omega) 4 (64 - 4 * k) (by omega) rfl
      go_wp2
      clear ia
      have c0 := X.out.c k (by omega)
      have f0 := X.out.f k (by omega)
      have y0 := Y.out.cell0 (4 * k) (by omega)
      have y1 := Y.out.cell0 (4 * k + 1) (by omega)
      have y2 := Y.out.cell0 (4 * k + 2) (by omega)
      have y3 := Y.out.cell0 (4 * k + 3) (by omega)
      have g0 := byte_lt h256 (4 * k)
      have g1' := byte_lt h256 (4 * k + 1)
      have g2 := byte_lt h256 (4 * k + 2)
      have g3 := byte_lt h256 (4 * k + 3)
      have i0 := fun w' => at_u8s w.heap.size (4 * k) 4 (64 - 4 * k) 0 w' (by omega) 0 rfl (4 * k) (by omega)
      have i1 := fun w' => at_u8s w.heap.size (4 * k) 4 (64 - 4 * k) 1 w' (by omega) 1 rfl (4 * k + 1) (by omega)
      have i2 := fun w' => at_u8s w.heap.size (4 * k) 4 (64 - 4 * k) 2 w' (by omega) 2 rfl (4 * k + 2) (by omega)
      have i3 := fun w' => at_u8s w.heap.size (4 * k) 4 (64 - 4 * k) 3 w' (by omega) 3 rfl (4 * k + 3) (by omega)
      have ja := fun w' => at_arr B2 0 64 k w' 376 228 Tryz.underlying376 Tryz.sizeOf228 (by omega) k rfl k (by omega)
      have hN := heads_succ b k
      have hL := heads_length b k
      have X2 : Hid (NB (wr.setCell ⟨B2, k, none⟩ (.int .u32 ((num4 b k : Nat) : Int))) B2 64 (heads b (k + 1))) := by
        have := X.out.put (by omega) (num4 b k)
        rw [hL] at this
        rw [hN]
        exact this
      have Z2 : Hid (Below w.heap.size w (wr.setCell ⟨B2, k, none⟩ (.int .u32 ((num4 b k : Nat) : Int)))) := bel.out.setCell (p := ⟨B2, k, none⟩) (by show w.heap.size ≤ B2; omega) _
      have Y2 : Hid (At .u8 (wr.setCell ⟨B2, k, none⟩ (.int .u32 ((num4 b k : Nat) : Int))) w.heap.size 0 b) := Y.out.beside _ _ _ (.inl (by omega))
      have R2 : Hid (At .u32 (wr.setCell ⟨B2, k, none⟩ (.int .u32 ((num4 b k : Nat) : Int))) B1 0 (List.replicate 64 0)) := R.out.beside _ _ _ (.inl (by omega))
      clear hN hL X bel Y R
      have hv : ((num4 b k : Nat) : Int) = (b.getD (4 * k) 0 : Int) * 16777216 + (b.getD (4 * k + 1) 0 : Int) * 65536 + (b.getD (4 * k + 2) 0 : Int) * 256 + (b.getD (4 * k + 3) 0 : Int) := by unfold num4; omega
      rw [hv] at X2 Z2 Y2 R2
      generalize b.getD (4 * k) 0 = b0 at *
      generalize b.getD (4 * k + 1) 0 = b1 at *
      generalize b.getD (4 * k + 2) 0 = b2 at *
      generalize b.getD (4 * k + 3) 0 = b3 at *
      clear hv
      have u0 : IntKind.u32.wrap (b0 : Int) = b0 := by simp [IntKind.wrap, IntKind.bits, IntKind.signed]; omega
      have u1 : IntKind.u32.wrap (b1 : Int) = b1 := by simp [IntKind.wrap, IntKind.bits, IntKind.signed]; omega
      have u2 : IntKind.u32.wrap (b2 : Int) = b2 := by simp [IntKind.wrap, IntKind.bits, IntKind.signed]; omega
      have u3 : IntKind.u32.wrap (b3 : Int) = b3 := by simp [IntKind.wrap, IntKind.bits, IntKind.signed]; omega
      have v0 : IntKind.u32.wrap ((b0 : Int) * 16777216) = b0 * 16777216 := by simp [IntKind.wrap, IntKind.bits, IntKind.signed]; omega
      have v1 : IntKind.u32.wrap ((b1 : Int) * 65536) = b1 * 65536 := by simp [IntKind.wrap, IntKind.bits, IntKind.signed]; omega
      have v2 : IntKind.u32.wrap ((b2 : Int) * 256) = b2 * 256 := by simp [IntKind.wrap, IntKind.bits, IntKind.signed]; omega
      have z1 : bits .or .u32 ((b0 : Int) * 16777216) (b1 * 65536) = b0 * 16777216 + b1 * 65536 := by
        have := or_add (b0 * 16777216) (b1 * 65536) 24 (by omega) (by omega) (by omega)
        simpa using this
      have z2 : bits .or .u32 ((b0 : Int) * 16777216 + b1 * 65536) (b2 * 256) = b0 * 16777216 + b1 * 65536 + b2 * 256 := by
        have := or_add (b0 * 16777216 + b1 * 65536) (b2 * 256) 16 (by omega) (by omega) (by omega)
        simpa using this
      have z3 : bits .or .u32 ((b0 : Int) * 16777216 + b1 * 65536 + b2 * 256) b3 = b0 * 16777216 + b1 * 65536 + b2 * 256 + b3 := by
        have := or_add (b0 * 16777216 + b1 * 65536 + b2 * 256) b3 8 (by omega) (by omega) (by omega)
        simpa using this
      go_still_tail 24, (by kernel_rfl)
      clear u0 u1 u2 u3 v0 v1 v2 z1 z2 z3 i0 i1 i2 i3 ja y0 y1 y2 y3
      refine (show wpList _ _ _ _ _ wr.drew from ?_)
      go_wp2
      go_roundw
      case rel => exact ⟨k + 1, by omega, by go_num, Y2.out.drew, R2.out.drew, X2.out.keep X2.out.lt (dr _ _), Z2.out.trans (dr _ _)⟩
      case measure => simp [intOf]; omega
    · have ek : (k : Int) = 16 := by omega
      rw [ek]
      clear ek
      obtain rfl : k = 16 := by omega
      have hW : W32 (heads b 16) := heads_w32 h256 16
      have hL : (heads b 16).length = 16 := by unfold heads; simp
      generalize hH : heads b 16 = H at *
      replace hH : Hid _ := hH
      go_wp2
      go_loopw [6] (fun i wr => ∃ k : Nat, k ≤ 48 ∧ i = .int .i64 ((k : Int) + 16) ∧ Hid (At .u32 wr B1 0 (List.replicate 64 0)) ∧ Hid (NB wr B2 64 (ext H k)) ∧ Hid (Below w.heap.size w wr)) (fun i _ => 64 - (intOf i).toNat)
      case atStart => exact ⟨0, Nat.zero_le _, rfl, R, X, bel⟩
      case round =>
        clear X bel R Y
        obtain ⟨k, hk, rfl, R, X, bel⟩ := hrel
        by_cases h48 : k < 48
        · have g1 : decide ((k : Int) + 16 < 64) = true := decide_eq_true (by omega)
          have hl := ext_length H k
          rw [hL] at hl
          have hw := ext_w32 hW k
          have hx := w32_get hw (k + 1)
          have hy := w32_get hw (k + 14)
          have c1 := X.out.c (k + 1) (by omega)
          have c2 := X.out.c (k + 14) (by omega)
          have p1 : ((k : Int) + 16 - 15) = k + 1 := by omega
          have p2 : ((k : Int) + 16 - 2) = k + 14 := by omega
          have ns : nxt (ext H k) = (ss1 ((ext H k).getD (k + 14) 0) + (ext H k).getD (k + 9) 0 + ss0 ((ext H k).getD (k + 1) 0) + (ext H k).getD k 0) % 4294967296 := by
            unfold nxt
            rw [hl, show 16 + k - 2 = k + 14 by omega, show 16 + k - 7 = k + 9 by omega, show 16 + k - 15 = k + 1 by omega, show 16 + k - 16 = k by omega]
          have i1 := fun w' => at_arr B2 0 64 (k + 1) w' 376 228 Tryz.underlying376 Tryz.sizeOf228 (by omega) ((k : Int) + 1) (by omega) (k + 1) (by omega)
          have i2 := fun w' => at_arr B2 0 64 (k + 14) w' 376 228 Tryz.underlying376 Tryz.sizeOf228 (by omega) ((k : Int) + 14) (by omega) (k + 14) (by omega)
          generalize hxx : (ext H k).getD (k + 1) 0 = x at *
          generalize hyy : (ext H k).getD (k + 14) 0 = y at *
          replace hxx : Hid _ := hxx
          replace hyy : Hid _ := hyy
          go_wp2
          go_quiet (fail)
          have R0 : Hid (At .u32 (wr.drewN nq) B1 0 (List.replicate 64 0)) := R.out.of_block rfl
          have X0 : Hid (NB (wr.drewN nq) B2 64 (ext H k)) := X.out.keep X.out.lt ⟨rfl, rfl, rfl, Nat.le_refl _, fun _ _ => rfl⟩
          have Z0 : Hid (Below w.heap.size w (wr.drewN nq)) := bel.out.trans ⟨rfl, rfl, rfl, Nat.le_refl _, fun _ _ => rfl⟩
          clear X bel c1 c2 p1 p2 i1 i2 R
          generalize wr.drewN nq = w0 at *
          have T7 : Hid (∀ w, Calls Tryz.prog 337 #[.int .u32 (x : Nat), .int .u64 7] w fun e w' => e = .returned (.int .u32 (rot x 7 : Nat)) ∧ w = w') := fun w => turn_ok x 7 w hx (by decide) (by decide)
          have T18 : Hid (∀ w, Calls Tryz.prog 337 #[.int .u32 (x : Nat), .int .u64 18] w fun e w' => e = .returned (.int .u32 (rot x 18 : Nat)) ∧ w = w') := fun w => turn_ok x 18 w hx (by decide) (by decide)
          have T17 : Hid (∀ w, Calls Tryz.prog 337 #[.int .u32 (y : Nat), .int .u64 17] w fun e w' => e = .returned (.int .u32 (rot y 17 : Nat)) ∧ w = w') := fun w => turn_ok y 17 w hy (by decide) (by decide)
          have T19 : Hid (∀ w, Calls Tryz.prog 337 #[.int .u32 (y : Nat), .int .u64 19] w fun e w' => e = .returned (.int .u32 (rot y 19 : Nat)) ∧ w = w') := fun w => turn_ok y 19 w hy (by decide) (by decide)
          have xa := xor_int (rot x 7) (rot x 18) (rot_lt _ hx) (rot_lt _ hx)
          have xb : bits .xor .u32 ((rot x 7 ^^^ rot x 18 : Nat) : Int) ((x : Int) / 8) = ((ss0 x : Nat) : Int) := by
            rw [show (x : Int) / 8 = ((x / 8 : Nat) : Int) by omega]
            exact xor_int _ _ (xor_lt32 (rot_lt _ hx) (rot_lt _ hx)) (div_lt32 _ hx)
          have ya := xor_int (rot y 17) (rot y 19) (rot_lt _ hy) (rot_lt _ hy)
          have yb : bits .xor .u32 ((rot y 17 ^^^ rot y 19 : Nat) : Int) ((y : Int) / 1024) = ((ss1 y : Nat) : Int) := by
            rw [show (y : Int) / 1024 = ((y / 1024 : Nat) : Int) by omega]
            exact xor_int _ _ (xor_lt32 (rot_lt _ hy) (rot_lt _ hy)) (div_lt32 _ hy)
          generalize rot x 7 ^^^ rot x 18 = xs at *
          generalize rot y 17 ^^^ rot y 19 = ys at *
          generalize rot x 7 = r7 at *
          generalize rot x 18 = r18 at *
          generalize rot y 17 = r17 at *
          generalize rot y 19 = r19 at *
          generalize ss0 x = s0 at *
          generalize ss1 y = s1 at *
          go_wp2_with fail
          refine (T7.out _).mono ?_
          rintro e w1 ⟨rfl, rfl⟩
          clear T7
          go_wp2_with fail
          refine (T18.out _).mono ?_
          rintro e w1 ⟨rfl, rfl⟩
          clear T18
          go_wp2_with fail
          refine (T17.out _).mono ?_
          rintro e w1 ⟨rfl, rfl⟩
          clear T17
          go_wp2_with fail
          refine (T19.out _).mono ?_
          rintro e w1 ⟨rfl, rfl⟩
          clear T19
          go_wp2_with fail
          have X5 : Hid (NB (w0.setCell ⟨B2, k + 16, none⟩ (.int .u32 ((nxt (ext H k) : Nat) : Int))) B2 64 (ext H (k + 1))) := by
            have := X0.out.put (by omega) (nxt (ext H k))
            rw [hl, show 16 + k = k + 16 by omega] at this
            exact this
          have Z5 : Hid (Below w.heap.size w (w0.setCell ⟨B2, k + 16, none⟩ (.int .u32 ((nxt (ext H k) : Nat) : Int)))) := Z0.out.setCell (p := ⟨B2, k + 16, none⟩) (by show w.heap.size ≤ B2; omega) _
          have R5 : Hid (At .u32 (w0.setCell ⟨B2, k + 16, none⟩ (.int .u32 ((nxt (ext H k) : Nat) : Int))) B1 0 (List.replicate 64 0)) := R0.out.beside _ _ _ (.inl (by omega))
          have l9 : w0.cell? ⟨B2, k + 9, none⟩ = some (.int .u32 (((ext H k).getD (k + 9) 0 : Nat) : Int)) := X0.out.c (k + 9) (by omega)
          have l0 : w0.cell? ⟨B2, k, none⟩ = some (.int .u32 (((ext H k).getD k 0 : Nat) : Int)) := X0.out.c k (by omega)
          have d0 := X0.out.c (k + 16) (by omega)
          have f0 := X0.out.f (k + 16) (by omega)
          clear X0 Z0 R0 xa xb ya yb
          generalize (ext H k).getD (k + 9) 0 = v9 at *
          generalize (ext H k).getD k 0 = v0 at *
          have ns' : nxt (ext H k) = (((s1 + v9) % 4294967296 + s0) % 4294967296 + v0) % 4294967296 := by rw [ns]; omega
          rw [ns'] at X5 Z5 R5
          have m9 : IntKind.i64.wrap ((k : Int) + 16 - 7) = k + 9 := by simp [IntKind.wrap, IntKind.bits, IntKind.signed]; omega
          have m0 : IntKind.i64.wrap (k : Int) = k := by simp [IntKind.wrap, IntKind.bits, IntKind.signed]; omega
          have m0' : IntKind.i64.wrap ((k : Int) + 16 - 16) = k := by simp [IntKind.wrap, IntKind.bits, IntKind.signed]; omega
          have i9 := fun w' => at_arr B2 0 64 (k + 9) w' 376 228 Tryz.underlying376 Tryz.sizeOf228 (by omega) ((k : Int) + 9) (by omega) (k + 9) (by omega)
          have i0 := fun w' => at_arr B2 0 64 k w' 376 228 Tryz.underlying376 Tryz.sizeOf228 (by omega) (k : Int) rfl k (by omega)
          have i16 := fun w' => at_arr B2 0 64 (k + 16) w' 376 228 Tryz.underlying376 Tryz.sizeOf228 (by omega) ((k : Int) + 16) (by omega) (k + 16) (by omega)
          have a1 := add_int s1 v9
          generalize (s1 + v9) % 4294967296 = A1 at *
          have a2 := add_int A1 s0
          generalize (A1 + s0) % 4294967296 = A2 at *
          have a3 := add_int A2 v0
          generalize (A2 + v0) % 4294967296 = A3 at *
          clear ns ns'
          go_still_tail 15, (by kernel_rfl)
          clear m9 m0 m0' i9 i0 i16 a1 a2 a3 l9 l0
          refine (show wpList _ _ _ _ _ w0.drew from ?_)
          go_wp2
          go_roundw
          case rel => exact ⟨k + 1, by omega, by go_num, R5.out.drew, X5.out.keep X5.out.lt (dr _ _), Z5.out.trans (dr _ _)⟩
          case measure => simp [intOf]; omega
        · obtain rfl : k = 48 := by omega
          have e : WW = ext H 48 := by rw [hWW.out]; unfold wrds; rw [hH.out]
          have hlen : (ext H 48).length = 64 := by rw [ext_length, hL]
          generalize ext H 48 = L at *
          replace e : Hid _ := e
          have XA : Hid (At .u32 wr B2 0 L) := X.out.at hlen
          clear X
          go_wp2_with (first
            | (refine XA.out.wload (t := 376) Tryz.underlying376 (by rw [hlen]; kernel_rfl) rfl rfl rfl ?_)
            | (refine R.out.wstore L (by rw [hlen, List.length_replicate]) (t := 376) (by rw [List.length_replicate]; kernel_rfl) rfl rfl rfl rfl rfl ?_))
          have RA := R.out.store L (by rw [hlen, List.length_replicate])
          refine RA.ret (ty := 376) Tryz.underlying376 (by rw [hlen]; kernel_rfl) rfl rfl rfl ⟨by rw [e.out], ?_⟩
          exact below_cells bel.out (by omega) _ _
end Go.Proofs.YtbicfhilehllnaaGreatDoor
