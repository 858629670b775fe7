/-
  What the document's own words answers: of sixty-four bytes the sixty-four numbers that the chapter says, in a slice of its own. No other condition.
-/
import Derived.Test.YtbicfhilehllnaaGreatDoorShTurn
import Derived.Laws.MakeOwn
import Derived.StillTailTactics
namespace Go.Proofs.YtbicfhilehllnaaGreatDoor
set_option maxRecDepth 100000
open Go.RowKit

/-- Numbers in a block of N, noughts behind them. -/
structure NB (w : World) (B N : Nat) (l : List Nat) : Prop where
  lt : B < w.heap.size
  c : ∀ j, j < N → w.cell? ⟨B, j, none⟩ = some (.int .u32 (l.getD j 0 : Nat))
  f : ∀ j, j < N → w.frozen? ⟨B, j, none⟩ = false
theorem NB.keep {w w' : World} {B N C : Nat} {l : List Nat} (h : NB w B N l) (hB : B < C) (b : Below C w w') : NB w' B N l :=
  ⟨Nat.lt_of_lt_of_le h.lt b.size, fun j hj => (b.cell hB).trans (h.c j hj), fun j hj => (b.frozen hB).trans (h.f j hj)⟩
theorem NB.put {w : World} {B N : Nat} {l : List Nat} (h : NB w B N l) (hk : l.length < N) (x : Nat) : NB (w.setCell ⟨B, l.length, none⟩ (.int .u32 (x : Nat))) B N (l ++ [x]) := by
  refine ⟨by simpa using h.lt, fun j hj => ?_, fun j hj => by simpa using h.f j hj⟩
  by_cases e : j = l.length
  · subst e
    rw [World.cell?_setCell_same _ _ _ (h.c _ hk)]
    simp [List.getD]
  · rw [World.cell?_setCell_other _ _ _ _ (by intro x; injection x with _ x; exact e x.symm), h.c j hj]
    congr 3
    rcases Nat.lt_or_ge j l.length with q | q
    · simp [List.getD, List.getElem?_append_left q]
    · rw [List.getD, List.getD, List.getElem?_eq_none q, List.getElem?_eq_none (by simp; omega)]
theorem made_u32 (N j : Nat) (h : j < N) : (madeCells #[.int .u32 0] N)[j]? = some (.int .u32 0) := by
  unfold madeCells
  simp [h, Nat.mod_one]
theorem nb_new (w : World) (N : Nat) (e : TypeId) : NB (w.alloc (.cells (madeCells #[.int .u32 0] N) e)) w.heap.size N [] := by
  refine ⟨by simp, fun j hj => ?_, fun j hj => by simp⟩
  rw [World.cell?_alloc_new, made_u32 N j hj]
  rfl
theorem dr (w : World) (B : Nat) : Below B w w.drew := ⟨rfl, rfl, rfl, Nat.le_refl _, fun _ _ => rfl⟩
theorem info_u32 : ∃ i, Tryz.prog.info? 228 = some i ∧ i.zero = some (.int .u32 0) ∧ i.size = 1 ∧ i.bytes = 4 := by
  have h : (Tryz.prog.info? 228).map (fun i => (i.zero, i.size, i.bytes)) = some (some (.int .u32 0), 1, 4) := by kernel_rfl
  obtain ⟨i, hi, e⟩ := Option.map_eq_some_iff.1 h
  simp only [Prod.mk.injEq] at e
  exact ⟨i, hi, e.1, e.2.1, e.2.2⟩
/-- A text's bytes. -/
def nb (s : ByteArray) : List Nat := s.data.toList.map UInt8.toNat
theorem nb_lt (s : ByteArray) : ∀ x ∈ nb s, x < 256 := by
  intro x hx
  obtain ⟨b, _, rfl⟩ := List.mem_map.1 hx
  exact b.toNat_lt
theorem nb_get (s : ByteArray) (i : Nat) (h : i < s.size) : s[i].toNat = (nb s).getD i 0 := by
  unfold nb
  have h' : i < s.data.toList.length := by simpa using h
  rw [List.getD, List.getElem?_map, List.getElem?_eq_getElem h']
  rfl
theorem idx_at (s : ByteArray) (i : Nat) (x : Int) (w : World) (h : i < s.size) (hx : ((s[i].toNat : Nat) : Int) = x) (z : Int) (hz : z = i) :
    (Instr.index 9 (.string s) (.int .i64 z)).run Tryz.prog w = .ok (.int .u8 x) w := by
  subst hz
  rw [run_index_string (P := Tryz.prog) w 9 s .i64 i Tryz.underlying9]
  have h1 : (i : Int) < s.size := by omega
  simp [h1, hx]
theorem xor_int (a b : Nat) (ha : a < 4294967296) (hb : b < 4294967296) : bits .xor .u32 (a : Int) (b : Int) = ((a ^^^ b : Nat) : Int) := u32_xor_nat a b ha hb
theorem add_int (a b : Nat) : IntKind.u32.wrap ((a : Int) + b) = (((a + b) % 4294967296 : Nat) : Int) := by
  simp [IntKind.wrap, IntKind.bits, IntKind.signed]
theorem at_u32 (B N cap i : Nat) (w : World) (h : i < N) (z : Int) (hz : z = i) :
    (Instr.indexAt 285 (.slice (some ⟨B, 0, none⟩) N cap) (.int .i64 z)).run Tryz.prog w = .ok (.pointer (some ⟨B, i, none⟩)) w := by
  subst hz
  have e : Tryz.prog.elem 285 = 228 := by kernel_rfl
  rw [run_indexAt_slice (P := Tryz.prog) w 285 ⟨B, 0, none⟩ N cap .i64 i (by rw [e]; exact Tryz.underlying285), if_pos (by omega), e]
  have s : (sizeOf 228).run Tryz.prog w = .ok 1 w := Tryz.sizeOf228 w
  rw [s]
  simp [Addr.add]
  exact fun h => h.symm
set_option maxRecDepth 100000 in
set_option maxHeartbeats 4000000 in
theorem rwords_ok (s : ByteArray) (w : World) (hs : s.size = 64) :
    Calls Tryz.prog 265 #[.string s] w fun e w' => ∃ B, e = .returned (.slice (some ⟨B, 0, none⟩) 64 64) ∧ NB w' B 64 (wrds (nb s)) ∧ w.heap.size ≤ B ∧ Below w.heap.size w w' := by
  obtain ⟨i0, hi, hz0, hz1, hz2⟩ := info_u32
  have hmk : ∀ w : World, (Instr.makeSlice 285 (.int .i64 64) (.int .i64 64)).run Tryz.prog w = .ok (.slice (some ⟨w.heap.size, 0, none⟩) 64 64) (w.alloc (.cells (madeCells #[.int .u32 0] 64) 228)) := fun w => by
    have := run_make (P := Tryz.prog) w 285 228 i0 (.int .u32 0) Tryz.underlying285 hi hz0 .i64 .i64 64 64 (by decide) (by decide) (by rw [hz2]; decide) (by decide)
    rw [hz1] at this
    exact this
  clear hi hz0 hz1 hz2
  go_enter Tryz.func265, Tryz.ntmps265
  go_wp2
  clear hmk
  go_loopw [4] (fun i wr => ∃ k : Nat, k ≤ 16 ∧ i = .int .i64 k ∧ Hid (NB wr w.heap.size 64 (heads (nb s) k)) ∧ Hid (Below w.heap.size w wr)) (fun i _ => 16 - (intOf i).toNat)
  case atStart => exact ⟨0, Nat.zero_le _, rfl, nb_new w 64 _, (Below.refl _ _).alloc (Nat.le_refl _) _⟩
  case round =>
    obtain ⟨k, hk, rfl, X, bel⟩ := hrel
    by_cases h16 : k < 16
    · have g1 : decide ((k : Int) < 16) = true := decide_eq_true (by omega)
      have c0 := X.out.c k (by omega)
      have f0 := X.out.f k (by omega)
      have hN : heads (nb s) (k + 1) = heads (nb s) k ++ [num4 (nb s) k] := by unfold heads; rw [List.range_succ, List.map_append]; rfl
      have hL : (heads (nb s) k).length = k := by unfold heads; simp
      have X2 : Hid (NB (wr.setCell ⟨w.heap.size, k, none⟩ (.int .u32 ((num4 (nb s) k : Nat) : Int))) w.heap.size 64 (heads (nb s) (k + 1))) := by
        have := X.out.put (by omega) (num4 (nb s) k)
        rw [hL] at this
        rw [hN]
        exact this
      have Z2 : Hid (Below w.heap.size w (wr.setCell ⟨w.heap.size, k, none⟩ (.int .u32 ((num4 (nb s) k : Nat) : Int)))) := bel.out.setCell (p := ⟨w.heap.size, k, none⟩) (Nat.le_refl _) _
      clear hN hL X bel
      have g : ∀ i, (nb s).getD i 0 < 256 := fun i => by
        rw [List.getD]
        cases e : (nb s)[i]? with
        | none => decide
        | some x => exact nb_lt s x (List.mem_of_getElem? e)
      have g0 := g (4 * k)
      have g1' := g (4 * k + 1)
      have g2 := g (4 * k + 2)
      have g3 := g (4 * k + 3)
      have hv : ((num4 (nb s) k : Nat) : Int) = ((nb s).getD (4 * k) 0 : Int) * 16777216 + ((nb s).getD (4 * k + 1) 0 : Int) * 65536 + ((nb s).getD (4 * k + 2) 0 : Int) * 256 + ((nb s).getD (4 * k + 3) 0 : Int) := by unfold num4; omega
      rw [hv] at X2 Z2
      have y0 : ∀ h : 4 * k < s.size, ((s[4 * k].toNat : Nat) : Int) = ((nb s).getD (4 * k) 0 : Int) := fun h => by rw [nb_get s _ h]
      have y1 : ∀ h : 4 * k + 1 < s.size, ((s[4 * k + 1].toNat : Nat) : Int) = ((nb s).getD (4 * k + 1) 0 : Int) := fun h => by rw [nb_get s _ h]
      have y2 : ∀ h : 4 * k + 2 < s.size, ((s[4 * k + 2].toNat : Nat) : Int) = ((nb s).getD (4 * k + 2) 0 : Int) := fun h => by rw [nb_get s _ h]
      have y3 : ∀ h : 4 * k + 3 < s.size, ((s[4 * k + 3].toNat : Nat) : Int) = ((nb s).getD (4 * k + 3) 0 : Int) := fun h => by rw [nb_get s _ h]
      generalize (nb s).getD (4 * k) 0 = b0 at *
      generalize (nb s).getD (4 * k + 1) 0 = b1 at *
      generalize (nb s).getD (4 * k + 2) 0 = b2 at *
      generalize (nb s).getD (4 * k + 3) 0 = b3 at *
      clear hv g
      have q0 : (4 : Int) * k < s.size := by omega
      have q1 : (4 : Int) * k + 1 < s.size := by omega
      have q2 : (4 : Int) * k + 2 < s.size := by omega
      have q3 : (4 : Int) * k + 3 < s.size := by omega
      have m0 : IntKind.i64.wrap (4 * (k : Int)) = 4 * k := by simp [IntKind.wrap, IntKind.bits, IntKind.signed]; omega
      have m1 : IntKind.i64.wrap (4 * (k : Int) + 1) = 4 * k + 1 := by simp [IntKind.wrap, IntKind.bits, IntKind.signed]; omega
      have m2 : IntKind.i64.wrap (4 * (k : Int) + 2) = 4 * k + 2 := by simp [IntKind.wrap, IntKind.bits, IntKind.signed]; omega
      have m3 : IntKind.i64.wrap (4 * (k : Int) + 3) = 4 * k + 3 := by simp [IntKind.wrap, IntKind.bits, IntKind.signed]; omega
      have u0 : IntKind.u32.wrap (b0 : Int) = b0 := by simp [IntKind.wrap, IntKind.bits, IntKind.signed]; omega
      have u1 : IntKind.u32.wrap (b1 : Int) = b1 := by simp [IntKind.wrap, IntKind.bits, IntKind.signed]; omega
      have u2 : IntKind.u32.wrap (b2 : Int) = b2 := by simp [IntKind.wrap, IntKind.bits, IntKind.signed]; omega
      have u3 : IntKind.u32.wrap (b3 : Int) = b3 := by simp [IntKind.wrap, IntKind.bits, IntKind.signed]; omega
      have v0 : IntKind.u32.wrap ((b0 : Int) * 16777216) = b0 * 16777216 := by simp [IntKind.wrap, IntKind.bits, IntKind.signed]; omega
      have v1 : IntKind.u32.wrap ((b1 : Int) * 65536) = b1 * 65536 := by simp [IntKind.wrap, IntKind.bits, IntKind.signed]; omega
      have v2 : IntKind.u32.wrap ((b2 : Int) * 256) = b2 * 256 := by simp [IntKind.wrap, IntKind.bits, IntKind.signed]; omega
      have z1 : IntKind.u32.wrap ((b0 : Int) * 16777216 + b1 * 65536) = b0 * 16777216 + b1 * 65536 := by simp [IntKind.wrap, IntKind.bits, IntKind.signed]; omega
      have z2 : IntKind.u32.wrap ((b0 : Int) * 16777216 + b1 * 65536 + b2 * 256) = b0 * 16777216 + b1 * 65536 + b2 * 256 := by simp [IntKind.wrap, IntKind.bits, IntKind.signed]; omega
      have z3 : IntKind.u32.wrap ((b0 : Int) * 16777216 + b1 * 65536 + b2 * 256 + b3) = b0 * 16777216 + b1 * 65536 + b2 * 256 + b3 := by simp [IntKind.wrap, IntKind.bits, IntKind.signed]; omega
      have i0 := fun w => idx_at s (4 * k) b0 w (by omega) (y0 (by omega)) (4 * (k : Int)) (by omega)
      have i1 := fun w => idx_at s (4 * k + 1) b1 w (by omega) (y1 (by omega)) (4 * (k : Int) + 1) (by omega)
      have i2 := fun w => idx_at s (4 * k + 2) b2 w (by omega) (y2 (by omega)) (4 * (k : Int) + 2) (by omega)
      have i3 := fun w => idx_at s (4 * k + 3) b3 w (by omega) (y3 (by omega)) (4 * (k : Int) + 3) (by omega)
      have ia := fun w' => at_u32 w.heap.size 64 64 k w' (by omega) k rfl
      clear y0 y1 y2 y3
      go_wp2
      go_still_tail 32, (by kernel_rfl)
      clear m0 m1 m2 m3 u0 u1 u2 u3 v0 v1 v2 z1 z2 z3 i0 i1 i2 i3 ia
      refine (show wpList _ _ _ _ _ wr.drew from ?_)
      go_wp2
      go_roundw
      case rel => exact ⟨k + 1, by omega, by go_num, X2.out.keep X2.out.lt (dr _ _), Z2.out.trans (dr _ _)⟩
      case measure => simp [intOf]; omega
    · have ek : (k : Int) = 16 := by omega
      rw [ek]
      clear ek
      obtain rfl : k = 16 := by omega
      have hW : W32 (heads (nb s) 16) := heads_w32 (nb_lt s) 16
      have hL : (heads (nb s) 16).length = 16 := by unfold heads; simp
      generalize hH : heads (nb s) 16 = H at *
      go_wp2
      go_loopw [5] (fun i wr => ∃ k : Nat, k ≤ 48 ∧ i = .int .i64 ((k : Int) + 16) ∧ Hid (NB wr w.heap.size 64 (ext H k)) ∧ Hid (Below w.heap.size w wr)) (fun i _ => 64 - (intOf i).toNat)
      case atStart => exact ⟨0, Nat.zero_le _, rfl, X, bel⟩
      case round =>
        clear X bel
        obtain ⟨k, hk, rfl, X, bel⟩ := hrel
        by_cases h48 : k < 48
        · have g1 : decide ((k : Int) + 16 < 64) = true := decide_eq_true (by omega)
          have hl := ext_length H k
          rw [hL] at hl
          have hw := ext_w32 hW k
          have hx := w32_get hw (k + 1)
          have hy := w32_get hw (k + 14)
          have c1 := X.out.c (k + 1) (by omega)
          have c2 := X.out.c (k + 14) (by omega)
          have p1 : ((k : Int) + 16 - 15) = k + 1 := by omega
          have p2 : ((k : Int) + 16 - 2) = k + 14 := by omega
          have ns : nxt (ext H k) = (ss1 ((ext H k).getD (k + 14) 0) + (ext H k).getD (k + 9) 0 + ss0 ((ext H k).getD (k + 1) 0) + (ext H k).getD k 0) % 4294967296 := by
            unfold nxt
            rw [hl, show 16 + k - 2 = k + 14 by omega, show 16 + k - 7 = k + 9 by omega, show 16 + k - 15 = k + 1 by omega, show 16 + k - 16 = k by omega]
          generalize hxx : (ext H k).getD (k + 1) 0 = x at *
          generalize hyy : (ext H k).getD (k + 14) 0 = y at *
          go_wp2
          go_quiet (fail)
          have X0 : Hid (NB (wr.drewN nq) w.heap.size 64 (ext H k)) := X.out.keep X.out.lt ⟨rfl, rfl, rfl, Nat.le_refl _, fun _ _ => rfl⟩
          have Z0 : Hid (Below w.heap.size w (wr.drewN nq)) := bel.out.trans ⟨rfl, rfl, rfl, Nat.le_refl _, fun _ _ => rfl⟩
          clear X bel c1 c2 p1 p2
          generalize wr.drewN nq = w0 at *
          have T7 : Hid (∀ w, Calls Tryz.prog 266 #[.int .u32 (x : Nat), .int .i64 7] w fun e w' => e = .returned (.int .u32 (rot x 7 : Nat)) ∧ Below w.heap.size w w') := fun w => rturn_ok x 7 w hx (by decide) (by decide)
          have T18 : Hid (∀ w, Calls Tryz.prog 266 #[.int .u32 (x : Nat), .int .i64 18] w fun e w' => e = .returned (.int .u32 (rot x 18 : Nat)) ∧ Below w.heap.size w w') := fun w => rturn_ok x 18 w hx (by decide) (by decide)
          have T17 : Hid (∀ w, Calls Tryz.prog 266 #[.int .u32 (y : Nat), .int .i64 17] w fun e w' => e = .returned (.int .u32 (rot y 17 : Nat)) ∧ Below w.heap.size w w') := fun w => rturn_ok y 17 w hy (by decide) (by decide)
          have T19 : Hid (∀ w, Calls Tryz.prog 266 #[.int .u32 (y : Nat), .int .i64 19] w fun e w' => e = .returned (.int .u32 (rot y 19 : Nat)) ∧ Below w.heap.size w w') := fun w => rturn_ok y 19 w hy (by decide) (by decide)
          have xa := xor_int (rot x 7) (rot x 18) (rot_lt _ hx) (rot_lt _ hx)
          have xb : bits .xor .u32 ((rot x 7 ^^^ rot x 18 : Nat) : Int) ((x : Int) / 8) = ((ss0 x : Nat) : Int) := by
            rw [show (x : Int) / 8 = ((x / 8 : Nat) : Int) by omega]
            exact xor_int _ _ (xor_lt32 (rot_lt _ hx) (rot_lt _ hx)) (div_lt32 _ hx)
          have ya := xor_int (rot y 17) (rot y 19) (rot_lt _ hy) (rot_lt _ hy)
          have yb : bits .xor .u32 ((rot y 17 ^^^ rot y 19 : Nat) : Int) ((y : Int) / 1024) = ((ss1 y : Nat) : Int) := by
            rw [show (y : Int) / 1024 = ((y / 1024 : Nat) : Int) by omega]
            exact xor_int _ _ (xor_lt32 (rot_lt _ hy) (rot_lt _ hy)) (div_lt32 _ hy)
          generalize rot x 7 ^^^ rot x 18 = xs at *
          generalize rot y 17 ^^^ rot y 19 = ys at *
          generalize rot x 7 = r7 at *
          generalize rot x 18 = r18 at *
          generalize rot y 17 = r17 at *
          generalize rot y 19 = r19 at *
          generalize ss0 x = s0 at *
          generalize ss1 y = s1 at *
          go_wp2_with fail
          refine (T7.out _).mono ?_
          rintro e w1 ⟨rfl, b1⟩
          have X1 : Hid (NB w1 w.heap.size 64 (ext H k)) := X0.out.keep X0.out.lt b1
          have Z1 : Hid (Below w.heap.size w w1) := Z0.out.trans (b1.mono Z0.out.size)
          clear b1 X0 Z0 T7
          go_wp2_with fail
          refine (T18.out _).mono ?_
          rintro e w2 ⟨rfl, b2⟩
          have X2 : Hid (NB w2 w.heap.size 64 (ext H k)) := X1.out.keep X1.out.lt b2
          have Z2 : Hid (Below w.heap.size w w2) := Z1.out.trans (b2.mono Z1.out.size)
          clear b2 X1 Z1 T18
          go_wp2_with fail
          refine (T17.out _).mono ?_
          rintro e w3 ⟨rfl, b3⟩
          have X3 : Hid (NB w3 w.heap.size 64 (ext H k)) := X2.out.keep X2.out.lt b3
          have Z3 : Hid (Below w.heap.size w w3) := Z2.out.trans (b3.mono Z2.out.size)
          clear b3 X2 Z2 T17
          go_wp2_with fail
          refine (T19.out _).mono ?_
          rintro e w4 ⟨rfl, b4⟩
          have X4 : Hid (NB w4 w.heap.size 64 (ext H k)) := X3.out.keep X3.out.lt b4
          have Z4 : Hid (Below w.heap.size w w4) := Z3.out.trans (b4.mono Z3.out.size)
          clear b4 X3 Z3 T19
          go_wp2_with fail
          have X5 : Hid (NB (w4.setCell ⟨w.heap.size, k + 16, none⟩ (.int .u32 ((nxt (ext H k) : Nat) : Int))) w.heap.size 64 (ext H (k + 1))) := by
            have := X4.out.put (by omega) (nxt (ext H k))
            rw [hl, show 16 + k = k + 16 by omega] at this
            exact this
          have Z5 : Hid (Below w.heap.size w (w4.setCell ⟨w.heap.size, k + 16, none⟩ (.int .u32 ((nxt (ext H k) : Nat) : Int)))) := Z4.out.setCell (p := ⟨w.heap.size, k + 16, none⟩) (Nat.le_refl _) _
          have l9 : w4.cell? ⟨w.heap.size, k + 9, none⟩ = some (.int .u32 (((ext H k).getD (k + 9) 0 : Nat) : Int)) := X4.out.c (k + 9) (by omega)
          have l0 : w4.cell? ⟨w.heap.size, k, none⟩ = some (.int .u32 (((ext H k).getD k 0 : Nat) : Int)) := X4.out.c k (by omega)
          have d0 := X4.out.c (k + 16) (by omega)
          have f0 := X4.out.f (k + 16) (by omega)
          clear X4 Z4 xa xb ya yb
          generalize (ext H k).getD (k + 9) 0 = v9 at *
          generalize (ext H k).getD k 0 = v0 at *
          have ns' : nxt (ext H k) = (((s1 + v9) % 4294967296 + s0) % 4294967296 + v0) % 4294967296 := by rw [ns]; omega
          rw [ns'] at X5 Z5
          have m9 : IntKind.i64.wrap ((k : Int) + 16 - 7) = k + 9 := by simp [IntKind.wrap, IntKind.bits, IntKind.signed]; omega
          have m0 : IntKind.i64.wrap (k : Int) = k := by simp [IntKind.wrap, IntKind.bits, IntKind.signed]; omega
          have i9 := fun w' => at_u32 w.heap.size 64 64 (k + 9) w' (by omega) ((k : Int) + 9) (by omega)
          have i0 := fun w' => at_u32 w.heap.size 64 64 k w' (by omega) (k : Int) rfl
          have i16 := fun w' => at_u32 w.heap.size 64 64 (k + 16) w' (by omega) ((k : Int) + 16) (by omega)
          have a1 := add_int s1 v9
          generalize (s1 + v9) % 4294967296 = A1 at *
          have a2 := add_int A1 s0
          generalize (A1 + s0) % 4294967296 = A2 at *
          have a3 := add_int A2 v0
          generalize (A2 + v0) % 4294967296 = A3 at *
          go_still_tail 18, (by kernel_rfl)
          clear m9 m0 i9 i0 i16 a1 a2 a3 l9 l0
          refine (show wpList _ _ _ _ _ w4.drew from ?_)
          go_wp2
          go_roundw
          case rel => exact ⟨k + 1, by omega, by go_num, X5.out.keep X5.out.lt (dr _ _), Z5.out.trans (dr _ _)⟩
          case measure => simp [intOf]; omega
        · obtain rfl : k = 48 := by omega
          have e : wrds (nb s) = ext H 48 := by unfold wrds; rw [hH]
          go_wp2
          go_ret
          exact ⟨w.heap.size, rfl, by rw [e]; exact X.out, Nat.le_refl _, bel.out⟩
end Go.Proofs.YtbicfhilehllnaaGreatDoor
