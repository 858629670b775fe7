/-
  What the program's own bytesOf and ending answer: eight numbers in bytes; what stands behind a text of so many bytes. A count is below 2^40; no other condition.
-/
import Derived.Test.YtbicfhilehllnaaGreatDoorShFacts
import Derived.Test.YtbicfhilehllnaaGreatDoorShSpread
import Derived.Deep.LoopGhost
namespace Go.Proofs.YtbicfhilehllnaaGreatDoor
set_option maxRecDepth 100000
open Go.RowKit Go.Sort

theorem and255n (y : Nat) (h : y < 4294967296) : bits .and .u32 (y : Int) 255 = ((y % 256 : Nat) : Int) := by
  have := u32_and_nat y 255 h (by decide)
  rw [show (y &&& 255) = y % 256 from Nat.and_two_pow_sub_one_eq_mod y 8] at this
  exact this
theorem and255l (y : Nat) (h : y < 18446744073709551616) : bits .and .u64 (y : Int) 255 = ((y % 256 : Nat) : Int) := by
  have := u64_and_nat y 255 h (by decide)
  rw [show (y &&& 255) = y % 256 from Nat.and_two_pow_sub_one_eq_mod y 8] at this
  exact this
theorem idx_agg (l : List Nat) (i : Nat) (w : World) (h : i < l.length) (hl : l.length = 8) (z : Int) (hz : z = i) :
    (Instr.index 363 (.agg (nv .u32 l).toArray) (.int .i64 z)).run Tryz.prog w = .ok (.int .u32 ((l.getD i 0 : Nat) : Int)) w := by
  subst hz
  have hs : (sizeOf 228).run Tryz.prog w = .ok 1 w := Tryz.sizeOf228 w
  have h8 : i < 8 := by omega
  have hg := nv_get .u32 l i h
  simp [Instr.index, run_underlying Tryz.underlying363, asIntOf, part, hs, hg]
  omega
theorem be4 (x : Nat) : be x 4 = [x / 16777216 % 256, x / 65536 % 256, x / 256 % 256, x % 256] := by
  simp only [be, List.nil_append, List.cons_append, Nat.div_div_eq_div_mul]
theorem set_one (a : List Nat) (q x : Nat) : (a ++ List.replicate (q + 1) 0).set a.length x = (a ++ [x]) ++ List.replicate q 0 := by
  rw [List.set_append_right _ _ (Nat.le_refl _), Nat.sub_self, List.replicate_succ, List.set_cons_zero]
  simp
/-- What stands behind a text of n bytes. -/
def close (n : Nat) : List Nat := 128 :: (List.replicate ((119 - n % 64) % 64) 0 ++ be (8 * n) 8)
theorem pad_close (l : List Nat) : pad l = l ++ close l.length := rfl
set_option maxHeartbeats 4000000 in
set_option maxRecDepth 100000 in
theorem bytesOf_ok (l : List Nat) (w : World) (hl : l.length = 8) (h32 : W32 l) :
    Calls Tryz.prog 325 #[.agg (nv .u32 l).toArray] w fun e w' => e = .returned (.string (bstr (l.flatMap fun x => be x 4))) ∧ Below w.heap.size w w' := by
  obtain ⟨EE, hEE⟩ : ∃ EE, EE = l.flatMap fun x => be x 4 := ⟨_, rfl⟩
  rw [← hEE]
  have hD : EE = outs l 8 := by rw [hEE]; unfold outs; rw [← hl, List.take_length]
  clear hEE
  replace hD : Hid _ := hD
  have i45 : Hid ((Tryz.prog.info? 363).map (·.size) = some 8) := by unfold Hid; kernel_rfl
  have O0 : Hid (At .u32 ((w.alloc (.cells (nv .u32 l).toArray 363)).alloc (.cells (nv .u8 (List.replicate 32 0)).toArray 379)) w.heap.size 0 l) :=
    (At.new .u32 w l 363).keep (Nat.lt_succ_self _) ((Below.refl _ _).alloc (by simp) _)
  go_enter Tryz.func325, Tryz.ntmps325
  go_wp2_with (refine O0.out.wload (t := 363) Tryz.underlying363 (by rw [hl]; exact i45.out) rfl rfl rfl ?_)
  obtain ⟨B, hB⟩ : ∃ B, B = w.heap.size + 1 := ⟨_, rfl⟩
  rw [← hB]
  have hlt : w.heap.size < B := by omega
  replace hB : Hid _ := hB
  go_loopw [8] (fun i wr => ∃ k : Nat, k ≤ 8 ∧ i = .int .i64 k ∧ Hid (At .u8 wr B 0 (outs l k ++ List.replicate (32 - 4 * k) 0)) ∧ Hid (Below w.heap.size w wr)) (fun i _ => 8 - (intOf i).toNat)
  case atStart =>
    have hB := hB.out
    subst hB
    have z := At.new .u8 (w.alloc (.cells (nv .u32 l).toArray 363)) (List.replicate 32 0) 379
    rw [World.size_alloc] at z
    exact ⟨0, Nat.zero_le _, rfl, z, ((Below.refl _ _).alloc (Nat.le_refl _) _).alloc (by simp) _⟩
  case round =>
    clear O0
    obtain ⟨k, hk, rfl, X, bel⟩ := hrel
    by_cases h8 : k < 8
    · have g1 : decide ((k : Int) < 8) = true := decide_eq_true (by omega)
      have hx := w32_get h32 k
      have hi := fun w' => idx_agg l k w' (by omega) hl (k : Int) rfl
      have ol := outs_length l k (by omega)
      have os := outs_succ l k (by omega)
      rw [be4] at os
      generalize l.getD k 0 = x at *
      generalize outs l k = P at *
      generalize hNN : outs l (k + 1) = NN at *
      replace hNN : Hid _ := hNN
      replace os : Hid _ := os
      go_wp2
      clear hi
      go_loopw [12] (fun i wr => ∃ p : Nat, p ≤ 4 ∧ i = .int .i64 p ∧ Hid (At .u8 wr B 0 (P ++ [x / 16777216 % 256, x / 65536 % 256, x / 256 % 256, x % 256].take p ++ List.replicate (32 - 4 * k - p) 0)) ∧ Hid (Below w.heap.size w wr)) (fun i _ => 4 - (intOf i).toNat)
      case atStart => exact ⟨0, Nat.zero_le _, rfl, by simpa using X, bel⟩
      case round =>
        clear X bel
        obtain ⟨p, hp, rfl, X, bel⟩ := hrel
        by_cases h4 : p < 4
        · have g2 : decide ((p : Int) < 4) = true := decide_eq_true (by omega)
          rcases (show p = 0 ∨ p = 1 ∨ p = 2 ∨ p = 3 by omega) with rfl | rfl | rfl | rfl
          · have ep : ((0 : Nat) : Int) = 0 := rfl
            rw [ep]
            clear ep
            have hl2 : (P ++ []).length = 4 * k := by simp [ol]
            have e0 : 32 - 4 * k - 0 = (32 - 4 * k - 1) + 1 := by omega
            rw [e0] at X
            have XX : At .u8 wr B 0 (P ++ [] ++ List.replicate ((32 - 4 * k - 1) + 1) 0) := X.out
            have hln : 4 * k < (P ++ [] ++ List.replicate ((32 - 4 * k - 1) + 1) 0).length := by rw [List.length_append, hl2, List.length_replicate]; omega
            have c0 := XX.cell0 (4 * k) hln
            have f0 := XX.free0 (4 * k) hln
            have X2 : Hid (At .u8 (wr.setCell ⟨B, 4 * k, none⟩ (.int .u8 ((x / 16777216 % 256 : Nat) : Int))) B 0 (P ++ [x / 16777216 % 256, x / 65536 % 256, x / 256 % 256, x % 256].take (0 + 1) ++ List.replicate (32 - 4 * k - (0 + 1)) 0)) := by
              have := XX.put (4 * k) hln (x / 16777216 % 256)
              rw [Nat.zero_add] at this
              rw [← hl2, set_one] at this
              rw [← hl2]
              rw [List.append_assoc P] at this
              exact this
            have Z2 : Hid (Below w.heap.size w (wr.setCell ⟨B, 4 * k, none⟩ (.int .u8 ((x / 16777216 % 256 : Nat) : Int)))) := bel.out.setCell (p := ⟨B, 4 * k, none⟩) (by show w.heap.size ≤ B; omega) _
            have ia := fun w' => at_arr B 0 32 (4 * k) w' 379 5 Tryz.underlying379 Tryz.sizeOf5 (by omega) (4 * (k : Int)) (by omega) (4 * k) (by omega)
            have a1 : bits .and .u32 ((x : Int) / 16777216) 255 = ((x / 16777216 % 256 : Nat) : Int) := by
              have := and255n (x / 16777216) (by omega)
              simpa using this
            have hq : x / 16777216 % 256 < 256 := Nat.mod_lt _ (by decide)
            clear X bel hl2 e0 XX hln
            generalize x / 16777216 % 256 = y at *
            go_wp2
            go_roundw
            case rel => exact ⟨0 + 1, by omega, by go_num, X2, Z2⟩
            case measure => simp [intOf]
          · have ep : ((1 : Nat) : Int) = 1 := rfl
            rw [ep]
            clear ep
            have hl2 : (P ++ [x / 16777216 % 256]).length = 4 * k + 1 := by simp [ol]
            have e0 : 32 - 4 * k - 1 = (32 - 4 * k - 2) + 1 := by omega
            rw [e0] at X
            have XX : At .u8 wr B 0 (P ++ [x / 16777216 % 256] ++ List.replicate ((32 - 4 * k - 2) + 1) 0) := X.out
            have hln : 4 * k + 1 < (P ++ [x / 16777216 % 256] ++ List.replicate ((32 - 4 * k - 2) + 1) 0).length := by rw [List.length_append, hl2, List.length_replicate]; omega
            have c0 := XX.cell0 (4 * k + 1) hln
            have f0 := XX.free0 (4 * k + 1) hln
            have X2 : Hid (At .u8 (wr.setCell ⟨B, 4 * k + 1, none⟩ (.int .u8 ((x / 65536 % 256 : Nat) : Int))) B 0 (P ++ [x / 16777216 % 256, x / 65536 % 256, x / 256 % 256, x % 256].take (1 + 1) ++ List.replicate (32 - 4 * k - (1 + 1)) 0)) := by
              have := XX.put (4 * k + 1) hln (x / 65536 % 256)
              rw [Nat.zero_add] at this
              rw [← hl2, set_one] at this
              rw [← hl2]
              rw [List.append_assoc P] at this
              exact this
            have Z2 : Hid (Below w.heap.size w (wr.setCell ⟨B, 4 * k + 1, none⟩ (.int .u8 ((x / 65536 % 256 : Nat) : Int)))) := bel.out.setCell (p := ⟨B, 4 * k + 1, none⟩) (by show w.heap.size ≤ B; omega) _
            have ia := fun w' => at_arr B 0 32 (4 * k + 1) w' 379 5 Tryz.underlying379 Tryz.sizeOf5 (by omega) (4 * (k : Int) + 1) (by omega) (4 * k + 1) (by omega)
            have a1 : bits .and .u32 ((x : Int) / 65536) 255 = ((x / 65536 % 256 : Nat) : Int) := by
              have := and255n (x / 65536) (by omega)
              simpa using this
            have hq : x / 65536 % 256 < 256 := Nat.mod_lt _ (by decide)
            clear X bel hl2 e0 XX hln
            generalize x / 65536 % 256 = y at *
            go_wp2
            go_roundw
            case rel => exact ⟨1 + 1, by omega, by go_num, X2, Z2⟩
            case measure => simp [intOf]
          · have ep : ((2 : Nat) : Int) = 2 := rfl
            rw [ep]
            clear ep
            have hl2 : (P ++ [x / 16777216 % 256, x / 65536 % 256]).length = 4 * k + 2 := by simp [ol]
            have e0 : 32 - 4 * k - 2 = (32 - 4 * k - 3) + 1 := by omega
            rw [e0] at X
            have XX : At .u8 wr B 0 (P ++ [x / 16777216 % 256, x / 65536 % 256] ++ List.replicate ((32 - 4 * k - 3) + 1) 0) := X.out
            have hln : 4 * k + 2 < (P ++ [x / 16777216 % 256, x / 65536 % 256] ++ List.replicate ((32 - 4 * k - 3) + 1) 0).length := by rw [List.length_append, hl2, List.length_replicate]; omega
            have c0 := XX.cell0 (4 * k + 2) hln
            have f0 := XX.free0 (4 * k + 2) hln
            have X2 : Hid (At .u8 (wr.setCell ⟨B, 4 * k + 2, none⟩ (.int .u8 ((x / 256 % 256 : Nat) : Int))) B 0 (P ++ [x / 16777216 % 256, x / 65536 % 256, x / 256 % 256, x % 256].take (2 + 1) ++ List.replicate (32 - 4 * k - (2 + 1)) 0)) := by
              have := XX.put (4 * k + 2) hln (x / 256 % 256)
              rw [Nat.zero_add] at this
              rw [← hl2, set_one] at this
              rw [← hl2]
              rw [List.append_assoc P] at this
              exact this
            have Z2 : Hid (Below w.heap.size w (wr.setCell ⟨B, 4 * k + 2, none⟩ (.int .u8 ((x / 256 % 256 : Nat) : Int)))) := bel.out.setCell (p := ⟨B, 4 * k + 2, none⟩) (by show w.heap.size ≤ B; omega) _
            have ia := fun w' => at_arr B 0 32 (4 * k + 2) w' 379 5 Tryz.underlying379 Tryz.sizeOf5 (by omega) (4 * (k : Int) + 2) (by omega) (4 * k + 2) (by omega)
            have a1 : bits .and .u32 ((x : Int) / 256) 255 = ((x / 256 % 256 : Nat) : Int) := by
              have := and255n (x / 256) (by omega)
              simpa using this
            have hq : x / 256 % 256 < 256 := Nat.mod_lt _ (by decide)
            clear X bel hl2 e0 XX hln
            generalize x / 256 % 256 = y at *
            go_wp2
            go_roundw
            case rel => exact ⟨2 + 1, by omega, by go_num, X2, Z2⟩
            case measure => simp [intOf]
          · have ep : ((3 : Nat) : Int) = 3 := rfl
            rw [ep]
            clear ep
            have hl2 : (P ++ [x / 16777216 % 256, x / 65536 % 256, x / 256 % 256]).length = 4 * k + 3 := by simp [ol]
            have e0 : 32 - 4 * k - 3 = (32 - 4 * k - 4) + 1 := by omega
            rw [e0] at X
            have XX : At .u8 wr B 0 (P ++ [x / 16777216 % 256, x / 65536 % 256, x / 256 % 256] ++ List.replicate ((32 - 4 * k - 4) + 1) 0) := X.out
            have hln : 4 * k + 3 < (P ++ [x / 16777216 % 256, x / 65536 % 256, x / 256 % 256] ++ List.replicate ((32 - 4 * k - 4) + 1) 0).length := by rw [List.length_append, hl2, List.length_replicate]; omega
            have c0 := XX.cell0 (4 * k + 3) hln
            have f0 := XX.free0 (4 * k + 3) hln
            have X2 : Hid (At .u8 (wr.setCell ⟨B, 4 * k + 3, none⟩ (.int .u8 ((x % 256 : Nat) : Int))) B 0 (P ++ [x / 16777216 % 256, x / 65536 % 256, x / 256 % 256, x % 256].take (3 + 1) ++ List.replicate (32 - 4 * k - (3 + 1)) 0)) := by
              have := XX.put (4 * k + 3) hln (x % 256)
              rw [Nat.zero_add] at this
              rw [← hl2, set_one] at this
              rw [← hl2]
              rw [List.append_assoc P] at this
              exact this
            have Z2 : Hid (Below w.heap.size w (wr.setCell ⟨B, 4 * k + 3, none⟩ (.int .u8 ((x % 256 : Nat) : Int)))) := bel.out.setCell (p := ⟨B, 4 * k + 3, none⟩) (by show w.heap.size ≤ B; omega) _
            have ia := fun w' => at_arr B 0 32 (4 * k + 3) w' 379 5 Tryz.underlying379 Tryz.sizeOf5 (by omega) (4 * (k : Int) + 3) (by omega) (4 * k + 3) (by omega)
            have a1 : bits .and .u32 ((x : Int)) 255 = ((x % 256 : Nat) : Int) := by
              have := and255n (x) (by omega)
              simpa using this
            have hq : x % 256 < 256 := Nat.mod_lt _ (by decide)
            clear X bel hl2 e0 XX hln
            generalize x % 256 = y at *
            go_wp2
            go_roundw
            case rel => exact ⟨3 + 1, by omega, by go_num, X2, Z2⟩
            case measure => simp [intOf]
        · have ep : (p : Int) = 4 := by omega
          rw [ep]
          clear ep
          obtain rfl : p = 4 := by omega
          have X2 : Hid (At .u8 wr B 0 (outs l (k + 1) ++ List.replicate (32 - 4 * (k + 1)) 0)) := by
            have e : 32 - 4 * (k + 1) = 32 - 4 * k - 4 := by omega
            rw [hNN.out, os.out, e]
            exact X.out
          clear X
          go_wp2
          go_roundw
          case rel => exact ⟨k + 1, by omega, by go_num, X2, bel⟩
          case measure => simp [intOf]; omega
    · have ek : (k : Int) = 8 := by omega
      rw [ek]
      clear ek
      obtain rfl : k = 8 := by omega
      have ol := outs_length l 8 (by omega)
      have XE : At .u8 wr B 0 EE := by
        rw [hD.out]
        have := X.out
        simpa using this
      have hlE : EE.length = 32 := by rw [hD.out, ol]
      have hsl := fun w' => slice_all B 0 32 w' 379 5 Tryz.underlying379 Tryz.sizeOf5
      have hcv := XE.str 32 32 hlE.symm
      clear X XE
      go_wp2
      go_ret
      exact ⟨rfl, bel.out⟩
theorem zz_lt (n : Nat) : zz n < 64 := Nat.mod_lt _ (by decide)
theorem set_mid (a : List Nat) (q x : Nat) (c : List Nat) : (a ++ List.replicate (q + 1) 0 ++ c).set (a.length + q) x = a ++ List.replicate q 0 ++ x :: c := by
  have e : a ++ List.replicate (q + 1) 0 ++ c = (a ++ List.replicate q 0) ++ 0 :: c := by
    rw [List.replicate_succ', ← List.append_assoc, List.append_assoc]
    rfl
  rw [e, List.set_append_right _ _ (by simp), List.length_append, List.length_replicate, Nat.sub_self, List.set_cons_zero]
set_option maxHeartbeats 4000000 in
set_option maxRecDepth 100000 in
theorem ending_ok (n : Nat) (w : World) (hn : n < 1099511627776) :
    Calls Tryz.prog 324 #[.int .u64 (n : Int)] w fun e w' => e = .returned (.string (bstr (close n))) ∧ Below w.heap.size w w' := by
  have hZ := zz_lt n
  have hZ2 : (n + 9 + zz n) % 64 = 0 := by unfold zz; omega
  have hZ3 : ∀ k, k < zz n → (n + 9 + k) % 64 ≠ 0 := by unfold zz; omega
  obtain ⟨CC, hCC⟩ : ∃ CC, CC = close n := ⟨_, rfl⟩
  rw [← hCC]
  have hC : CC = (128 :: List.replicate (zz n) 0) ++ be (8 * n) 8 := by rw [hCC]; rfl
  clear hCC
  replace hC : Hid _ := hC
  obtain ⟨i0, hi, hz0, hz1, hz2⟩ := info_u8
  have hmk : ∀ (N : Nat) (w : World), N ≤ 72 → (Instr.makeSlice 129 (.int .i64 (N : Int)) (.int .i64 (N : Int))).run Tryz.prog w = .ok (.slice (some ⟨w.heap.size, 0, none⟩) N N) (w.alloc (.cells (nv .u8 (List.replicate N 0)).toArray 5)) := fun N w hN => by
    have := run_make (P := Tryz.prog) w 129 5 i0 (.int .u8 0) Tryz.underlying129 hi hz0 .i64 .i64 (N : Int) (N : Int) (by omega) (by omega) (by rw [hz2]; omega) (by omega)
    rw [hz1] at this
    have e : madeCells (Value.int .u8 0).cells ((N : Int).toNat * 1) = (nv .u8 (List.replicate N 0)).toArray := by
      rw [Int.toNat_natCast, Nat.mul_one]
      apply Array.ext_getElem?
      intro i
      by_cases h : i < N
      · simp [madeCells, nv, h, Nat.mod_one, Value.cells]
      · simp [madeCells, nv, h]
    rw [e] at this
    simpa using this
  replace hmk : Hid _ := hmk
  clear hi hz0 hz1 hz2
  generalize zz n = Z at *
  go_enter Tryz.func324, Tryz.ntmps324
  go_wp2
  go_loopg [3] Z (fun g sv wr => ∃ k : Nat, k + g = Z ∧ sv = .int .i64 (9 + (k : Int)) ∧ w = wr)
  case atStart => exact ⟨0, by omega, rfl, rfl⟩
  case round =>
    obtain ⟨k, hk, rfl, rfl⟩ := hrel
    by_cases hlt : k < Z
    · have c1 : (((n : Int) + (9 + (k : Int))) % 64 != 0) = true := by
        have := hZ3 k hlt
        simp only [bne_iff_ne, ne_eq]
        omega
      clear hZ3
      go_wp2
      go_roundg (Z - (k + 1))
      case measure => omega
      case rel => exact ⟨k + 1, by omega, by go_num, rfl⟩
    · obtain rfl : k = Z := by omega
      obtain ⟨N, hN⟩ : ∃ N : Nat, N = 9 + k := ⟨_, rfl⟩
      have eN : (9 + (k : Int)) = (N : Int) := by omega
      rw [eN]
      have c1 : (((n : Int) + (N : Int)) % 64 != 0) = false := by
        simp only [bne_eq_false_iff_eq]
        omega
      have mk := hmk.out N w (by omega)
      have hm8 : 8 * n < 18446744073709551616 := by omega
      have hmul : (n : Int) * 8 = ((8 * n : Nat) : Int) := by omega
      have X0 : At .u8 (w.alloc (.cells (nv .u8 (List.replicate N 0)).toArray 5)) w.heap.size 0 (List.replicate N 0) := At.new .u8 w _ _
      have k0 := X0.cell0 0 (by rw [List.length_replicate]; omega)
      have f0 := X0.free0 0 (by rw [List.length_replicate]; omega)
      have hset : Hid ((nv .u8 (List.replicate N 0)).set 0 (.int .u8 128) = nv .u8 ((128 :: List.replicate k 0) ++ List.replicate 8 0 ++ be (8 * n) 0)) := by
        have e : (List.replicate N 0).set 0 128 = (128 :: List.replicate k 0) ++ List.replicate 8 0 ++ be (8 * n) 0 := by
          rw [hN, Nat.add_comm 9 k, List.replicate_succ (n := k + 8), List.set_cons_zero]
          show 128 :: List.replicate (k + 8) 0 = (128 :: (List.replicate k 0 ++ List.replicate 8 0)) ++ []
          rw [List.append_nil, List.replicate_append_replicate]
        unfold Hid
        rw [← e]
        unfold nv
        rw [List.map_set]
        rfl
      have hNb : 9 ≤ N ∧ N ≤ 72 := by omega
      clear X0 hZ3 hmk
      replace eN : Hid _ := eN
      replace hN : Hid _ := hN
      replace hmul : Hid _ := hmul
      have g9 : ((n : Int) * 8) = ((8 * n : Nat) : Int) := hmul.out
      go_wp2
      clear k0 f0 mk c1
      rw [hset.out]
      obtain ⟨m, hm⟩ : ∃ m, m = 8 * n := ⟨_, rfl⟩
      have hmi : 8 * (n : Int) = (m : Int) := by omega
      rw [← hm] at hset hm8 hC
      rw [hmi]
      have ha : (128 :: List.replicate k 0).length = k + 1 := by simp
      replace ha : Hid _ := ha
      generalize 128 :: List.replicate k 0 = a at *
      have hi0 : ((N : Int) - 1) = ((k + 8 : Nat) : Int) := by have := hN.out; omega
      rw [hi0]
      clear hi0 hmi g9 hmul
      replace hm : Hid _ := hm
      go_loopg [5, 6] 8 (fun g bv iv wr => ∃ j i b : Nat, j + g = 8 ∧ i + j = k + 8 ∧ Hid (b = m / 256 ^ j) ∧ b < 18446744073709551616 ∧ bv = .int .u64 (b : Int) ∧ iv = .int .i64 (i : Int) ∧ Hid (At .u8 wr w.heap.size 0 (a ++ List.replicate (8 - j) 0 ++ be m j)) ∧ Hid (Below w.heap.size w wr))
      case atStart =>
        refine ⟨0, k + 8, m, rfl, by omega, by unfold Hid; simp, hm8, rfl, rfl, ?_, (Below.refl _ _).alloc (Nat.le_refl _) _⟩
        exact hm.out ▸ At.new .u8 w _ _
      case round =>
        obtain ⟨j, i, b, hj, hij, hb, hb64, rfl, rfl, X, bel⟩ := hrel
        by_cases hlt : j < 8
        · have g1 : decide ((N : Int) - 8 ≤ (i : Int)) = true := decide_eq_true (by have := hN.out; omega)
          have hq : 8 - j = (7 - j) + 1 := by omega
          have hai : a.length + (7 - j) = i := by have := ha.out; omega
          have hln : i < (a ++ List.replicate (8 - j) 0 ++ be m j).length := by have := ha.out; simp only [List.length_append, List.length_replicate, be_length]; omega
          have c0 := X.out.cell0 i hln
          have f0 := X.out.free0 i hln
          have X2 : Hid (At .u8 (wr.setCell ⟨w.heap.size, i, none⟩ (.int .u8 ((b % 256 : Nat) : Int))) w.heap.size 0 (a ++ List.replicate (8 - (j + 1)) 0 ++ be m (j + 1))) := by
            have := X.out.put i hln (b % 256)
            rw [Nat.zero_add, hq, ← hai, set_mid, hai, hb.out] at this
            rw [be_cons, show 8 - (j + 1) = 7 - j by omega, hb.out]
            exact this
          have Z2 : Hid (Below w.heap.size w (wr.setCell ⟨w.heap.size, i, none⟩ (.int .u8 ((b % 256 : Nat) : Int)))) := bel.out.setCell (p := ⟨w.heap.size, i, none⟩) (Nat.le_refl _) _
          have ia := fun w' => at_u8s w.heap.size 0 N N i w' (by have := hN.out; omega) (i : Int) rfl i (by omega)
          have a1 := and255l b hb64
          have hy : b % 256 < 256 := Nat.mod_lt _ (by decide)
          have hb2 : Hid (b / 256 = m / 256 ^ (j + 1)) := by unfold Hid; rw [hb.out, Nat.div_div_eq_div_mul, ← Nat.pow_succ]
          have hb3 : b / 256 < 18446744073709551616 := by omega
          have hsh : (b : Int) / 256 = ((b / 256 : Nat) : Int) := by omega
          clear X bel hq hai hln hb
          generalize b % 256 = y at *
          generalize b / 256 = b' at *
          go_wp2
          go_roundg (8 - (j + 1))
          case measure => omega
          case rel => exact ⟨j + 1, i - 1, b', by omega, by omega, hb2, hb3, by go_num, by go_num, X2, Z2⟩
        · have g1 : decide ((N : Int) - 8 ≤ (i : Int)) = false := decide_eq_false (by have := hN.out; omega)
          obtain rfl : j = 8 := by omega
          have XE : At .u8 wr w.heap.size 0 CC := by
            rw [hC.out]
            have := X.out
            simpa using this
          have hcv := XE.str N N (by rw [hC.out, List.length_append, be_length, ha.out, hN.out]; omega)
          clear X XE
          go_wp2
          go_ret
          exact ⟨rfl, bel.out⟩
end Go.Proofs.YtbicfhilehllnaaGreatDoor
