/-
  What the program's own bigEnd answers: the lowest bytes of a number, the highest of them first. One to eight bytes; no other condition.
-/
import Derived.Test.YtbicfhilehllnaaGreatDoorShOut
namespace Go.Proofs.YtbicfhilehllnaaGreatDoor
set_option maxRecDepth 100000
open Go.RowKit Go.Sort

theorem set_zeros (q x : Nat) (c : List Nat) : (List.replicate (q + 1) 0 ++ c).set q x = List.replicate q 0 ++ x :: c := by
  have := set_mid [] q x c
  simpa using this
set_option maxHeartbeats 4000000 in
theorem big_ok (m N : Nat) (w : World) (hm : m < 18446744073709551616) (h1 : 1 ≤ N) (h8 : N ≤ 8) :
    Calls Tryz.prog 217 #[.int .u64 (m : Int), .int .i64 (N : Int)] w fun e w' => e = .returned (.string (bstr (be m N))) ∧ Below w.heap.size w w' := by
  obtain ⟨i0, hi, hz0, hz1, hz2⟩ := info_u8
  have hmk : ∀ (w : World), (Instr.makeSlice 129 (.int .i64 (N : Int)) (.int .i64 (N : Int))).run Tryz.prog w = .ok (.slice (some ⟨w.heap.size, 0, none⟩) N N) (w.alloc (.cells (nv .u8 (List.replicate N 0)).toArray 5)) := fun w => by
    have := run_make (P := Tryz.prog) w 129 5 i0 (.int .u8 0) Tryz.underlying129 hi hz0 .i64 .i64 (N : Int) (N : Int) (by omega) (by omega) (by rw [hz2]; omega) (by omega)
    rw [hz1] at this
    have e : madeCells (Value.int .u8 0).cells ((N : Int).toNat * 1) = (nv .u8 (List.replicate N 0)).toArray := by
      rw [Int.toNat_natCast, Nat.mul_one]
      apply Array.ext_getElem?
      intro i
      by_cases h : i < N
      · simp [madeCells, nv, h, Nat.mod_one, Value.cells]
      · simp [madeCells, nv, h]
    rw [e] at this
    simpa using this
  clear hi hz0 hz1 hz2
  obtain ⟨R, hR⟩ : ∃ R, R = bstr (be m N) := ⟨_, rfl⟩
  rw [← hR]
  replace hR : Hid _ := hR
  go_enter Tryz.func217, Tryz.ntmps217
  go_wp2
  clear hmk
  go_loopg [0, 6] N (fun g bv iv wr => ∃ j b : Nat, j + g = N ∧ Hid (b = m / 256 ^ j) ∧ b < 18446744073709551616 ∧ bv = .int .u64 (b : Int) ∧ iv = .int .i64 ((N : Int) - 1 - (j : Int)) ∧ Hid (At .u8 wr w.heap.size 0 (List.replicate (N - j) 0 ++ be m j)) ∧ Hid (Below w.heap.size w wr))
  case atStart =>
    refine ⟨0, m, by omega, by unfold Hid; simp, hm, rfl, by simp, ?_, (Below.refl _ _).alloc (Nat.le_refl _) _⟩
    have := At.new .u8 w (List.replicate N 0) 5
    unfold Hid
    simpa [be] using this
  case round =>
    obtain ⟨j, b, hj, hb, hb64, rfl, rfl, X, bel⟩ := hrel
    by_cases hlt : j < N
    · obtain ⟨i, hi⟩ : ∃ i, i = N - 1 - j := ⟨_, rfl⟩
      have hii : (N : Int) - 1 - (j : Int) = (i : Int) := by omega
      rw [hii]
      have g1 : decide ((0 : Int) ≤ (i : Int)) = true := decide_eq_true (by omega)
      have hq : N - j = i + 1 := by omega
      rw [hq] at X
      have hln : i < (List.replicate (i + 1) 0 ++ be m j).length := by simp only [List.length_append, List.length_replicate, be_length]; omega
      have c0 := X.out.cell0 i hln
      have f0 := X.out.free0 i hln
      have X2 : Hid (At .u8 (wr.setCell ⟨w.heap.size, i, none⟩ (.int .u8 ((b % 256 : Nat) : Int))) w.heap.size 0 (List.replicate (N - (j + 1)) 0 ++ be m (j + 1))) := by
        have := X.out.put i hln (b % 256)
        rw [Nat.zero_add, set_zeros, hb.out] at this
        rw [be_cons, show N - (j + 1) = i by omega, hb.out]
        exact this
      have Z2 : Hid (Below w.heap.size w (wr.setCell ⟨w.heap.size, i, none⟩ (.int .u8 ((b % 256 : Nat) : Int)))) := bel.out.setCell (p := ⟨w.heap.size, i, none⟩) (Nat.le_refl _) _
      have ia := fun w' => at_u8s w.heap.size 0 N N i w' (by omega) (i : Int) rfl i (by omega)
      have a1 := and255l b hb64
      have hy : b % 256 < 256 := Nat.mod_lt _ (by decide)
      have hb2 : Hid (b / 256 = m / 256 ^ (j + 1)) := by unfold Hid; rw [hb.out, Nat.div_div_eq_div_mul, ← Nat.pow_succ]
      have hb3 : b / 256 < 18446744073709551616 := by omega
      have hsh : (b : Int) / 256 = ((b / 256 : Nat) : Int) := by omega
      have hnx : Hid ((i : Int) - 1 = (N : Int) - 1 - ((j + 1 : Nat) : Int)) := by unfold Hid; omega
      clear X bel hq hln hb hii
      have hib : i < 8 := by omega
      replace hi : Hid _ := hi
      generalize b % 256 = y at *
      generalize b / 256 = b' at *
      go_wp2
      go_roundg (N - (j + 1))
      case measure => omega
      case rel => exact ⟨j + 1, b', by omega, hb2, hb3, by go_num, by rw [← hnx.out], X2, Z2⟩
    · obtain rfl : j = N := by omega
      have hii : (j : Int) - 1 - (j : Int) = -1 := by omega
      rw [hii]
      have XE : At .u8 wr w.heap.size 0 (be m j) := by
        have := X.out
        simpa using this
      have hcv := XE.str j j (be_length _ _).symm
      rw [← hR.out] at hcv
      clear X XE
      go_wp2
      go_ret
      exact ⟨rfl, bel.out⟩
end Go.Proofs.YtbicfhilehllnaaGreatDoor
