/-
  Numbers in bytes, as the texts on varint tell them and as lists. Plain facts; no condition.
-/
import Derived.Test.YtihkbakbciejiaaDoorFrMath
import Derived.Test.YtihkbakbciejiaaDoorVaTake
namespace Go.Proofs.YtihkbakbciejiaaDoor
set_option maxRecDepth 100000

theorem toL_nums (xs : List Int) : toL (strOfNums xs) = xs.map fun n => UInt8.ofNat n.toNat := rfl
theorem u8_eq {a b : Nat} (h : a % 256 = b % 256) : UInt8.ofNat a = UInt8.ofNat b := by
  apply UInt8.toNat_inj.1
  simpa using h
theorem link_put {n : Int} {m k : Nat} (h : Cl n m k) : toL (strOfNums (puts n m k)) = putI n := by
  obtain ⟨N, rfl⟩ : ∃ N : Nat, n = N := ⟨n.toNat, by have := h.lo; omega⟩
  rw [toL_nums]
  unfold putI putL b8
  rw [Int.toNat_natCast]
  rcases h with ⟨rfl, rfl, a, b⟩ | ⟨rfl, rfl, a, b⟩ | ⟨rfl, rfl, a, b⟩ | ⟨rfl, rfl, a, b⟩
  · rw [if_pos (by omega)]
    simp only [puts, digs, List.nil_append, List.map_cons, List.map_nil]
    rw [u8_eq (show ((N : Int) % 256 + 64 * (0 : Nat)).toNat % 256 = N % 256 by omega)]
  · rw [if_neg (by omega), if_pos (by omega)]
    simp only [puts, digs, List.nil_append, List.cons_append, List.map_cons, List.map_nil]
    rw [u8_eq (show ((N : Int) / 256 % 256 + 64 * (1 : Nat)).toNat % 256 = (64 + N / 256) % 256 by omega), u8_eq (show ((N : Int) % 256).toNat % 256 = N % 256 by omega)]
  · rw [if_neg (by omega), if_neg (by omega), if_pos (by omega)]
    simp only [puts, digs, List.nil_append, List.cons_append, List.map_cons, List.map_nil]
    rw [u8_eq (show ((N : Int) / 256 / 256 / 256 % 256 + 64 * (2 : Nat)).toNat % 256 = (128 + N / 16777216) % 256 by omega), u8_eq (show ((N : Int) / 256 / 256 % 256).toNat % 256 = N / 65536 % 256 by omega), u8_eq (show ((N : Int) / 256 % 256).toNat % 256 = N / 256 % 256 by omega), u8_eq (show ((N : Int) % 256).toNat % 256 = N % 256 by omega)]
  · rw [if_neg (by omega), if_neg (by omega), if_neg (by omega)]
    simp only [puts, digs, List.nil_append, List.cons_append, List.map_cons, List.map_nil]
    rw [u8_eq (show ((N : Int) / 256 / 256 / 256 / 256 / 256 / 256 / 256 % 256 + 64 * (3 : Nat)).toNat % 256 = (192 + N / 72057594037927936) % 256 by omega), u8_eq (show ((N : Int) / 256 / 256 / 256 / 256 / 256 / 256 % 256).toNat % 256 = N / 281474976710656 % 256 by omega), u8_eq (show ((N : Int) / 256 / 256 / 256 / 256 / 256 % 256).toNat % 256 = N / 1099511627776 % 256 by omega), u8_eq (show ((N : Int) / 256 / 256 / 256 / 256 % 256).toNat % 256 = N / 4294967296 % 256 by omega), u8_eq (show ((N : Int) / 256 / 256 / 256 % 256).toNat % 256 = N / 16777216 % 256 by omega), u8_eq (show ((N : Int) / 256 / 256 % 256).toNat % 256 = N / 65536 % 256 by omega), u8_eq (show ((N : Int) / 256 % 256).toNat % 256 = N / 256 % 256 by omega), u8_eq (show ((N : Int) % 256).toNat % 256 = N % 256 by omega)]
theorem byt_toL (s : ByteArray) (i : Nat) : byt s i = (((toL s).getD i 0).toNat : Int) := rfl
theorem many_is {b : UInt8} {m k : Nat} (h : Mk m k) (hb : (b.toNat : Int) / 64 = m) : many b = k := by
  unfold many
  rcases h with ⟨rfl, rfl⟩ | ⟨rfl, rfl⟩ | ⟨rfl, rfl⟩ | ⟨rfl, rfl⟩
  · rw [if_pos (by omega)]
  · rw [if_neg (by omega), if_pos (by omega)]
  · rw [if_neg (by omega), if_neg (by omega), if_pos (by omega)]
  · rw [if_neg (by omega), if_neg (by omega), if_neg (by omega)]
theorem link_cut {s : ByteArray} (h : VCut s) : getL (toL s) = none := by
  have hl := toL_len s
  rcases h with h | ⟨h0, m, k, hk, h1, h2⟩
  · rw [List.eq_nil_of_length_eq_zero (by omega : (toL s).length = 0)]
    rfl
  · rw [byt_toL] at h2
    cases e : toL s with
    | nil => rfl
    | cons b t =>
      rw [e] at h2 hl
      rw [getL_cons, many_is (b := b) hk h2, if_pos (by simp at hl; omega)]
theorem fold_gva (f : Nat → Int) (t : L) : ∀ (j : Nat) (x : Nat), j ≤ t.length → (∀ i, i < j → f (i + 1) = ((t.getD i 0).toNat : Int)) → f 0 % 64 = x → gva f (j + 1) = (fold x (t.take j) : Int) := by
  intro j
  induction j with
  | zero => intro x _ _ h; show f 0 % 64 = _; rw [h]; rfl
  | succ j ih =>
    intro x hj hf h
    show gva f (j + 1) * 256 + f (j + 1) = _
    rw [ih x (by omega) (fun i hi => hf i (by omega)) h, hf j (by omega), List.take_succ_eq_append_getElem (by omega)]
    unfold fold
    rw [List.foldl_append]
    simp [List.getD, List.getElem?_eq_getElem (show j < t.length by omega)]
theorem link_has {s : ByteArray} {k : Nat} (h : VHas s k) : getL (toL s) = some ((gva (byt s) k).toNat, k) := by
  have hl := toL_len s
  obtain ⟨h0, h1, m, hk, h2⟩ := h
  have hb := fun i => byt_toL s i
  cases e : toL s with
  | nil => rw [e] at hl; simp at hl; omega
  | cons b t =>
    rw [e] at hb hl
    rw [hb 0] at h2
    simp at hl
    have hk1 : 1 ≤ k := by unfold Mk at hk; omega
    rw [getL_cons, many_is (b := b) hk h2, if_neg (by omega)]
    have hg := fold_gva (byt s) t (k - 1) (b.toNat % 64) (by omega) (fun i _ => by rw [hb (i + 1)]; rfl) (by rw [hb 0]; simp)
    rw [show k - 1 + 1 = k by omega] at hg
    rw [hg, Int.toNat_natCast]
end Go.Proofs.YtihkbakbciejiaaDoor
