/-
  Plain facts on what bytes are read as: the number at the front of bytes. No condition.
-/
import Derived.Test.YtihkbakbciejiaaDoorVaMath
namespace Go.Proofs.YtihkbakbciejiaaDoor
set_option maxRecDepth 100000
open Go.RowKit

def byt (s : ByteArray) (i : Nat) : Int := ((s.data.toList.getD i 0).toNat : Int)
theorem byt_eq (s : ByteArray) (i : Nat) (h : i < s.size) : ((s[i].toNat : Nat) : Int) = byt s i := by
  unfold byt
  have h' : i < s.data.toList.length := by simpa using h
  rw [List.getD, List.getElem?_eq_getElem h', Option.getD_some]
  rfl
theorem byt_bd (s : ByteArray) (i : Nat) : 0 ≤ byt s i ∧ byt s i < 256 := by
  unfold byt
  have := (s.data.toList.getD i 0).toNat_lt
  omega
def gva (f : Nat → Int) : Nat → Int
  | 0 => 0
  | 1 => f 0 % 64
  | k + 2 => gva f (k + 1) * 256 + f (k + 1)
theorem gva1 (f : Nat → Int) : gva f 1 = f 0 % 64 := rfl
theorem gva2 (f : Nat → Int) : gva f 2 = f 0 % 64 * 256 + f 1 := rfl
theorem gva4 (f : Nat → Int) : gva f 4 = ((f 0 % 64 * 256 + f 1) * 256 + f 2) * 256 + f 3 := rfl
theorem gva8 (f : Nat → Int) : gva f 8 = ((((((f 0 % 64 * 256 + f 1) * 256 + f 2) * 256 + f 3) * 256 + f 4) * 256 + f 5) * 256 + f 6) * 256 + f 7 := rfl
theorem gva_congr (f g : Nat → Int) (h0 : f 0 % 64 = g 0 % 64) : ∀ k, (∀ i, 1 ≤ i → i < k → f i = g i) → gva f k = gva g k
  | 0, _ => rfl
  | 1, _ => h0
  | k + 2, h => by
    show gva f (k + 1) * 256 + f (k + 1) = gva g (k + 1) * 256 + g (k + 1)
    rw [gva_congr f g h0 (k + 1) (fun i a b => h i a (by omega)), h (k + 1) (by omega) (by omega)]
def Mk (m k : Nat) : Prop := (m = 0 ∧ k = 1) ∨ (m = 1 ∧ k = 2) ∨ (m = 2 ∧ k = 4) ∨ (m = 3 ∧ k = 8)
theorem mk_of (x : Int) (h0 : 0 ≤ x) (h : x < 256) : ∃ m k, Mk m k ∧ x / 64 = m := by
  unfold Mk
  by_cases h1 : x < 64
  · exact ⟨0, 1, by omega, by omega⟩
  by_cases h2 : x < 128
  · exact ⟨1, 2, by omega, by omega⟩
  by_cases h3 : x < 192
  · exact ⟨2, 4, by omega, by omega⟩
  · exact ⟨3, 8, by omega, by omega⟩

theorem w64 (n : Int) (h : 0 ≤ n ∧ n < 9223372036854775808) : wrap64 n = n := by unfold wrap64; omega
theorem st0 (a b : Int) (hb : 0 ≤ b ∧ b < 256) : bits .or .i64 (a % 64 * 256) (wrap64 b) = a % 64 * 256 + b := by
  rw [w64 b (by omega), or_byte _ _ (by omega) (by omega) hb.1 hb.2]
theorem st1 (x b : Int) (hx : 0 ≤ x ∧ x < 36028797018963968) (hb : 0 ≤ b ∧ b < 256) : bits .or .i64 (wrap64 (x * 256)) (wrap64 b) = x * 256 + b := by
  rw [w64 b (by omega), w64 (x * 256) (by omega), or_byte _ _ hx.1 hx.2 hb.1 hb.2]
theorem chain4 (f : Nat → Int) (hf : ∀ i, 0 ≤ f i ∧ f i < 256) :
    bits .or .i64 (wrap64 (bits .or .i64 (wrap64 (bits .or .i64 (f 0 % 64 * 256) (wrap64 (f 1)) * 256)) (wrap64 (f 2)) * 256)) (wrap64 (f 3)) = gva f 4 := by
  have a1 := hf 1; have a2 := hf 2; have a3 := hf 3
  rw [st0 _ _ a1, st1 _ _ (by omega) a2, st1 _ _ (by omega) a3]
  rfl
theorem chain8 (f : Nat → Int) (hf : ∀ i, 0 ≤ f i ∧ f i < 256) :
    bits .or .i64 (wrap64 (bits .or .i64 (wrap64 (bits .or .i64 (wrap64 (bits .or .i64 (wrap64 (bits .or .i64 (wrap64 (bits .or .i64 (wrap64 (bits .or .i64 (f 0 % 64 * 256) (wrap64 (f 1)) * 256)) (wrap64 (f 2)) * 256)) (wrap64 (f 3)) * 256)) (wrap64 (f 4)) * 256)) (wrap64 (f 5)) * 256)) (wrap64 (f 6)) * 256)) (wrap64 (f 7)) = gva f 8 := by
  have a1 := hf 1; have a2 := hf 2; have a3 := hf 3; have a4 := hf 4; have a5 := hf 5; have a6 := hf 6; have a7 := hf 7
  rw [st0 _ _ a1, st1 _ _ (by omega) a2, st1 _ _ (by omega) a3, st1 _ _ (by omega) a4, st1 _ _ (by omega) a5, st1 _ _ (by omega) a6, st1 _ _ (by omega) a7]
  rfl
theorem chain2 (f : Nat → Int) (hf : ∀ i, 0 ≤ f i ∧ f i < 256) : bits .or .i64 (f 0 % 64 * 256) (wrap64 (f 1)) = gva f 2 := by
  rw [st0 _ _ (hf 1)]
  rfl
theorem gva_bd (f : Nat → Int) (hf : ∀ i, 0 ≤ f i ∧ f i < 256) {m k : Nat} (hk : Mk m k) : 0 ≤ gva f k ∧ gva f k < 4611686018427387904 := by
  have a0 := hf 0; have a1 := hf 1; have a2 := hf 2; have a3 := hf 3; have a4 := hf 4; have a5 := hf 5; have a6 := hf 6; have a7 := hf 7
  rcases hk with ⟨rfl, rfl⟩ | ⟨rfl, rfl⟩ | ⟨rfl, rfl⟩ | ⟨rfl, rfl⟩ <;> simp only [gva, Nat.zero_add, Nat.reduceAdd] <;> omega
end Go.Proofs.YtihkbakbciejiaaDoor
