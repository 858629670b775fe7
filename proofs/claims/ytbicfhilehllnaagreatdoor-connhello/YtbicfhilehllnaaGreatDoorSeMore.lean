/-
  Plain facts: bytes whose tag is another one are refused; of data that goes on the hidden bytes of its beginning are the same; each byte hides its own place alone. No condition but the lengths.
-/
import Derived.Test.YtbicfhilehllnaaGreatDoorSeOpen
namespace Go.Proofs.YtbicfhilehllnaaGreatDoor
set_option maxRecDepth 100000
open Go.RowKit Go.Sort

theorem refused (secret : ByteArray) (n : Int) (head s : ByteArray) (h : 16 ≤ s.size) (hg : good secret n head s = false) : opv secret n head s = ⟨#[]⟩ ∧ ope secret n head s = 10 := by
  have h16 : ¬ s.size < 16 := by omega
  constructor
  · unfold opv
    rw [if_neg h16, if_neg (by rw [hg]; decide)]
  · unfold ope
    rw [if_neg h16, if_neg (by rw [hg]; decide)]
theorem hdn_at (key : ByteArray) (n : Int) (d : List Nat) (k i : Nat) (h : i < k) : (hdn key n d k).getD i 0 = d.getD i 0 ^^^ sbyte key n i := by
  unfold hdn
  simp [List.getD, h]
theorem hdn_app (key : ByteArray) (n : Int) (a b : List Nat) : ∀ k, k ≤ a.length → hdn key n (a ++ b) k = hdn key n a k := by
  intro k hk
  unfold hdn
  refine List.map_congr_left fun i hi => ?_
  have : i < a.length := by have := List.mem_range.1 hi; omega
  congr 1
  simp [List.getD, List.getElem?_append_left this]
theorem hdn_take (key : ByteArray) (n : Int) (d : List Nat) (k m : Nat) (h : k ≤ m) : (hdn key n d m).take k = hdn key n d k := by
  unfold hdn
  rw [← List.map_take, List.take_range, Nat.min_eq_left h]
/-- Of data that goes on, the hidden bytes of its beginning are the same. -/
theorem hide_app (secret : ByteArray) (n : Int) (a b : List Nat) : (hide secret n (a ++ b)).take a.length = hide secret n a := by
  unfold hide
  rw [hdn_take _ _ _ _ _ (by rw [List.length_append]; omega), hdn_app _ _ _ _ _ (Nat.le_refl _)]
/-- A byte that is turned, turns its own place alone. -/
theorem hide_turn (secret : ByteArray) (n : Int) (d : List Nat) (i y j : Nat) (hi : i < d.length) (hj : j < d.length) :
    (hide secret n (d.set i (d.getD i 0 ^^^ y))).getD j 0 = if j = i then (hide secret n d).getD j 0 ^^^ y else (hide secret n d).getD j 0 := by
  unfold hide
  rw [hdn_at _ _ _ _ _ (by rw [List.length_set]; exact hj), hdn_at _ _ _ _ _ hj]
  by_cases e : j = i
  · subst e
    rw [if_pos rfl]
    have : (d.set j (d.getD j 0 ^^^ y)).getD j 0 = d.getD j 0 ^^^ y := by simp [List.getD, hj]
    rw [this, Nat.xor_assoc, Nat.xor_comm y, ← Nat.xor_assoc]
  · rw [if_neg e]
    have : (d.set i (d.getD i 0 ^^^ y)).getD j 0 = d.getD j 0 := by simp [List.getD, List.getElem?_set_ne (Ne.symm e)]
    rw [this]
end Go.Proofs.YtbicfhilehllnaaGreatDoor
