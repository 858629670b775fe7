/-
  Plain facts: a text with its count in front. No condition.
-/
import Derived.Test.YtbicfhilehllnaaGreatDoorVaMath
namespace Go.Proofs.YtbicfhilehllnaaGreatDoor
set_option maxRecDepth 100000
open Go.RowKit

/-- A number below 2^62 in the fewest bytes. -/
def pt (n : Nat) : ByteArray := if n < 64 then strOfNums (puts n 0 1) else if n < 16384 then strOfNums (puts n 1 2) else if n < 1073741824 then strOfNums (puts n 2 4) else strOfNums (puts n 3 8)
theorem pt_is (n : Nat) (h : n < 4611686018427387904) : ∃ m k, Cl n m k ∧ pt n = strOfNums (puts n m k) := by
  unfold pt Cl
  by_cases h1 : n < 64
  · exact ⟨0, 1, by omega, by rw [if_pos h1]⟩
  · by_cases h2 : n < 16384
    · exact ⟨1, 2, by omega, by rw [if_neg h1, if_pos h2]⟩
    · by_cases h3 : n < 1073741824
      · exact ⟨2, 4, by omega, by rw [if_neg h1, if_neg h2, if_pos h3]⟩
      · exact ⟨3, 8, by omega, by rw [if_neg h1, if_neg h2, if_neg h3]⟩
theorem pt_size (n : Nat) (h : n < 4611686018427387904) : (pt n).size ≤ 8 := by
  obtain ⟨m, k, hc, e⟩ := pt_is n h
  rw [e, strOfNums_size, puts_length]
  have := hc.lo
  omega
/-- A text with its count in front. -/
def vtx (s : ByteArray) : ByteArray := pt s.size ++ s
theorem vtx_size (s : ByteArray) (h : s.size < 4611686018427387904) : (vtx s).size ≤ s.size + 8 := by
  unfold vtx
  rw [ByteArray.size_append]
  have := pt_size s.size h
  omega
end Go.Proofs.YtbicfhilehllnaaGreatDoor
