/-
  Plain facts: bytes of a string, one of them stored anew. No condition but those that are named.
-/
import Derived.Test.YtaloccmfpehhcaaIpHead
import Derived.Lib.ConvBytes
namespace Go.Proofs.Ytaloccmfpehhcaa
open Go.RowKit

/-! ### one byte stored anew -/
def bl (s : ByteArray) : List Int := s.data.toList.map fun b => (b.toNat : Int)
theorem bl_length (s : ByteArray) : (bl s).length = s.size := by simp [bl]
theorem bl_get (s : ByteArray) (i : Nat) (h : i < s.size) : (bl s)[i]? = some (byt s i) := by
  unfold bl byt
  have h' : i < s.data.toList.length := by simpa using h
  simp [List.getElem?_eq_getElem h', List.getD]
def turned (s : ByteArray) (k : Nat) (v : Int) : ByteArray := strOfNums ((bl s).set k v)
theorem turned_size (s : ByteArray) (k : Nat) (v : Int) : (turned s k v).size = s.size := by
  unfold turned; rw [strOfNums_size, List.length_set, bl_length]
theorem turned_byt (s : ByteArray) (k : Nat) (v : Int) (hk : k < s.size) (h0 : 0 ≤ v) (h : v < 256) (i : Nat) : byt (turned s k v) i = if i = k then v else byt s i := by
  unfold turned
  rw [byt_nums]
  · rcases Nat.lt_or_ge i s.size with hi | hi
    · by_cases e : i = k
      · subst e
        rw [if_pos rfl, List.getD, List.getElem?_set_self (by rw [bl_length]; exact hi)]
        rfl
      · rw [if_neg e, List.getD, List.getElem?_set_ne (Ne.symm e), bl_get s i hi]
        rfl
    · rw [if_neg (by omega), byt_past s i hi, List.getD, List.getElem?_eq_none (by rw [List.length_set, bl_length]; exact hi)]
      rfl
  · intro y hy
    rcases List.mem_or_eq_of_mem_set hy with hy | rfl
    · unfold bl at hy
      obtain ⟨b, _, rfl⟩ := List.mem_map.1 hy
      have := b.toNat_lt
      omega
    · exact ⟨h0, h⟩
theorem tb_conv (w : World) (s : ByteArray) :
    (convert 9 39 (.string s)).run Try.prog w = .ok (.slice (some ⟨w.heap.size, 0, none⟩) s.size (grownCap w s.size 0 5)) (Lib.bytesWorld w 5 s) :=
  Lib.run_convert_string_bytes w 9 39 5 s Try.underlying9 Try.underlying39 Try.underlying5
theorem tb_cell (w : World) (s : ByteArray) (j : Nat) (hj : j < s.size) : (Lib.bytesWorld w 5 s).cell? ⟨w.heap.size, j, none⟩ = some (.int .u8 (byt s j)) := by
  rw [Lib.bytesWorld_cell w 5 _ j hj]
  have h' : j < s.data.toList.length := by simpa using hj
  simp [byt, List.getD, List.getElem?_eq_getElem h']
theorem tb_frozen (w : World) (s : ByteArray) (j : Nat) (hj : j < s.size) : (Lib.bytesWorld w 5 s).frozen? ⟨w.heap.size, j, none⟩ = false := by
  have hz : s.size ≤ (Lib.bytesCells w 5 s).size := by simp [Lib.bytesCells]
  simp only [World.frozen?, Lib.bytesWorld_at_new]
  simp
  omega
theorem tb_below (w : World) (s : ByteArray) : Below w.heap.size w (Lib.bytesWorld w 5 s) := by
  refine ⟨rfl, rfl, rfl, ?_, fun k hk => Lib.bytesWorld_at_old w 5 s k hk⟩
  rw [Lib.bytesWorld_size]; omega
theorem tb_back (w : World) (s : ByteArray) (k c : Nat) (v : Int) (hk : k < s.size) :
    (convert 39 9 (.slice (some ⟨w.heap.size, 0, none⟩) s.size c)).run Try.prog ((Lib.bytesWorld w 5 s).setCell ⟨w.heap.size, k, none⟩ (.int .u8 v)) = .ok (.string (turned s k v)) ((Lib.bytesWorld w 5 s).setCell ⟨w.heap.size, k, none⟩ (.int .u8 v)) := by
  refine run_convert_bytes_arg (P := Try.prog) _ 39 5 Try.underlying39 Try.underlying5 w.heap.size 0 _ c ((bl s).set k v) (by rw [List.length_set, bl_length]) (fun i hi => ?_) 9 Try.underlying9
  have hc := tb_cell w s
  rw [Nat.zero_add]
  by_cases e : i = k
  · subst e
    rw [World.cell?_setCell_same (h := hc i hi), List.getD, List.getElem?_set_self (by rw [bl_length]; exact hi)]
    rfl
  · rw [World.cell?_setCell_other (h := by simp), hc i hi, List.getD, List.getElem?_set_ne (Ne.symm e), bl_get s i hi]
    rfl
theorem xor_ne (a b : Int) (a0 : 0 ≤ a) (a1 : a < 256) (b0 : 0 ≤ b) (b1 : b < 256) (hb : b ≠ 0) : ∃ v : Int, bits .xor .u8 a b = v ∧ 0 ≤ v ∧ v < 256 ∧ v ≠ a := by
  obtain ⟨x, rfl⟩ := Int.eq_ofNat_of_zero_le a0
  obtain ⟨y, rfl⟩ := Int.eq_ofNat_of_zero_le b0
  refine ⟨((x ^^^ y : Nat) : Int), u8_xor_nat x y (by omega) (by omega), by omega, ?_, fun e => hb ?_⟩
  · have : x ^^^ y < 2 ^ 8 := Nat.xor_lt_two_pow (by omega) (by omega)
    omega
  · have e' : x ^^^ y = x := by omega
    have : x ^^^ (x ^^^ y) = x ^^^ x := by rw [e']
    rw [← Nat.xor_assoc, Nat.xor_self, Nat.zero_xor] at this
    omega
end Go.Proofs.Ytaloccmfpehhcaa
