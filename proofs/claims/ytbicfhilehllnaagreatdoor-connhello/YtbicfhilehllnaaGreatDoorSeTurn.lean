/-
  Plain facts: a text as bytes in a row of its own, one of them turned, and parts of the row as texts again. No condition but the lengths.
-/
import Derived.Test.YtbicfhilehllnaaGreatDoorSeMore
import Derived.Test.YtbicfhilehllnaaGreatDoorShArr
import Derived.Lib.ConvBytes
namespace Go.Proofs.YtbicfhilehllnaaGreatDoor
set_option maxRecDepth 100000
open Go.RowKit Go.Sort

theorem tb_conv (w : World) (s : ByteArray) :
    (convert 9 129 (.string s)).run Tryz.prog w = .ok (.slice (some ⟨w.heap.size, 0, none⟩) s.size (grownCap w s.size 0 5)) (Lib.bytesWorld w 5 s) :=
  Lib.run_convert_string_bytes w 9 129 5 s Tryz.underlying9 Tryz.underlying129 Tryz.underlying5
theorem tb_at (w : World) (s : ByteArray) : At .u8 (Lib.bytesWorld w 5 s) w.heap.size 0 (nb s) := by
  have hc : ∀ j, j < s.size → (Lib.bytesWorld w 5 s).cell? ⟨w.heap.size, j, none⟩ = some (.int .u8 (((nb s).getD j 0 : Nat) : Int)) := fun j hj => by
    rw [Lib.bytesWorld_cell w 5 _ j hj]
    have h' : j < s.data.toList.length := by simpa using hj
    simp [nb, List.getD, List.getElem?_eq_getElem h']
  refine ⟨fun j v hv => ?_, fun j hj => ⟨?_, ?_⟩⟩
  · have hj : j < (nb s).length := by have := (List.getElem?_eq_some_iff.1 hv).1; rwa [nv_length] at this
    rw [nv_get _ _ _ hj] at hv
    rw [Nat.zero_add, hc j (by rwa [nb_length] at hj)]
    exact hv
  · rw [nb_length] at hj
    rw [Nat.zero_add, hc j hj]
    rfl
  · rw [nb_length] at hj
    rw [Nat.zero_add]
    have hz : s.size ≤ (Lib.bytesCells w 5 s).size := by simp [Lib.bytesCells]
    simp only [World.frozen?, Lib.bytesWorld_at_new]
    simp
    omega
theorem tb_below (w : World) (s : ByteArray) : Below w.heap.size w (Lib.bytesWorld w 5 s) := by
  refine ⟨rfl, rfl, rfl, ?_, fun k hk => Lib.bytesWorld_at_old w 5 s k hk⟩
  rw [Lib.bytesWorld_size]; omega
theorem tb_cap (w : World) (s : ByteArray) : s.size ≤ grownCap w s.size 0 5 := grownCap_ge _ _ _ _
/-- Parts of a row of bytes as texts. -/
theorem At.front {w : World} {B : Nat} {l : List Nat} (h : At .u8 w B 0 l) (m c : Nat) (hm : m ≤ l.length) : (convert 129 9 (.slice (some ⟨B, 0, none⟩) m c)).run Tryz.prog w = .ok (.string (bstr (l.take m))) w := by
  rw [← List.take_append_drop m l] at h
  exact h.left.str m c (by rw [List.length_take]; omega)
theorem At.back {w : World} {B : Nat} {l : List Nat} (h : At .u8 w B 0 l) (m k c : Nat) (hm : m ≤ l.length) (hk : k = l.length - m) : (convert 129 9 (.slice (some ⟨B, m, none⟩) k c)).run Tryz.prog w = .ok (.string (bstr (l.drop m))) w := by
  have hl : (l.take m).length = m := by rw [List.length_take]; omega
  rw [← List.take_append_drop m l] at h
  have h2 := h.right
  rw [hl, Nat.zero_add] at h2
  exact h2.str k c (by rw [List.length_drop]; exact hk)
/-- The beginning of a slice of bytes, and its end. -/
theorem sl_front (B N cap m : Nat) (w : World) (h : m ≤ cap) (hc : 0 < cap) : (Instr.sliceAt 129 (.slice (some ⟨B, 0, none⟩) N cap) none (some (.int .i64 (m : Int))) none).run Tryz.prog w = .ok (.slice (some ⟨B, 0, none⟩) m cap) w := by
  have h3 : ¬ cap = 0 := by omega
  simp [Instr.sliceAt, Instr.slice, run_underlying Tryz.underlying129, Instr.sliceBounds, Instr.sliceBound, asIntOf, Tryz.sizeOf5, h, h3, Addr.add_mid]
theorem sl_back (B N cap m : Nat) (w : World) (h : m ≤ N) (hc : m < cap) : (Instr.sliceAt 129 (.slice (some ⟨B, 0, none⟩) N cap) (some (.int .i64 (m : Int))) none none).run Tryz.prog w = .ok (.slice (some ⟨B, m, none⟩) (N - m) (cap - m)) w := by
  have h3 : ¬ cap = m := by omega
  simp [Instr.sliceAt, Instr.slice, run_underlying Tryz.underlying129, Instr.sliceBounds, Instr.sliceBound, asIntOf, Tryz.sizeOf5, h, h3, Addr.add_mid]
/-- A text with a byte turned. -/
def trn (s : ByteArray) (i y : Nat) : ByteArray := bstr ((nb s).set i ((nb s).getD i 0 ^^^ y))
theorem trn_size (s : ByteArray) (i y : Nat) : (trn s i y).size = s.size := by unfold trn; rw [bstr_size, List.length_set, nb_length]
theorem trn_lt (s : ByteArray) (i y : Nat) (hy : y < 256) : ∀ x ∈ (nb s).set i ((nb s).getD i 0 ^^^ y), x < 256 := by
  intro x hx
  rcases List.mem_or_eq_of_mem_set hx with h | h
  · exact nb_lt s x h
  · rw [h]; exact Nat.xor_lt_two_pow (n := 8) (get_lt (nb_lt s) i) hy
theorem trn_cut (s : ByteArray) (i y : Nat) (hy : y < 256) : hdd (trn s i y) = bstr (((nb s).set i ((nb s).getD i 0 ^^^ y)).take (s.size - 16)) ∧ tgd (trn s i y) = bstr (((nb s).set i ((nb s).getD i 0 ^^^ y)).drop (s.size - 16)) := by
  have hl := trn_lt s i y hy
  have hz := trn_size s i y
  have hlen : ((nb s).set i ((nb s).getD i 0 ^^^ y)).length = s.size := by rw [List.length_set, nb_length]
  constructor
  · unfold hdd
    rw [hz]
    unfold trn
    rw [← bstr_nb ((bstr _).extract 0 (s.size - 16)), nb_extract _ _ _ hl, List.drop_zero, Nat.sub_zero]
  · unfold tgd
    rw [hz]
    unfold trn
    rw [← bstr_nb ((bstr _).extract (s.size - 16) s.size), nb_extract _ _ _ hl, List.take_of_length_le (by rw [List.length_drop, hlen]; omega)]
end Go.Proofs.YtbicfhilehllnaaGreatDoor
