/-
  What strings.Cut answers at the separator "/", for every string: what stands ahead of the first one and behind it, or the whole. A string has at most 2^63 - 2 bytes.
-/
import Derived.Test.YtojfcflkanohoaaDoorPfPar
import Derived.BigQuiet
namespace Go.Proofs.YtojfcflkanohoaaDoor
open Go.RowKit Go.Sort

/-- What is cut. -/
def CutOf (s a b : ByteArray) (q : Bool) : Prop := (q = true ∧ 47 ∉ a.data.toList ∧ s.data.toList = a.data.toList ++ 47 :: b.data.toList) ∨ (q = false ∧ 47 ∉ s.data.toList ∧ a = s ∧ b = ⟨#[]⟩)
set_option maxHeartbeats 1000000 in
theorem scut_yes (s : ByteArray) (k : Nat) (w : World) (hs : s.size ≤ 9223372036854775806) (hk : k < s.size) (h : Lib.indexByte s.data.toList 47 = k) :
    Calls Tryd.prog 59 #[.string s, .string ⟨#[47]⟩] w fun e w' => e = .returned (.tuple #[.string (s.extract 0 k), .string (s.extract (k + 1) s.size), .bool true]) ∧ Below w.heap.size w w' := by
  have I : Hid (∀ w, Calls Tryd.prog 72 #[.string s, .string ⟨#[47]⟩] w fun e w' => e = .returned (.int .i64 k) ∧ w' = w) := fun w => by have := Tryd.stringslite_Index_one s 47 w; rwa [h] at this
  have k1 : (k : Int) ≤ s.size := by omega
  have k2 : (k : Int) + 1 ≤ s.size := by omega
  clear h
  go_enter Tryd.func59, Tryd.ntmps59
  go_wp2_with (go_at_call 72; refine (I.out _).mono ?_; rintro e w' ⟨rfl, rfl⟩)
  go_quiet (fail)
  go_wp2
  go_ret3
  exact ⟨rfl, ⟨rfl, rfl, rfl, Nat.le_refl _, fun _ _ => rfl⟩⟩
set_option maxHeartbeats 1000000 in
theorem scut_no (s : ByteArray) (w : World) (h : Lib.indexByte s.data.toList 47 = -1) :
    Calls Tryd.prog 59 #[.string s, .string ⟨#[47]⟩] w fun e w' => e = .returned (.tuple #[.string s, .string ⟨#[]⟩, .bool false]) ∧ Below w.heap.size w w' := by
  have I : Hid (∀ w, Calls Tryd.prog 72 #[.string s, .string ⟨#[47]⟩] w fun e w' => e = .returned (.int .i64 (-1)) ∧ w' = w) := fun w => by have := Tryd.stringslite_Index_one s 47 w; rwa [h] at this
  clear h
  go_enter Tryd.func59, Tryd.ntmps59
  go_wp2_with (go_at_call 72; refine (I.out _).mono ?_; rintro e w' ⟨rfl, rfl⟩)
  go_ret3
  exact ⟨rfl, Below.refl _ _⟩
theorem cut_ok (s : ByteArray) (hs : s.size ≤ 9223372036854775806) : ∃ a b q, CutOf s a b q ∧ ∀ w, Calls Tryd.prog 49 #[.string s, .string ⟨#[47]⟩] w fun e w' => e = .returned (.tuple #[.string a, .string b, .bool q]) ∧ Below w.heap.size w w' := by
  obtain ⟨a, b, q, hc, hC⟩ : ∃ a b q, CutOf s a b q ∧ ∀ w, Calls Tryd.prog 59 #[.string s, .string ⟨#[47]⟩] w fun e w' => e = .returned (.tuple #[.string a, .string b, .bool q]) ∧ Below w.heap.size w w' := by
    rcases index_spec 47 s.data.toList with ⟨q1, q2⟩ | ⟨k, q1, q2, q3, q4⟩
    · exact ⟨s, ⟨#[]⟩, false, .inr ⟨rfl, q2, rfl, rfl⟩, fun w => scut_no s w q1⟩
    · have hk : k < s.size := by simpa using q2
      have e1 : (s.extract 0 k).data.toList = s.data.toList.take k := by
        simp [ByteArray.data_extract, List.extract_eq_take_drop]
      have e2 : (s.extract (k + 1) s.size).data.toList = s.data.toList.drop (k + 1) := by
        have : s.data.toList.length = s.size := by simp
        simp only [ByteArray.data_extract, Array.toList_extract, List.extract_eq_take_drop]
        exact List.take_of_length_le (by rw [List.length_drop]; omega)
      exact ⟨_, _, true, .inl ⟨rfl, by rw [e1]; exact q3, by rw [e1, e2]; exact q4⟩, fun w => scut_yes s k w hs hk q1⟩
  refine ⟨a, b, q, hc, fun w => ?_⟩
  have C : Hid (∀ w, _) := hC
  clear hc hC
  go_enter Tryd.func49, Tryd.ntmps49
  go_wp2_with (go_at_call 59; refine (C.out _).mono ?_; rintro e w1 ⟨rfl, b1⟩)
  go_ret3
  exact ⟨rfl, b1⟩
end Go.Proofs.YtojfcflkanohoaaDoor
