/-
  What the program's own Parse answers, in two: of an address's writing that address, of every other string none. A string has at most 2^48 bytes; the tables of Go's library lie as the row's list gives them.
-/
import Derived.Test.YtojfcflkanohoaaDoorPfPar
namespace Go.Proofs.YtojfcflkanohoaaDoor
open Go.RowKit Go.Sort

theorem txt_inj {a b : Int} (a0 : 0 ≤ a) (a1 : a < 4294967296) (b0 : 0 ≤ b) (b1 : b < 4294967296) (h : txt a = txt b) : a = b := by
  rw [← cand_txt a a0 a1, ← cand_txt b b0 b1, h]
theorem parse_yes (a : Int) (w : World) (t : Tab w) (a0 : 0 ≤ a) (a1 : a < 4294967296) :
    Calls Tryd.prog 51 #[.string (txt a)] w fun e w' => e = .returned (.tuple #[.int .u32 a, .bool true]) ∧ Below w.heap.size w w' := by
  refine (parse_any (txt a) w t (by unfold txt; rw [strOfNums_size]; have := tl_len a; omega)).mono ?_
  rintro e w' ⟨⟨b, hb, he, rfl⟩ | ⟨hn, rfl⟩, b1⟩
  · rw [txt_inj hb.1 hb.2 a0 a1 he]
    exact ⟨rfl, b1⟩
  · exact absurd rfl (hn a a0 a1)
theorem parse_no (s : ByteArray) (w : World) (t : Tab w) (hs : s.size ≤ 281474976710656) (h : ∀ a : Int, 0 ≤ a → a < 4294967296 → txt a ≠ s) :
    Calls Tryd.prog 51 #[.string s] w fun e w' => e = .returned (.tuple #[.int .u32 0, .bool false]) ∧ Below w.heap.size w w' := by
  refine (parse_any s w t hs).mono ?_
  rintro e w' ⟨⟨b, hb, he, rfl⟩ | ⟨hn, rfl⟩, b1⟩
  · exact absurd he (h b hb.1 hb.2)
  · exact ⟨rfl, b1⟩
end Go.Proofs.YtojfcflkanohoaaDoor
