/-
  What every law of this seat starts from: the tables and sentinels of Go's library as the row's list gives them, and that they last. No condition.
-/
import Derived.Test.YtojfcflkanohoaaDoorTie
import Derived.Test.YtojfcflkanohoaaDoorCards
import Derived.Test.YtojfcflkanohoaaDoorShelf
import Derived.ProofKit
import Derived.OpenShut
import Derived.ShutString
import Derived.LaidMore
import Derived.Lay
import Derived.Lib.LaidTab
import Derived.Stop.LaidErr
import Derived.Stop.Joined
import Derived.WalkKit
namespace Go.Proofs.YtojfcflkanohoaaDoor
open Go.ChangeShapes Go.WideShapes Go.ChangeAt Go.RowKit

theorem gES : Tryd.prog.globalNamed "strconv.ErrSyntax" = some 2 := by kernel_rfl
theorem gER : Tryd.prog.globalNamed "strconv.ErrRange" = some 3 := by kernel_rfl
theorem gP10 : Tryd.prog.globalNamed "internal/strconv.uint64pow10" = some 0 := by kernel_rfl
theorem tES : (Tryd.prog.globals[2]?).map (·.type) = some 73 := by kernel_rfl
theorem tER : (Tryd.prog.globals[3]?).map (·.type) = some 73 := by kernel_rfl
theorem tP10 : (Tryd.prog.globals[0]?).map (·.type) = some 97 := by kernel_rfl
theorem cellsP10 : Tryd.prog.cellsOf 97 = 20 := by kernel_rfl
theorem cellsU64 : Tryd.prog.cellsOf 41 = 1 := by kernel_rfl
theorem cellsErr : Tryd.prog.cellsOf 128 = 1 := by kernel_rfl
theorem cellsStr : Tryd.prog.cellsOf 9 = 1 := by kernel_rfl
theorem starErr : "*" ++ "errors.errorString" = "*errors.errorString" := by decide
theorem rowErr (u : TypeId) (h : Tryd.prog.typeName? 3 u = some "*errors.errorString") : u = 126 :=
  typeName_ptr_named (nm := "errors.errorString") (by rw [starErr]; kernel_rfl) (by kernel_rfl) (by decide) u (by rw [starErr]; exact h)

/-- The table of powers and the two sentinels lie as the program's text lays them. -/
structure Tab (w : World) : Prop where
  p10 : Lib.TabIs Tryd.prog w "internal/strconv.uint64pow10" .u64 Lib.pow10Tab
  syn : ∃ tp p, w.var? Tryd.prog "strconv.ErrSyntax" = some #[.iface tp p]
  rng : ∃ tp p, w.var? Tryd.prog "strconv.ErrRange" = some #[.iface tp p]
theorem var_keep {n : String} {g : Nat} {cs : Array Value} {w w' : World} (hg : Tryd.prog.globalNamed n = some g) (h : w.var? Tryd.prog n = some cs) (hb : Below w.heap.size w w') : w'.var? Tryd.prog n = some cs := by
  unfold World.var? at h ⊢
  rw [hg] at h ⊢
  simp only [Option.bind_some] at h ⊢
  have hlt : g < w.heap.size := by
    rcases Nat.lt_or_ge g w.heap.size with h' | h'
    · exact h'
    · rw [Array.getElem?_eq_none h'] at h; cases h
  rw [hb.block g hlt]
  exact h
/-- The table of powers alone. -/
structure TabP (w : World) : Prop where
  p10 : Lib.TabIs Tryd.prog w "internal/strconv.uint64pow10" .u64 Lib.pow10Tab
theorem TabP.keep {w w' : World} (t : TabP w) (hb : Below w.heap.size w w') : TabP w' := ⟨var_keep gP10 t.p10 hb⟩
theorem Tab.p {w : World} (t : Tab w) : TabP w := ⟨t.p10⟩
theorem Tab.keep {w w' : World} (t : Tab w) (hb : Below w.heap.size w w') : Tab w' := by
  obtain ⟨h1, ⟨tp, p, h2⟩, ⟨tq, q, h3⟩⟩ := t
  exact ⟨var_keep gP10 h1 hb, ⟨tp, p, var_keep gES h2 hb⟩, ⟨tq, q, var_keep gER h3 hb⟩⟩
theorem Tab.alloc {w : World} (t : Tab w) (o : Obj) : Tab (w.alloc o) := t.keep ((Below.refl _ _).alloc (Nat.le_refl _) _)
theorem tabOf {H : List (String × DataW Unit)} {W : World} (e : H = [("math/bits.deBruijn32tab", Rows.laid_math_bits_deBruijn32tab), ("math/bits.deBruijn64tab", Rows.laid_math_bits_deBruijn64tab), ("internal/strconv.uint64pow10", Rows.laid_internal_strconv_uint64pow10), ("unicode/utf8.acceptRanges", Rows.laid_unicode_utf8_acceptRanges), ("strconv.ErrRange", Rows.laid_strconv_ErrRange), ("strconv.ErrSyntax", Rows.laid_strconv_ErrSyntax), ("unicode/utf8.first", Rows.laid_unicode_utf8_first)])
    (h : laidMet Tryd.prog H W) : Tab W := by
  subst e
  have h3 := h.tail.tail
  have h5 := h3.tail.tail
  have h6 := h5.tail
  obtain ⟨a0, s0, hv0, -, -, -⟩ := laid_sentinel h5 gER tER Tryd.underlying73 rowErr Tryd.underlying126 Tryd.underlying128 rfl rfl Tryd.underlying9 cellsErr cellsStr
  obtain ⟨a1, s1, hv1, -, -, -⟩ := laid_sentinel h6 gES tES Tryd.underlying73 rowErr Tryd.underlying126 Tryd.underlying128 rfl rfl Tryd.underlying9 cellsErr cellsStr
  exact ⟨Lib.tabIs_of_head (zs := Lib.pow10Tab) gP10 tP10 Tryd.underlying97 Tryd.underlying41 cellsU64 cellsP10 h3, ⟨_, _, hv1⟩, ⟨_, _, hv0⟩⟩
theorem tabOfP {H : List (String × DataW Unit)} {W : World} (e : H = [("math/bits.deBruijn32tab", Rows.laid_math_bits_deBruijn32tab), ("math/bits.deBruijn64tab", Rows.laid_math_bits_deBruijn64tab), ("internal/strconv.uint64pow10", Rows.laid_internal_strconv_uint64pow10)])
    (h : laidMet Tryd.prog H W) : TabP W := by
  subst e
  exact ⟨Lib.tabIs_of_head (zs := Lib.pow10Tab) gP10 tP10 Tryd.underlying97 Tryd.underlying41 cellsU64 cellsP10 h.tail.tail⟩
end Go.Proofs.YtojfcflkanohoaaDoor
