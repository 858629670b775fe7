/-
  Plain facts on the writings of addresses: what they are, and that an address's writing is read as that address. No condition.
-/
import Derived.Test.YtojfcflkanohoaaDoorPfMath
import Derived.Test.YtojfcflkanohoaaDoorIpMath
namespace Go.Proofs.YtojfcflkanohoaaDoor
open Go.RowKit

/-- A number's decimal digits, as bytes. -/
def dd (n : Int) : List Int := if n < 10 then [48 + n] else if n < 100 then [48 + n / 10, 48 + n % 10] else [48 + n / 100, 48 + n / 10 % 10, 48 + n % 10]
theorem pf_append (a b : List Int) : strOfNums a ++ strOfNums b = strOfNums (a ++ b) := by
  unfold strOfNums
  rw [ByteArray.mk_append_mk, List.map_append]
/-- An address's writing, as bytes. -/
def tl (a : Int) : List Int := dd (a / 16777216) ++ [46] ++ dd (a / 65536 % 256) ++ [46] ++ dd (a / 256 % 256) ++ [46] ++ dd (a % 256)
def txt (a : Int) : ByteArray := strOfNums (tl a)
theorem dd_len (n : Int) : 1 ≤ (dd n).length ∧ (dd n).length ≤ 3 := by
  unfold dd
  split
  · simp
  · split <;> simp
theorem tl_len (a : Int) : 7 ≤ (tl a).length ∧ (tl a).length ≤ 15 := by
  have h1 := dd_len (a / 16777216)
  have h2 := dd_len (a / 65536 % 256)
  have h3 := dd_len (a / 256 % 256)
  have h4 := dd_len (a % 256)
  unfold tl
  simp only [List.length_append, List.length_cons, List.length_nil]
  omega
/-- A string's bytes as numbers. -/
def pbl (s : ByteArray) : List Int := s.data.toList.map fun b => (b.toNat : Int)
theorem pbl_length (s : ByteArray) : (pbl s).length = s.size := by simp [pbl]
theorem pbl_get (s : ByteArray) (i : Nat) (h : i < s.size) : (pbl s)[i]? = some (byt s i) := by
  unfold pbl byt
  have h' : i < s.data.toList.length := by simpa using h
  simp [List.getElem?_eq_getElem h', List.getD]
theorem pbl_nums (l : List Int) (hl : ∀ y ∈ l, 0 ≤ y ∧ y < 256) : pbl (strOfNums l) = l := by
  unfold pbl strOfNums
  simp only [List.map_map]
  conv => rhs; rw [← List.map_id l]
  refine List.map_congr_left fun y hy => ?_
  have := hl y hy
  simp
  omega
/-- One sign more of an address's writing: what is whole, and the number that is begun. -/
def stp (p : Int × Int) (c : Int) : Int × Int := if c = 46 then ((p.1 * 256 + p.2) % 4294967296, 0) else (p.1, (p.2 * 10 + (c - 48) % 256) % 256)
def fld (l : List Int) : Int × Int := l.foldl stp (0, 0)
theorem stp_bd (p : Int × Int) (c : Int) (h : (0 ≤ p.1 ∧ p.1 < 4294967296) ∧ (0 ≤ p.2 ∧ p.2 < 256)) : (0 ≤ (stp p c).1 ∧ (stp p c).1 < 4294967296) ∧ (0 ≤ (stp p c).2 ∧ (stp p c).2 < 256) := by
  unfold stp
  split
  · exact ⟨by simp only; omega, by simp⟩
  · exact ⟨h.1, by simp only; omega⟩
theorem foldl_bd : ∀ (l : List Int) (p : Int × Int), (0 ≤ p.1 ∧ p.1 < 4294967296) ∧ (0 ≤ p.2 ∧ p.2 < 256) → (0 ≤ (l.foldl stp p).1 ∧ (l.foldl stp p).1 < 4294967296) ∧ (0 ≤ (l.foldl stp p).2 ∧ (l.foldl stp p).2 < 256)
  | [], _, h => h
  | c :: l, p, h => foldl_bd l (stp p c) (stp_bd p c h)
theorem fld_bd (l : List Int) : (0 ≤ (fld l).1 ∧ (fld l).1 < 4294967296) ∧ (0 ≤ (fld l).2 ∧ (fld l).2 < 256) := foldl_bd l (0, 0) (by decide)
theorem fld_step (s : ByteArray) (k : Nat) (h : k < s.size) : fld ((pbl s).take (k + 1)) = stp (fld ((pbl s).take k)) (byt s k) := by
  unfold fld
  have hk : k < (pbl s).length := by rw [pbl_length]; exact h
  have e : (pbl s)[k] = byt s k := by
    have := pbl_get s k h
    rw [List.getElem?_eq_getElem hk] at this
    exact Option.some.inj this
  rw [List.take_succ_eq_append_getElem hk, List.foldl_append, e]
  rfl
def fin (p : Int × Int) : Int := (p.1 * 256 + p.2) % 4294967296
/-- The address that a string may be the writing of. -/
def cand (s : ByteArray) : Int := fin (fld ((pbl s).take 16))
theorem cand_bd (s : ByteArray) : 0 ≤ cand s ∧ cand s < 4294967296 := by unfold cand fin; omega
theorem fold_dd (n a : Int) (h0 : 0 ≤ n) (h : n < 256) : (dd n).foldl stp (a, 0) = (a, n) := by
  unfold dd
  split
  · simp only [List.foldl, stp]
    rw [if_neg (by omega)]
    simp only [Prod.mk.injEq, true_and]
    omega
  · split
    · simp only [List.foldl, stp]
      rw [if_neg (by omega), if_neg (by omega)]
      simp only [Prod.mk.injEq, true_and]
      omega
    · simp only [List.foldl, stp]
      rw [if_neg (by omega), if_neg (by omega), if_neg (by omega)]
      simp only [Prod.mk.injEq, true_and]
      have p1 : (0 * 10 + (48 + n / 100 - 48) % 256) % 256 = n / 100 := by omega
      have p2 : (48 + n / 10 % 10 - 48) % 256 = n / 10 % 10 := by omega
      have p3 : (48 + n % 10 - 48) % 256 = n % 10 := by omega
      have p4 : (n / 100 * 10 + n / 10 % 10) % 256 = n / 10 := by omega
      rw [p1, p2, p3, p4]
      omega
theorem dd_bd (n : Int) (h0 : 0 ≤ n) (h : n < 256) : ∀ y ∈ dd n, 48 ≤ y ∧ y < 58 := by
  unfold dd
  intro y hy
  split at hy
  · simp at hy; omega
  · split at hy
    · simp at hy; omega
    · simp at hy; omega
theorem tl_bd (a : Int) (a0 : 0 ≤ a) (a1 : a < 4294967296) : ∀ y ∈ tl a, 46 ≤ y ∧ y < 58 := by
  intro y hy
  have h1 := dd_bd (a / 16777216) (by omega) (by omega) y
  have h2 := dd_bd (a / 65536 % 256) (by omega) (by omega) y
  have h3 := dd_bd (a / 256 % 256) (by omega) (by omega) y
  have h4 := dd_bd (a % 256) (by omega) (by omega) y
  unfold tl at hy
  simp only [List.mem_append, List.mem_singleton] at hy
  rcases hy with (((((hy | hy) | hy) | hy) | hy) | hy) | hy
  · have := h1 hy; omega
  · omega
  · have := h2 hy; omega
  · omega
  · have := h3 hy; omega
  · omega
  · have := h4 hy; omega
theorem pbl_txt (a : Int) (a0 : 0 ≤ a) (a1 : a < 4294967296) : pbl (txt a) = tl a := pbl_nums _ fun y hy => by have := tl_bd a a0 a1 y hy; omega
theorem cand_txt (a : Int) (a0 : 0 ≤ a) (a1 : a < 4294967296) : cand (txt a) = a := by
  unfold cand
  rw [pbl_txt a a0 a1, List.take_of_length_le (by have := tl_len a; omega)]
  unfold fld tl fin
  simp only [List.foldl_append, List.foldl_cons, List.foldl_nil]
  rw [fold_dd _ _ (by omega) (by omega)]
  simp only [stp, if_pos]
  rw [fold_dd _ _ (by omega) (by omega)]
  simp only
  rw [fold_dd _ _ (by omega) (by omega)]
  simp only
  rw [fold_dd _ _ (by omega) (by omega)]
  simp only
  omega

theorem pf_list_eq (a b : ByteArray) (h : a.toList = b.toList) : a = b := by
  rw [ByteArray.toList_eq, ByteArray.toList_eq] at h
  exact ByteArray.ext (Array.toList_inj.1 h)
theorem tl_no (a : Int) (a0 : 0 ≤ a) (a1 : a < 4294967296) : ∀ y ∈ tl a, y ≠ 47 := by
  intro y hy
  have h1 := dd_bd (a / 16777216) (by omega) (by omega) y
  have h2 := dd_bd (a / 65536 % 256) (by omega) (by omega) y
  have h3 := dd_bd (a / 256 % 256) (by omega) (by omega) y
  have h4 := dd_bd (a % 256) (by omega) (by omega) y
  unfold tl at hy
  simp only [List.mem_append, List.mem_singleton] at hy
  rcases hy with (((((hy | hy) | hy) | hy) | hy) | hy) | hy
  · have := h1 hy; omega
  · omega
  · have := h2 hy; omega
  · omega
  · have := h3 hy; omega
  · omega
  · have := h4 hy; omega
end Go.Proofs.YtojfcflkanohoaaDoor
