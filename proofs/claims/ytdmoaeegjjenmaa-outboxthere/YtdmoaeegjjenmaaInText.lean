/-
  Texts and streams: what a run of bytes is as a text; what stands at a place when a text is laid. Plain facts; no condition.
-/
import Derived.Test.YtdmoaeegjjenmaaInFaceP
namespace Go.Proofs.Ytdmoaeegjjenmaa.ib
set_option maxRecDepth 100000
open Go.RowKit Go.Sort

def numsOf (s : ByteArray) : List Int := (List.range s.size).map (bt s)
theorem numsOf_len (s : ByteArray) : (numsOf s).length = s.size := by simp [numsOf]
theorem numsOf_get (s : ByteArray) (i : Nat) (h : i < s.size) : (numsOf s).getD i 0 = bt s i := by simp [numsOf, List.getD, h]
theorem ba_size (s : ByteArray) : s.size = s.data.toList.length := by
  show s.data.size = _
  rw [Array.length_toList]
theorem ba_ext {a b : ByteArray} (h : a.data.toList = b.data.toList) : a = b := by
  cases a; cases b
  congr 1
  exact Array.ext' h
theorem strOf_numsOf (s : ByteArray) : strOfNums (numsOf s) = s := by
  apply ba_ext
  rw [strOfNums_data]
  apply List.ext_getElem?
  intro i
  rw [List.getElem?_map]
  by_cases h : i < s.size
  · have h' : i < s.data.toList.length := by simpa using h
    rw [List.getElem?_eq_getElem h', List.getElem?_eq_getElem (by rw [numsOf_len]; exact h)]
    simp only [Option.map_some, Option.some.injEq]
    simp only [numsOf, List.getElem_map, List.getElem_range]
    unfold bt
    rw [List.getD, List.getElem?_eq_getElem h', Option.getD_some, Int.toNat_natCast, UInt8.ofNat_toNat]
  · have h' : s.data.toList.length ≤ i := by
      have := ba_size s
      omega
    rw [List.getElem?_eq_none h', List.getElem?_eq_none (by rw [numsOf_len]; omega)]
    rfl
theorem bt_strOf (l : List Int) (h : ∀ c ∈ l, 0 ≤ c ∧ c ≤ 255) (i : Nat) (hi : i < l.length) : bt (strOfNums l) i = l.getD i 0 := by
  unfold bt
  rw [strOfNums_data]
  have := h l[i] (List.getElem_mem hi)
  simp only [List.getD, List.getElem?_map, List.getElem?_eq_getElem hi, Option.map_some, Option.getD_some]
  rw [UInt8.toNat_ofNat']
  omega
/-- A run of a text's bytes is that text. -/
theorem run_text (g : Int → Option Int) (p : Int) (s : ByteArray) (n : Nat) (hn : s.size ≤ n) (h : ∀ i, i < s.size → g (p + i) = some (bt s i)) (he : s.size = n ∨ g (p + s.size) = none) : strOfNums (runB g p n) = s ∧ (runB g p n).length = s.size := by
  have e : runB g p n = numsOf s := runB_eq g p (numsOf s) n (by rw [numsOf_len]; exact hn) (fun i hi => by
    rw [numsOf_len] at hi
    rw [h i hi, numsOf_get s i hi]) (by rw [numsOf_len]; exact he)
  rw [e]
  exact ⟨strOf_numsOf s, numsOf_len s⟩
theorem bt_app (a b : ByteArray) (i : Nat) : bt (a ++ b) i = if i < a.size then bt a i else bt b (i - a.size) := by
  unfold bt
  have e : (a ++ b).data.toList = a.data.toList ++ b.data.toList := by simp
  rw [e, List.getD, List.getD, List.getD, List.getElem?_append, ← ba_size]
  split <;> rfl
theorem app_size (a b : ByteArray) : (a ++ b).size = a.size + b.size := by simp
theorem bt_ext (s : ByteArray) (j k i : Nat) (h : j + i < k) : bt (s.extract j k) i = bt s (j + i) := by
  unfold bt
  have e : (s.extract j k).data.toList = (s.data.toList.take k).drop j := by
    simp [ByteArray.data_extract, List.drop_take]
  rw [e, List.getD, List.getD, List.getElem?_drop, List.getElem?_take, if_pos h]
theorem ext_size (s : ByteArray) (j k : Nat) (hk : k ≤ s.size) : (s.extract j k).size = k - j := by
  simp [ByteArray.size_extract]
  omega
/-- What stands behind an OK. -/
theorem put_zero {d : Bx} {off : Int} {s : ByteArray} {fin : Bool} (he : putE d off s.size fin = 0) (hr : d.rst = false) : putB d off s fin = { d with got := lay d off (bt s) s.size, most := if 0 < s.size then max d.most (off + s.size) else d.most, size := if fin = true then off + s.size else d.size, cnt := d.cnt + s.size } := by
  unfold putB
  rw [if_pos ⟨he, hr⟩]
theorem take_not {d : Bx} (h : d.rst = false) (n : Int) : takeL d n = runB d.got d.rd n.toNat := by unfold takeL; rw [h]; rfl
end Go.Proofs.Ytdmoaeegjjenmaa.ib
