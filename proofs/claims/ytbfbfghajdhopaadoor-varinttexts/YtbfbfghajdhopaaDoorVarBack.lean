/-
  What is written is got again, as facts on the program's own calls: a number, or a text with its count, at the front of whatever bytes, and what of it was cut off. No condition but that the table of sizes lies there.
-/
import Derived.Test.YtbfbfghajdhopaaDoorVarWorks
import Derived.Test.YtbfbfghajdhopaaDoorVarOrd
import Derived.Test.YtbfbfghajdhopaaDoorVarRefPutB
namespace Go.Proofs.YtbfbfghajdhopaaDoor
open Go.RowKit

/-- As far as the bytes u go, they are the writing of n. -/
def Agree (u : ByteArray) (n : Int) (m k : Nat) : Prop := ∀ i, i < k → i < u.size → byt u i = (puts n m k).getD i 0
theorem puts_bd (n : Int) (m k : Nat) (h : Cl n m k) : ∀ y ∈ puts n m k, 0 ≤ y ∧ y < 256 := by
  rw [puts_digs n m k h]; exact digs_bd _ _
theorem byt_str (l : List Int) (hl : ∀ y ∈ l, 0 ≤ y ∧ y < 256) (r : ByteArray) (i : Nat) (hi : i < l.length) : byt (strOfNums l ++ r) i = l.getD i 0 := by
  unfold byt
  have := hl l[i] (List.getElem_mem hi)
  rw [ByteArray.data_append, Array.toList_append, strOfNums_data]
  simp [List.getD, List.getElem?_append, hi]
  omega
theorem byt_extract (u : ByteArray) (x i : Nat) (hi : i < x) : byt (u.extract 0 x) i = byt u i := by
  unfold byt
  simp [ByteArray.data_extract, List.getD, hi]
theorem agree_front (n : Int) (m k : Nat) (h : Cl n m k) (r : ByteArray) : Agree (strOfNums (puts n m k) ++ r) n m k :=
  fun i hi _ => byt_str _ (puts_bd n m k h) r i (by rw [puts_length]; exact hi)
theorem agree_extract {u : ByteArray} {n : Int} {m k : Nat} (h : Agree u n m k) (x : Nat) (hx : x ≤ u.size) : Agree (u.extract 0 x) n m k := by
  intro i hi hs
  have hs' : i < x := by rw [ByteArray.size_extract] at hs; omega
  rw [byt_extract u x i hs']
  exact h i hi (by omega)
theorem cl_mk {n : Int} {m k : Nat} (h : Cl n m k) : Mk m k := by unfold Cl at h; unfold Mk; omega
theorem first_byte {n : Int} {m k : Nat} (h : Cl n m k) : (puts n m k).getD 0 0 / 64 = m := by
  obtain ⟨x, r, hd, h0, h1⟩ := first_digit h
  have e : puts n m k = (x + 64 * m) :: r := by simp only [puts, hd]
  rw [e]
  show (x + 64 * m) / 64 = (m : Int)
  omega
theorem agree_cut {u : ByteArray} {n : Int} {m k : Nat} (h : Cl n m k) (ha : Agree u n m k) (hs : u.size < k) : Cut u := by
  rcases Nat.eq_zero_or_pos u.size with h0 | h0
  · exact .inl h0
  · refine .inr ⟨h0, m, k, cl_mk h, hs, ?_⟩
    rw [ha 0 (by omega) h0]
    exact first_byte h
theorem agree_has {u : ByteArray} {n : Int} {m k : Nat} (h : Cl n m k) (ha : Agree u n m k) (hs : k ≤ u.size) : Has u k := by
  have hk := h.lo
  refine ⟨by omega, hs, m, cl_mk h, ?_⟩
  rw [ha 0 (by omega) (by omega)]
  exact first_byte h
theorem agree_num {u : ByteArray} {n : Int} {m k : Nat} (h : Cl n m k) (ha : Agree u n m k) (hs : k ≤ u.size) : gva (byt u) k = n := by
  have hk := h.lo
  rw [gva_congr (byt u) (fun i => (puts n m k).getD i 0) (by rw [ha 0 (by omega) (by omega)]) k (fun i _ b => ha i b (by omega))]
  rcases h with ⟨rfl, rfl, a, b⟩ | ⟨rfl, rfl, a, b⟩ | ⟨rfl, rfl, a, b⟩ | ⟨rfl, rfl, a, b⟩
  · rw [gva1]; simp [puts, digs]; omega
  · rw [gva2]; simp [puts, digs]; omega
  · rw [gva4]; simp [puts, digs]; omega
  · rw [gva8]; simp [puts, digs]; omega

/-! ### the program's calls at such bytes -/
theorem ba_append_assoc (a b c : ByteArray) : a ++ b ++ c = a ++ (b ++ c) := by
  apply ByteArray.ext; simp [ByteArray.data_append]
theorem mid_extract (a b c : ByteArray) : (a ++ b ++ c).extract a.size (a.size + b.size) = b := by
  apply ByteArray.ext
  apply Array.toList_inj.1
  simp [ByteArray.data_extract, ByteArray.data_append]
  rw [List.drop_of_length_le (by simp), List.take_of_length_le (l := b.data.toList) (by simp)]
  simp
theorem text_take (s more : ByteArray) (w : World) (t : Tab w) (m k : Nat) (h : Cl s.size m k) (hz : k + s.size + more.size ≤ 9223372036854775807) :
    Calls Tryd.prog 15 #[.string (strOfNums (puts s.size m k) ++ s ++ more)] w fun e w' => e = .returned (.tuple #[.string s, .int .i64 (k + s.size), .int .i64 0]) ∧ w = w' := by
  have hp : (strOfNums (puts s.size m k)).size = k := by rw [strOfNums_size, puts_length]
  have hsz : (strOfNums (puts s.size m k) ++ s ++ more).size = k + s.size + more.size := by rw [ByteArray.size_append, ByteArray.size_append, hp]
  have ha : Agree (strOfNums (puts s.size m k) ++ s ++ more) s.size m k := by rw [ba_append_assoc]; exact agree_front _ m k h _
  have hk := h.lo
  have := take_ok _ w t (by rw [hsz]; exact hz) k s.size (agree_has h ha (by omega)) (agree_num h ha (by omega)) (by omega)
  have e := mid_extract (strOfNums (puts s.size m k)) s more
  rw [hp] at e
  rwa [e] at this
theorem text_cut (s : ByteArray) (w : World) (t : Tab w) (m k x : Nat) (h : Cl s.size m k) (hz : k + s.size ≤ 9223372036854775807) (hx : x < k + s.size) :
    Calls Tryd.prog 15 #[.string ((strOfNums (puts s.size m k) ++ s).extract 0 x)] w fun e w' => e = .returned (.tuple #[.string ⟨#[]⟩, .int .i64 0, .int .i64 1]) ∧ w = w' := by
  have hp : (strOfNums (puts s.size m k)).size = k := by rw [strOfNums_size, puts_length]
  have hsz : (strOfNums (puts s.size m k) ++ s).size = k + s.size := by rw [ByteArray.size_append, hp]
  have ha := agree_extract (agree_front s.size m k h s) x (by omega)
  have hex : ((strOfNums (puts s.size m k) ++ s).extract 0 x).size = x := by rw [ByteArray.size_extract]; omega
  by_cases hxk : x < k
  · exact take_cut _ w t (by omega) (agree_cut h ha (by omega))
  · refine take_short _ w t (by omega) k (agree_has h ha (by omega)) ?_
    rw [agree_num h ha (by omega), hex]
    omega
theorem put_get (n : Int) (more : ByteArray) (w : World) (t : Tab w) (m k : Nat) (h : Cl n m k) (hz : k + more.size ≤ 9223372036854775807) :
    Calls Tryd.prog 13 #[.string (strOfNums (puts n m k) ++ more)] w fun e w' => e = .returned (.tuple #[.int .i64 n, .int .i64 k, .int .i64 0]) ∧ w = w' := by
  have hp : (strOfNums (puts n m k)).size = k := by rw [strOfNums_size, puts_length]
  have hsz : (strOfNums (puts n m k) ++ more).size = k + more.size := by rw [ByteArray.size_append, hp]
  have ha := agree_front n m k h more
  have := get_has _ w t k (by omega) (agree_has h ha (by omega))
  rwa [agree_num h ha (by omega)] at this
theorem put_cut (n : Int) (w : World) (t : Tab w) (m k x : Nat) (h : Cl n m k) (hx : x < k) :
    Calls Tryd.prog 13 #[.string ((strOfNums (puts n m k)).extract 0 x)] w fun e w' => e = .returned (.tuple #[.int .i64 0, .int .i64 0, .int .i64 1]) ∧ w = w' := by
  have hk := h.lo
  have hp : (strOfNums (puts n m k)).size = k := by rw [strOfNums_size, puts_length]
  have hf : Agree (strOfNums (puts n m k)) n m k := by
    have := agree_front n m k h ByteArray.empty
    rwa [show strOfNums (puts n m k) ++ ByteArray.empty = strOfNums (puts n m k) by simp] at this
  have ha := agree_extract hf x (by omega)
  have hex : ((strOfNums (puts n m k)).extract 0 x).size = x := by rw [ByteArray.size_extract]; omega
  exact get_cut _ w t (by omega) (agree_cut h ha (by omega))
end Go.Proofs.YtbfbfghajdhopaaDoor
