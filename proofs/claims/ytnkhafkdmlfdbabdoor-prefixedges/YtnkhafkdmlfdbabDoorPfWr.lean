/-
  Plain facts on the writings of addresses and prefixes: what they are, that an address's writing is read as that address, and that no two prefixes have one writing. No condition.
-/
import Derived.Test.YtnkhafkdmlfdbabDoorPfMath
import Derived.Test.YtnkhafkdmlfdbabDoorIpMath
namespace Go.Proofs.YtnkhafkdmlfdbabDoor
open Go.RowKit

/-- A number's decimal digits, as bytes. -/
def dd (n : Int) : List Int := if n < 10 then [48 + n] else if n < 100 then [48 + n / 10, 48 + n % 10] else [48 + n / 100, 48 + n / 10 % 10, 48 + n % 10]
theorem pf_append (a b : List Int) : strOfNums a ++ strOfNums b = strOfNums (a ++ b) := by
  unfold strOfNums
  rw [ByteArray.mk_append_mk, List.map_append]
/-- An address's writing, as bytes. -/
def tl (a : Int) : List Int := dd (a / 16777216) ++ [46] ++ dd (a / 65536 % 256) ++ [46] ++ dd (a / 256 % 256) ++ [46] ++ dd (a % 256)
def txt (a : Int) : ByteArray := strOfNums (tl a)
theorem dd_len (n : Int) : 1 ≤ (dd n).length ∧ (dd n).length ≤ 3 := by
  unfold dd
  split
  · simp
  · split <;> simp
theorem tl_len (a : Int) : 7 ≤ (tl a).length ∧ (tl a).length ≤ 15 := by
  have h1 := dd_len (a / 16777216)
  have h2 := dd_len (a / 65536 % 256)
  have h3 := dd_len (a / 256 % 256)
  have h4 := dd_len (a % 256)
  unfold tl
  simp only [List.length_append, List.length_cons, List.length_nil]
  omega
/-- A string's bytes as numbers. -/
def pbl (s : ByteArray) : List Int := s.data.toList.map fun b => (b.toNat : Int)
theorem pbl_length (s : ByteArray) : (pbl s).length = s.size := by simp [pbl]
theorem pbl_get (s : ByteArray) (i : Nat) (h : i < s.size) : (pbl s)[i]? = some (byt s i) := by
  unfold pbl byt
  have h' : i < s.data.toList.length := by simpa using h
  simp [List.getElem?_eq_getElem h', List.getD]
theorem pbl_nums (l : List Int) (hl : ∀ y ∈ l, 0 ≤ y ∧ y < 256) : pbl (strOfNums l) = l := by
  unfold pbl strOfNums
  simp only [List.map_map]
  conv => rhs; rw [← List.map_id l]
  refine List.map_congr_left fun y hy => ?_
  have := hl y hy
  simp
  omega
/-- One sign more of an address's writing: what is whole, and the number that is begun. -/
def stp (p : Int × Int) (c : Int) : Int × Int := if c = 46 then ((p.1 * 256 + p.2) % 4294967296, 0) else (p.1, (p.2 * 10 + (c - 48) % 256) % 256)
def fld (l : List Int) : Int × Int := l.foldl stp (0, 0)
theorem stp_bd (p : Int × Int) (c : Int) (h : (0 ≤ p.1 ∧ p.1 < 4294967296) ∧ (0 ≤ p.2 ∧ p.2 < 256)) : (0 ≤ (stp p c).1 ∧ (stp p c).1 < 4294967296) ∧ (0 ≤ (stp p c).2 ∧ (stp p c).2 < 256) := by
  unfold stp
  split
  · exact ⟨by simp only; omega, by simp⟩
  · exact ⟨h.1, by simp only; omega⟩
theorem foldl_bd : ∀ (l : List Int) (p : Int × Int), (0 ≤ p.1 ∧ p.1 < 4294967296) ∧ (0 ≤ p.2 ∧ p.2 < 256) → (0 ≤ (l.foldl stp p).1 ∧ (l.foldl stp p).1 < 4294967296) ∧ (0 ≤ (l.foldl stp p).2 ∧ (l.foldl stp p).2 < 256)
  | [], _, h => h
  | c :: l, p, h => foldl_bd l (stp p c) (stp_bd p c h)
theorem fld_bd (l : List Int) : (0 ≤ (fld l).1 ∧ (fld l).1 < 4294967296) ∧ (0 ≤ (fld l).2 ∧ (fld l).2 < 256) := foldl_bd l (0, 0) (by decide)
theorem fld_step (s : ByteArray) (k : Nat) (h : k < s.size) : fld ((pbl s).take (k + 1)) = stp (fld ((pbl s).take k)) (byt s k) := by
  unfold fld
  have hk : k < (pbl s).length := by rw [pbl_length]; exact h
  have e : (pbl s)[k] = byt s k := by
    have := pbl_get s k h
    rw [List.getElem?_eq_getElem hk] at this
    exact Option.some.inj this
  rw [List.take_succ_eq_append_getElem hk, List.foldl_append, e]
  rfl
def fin (p : Int × Int) : Int := (p.1 * 256 + p.2) % 4294967296
/-- The address that a string may be the writing of. -/
def cand (s : ByteArray) : Int := fin (fld ((pbl s).take 16))
theorem cand_bd (s : ByteArray) : 0 ≤ cand s ∧ cand s < 4294967296 := by unfold cand fin; omega
theorem fold_dd (n a : Int) (h0 : 0 ≤ n) (h : n < 256) : (dd n).foldl stp (a, 0) = (a, n) := by
  unfold dd
  split
  · simp only [List.foldl, stp]
    rw [if_neg (by omega)]
    simp only [Prod.mk.injEq, true_and]
    omega
  · split
    · simp only [List.foldl, stp]
      rw [if_neg (by omega), if_neg (by omega)]
      simp only [Prod.mk.injEq, true_and]
      omega
    · simp only [List.foldl, stp]
      rw [if_neg (by omega), if_neg (by omega), if_neg (by omega)]
      simp only [Prod.mk.injEq, true_and]
      have p1 : (0 * 10 + (48 + n / 100 - 48) % 256) % 256 = n / 100 := by omega
      have p2 : (48 + n / 10 % 10 - 48) % 256 = n / 10 % 10 := by omega
      have p3 : (48 + n % 10 - 48) % 256 = n % 10 := by omega
      have p4 : (n / 100 * 10 + n / 10 % 10) % 256 = n / 10 := by omega
      rw [p1, p2, p3, p4]
      omega
theorem dd_bd (n : Int) (h0 : 0 ≤ n) (h : n < 256) : ∀ y ∈ dd n, 48 ≤ y ∧ y < 58 := by
  unfold dd
  intro y hy
  split at hy
  · simp at hy; omega
  · split at hy
    · simp at hy; omega
    · simp at hy; omega
theorem tl_bd (a : Int) (a0 : 0 ≤ a) (a1 : a < 4294967296) : ∀ y ∈ tl a, 46 ≤ y ∧ y < 58 := by
  intro y hy
  have h1 := dd_bd (a / 16777216) (by omega) (by omega) y
  have h2 := dd_bd (a / 65536 % 256) (by omega) (by omega) y
  have h3 := dd_bd (a / 256 % 256) (by omega) (by omega) y
  have h4 := dd_bd (a % 256) (by omega) (by omega) y
  unfold tl at hy
  simp only [List.mem_append, List.mem_singleton] at hy
  rcases hy with (((((hy | hy) | hy) | hy) | hy) | hy) | hy
  · have := h1 hy; omega
  · omega
  · have := h2 hy; omega
  · omega
  · have := h3 hy; omega
  · omega
  · have := h4 hy; omega
theorem pbl_txt (a : Int) (a0 : 0 ≤ a) (a1 : a < 4294967296) : pbl (txt a) = tl a := pbl_nums _ fun y hy => by have := tl_bd a a0 a1 y hy; omega
theorem cand_txt (a : Int) (a0 : 0 ≤ a) (a1 : a < 4294967296) : cand (txt a) = a := by
  unfold cand
  rw [pbl_txt a a0 a1, List.take_of_length_le (by have := tl_len a; omega)]
  unfold fld tl fin
  simp only [List.foldl_append, List.foldl_cons, List.foldl_nil]
  rw [fold_dd _ _ (by omega) (by omega)]
  simp only [stp, if_pos]
  rw [fold_dd _ _ (by omega) (by omega)]
  simp only
  rw [fold_dd _ _ (by omega) (by omega)]
  simp only
  rw [fold_dd _ _ (by omega) (by omega)]
  simp only
  omega

/-- A right prefix's writing. -/
def prn (addr bits : Int) : ByteArray := strOfNums (tl addr ++ [47] ++ dd bits)
/-- What is printed of any prefix. -/
def prs (addr bits : Int) : ByteArray := if rt addr bits = true then prn addr bits else ⟨#[]⟩
/-- A string is a prefix's writing. -/
def IsP (s : ByteArray) (addr bits : Int) : Prop := (0 ≤ addr ∧ addr < 4294967296) ∧ rt addr bits = true ∧ prn addr bits = s
theorem pf_list_eq (a b : ByteArray) (h : a.toList = b.toList) : a = b := by
  rw [ByteArray.toList_eq, ByteArray.toList_eq] at h
  exact ByteArray.ext (Array.toList_inj.1 h)
theorem not_isP (s : ByteArray) (addr bits : Int) (a : 0 ≤ addr ∧ addr < 4294967296) (hs : 0 < s.size) (h : ¬ IsP s addr bits) : ((prs addr bits).toList == s.toList) = false := by
  rw [beq_eq_false_iff_ne]
  intro e
  have e' := pf_list_eq _ _ e
  unfold prs at e'
  by_cases r : rt addr bits = true
  · rw [if_pos r] at e'
    exact h ⟨a, r, e'⟩
  · rw [if_neg r] at e'
    rw [← e'] at hs
    exact absurd hs (by decide)
/-- The result's own block. -/
structure RBox (w : World) (A : Nat) (a b : Int) : Prop where
  lt : A < w.heap.size
  c0 : w.cell? ⟨A, 0, none⟩ = some (.int .u32 a)
  c1 : w.cell? ⟨A, 1, none⟩ = some (.int .i64 b)
  f0 : w.frozen? ⟨A, 0, none⟩ = false
  f1 : w.frozen? ⟨A, 1, none⟩ = false
theorem rbox_new (w : World) (a b : Int) : RBox (w.alloc (.cells #[.int .u32 a, .int .i64 b] 24)) w.heap.size a b := by
  refine ⟨by simp, ?_, ?_, by simp, by simp⟩ <;> rw [World.cell?_alloc_new] <;> rfl
theorem RBox.keep {w w' : World} {A B : Nat} {a b : Int} (h : RBox w A a b) (hA : A < B) (k : Below B w w') : RBox w' A a b :=
  ⟨Nat.lt_of_lt_of_le h.lt k.size, (k.cell hA).trans h.c0, (k.cell hA).trans h.c1, (k.frozen hA).trans h.f0, (k.frozen hA).trans h.f1⟩
theorem tl_no (a : Int) (a0 : 0 ≤ a) (a1 : a < 4294967296) : ∀ y ∈ tl a, y ≠ 47 := by
  intro y hy
  have h1 := dd_bd (a / 16777216) (by omega) (by omega) y
  have h2 := dd_bd (a / 65536 % 256) (by omega) (by omega) y
  have h3 := dd_bd (a / 256 % 256) (by omega) (by omega) y
  have h4 := dd_bd (a % 256) (by omega) (by omega) y
  unfold tl at hy
  simp only [List.mem_append, List.mem_singleton] at hy
  rcases hy with (((((hy | hy) | hy) | hy) | hy) | hy) | hy
  · have := h1 hy; omega
  · omega
  · have := h2 hy; omega
  · omega
  · have := h3 hy; omega
  · omega
  · have := h4 hy; omega
/-- A right prefix's writing, as numbers. -/
def pl (addr bits : Int) : List Int := tl addr ++ [47] ++ dd bits
theorem pl_bd (addr bits : Int) (a0 : 0 ≤ addr) (a1 : addr < 4294967296) (b0 : 0 ≤ bits) (b1 : bits ≤ 32) : ∀ y ∈ pl addr bits, 0 ≤ y ∧ y < 256 := by
  intro y hy
  unfold pl at hy
  simp only [List.mem_append, List.mem_singleton] at hy
  rcases hy with (hy | hy) | hy
  · have := tl_bd addr a0 a1 y hy; omega
  · omega
  · have := dd_bd bits b0 (by omega) y hy; omega
theorem dd_inj (m n : Int) (m0 : 0 ≤ m) (m1 : m ≤ 32) (n0 : 0 ≤ n) (n1 : n ≤ 32) (h : dd m = dd n) : m = n := by
  unfold dd at h
  by_cases hm : m < 10
  · rw [if_pos hm] at h
    by_cases hn : n < 10
    · rw [if_pos hn] at h
      simp only [List.cons.injEq, and_true] at h
      omega
    · rw [if_neg hn, if_pos (by omega)] at h
      simp at h
  · rw [if_neg hm, if_pos (by omega)] at h
    by_cases hn : n < 10
    · rw [if_pos hn] at h
      simp at h
    · rw [if_neg hn, if_pos (by omega)] at h
      simp only [List.cons.injEq, and_true] at h
      omega
theorem isP_bits {s : ByteArray} {addr m n : Int} (h : IsP s addr m) (h' : IsP s addr n) : m = n := by
  obtain ⟨⟨a0, a1⟩, r, e⟩ := h
  obtain ⟨_, r', e'⟩ := h'
  have q := rt_bits r
  have q' := rt_bits r'
  have E : pbl (prn addr m) = pbl (prn addr n) := by rw [e, e']
  have E1 : pbl (prn addr m) = pl addr m := pbl_nums _ (pl_bd addr m a0 a1 q.1 q.2.1)
  have E2 : pbl (prn addr n) = pl addr n := pbl_nums _ (pl_bd addr n a0 a1 q'.1 q'.2.1)
  rw [E1, E2] at E
  unfold pl at E
  exact dd_inj m n q.1 q.2.1 q'.1 q'.2.1 (List.append_cancel_left E)
theorem isP_byt {s : ByteArray} {addr bits : Int} (h : IsP s addr bits) (i : Nat) : byt s i = (pl addr bits).getD i 0 := by
  obtain ⟨⟨a0, a1⟩, r, e⟩ := h
  have q := rt_bits r
  rw [← e]
  exact byt_nums _ (pl_bd addr bits a0 a1 q.1 q.2.1) i
theorem isP_size {s : ByteArray} {addr bits : Int} (h : IsP s addr bits) : s.size = (tl addr).length + 1 + (dd bits).length := by
  obtain ⟨_, _, e⟩ := h
  rw [← e]
  unfold prn
  rw [strOfNums_size]
  simp
  omega
theorem isP_low {s : ByteArray} {addr bits : Int} (h : IsP s addr bits) (i : Nat) (hi : i < (tl addr).length) : byt s i ≠ 47 := by
  rw [isP_byt h i]
  obtain ⟨⟨a0, a1⟩, _, _⟩ := h
  unfold pl
  rw [List.append_assoc, List.getD, List.getElem?_append_left hi, List.getElem?_eq_getElem hi]
  exact tl_no addr a0 a1 _ (List.getElem_mem hi)
theorem isP_at {s : ByteArray} {addr bits : Int} (h : IsP s addr bits) : byt s (tl addr).length = 47 := by
  rw [isP_byt h]
  unfold pl
  rw [List.append_assoc, List.getD, List.getElem?_append_right (Nat.le_refl _), Nat.sub_self]
  rfl
theorem isP_front {s : ByteArray} {addr bits : Int} (h : IsP s addr bits) : s.extract 0 (tl addr).length = txt addr := by
  obtain ⟨_, _, e⟩ := h
  rw [← e]
  unfold prn txt
  rw [List.append_assoc, ← pf_append]
  have z : (strOfNums (tl addr)).data.toList.length = (tl addr).length := by
    have := strOfNums_size (tl addr)
    simpa using this
  generalize strOfNums (tl addr) = T at *
  apply ByteArray.ext
  apply Array.ext'
  rw [ByteArray.data_extract]
  simp only [ByteArray.data_append, Array.toList_extract, Array.toList_append, List.extract_eq_take_drop, List.drop_zero, Nat.sub_zero]
  rw [List.take_append_of_le_length (by omega)]
  exact List.take_of_length_le (by omega)
/-- No other prefix has that writing. -/
theorem isP_one {s : ByteArray} {a b a' b' : Int} (h : IsP s a b) (h' : IsP s a' b') : a = a' ∧ b = b' := by
  have l1 := isP_low h
  have l2 := isP_low h'
  have t1 := isP_at h
  have t2 := isP_at h'
  have e : (tl a).length = (tl a').length := by
    rcases Nat.lt_trichotomy (tl a).length (tl a').length with q | q | q
    · exact absurd t1 (l2 _ q)
    · exact q
    · exact absurd t2 (l1 _ q)
  have f1 := isP_front h
  have f2 := isP_front h'
  rw [e, f2] at f1
  have c1 := cand_txt a h.1.1 h.1.2
  have c2 := cand_txt a' h'.1.1 h'.1.2
  rw [f1, c1] at c2
  subst c2
  exact ⟨rfl, isP_bits h h'⟩
end Go.Proofs.YtnkhafkdmlfdbabDoor
