/-
  Pieces of one text in a stream: what is read is a beginning of it; all of it, when all came. Plain facts; no condition.
-/
import Derived.Test.YtpendchkalagnaaInText
namespace Go.Proofs.Ytpendchkalagnaa
set_option maxRecDepth 100000
open Go.RowKit Go.Sort

/-- A stream of which only bytes of T came; so many were read; so many bytes were laid at most. -/
structure Wh (T : ByteArray) (d : Bx) (r c : Nat) : Prop where
  rst : d.rst = false
  rd : d.rd = r
  le : r ≤ T.size
  most : d.most ≤ T.size
  size : d.size = -1 ∨ d.size = T.size
  got : ∀ x : Nat, r ≤ x → ∀ v, d.got x = some v → x < T.size ∧ v = bt T x
  cnt : d.cnt ≤ c
theorem Wh.new (T : ByteArray) : Wh T bx0 0 0 := ⟨rfl, rfl, Nat.zero_le _, by show (0 : Int) ≤ _; omega, .inl rfl, fun x _ v h => (by cases h), Nat.le_refl _⟩
theorem Wh.isOk {T : ByteArray} {d : Bx} {r c : Nat} (h : Wh T d r c) (hT : T.size ≤ 2000) (i j : Nat) (hij : i ≤ j) (hj : j ≤ T.size) : putE d i (T.extract i j).size (decide (j = T.size)) = 0 := by
  have h1 := h.rd
  have h2 := h.most
  have h3 := h.size
  unfold putE lim
  rw [ext_size _ _ _ hj, if_neg (by omega), if_neg (by omega), if_neg ?_, if_neg ?_]
  · rintro ⟨q1, q2⟩
    have := of_decide_eq_true q1
    omega
  · rintro ⟨q1, q2 | ⟨q2, q3⟩⟩
    · omega
    · have := of_decide_eq_true q2
      omega
theorem Wh.put {T : ByteArray} {d : Bx} {r c : Nat} (h : Wh T d r c) (hT : T.size ≤ 2000) (i j : Nat) (hij : i ≤ j) (hj : j ≤ T.size) : Wh T (putB d i (T.extract i j) (decide (j = T.size))) r (c + (j - i)) := by
  rw [put_zero (h.isOk hT i j hij hj) h.rst]
  have es := ext_size T i j hj
  refine ⟨h.rst, h.rd, h.le, ?_, ?_, fun x hx v hv => ?_, ?_⟩
  · show (if _ then max d.most _ else d.most) ≤ _
    have := h.most
    split
    · exact Int.max_le.2 ⟨this, by omega⟩
    · exact this
  · show (if _ then _ else d.size) = -1 ∨ (if _ then _ else d.size) = _
    by_cases q : j = T.size
    · rw [if_pos (decide_eq_true q)]
      right
      omega
    · rw [if_neg (by simpa using q)]
      exact h.size
  · have hv' : lay d i (bt (T.extract i j)) (T.extract i j).size x = some v := hv
    unfold lay at hv'
    split at hv'
    · rename_i q
      obtain ⟨q1, q2, q3, q4⟩ := q
      injection hv' with e
      have e2 : ((x : Int) - (i : Int)).toNat = x - i := by omega
      rw [e2, bt_ext _ _ _ _ (by omega)] at e
      refine ⟨by omega, ?_⟩
      rw [← e]
      congr 1
      omega
    · exact h.got x hx v hv'
  · show d.cnt + _ ≤ _
    have := h.cnt
    omega
theorem Wh.run {T : ByteArray} {d : Bx} {r c : Nat} (h : Wh T d r c) (n : Int) : strOfNums (takeL d n) = T.extract r (r + (takeL d n).length) ∧ r + (takeL d n).length ≤ T.size := by
  rw [take_not h.rst, h.rd]
  obtain ⟨k, hk⟩ : ∃ k, k = (runB d.got (r : Int) n.toNat).length := ⟨_, rfl⟩
  have hg : ∀ i, i < k → r + i < T.size ∧ (runB d.got (r : Int) n.toNat).getD i 0 = bt T (r + i) := fun i hi => by
    have := runB_got d.got n.toNat r i (by omega)
    have e : (r : Int) + (i : Int) = ((r + i : Nat) : Int) := by omega
    rw [e] at this
    exact h.got (r + i) (by omega) _ this
  have hle : r + k ≤ T.size := by
    rcases Nat.eq_zero_or_pos k with q | q
    · have := h.le
      omega
    · have := (hg (k - 1) (by omega)).1
      omega
  rw [← hk]
  refine ⟨?_, hle⟩
  have e : runB d.got (r : Int) n.toNat = numsOf (T.extract r (r + k)) := by
    apply List.ext_getElem?
    intro i
    by_cases hi : i < k
    · have h1 : i < (runB d.got (r : Int) n.toNat).length := by omega
      have es : (T.extract r (r + k)).size = k := by rw [ext_size _ _ _ hle]; omega
      have h2 : i < (numsOf (T.extract r (r + k))).length := by rw [numsOf_len, es]; exact hi
      have a1 := (hg i hi).2
      have a2 := numsOf_get (T.extract r (r + k)) i (by rw [es]; exact hi)
      rw [bt_ext _ _ _ _ (by omega)] at a2
      rw [List.getD, List.getElem?_eq_getElem h1, Option.getD_some] at a1
      rw [List.getD, List.getElem?_eq_getElem h2, Option.getD_some] at a2
      rw [List.getElem?_eq_getElem h1, List.getElem?_eq_getElem h2, a1, a2]
    · rw [List.getElem?_eq_none (by omega), List.getElem?_eq_none (by rw [numsOf_len, ext_size _ _ _ hle]; omega)]
  rw [e]
  exact strOf_numsOf _
theorem Wh.take {T : ByteArray} {d : Bx} {r c : Nat} (h : Wh T d r c) (n : Int) : Wh T (takeB d n) (r + (takeL d n).length) c := by
  have hl := (h.run n).2
  refine ⟨h.rst, ?_, hl, h.most, h.size, fun x hx v hv => h.got x (by omega) v hv, h.cnt⟩
  show d.rd + _ = _
  rw [h.rd]
  omega
theorem app_data (a b : ByteArray) : (a ++ b).data.toList = a.data.toList ++ b.data.toList := by simp
theorem ext_data (s : ByteArray) (j k : Nat) : (s.extract j k).data.toList = (s.data.toList.take k).drop j := by simp [ByteArray.data_extract, List.drop_take]
theorem ext_app (T : ByteArray) (r k : Nat) : T.extract 0 r ++ T.extract r (r + k) = T.extract 0 (r + k) := by
  apply ba_ext
  rw [app_data, ext_data, ext_data, ext_data, List.drop_zero, List.drop_zero]
  have e3 : T.data.toList.take r = (T.data.toList.take (r + k)).take r := by rw [List.take_take]; congr 1; omega
  rw [e3, List.take_append_drop]
theorem ext_all (T : ByteArray) : T.extract 0 T.size = T := by
  apply ba_ext
  rw [ext_data, List.drop_zero, List.take_of_length_le]
  rw [← ba_size]
  exact Nat.le_refl _
/-- All of it came. -/
theorem Wh.all {T : ByteArray} {d : Bx} {r c : Nat} (h : Wh T d r c) (hT : T.size ≤ 2000) : putE d 0 T.size true = 0 ∧ Wh T (putB d 0 T true) r (c + T.size) ∧ (takeL (putB d 0 T true) ((T.size : Int) + 1)).length = T.size - r ∧ ended (takeB (putB d 0 T true) ((T.size : Int) + 1)) = 1 ∧ takeL (takeB (putB d 0 T true) ((T.size : Int) + 1)) 5 = [] := by
  have e0 := h.isOk hT 0 T.size (Nat.zero_le _) (Nat.le_refl _)
  have w0 := h.put hT 0 T.size (Nat.zero_le _) (Nat.le_refl _)
  rw [ext_all, decide_eq_true rfl] at e0 w0
  have e0' : putE d 0 T.size true = 0 := e0
  have w0' : Wh T (putB d 0 T true) r (c + T.size) := by rw [Nat.sub_zero] at w0; exact w0
  have hle := h.le
  have full : ∀ x : Nat, r ≤ x → x < T.size → (putB d 0 T true).got x ≠ none := fun x h1 h2 => by
    rw [put_zero e0' h.rst]
    show lay d 0 (bt T) T.size x ≠ none
    unfold lay
    split
    · simp
    · rename_i q
      exact fun c => q ⟨by rw [h.rd]; omega, by omega, by omega, c⟩
  have hl : (takeL (putB d 0 T true) ((T.size : Int) + 1)).length = T.size - r := by
    have hr := (w0'.run ((T.size : Int) + 1)).2
    rw [take_not w0'.rst, w0'.rd] at hr ⊢
    have en : ((T.size : Int) + 1).toNat = T.size + 1 := by omega
    rw [en] at hr ⊢
    rcases runB_end (putB d 0 T true).got (T.size + 1) (r : Int) with q | q
    · omega
    · rcases Nat.lt_or_ge (r + (runB (putB d 0 T true).got (r : Int) (T.size + 1)).length) T.size with z | z
      · have e : (r : Int) + ((runB (putB d 0 T true).got (r : Int) (T.size + 1)).length : Int) = ((r + (runB (putB d 0 T true).got (r : Int) (T.size + 1)).length : Nat) : Int) := by omega
        rw [e] at q
        exact absurd q (full _ (by omega) z)
      · omega
  have w1 := w0'.take ((T.size : Int) + 1)
  rw [hl] at w1
  have er : r + (T.size - r) = T.size := by omega
  rw [er] at w1
  refine ⟨e0', w0', hl, ?_, ?_⟩
  · have e1 : (takeB (putB d 0 T true) ((T.size : Int) + 1)).size = T.size := by
      show (putB d 0 T true).size = _
      rw [put_zero e0' h.rst]
      show (if true = true then (0 : Int) + (T.size : Int) else d.size) = _
      rw [if_pos rfl]
      omega
    unfold ended
    rw [w1.rst, if_neg (by decide), e1, w1.rd, if_pos rfl]
  · rw [take_not w1.rst, w1.rd]
    have hn : (takeB (putB d 0 T true) ((T.size : Int) + 1)).got (T.size : Int) = none := by
      cases q : (takeB (putB d 0 T true) ((T.size : Int) + 1)).got (T.size : Int) with
      | none => rfl
      | some v => exact absurd (w1.got T.size (Nat.le_refl _) v q).1 (by omega)
    exact runB_eq _ _ [] _ (Nat.zero_le _) (fun i hi => absurd hi (by simp)) (.inr (by simpa using hn))
end Go.Proofs.Ytpendchkalagnaa
