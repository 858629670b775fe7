/-
  What the document's own test of an address says, in plain words; the two folds over the addresses at which something changes. No condition but that the rules are right.
-/
import Derived.Test.YtndaohiecpdmlaaGreatPoSem
namespace Go.Proofs.YtndaohiecpdmlaaGreat
set_option maxRecDepth 100000
open Go.RowKit

def refP (l : List Ru) (o : Int) (i : Nat) : Int := if (if i < l.length then (l.getD i ru0).pro else 0) = 0 then o else (if i < l.length then (l.getD i ru0).pro else 0)
def refT (l : List Ru) (o a : Int) (i k : Nat) : Bool := alw l (refP l o i) a (if k < l.length then (l.getD k ru0).fr else 0) || (decide (k < l.length) && decide ((l.getD k ru0).up < 65535) && alw l (refP l o i) a ((l.getD k ru0).up + 1))
theorem getD_mem {l : List Ru} {i : Nat} (h : i < l.length) : l.getD i ru0 ∈ l := by
  rw [List.getD_eq_getElem?_getD, List.getElem?_eq_getElem h]
  exact List.getElem_mem _
theorem mem_getD {l : List Ru} {r : Ru} (h : r ∈ l) : ∃ i, i < l.length ∧ l.getD i ru0 = r := by
  obtain ⟨i, hi, e⟩ := List.mem_iff_getElem.1 h
  exact ⟨i, hi, by rw [List.getD_eq_getElem?_getD, List.getElem?_eq_getElem hi]; exact e⟩
theorem some_goes {l : List Ru} {o a : Int} (hk : ruK l = 0) (ho : 1 ≤ o ∧ o ≤ 255) (hon : ∀ r ∈ l, r.pro ≠ o) : (∃ i k, i ≤ l.length ∧ k ≤ l.length ∧ refT l o a i k = true) ↔ Goes l a := by
  obtain ⟨hl, HR⟩ := ruK_right.1 hk
  have al : ∀ p q, alw l p a q = sayL l p a q := fun p q => by unfold alw; rw [hk]; rfl
  constructor
  · rintro ⟨i, k, hi, hkl, h⟩
    have hp : 1 ≤ refP l o i ∧ refP l o i ≤ 255 := by
      unfold refP
      by_cases q : i < l.length
      · rw [if_pos q]
        have hw := ruR_w (HR _ (getD_mem q))
        have w0 := hw.p0
        have w1 := hw.p1
        split <;> omega
      · rw [if_neg q, if_pos rfl]
        exact ho
    unfold refT at h
    rw [al, al] at h
    obtain ⟨q, hq⟩ : ∃ q, sayL l (refP l o i) a q = true := by
      rw [Bool.or_eq_true] at h
      rcases h with h | h
      · exact ⟨_, h⟩
      · rw [Bool.and_eq_true] at h
        exact ⟨_, h.2⟩
    have hqp := say_port HR hq
    exact ⟨_, q, hp.1, hp.2, hqp.1, hqp.2, hq⟩
  · rintro ⟨p, q, h1, h2, h3, h4, hs⟩
    obtain ⟨i, hi, hs'⟩ : ∃ i, i ≤ l.length ∧ sayL l (refP l o i) a q = true := by
      by_cases hn : ∃ r ∈ l, r.pro = p
      · obtain ⟨r, hr, e⟩ := hn
        obtain ⟨i, hi, e2⟩ := mem_getD hr
        refine ⟨i, by omega, ?_⟩
        unfold refP
        rw [if_pos hi, e2, e, if_neg (by omega)]
        exact hs
      · refine ⟨l.length, Nat.le_refl _, ?_⟩
        unfold refP
        rw [if_neg (Nat.lt_irrefl _), if_pos rfl, ← say_other (fun r hr e => hn ⟨r, hr, e⟩) hon]
        exact hs
    obtain ⟨r, hr, hc, h⟩ := least_port HR q.toNat q (by omega) hs'
    obtain ⟨k, hkl, e⟩ := mem_getD hr
    refine ⟨i, k, hi, by omega, ?_⟩
    unfold refT
    rw [al, al, e, if_pos hkl, decide_eq_true hkl, Bool.true_and]
    rcases h with h | ⟨h5, h6⟩
    · rw [h]; rfl
    · rw [decide_eq_true (by omega), Bool.true_and, h6, Bool.or_true]
/-! ### the folds -/
def rfG (f : Int → Bool) : List Int → Bool → List (Int × Int) → List (Int × Int)
  | b :: b' :: rest, j, out => if f b then (if j then rfG f (b' :: rest) true (setH out (b' - 1)) else rfG f (b' :: rest) true (out ++ [(b, b' - 1)])) else rfG f (b' :: rest) false out
  | _, _, out => out
theorem setH_len (fd : List (Int × Int)) (h : Int) : (setH fd h).length = fd.length := by unfold setH; rw [List.length_set]
theorem setH_take (fd : List (Int × Int)) (h : Int) (hl : 17 ≤ fd.length) : (setH fd h).take 16 = fd.take 16 := by
  unfold setH
  rw [List.take_set_of_le (by omega)]
/-- Behind the seventeenth route the first sixteen stay. -/
theorem rfG_keep (f : Int → Bool) : ∀ (bs : List Int) (j : Bool) (out : List (Int × Int)), 17 ≤ out.length → (rfG f bs j out).take 16 = out.take 16
  | [], _, _, _ => by simp [rfG]
  | [_], _, _, _ => by simp [rfG]
  | b :: b' :: rest, j, out, h => by
    rw [rfG]
    split
    · split
      · rw [rfG_keep f (b' :: rest) true _ (by rw [setH_len]; exact h), setH_take _ _ h]
      · rw [rfG_keep f (b' :: rest) true _ (by rw [List.length_append]; omega), List.take_append_of_le_length (by omega)]
    · exact rfG_keep f (b' :: rest) false out h
theorem w32_in {x : Int} (h0 : 0 ≤ x) (h1 : x < 4294967296) : w32 x = x := by
  unfold w32
  simp [IntKind.wrap, IntKind.bits, IntKind.signed]
  omega
theorem last_set (fd : List (Int × Int)) (h : Int) (hp : 0 < fd.length) : ((setH fd h).getD ((setH fd h).length - 1) (0, 0)).2 = h := by
  rw [setH_len]
  unfold setH
  rw [List.getD_eq_getElem?_getD, List.getElem?_set_self (by omega)]
  rfl
theorem last_app (fd : List (Int × Int)) (x : Int × Int) : ((fd ++ [x]).getD ((fd ++ [x]).length - 1) (0, 0)).2 = x.2 := by
  rw [List.length_append, List.getD_eq_getElem?_getD, List.getElem?_append_right (by simp)]
  simp
/-- The two folds are one, up to the sixteenth route. -/
theorem folds (f : Int → Bool) : ∀ (st : List Int) (j : Bool) (fd : List (Int × Int)), st.Pairwise (· < ·) → (∀ x ∈ st, 0 ≤ x ∧ x < 4294967296) → fd.length ≤ 16 →
    (∀ low rest, st = low :: rest → (0 < fd.length → 0 < low ∧ (fd.getD (fd.length - 1) (0, 0)).2 ≤ low - 1) ∧ j = joinB fd low) → prG f st fd = (rfG f (st ++ [4294967296]) j fd).take 16
  | [], j, fd, _, _, hl, _ => by
    show fd = (rfG f [4294967296] j fd).take 16
    rw [rfG, List.take_of_length_le hl]
    · intro b b' rest c; cases c
  | low :: rest, j, fd, hs, hb, hl, hJ => by
    obtain ⟨hp, hj⟩ := hJ low rest rfl
    have hlow := hb low (List.mem_cons_self ..)
    obtain ⟨b', tl, e, eH, hb'⟩ : ∃ b' tl, rest ++ [4294967296] = b' :: tl ∧ endH rest = b' - 1 ∧ (∀ l' r', rest = l' :: r' → l' = b') := by
      cases rest with
      | nil => exact ⟨4294967296, [], rfl, rfl, fun l' r' c => by cases c⟩
      | cons x r =>
        have h1 := (List.pairwise_cons.1 hs).1 x (List.mem_cons_self ..)
        have h2 := hb x (List.mem_cons_of_mem _ (List.mem_cons_self ..))
        exact ⟨x, r ++ [4294967296], rfl, w32_in (by omega) (by omega), fun l' r' c => by injection c with c; exact c.symm⟩
    have hs2 := (List.pairwise_cons.1 hs).2
    have hb2 : ∀ x ∈ rest, 0 ≤ x ∧ x < 4294967296 := fun x hx => hb x (List.mem_cons_of_mem _ hx)
    have up : ∀ l' r', rest = l' :: r' → low < l' := fun l' r' c => (List.pairwise_cons.1 hs).1 l' (by rw [c]; exact List.mem_cons_self ..)
    have stp : ∀ (j2 : Bool) (fd2 : List (Int × Int)), rfG f (rest ++ [4294967296]) j2 fd2 = rfG f (b' :: tl) j2 fd2 := fun j2 fd2 => by rw [e]
    rw [prG, List.cons_append, e, rfG, eH]
    cases hf : f low with
    | false =>
      simp only [Bool.false_eq_true, if_false]
      rw [← stp]
      refine folds f rest false fd hs2 hb2 hl fun l' r' c => ⟨fun h0 => ?_, ?_⟩
      · have := hp h0
        have := up l' r' c
        omega
      · have hu := up l' r' c
        unfold joinB
        rcases Nat.eq_zero_or_pos fd.length with q | q
        · rw [q]; rfl
        · have h3 := hp q
          have h4 := hb2 l' (by rw [c]; exact List.mem_cons_self ..)
          rw [decide_eq_true q, Bool.true_and, w32_in (by omega) (by omega)]
          symm
          rw [beq_eq_false_iff_ne]
          omega
    | true =>
      simp only [if_true]
      rw [hj]
      have nx : ∀ fd2 : List (Int × Int), 0 < fd2.length → (fd2.getD (fd2.length - 1) (0, 0)).2 = b' - 1 → ∀ l' r', rest = l' :: r' → (0 < fd2.length → 0 < l' ∧ (fd2.getD (fd2.length - 1) (0, 0)).2 ≤ l' - 1) ∧ true = joinB fd2 l' := fun fd2 h0 h5 l' r' c => by
        have hu := up l' r' c
        have h4 := hb2 l' (by rw [c]; exact List.mem_cons_self ..)
        have h6 := hb' l' r' c
        refine ⟨fun _ => ⟨by omega, by rw [h5]; omega⟩, ?_⟩
        unfold joinB
        rw [decide_eq_true h0, Bool.true_and, w32_in (by omega) (by omega), h5, h6]
        simp
      cases hjj : joinB fd low with
      | true =>
        simp only [if_true]
        have h0 : 0 < fd.length := by
          unfold joinB at hjj
          rw [Bool.and_eq_true, decide_eq_true_eq] at hjj
          exact hjj.1
        rw [← stp]
        exact folds f rest true _ hs2 hb2 (by rw [setH_len]; exact hl) (nx _ (by rw [setH_len]; exact h0) (last_set _ _ h0))
      | false =>
        simp only [Bool.false_eq_true, if_false]
        by_cases h16 : fd.length = 16
        · rw [if_pos h16, rfG_keep f _ true _ (by rw [List.length_append, h16]; simp), List.take_append_of_le_length (by omega), List.take_of_length_le (by omega)]
        · rw [if_neg h16, ← stp]
          exact folds f rest true _ hs2 hb2 (by rw [List.length_append]; simp; omega) (nx _ (by rw [List.length_append]; simp) (last_app _ _))
end Go.Proofs.YtndaohiecpdmlaaGreat
