/-
  What slices.pdqsortOrdered's loop keeps of numbers of 32 bits, in plain words. No condition.
-/
import Derived.Test.YtndaohiecpdmlaaGreatSoPins
import Derived.Test.YtndaohiecpdmlaaGreatSoPrt
import Derived.Test.YtndaohiecpdmlaaGreatSoHeap
namespace Go.Proofs.YtndaohiecpdmlaaGreat
set_option maxRecDepth 100000
open Go.RowKit Go.Sort

theorem lt_t {x y : Int} : ltInt x y = true ↔ x < y := by simp [ltInt]
theorem lt_f {x y : Int} : ltInt x y = false ↔ y ≤ x := by simp [ltInt]
/-- The state of the loop: what is between a and b is still to be sorted; the rest stands. -/
structure Pq (w wr : World) (g off n c a0 b0 : Nat) (d0 : Array Int) (a b : Nat) (dk : Array Int) : Prop where
  srt : Srt w wr g off n c dk
  perm : PermIn a0 b0 d0 dk
  lo : a0 ≤ a
  ab : a ≤ b
  hi : b ≤ b0
  bn : b0 ≤ d0.size
  bel : Sort.Below ltInt a b dk
  fin : ∀ d', PermIn a b dk d' → SortedIn ltInt a b d' → SortedIn ltInt a0 b0 d'
theorem Pq.size {w wr : World} {g off n c a0 b0 : Nat} {d0 : Array Int} {a b : Nat} {dk : Array Int} (h : Pq w wr g off n c a0 b0 d0 a b dk) : b ≤ dk.size := by
  rw [h.perm.1]
  have := h.bn
  have := h.hi
  omega
theorem Pq.move {w wr w' : World} {g off n c a0 b0 : Nat} {d0 : Array Int} {a b : Nat} {dk d' : Array Int} (h : Pq w wr g off n c a0 b0 d0 a b dk) (s : Srt wr w' g off n c d') (p : PermIn a b dk d') : Pq w w' g off n c a0 b0 d0 a b d' :=
  ⟨h.srt.again s, permIn_trans d0 dk d' a0 b0 h.perm (permIn_mono dk d' a b a0 b0 h.lo h.hi (by rw [h.perm.1]; exact h.bn) p), h.lo, h.ab, h.hi, h.bn, h.bel.permA permIn_all h.size p, fun d'' p2 s2 => h.fin d'' (permIn_trans dk d' d'' a b p p2) s2⟩
theorem Pq.add {w wr w' : World} {g off n c a0 b0 : Nat} {d0 : Array Int} {a b : Nat} {dk : Array Int} (h : Pq w wr g off n c a0 b0 d0 a b dk) (k : RowKit.Below wr.heap.size wr w') : Pq w w' g off n c a0 b0 d0 a b dk :=
  ⟨h.srt.add k, h.perm, h.lo, h.ab, h.hi, h.bn, h.bel, h.fin⟩
theorem Pq.done {w wr w' : World} {g off n c a0 b0 : Nat} {d0 : Array Int} {a b : Nat} {dk d' : Array Int} (h : Pq w wr g off n c a0 b0 d0 a b dk) (s : Srt wr w' g off n c d') (p : PermIn a b dk d') (q : SortedIn ltInt a b d') :
    ∃ d', Srt w w' g off n c d' ∧ PermIn a0 b0 d0 d' ∧ SortedIn ltInt a0 b0 d' :=
  ⟨d', h.srt.again s, permIn_trans d0 dk d' a0 b0 h.perm (permIn_mono dk d' a b a0 b0 h.lo h.hi (by rw [h.perm.1]; exact h.bn) p), h.fin d' p q⟩
theorem all_of {a b : Nat} {d d' : Array Int} (p : PermIn a b d d') (hb : b ≤ d.size) {F : Int → Prop} (h : ∀ t, a ≤ t → t < b → F d[t]!) : ∀ t, a ≤ t → t < b → F d'[t]! := permIn_all d d' a b F hb p h
/-- What is equal to the pivot is put ahead. -/
theorem Pq.equal {w wr w' : World} {g off n c a0 b0 : Nat} {d0 : Array Int} {a b q m : Nat} {dk d1 : Array Int} (h : Pq w wr g off n c a0 b0 d0 a b dk) (ha : 0 < a) (hl : ltInt dk[a - 1]! dk[q]! = false)
    (s : Srt wr w' g off n c d1) (p : PermIn a b dk d1) (hm : a < m ∧ m ≤ b) (f1 : ∀ t, a ≤ t → t < m → ltInt dk[q]! d1[t]! = false) (f2 : ∀ t, m ≤ t → t < b → ltInt dk[q]! d1[t]! = true) : Pq w w' g off n c a0 b0 d0 m b d1 := by
  have h1 := h.move s p
  have hs := h.size
  have hs1 := h1.size
  have lo : ∀ t, a ≤ t → t < b → dk[q]! ≤ d1[t]! := fun t q1 q2 => by
    have hb := h1.bel
    rcases hb with hb | hb
    · omega
    · have e : d1[a - 1]! = dk[a - 1]! := p.2.1 (a - 1) (.inl (by omega))
      have := lt_f.1 (hb t q1 q2)
      rw [e] at this
      have := lt_f.1 hl
      omega
  refine ⟨h1.srt, h1.perm, by have := h1.lo; omega, hm.2, h1.hi, h1.bn, .inr fun i q1 q2 => ?_, fun d' p2 s2 => h1.fin d' (permIn_mono d1 d' m b a b (by omega) (Nat.le_refl _) hs1 p2) fun i j q1 q2 q3 => ?_⟩
  · have k1 := lo (m - 1) (by omega) (by omega)
    have k2 := lt_f.1 (f1 (m - 1) (by omega) (by omega))
    have k3 := lt_t.1 (f2 i q1 q2)
    exact lt_f.2 (by omega)
  · by_cases e : m ≤ i
    · exact s2 i j e q2 q3
    · have k0 := p2.2.1 i (.inl (by omega))
      have k1 := lo i q1 (by omega)
      have k2 := lt_f.1 (f1 i q1 (by omega))
      refine lt_f.2 ?_
      rw [k0]
      by_cases e2 : m ≤ j
      · have := lt_t.1 (all_of p2 hs1 (F := fun x => ltInt dk[q]! x = true) f2 j e2 q3)
        omega
      · rw [p2.2.1 j (.inl (by omega))]
        have := lo j (by omega) (by omega)
        omega
theorem Pq.left {w wr w1 w2 : World} {g off n c a0 b0 : Nat} {d0 : Array Int} {a b m : Nat} {dk d1 d2 : Array Int} (h : Pq w wr g off n c a0 b0 d0 a b dk) (s : Srt wr w1 g off n c d1) (p : PermIn a b dk d1) (hm : a ≤ m ∧ m < b)
    (f1 : ∀ t, a ≤ t → t < m → ltInt d1[t]! d1[m]! = true) (f2 : ∀ t, m < t → t < b → ltInt d1[t]! d1[m]! = false) (s2 : Srt w1 w2 g off n c d2) (p2 : PermIn a m d1 d2) (q2 : SortedIn ltInt a m d2) : Pq w w2 g off n c a0 b0 d0 (m + 1) b d2 := by
  have h1 := h.move s p
  have hs1 := h1.size
  have h2 := h1.move s2 (permIn_mono d1 d2 a m a b (Nat.le_refl _) (by omega) hs1 p2)
  have hs2 := h2.size
  have em : d2[m]! = d1[m]! := p2.2.1 m (.inr (Nat.le_refl _))
  have g1 := all_of p2 (by omega) (F := fun x => ltInt x d1[m]! = true) f1
  refine ⟨h2.srt, h2.perm, by have := h2.lo; omega, by omega, h2.hi, h2.bn, .inr fun i k1 k2 => ?_, fun d' p3 s3 => h2.fin d' (permIn_mono d2 d' (m + 1) b a b (by omega) (Nat.le_refl _) hs2 p3) fun i j k1 k2 k3 => ?_⟩
  · rw [p2.2.1 i (.inr (by omega)), show m + 1 - 1 = m by omega, em]
    exact f2 i (by omega) k2
  · have lowE : ∀ t, t ≤ m → d'[t]! = d2[t]! := fun t ht => p3.2.1 t (.inl (by omega))
    have hi3 := all_of p3 hs2 (F := fun x => ltInt x d1[m]! = false) (fun t x1 x2 => by rw [p2.2.1 t (.inr (by omega))]; exact f2 t (by omega) x2)
    by_cases e1 : m < i
    · exact s3 i j (by omega) k2 k3
    · by_cases e2 : j < m
      · rw [lowE i (by omega), lowE j (by omega)]
        exact q2 i j k1 k2 e2
      · refine lt_f.2 ?_
        rw [lowE i (by omega)]
        have u : d2[i]! ≤ d1[m]! := by
          by_cases e : i = m
          · rw [e, em]; exact Int.le_refl _
          · exact Int.le_of_lt (lt_t.1 (g1 i k1 (by omega)))
        by_cases e3 : j = m
        · rw [e3, lowE m (Nat.le_refl _), em]; exact u
        · have := lt_f.1 (hi3 j (by omega) k3)
          omega
theorem Pq.right {w wr w1 w2 : World} {g off n c a0 b0 : Nat} {d0 : Array Int} {a b m : Nat} {dk d1 d2 : Array Int} (h : Pq w wr g off n c a0 b0 d0 a b dk) (s : Srt wr w1 g off n c d1) (p : PermIn a b dk d1) (hm : a ≤ m ∧ m < b)
    (f1 : ∀ t, a ≤ t → t < m → ltInt d1[t]! d1[m]! = true) (f2 : ∀ t, m < t → t < b → ltInt d1[t]! d1[m]! = false) (s2 : Srt w1 w2 g off n c d2) (p2 : PermIn (m + 1) b d1 d2) (q2 : SortedIn ltInt (m + 1) b d2) : Pq w w2 g off n c a0 b0 d0 a m d2 := by
  have h1 := h.move s p
  have hs1 := h1.size
  have h2 := h1.move s2 (permIn_mono d1 d2 (m + 1) b a b (by omega) (Nat.le_refl _) hs1 p2)
  have hs2 := h2.size
  have lowE : ∀ t, t ≤ m → d2[t]! = d1[t]! := fun t ht => p2.2.1 t (.inl (by omega))
  have g2 := all_of p2 hs1 (F := fun x => ltInt x d1[m]! = false) (fun t x1 x2 => f2 t (by omega) x2)
  refine ⟨h2.srt, h2.perm, h2.lo, hm.1, by have := h2.hi; omega, h2.bn, ?_, fun d' p3 s3 => h2.fin d' (permIn_mono d2 d' a m a b (Nat.le_refl _) (by omega) hs2 p3) fun i j k1 k2 k3 => ?_⟩
  · rcases h2.bel with q | q
    · exact .inl q
    · exact .inr fun i k1 k2 => q i k1 (by omega)
  · have hiE : ∀ t, m ≤ t → d'[t]! = d2[t]! := fun t ht => p3.2.1 t (.inr ht)
    have lo3 := all_of p3 (by omega) (F := fun x => ltInt x d1[m]! = true) (fun t x1 x2 => by rw [lowE t (by omega)]; exact f1 t x1 x2)
    by_cases e1 : j < m
    · exact s3 i j k1 k2 e1
    · by_cases e2 : m < i
      · rw [hiE i (by omega), hiE j (by omega)]
        exact q2 i j (by omega) k2 k3
      · refine lt_f.2 ?_
        rw [hiE j (by omega)]
        have u : d1[m]! ≤ d2[j]! := by
          by_cases e : j = m
          · rw [e, lowE m (Nat.le_refl _)]; exact Int.le_refl _
          · exact lt_f.1 (g2 j (by omega) k3)
        by_cases e3 : i = m
        · rw [e3, hiE m (Nat.le_refl _), lowE m (Nat.le_refl _)]; exact u
        · have := lt_t.1 (lo3 i k1 (by omega))
          omega
end Go.Proofs.YtndaohiecpdmlaaGreat
