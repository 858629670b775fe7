/-
  Two queues that always have packets, plain: what each has got differs by no more than a quantum and a packet. Rows of zeros as texts. No condition.
-/
import Derived.Test.YtiamlldooihkdaaFaFp
namespace Go.Proofs.Ytiamlldooihkdaa
set_option maxRecDepth 100000
open Go.RowKit

/-- Two have packets, of at most K bytes; the one has got D bytes more than the other. -/
structure Sh (f : FaQ) (Q K : Int) (ma mb : List ByteArray) (D : Int) : Prop where
  qu : f.qu = Q
  q0 : 1 ≤ Q
  pz : f.pz ≤ 600
  sa : ∀ s ∈ ma, (s.size : Int) ≤ K
  sb : ∀ s ∈ mb, (s.size : Int) ≤ K
  na : ma ≠ []
  nb : mb ≠ []
  at_ : (∃ da db : Int, f.r = [⟨1, ma, da⟩, ⟨2, mb, db⟩] ∧ D = (if f.sv then Q else 0) - (da - db) ∧ 0 ≤ da ∧ 0 ≤ db ∧ db ≤ K ∧ da ≤ if f.sv then Q + K else K) ∨ (∃ da db : Int, f.r = [⟨2, mb, db⟩, ⟨1, ma, da⟩] ∧ D = (if f.sv then 0 else Q) - (da - db) ∧ 0 ≤ da ∧ 0 ≤ db ∧ da ≤ K ∧ db ≤ if f.sv then Q + K else K)
theorem Sh.bound {f : FaQ} {Q K : Int} {ma mb : List ByteArray} {D : Int} (h : Sh f Q K ma mb D) (hK : 0 ≤ K) : D ≤ 2 * (Q + K) ∧ -D ≤ 2 * (Q + K) := by
  have := h.q0
  rcases h.at_ with ⟨da, db, -, h1, h2, h3, h4, h5⟩ | ⟨da, db, -, h1, h2, h3, h4, h5⟩
  all_goals cases hs : f.sv <;> rw [hs] at h1 h5 <;> simp at h1 h5 <;> omega
theorem hd_in {l : List ByteArray} (h : l ≠ []) : l = (l.headD ByteArray.empty) :: l.tail := by
  cases l with
  | nil => exact absurd rfl h
  | cons s t => rfl
theorem hd_mem2 {l : List ByteArray} (h : l ≠ []) : l.headD ByteArray.empty ∈ l := by
  cases l with
  | nil => exact absurd rfl h
  | cons s t => exact List.mem_cons_self ..
theorem Sh.step {f : FaQ} {Q K : Int} {ma mb : List ByteArray} {D : Int} (h : Sh f Q K ma mb D) (ht : turnE f = false) : Sh (stepE f) Q K ma mb D := by
  have hq := h.q0
  have hqu := h.qu
  have ia := hd_mem2 h.na
  have ib := hd_mem2 h.nb
  have za := h.sa _ ia
  have zb := h.sb _ ib
  unfold turnE at ht
  obtain ⟨k1, k2, k3⟩ := keep_step f
  refine ⟨k2.trans h.qu, h.q0, by rw [k3]; exact h.pz, h.sa, h.sb, h.na, h.nb, ?_⟩
  rcases h.at_ with ⟨da, db, hr, h1, h2, h3, h4, h5⟩ | ⟨da, db, hr, h1, h2, h3, h4, h5⟩
  · rw [hr] at ht
    have ht := of_decide_eq_false ht
    right
    refine ⟨dueE f ⟨1, ma, da⟩, db, by unfold stepE; rw [hr]; rfl, ?_⟩
    have hsv : (stepE f).sv = false := by unfold stepE; rw [hr]
    rw [hsv]
    unfold dueE at ht ⊢
    unfold hdE at ht
    simp only at ht ⊢
    generalize (ma.headD ByteArray.empty).size = za1 at *
    generalize (mb.headD ByteArray.empty).size = zb1 at *
    cases hs : f.sv <;> rw [hs] at h1 h5 ht <;> simp at h1 h5 ht ⊢ <;> omega
  · rw [hr] at ht
    have ht := of_decide_eq_false ht
    left
    refine ⟨da, dueE f ⟨2, mb, db⟩, by unfold stepE; rw [hr]; rfl, ?_⟩
    have hsv : (stepE f).sv = false := by unfold stepE; rw [hr]
    rw [hsv]
    unfold dueE at ht ⊢
    unfold hdE at ht
    simp only at ht ⊢
    generalize (ma.headD ByteArray.empty).size = za1 at *
    generalize (mb.headD ByteArray.empty).size = zb1 at *
    cases hs : f.sv <;> rw [hs] at h1 h5 ht <;> simp at h1 h5 ht ⊢ <;> omega
theorem Sh.next {f : FaQ} {Q K : Int} {ma mb : List ByteArray} {D : Int} (h : Sh f Q K ma mb D) :
    (∃ s t, ma = s :: t ∧ nextA f = (1, s, true) ∧ (t ≠ [] → Sh (nextE f) Q K t mb (D + s.size))) ∨ (∃ s t, mb = s :: t ∧ nextA f = (2, s, true) ∧ (t ≠ [] → Sh (nextE f) Q K ma t (D - s.size))) := by
  have hg : Sh (nextG f) Q K ma mb D := next_ind (P := fun g => Sh g Q K ma mb D) h fun _ hg ht => Sh.step hg ht
  have ht := next_turn (f := f) (by rw [h.qu]; exact h.q0)
  have hq := h.q0
  clear h
  unfold nextA nextE
  generalize nextG f = g at *
  have hqu := hg.qu
  unfold turnE at ht
  rcases hg.at_ with ⟨da, db, hr, h1, h2, h3, h4, h5⟩ | ⟨da, db, hr, h1, h2, h3, h4, h5⟩
  · left
    rw [hr] at ht
    have ht := of_decide_eq_true ht
    have e := hd_in hg.na
    refine ⟨_, _, e, by rw [hr]; rfl, fun hne => ?_⟩
    have hsz : ((hdE ⟨1, ma, da⟩).size : Int) = (ma.headD ByteArray.empty).size := rfl
    have et : takeE g = { g with r := [⟨1, ma.tail, dueE g ⟨1, ma, da⟩ - (ma.headD ByteArray.empty).size⟩, ⟨2, mb, db⟩], sv := true } := by
      unfold takeE
      rw [hr]
      simp only
      rw [if_neg hne]
      rfl
    rw [et]
    refine ⟨hqu, hq, hg.pz, fun s hs => hg.sa s (List.mem_of_mem_tail hs), hg.sb, hne, hg.nb, .inl ⟨_, db, rfl, ?_⟩⟩
    have hK : (0 : Int) ≤ (ma.headD ByteArray.empty).size := by omega
    unfold dueE at ht ⊢
    rw [hsz] at ht
    simp only at ht ⊢
    cases hs : g.sv <;> rw [hs] at h1 h5 ht <;> simp at h1 h5 ht ⊢ <;> omega
  · right
    rw [hr] at ht
    have ht := of_decide_eq_true ht
    have e := hd_in hg.nb
    refine ⟨_, _, e, by rw [hr]; rfl, fun hne => ?_⟩
    have hsz : ((hdE ⟨2, mb, db⟩).size : Int) = (mb.headD ByteArray.empty).size := rfl
    have et : takeE g = { g with r := [⟨2, mb.tail, dueE g ⟨2, mb, db⟩ - (mb.headD ByteArray.empty).size⟩, ⟨1, ma, da⟩], sv := true } := by
      unfold takeE
      rw [hr]
      simp only
      rw [if_neg hne]
      rfl
    rw [et]
    refine ⟨hqu, hq, hg.pz, hg.sa, fun s hs => hg.sb s (List.mem_of_mem_tail hs), hg.na, hne, .inr ⟨da, _, rfl, ?_⟩⟩
    have hK : (0 : Int) ≤ (mb.headD ByteArray.empty).size := by omega
    unfold dueE at ht ⊢
    rw [hsz] at ht
    simp only at ht ⊢
    cases hs : g.sv <;> rw [hs] at h1 h5 ht <;> simp at h1 h5 ht ⊢ <;> omega

/-- Two queues as they are pushed. -/
def rb (la lb : List ByteArray) : List FaE := (if la = [] then [] else [⟨1, la, 0⟩]) ++ (if lb = [] then [] else [⟨2, lb, 0⟩])
def bd (q : Int) (la lb : List ByteArray) : FaQ := ⟨1000, q, rb la lb, false, la.length + lb.length⟩
theorem bd_new {q : Int} (h0 : 1 ≤ q) (h1 : q ≤ 500) : newE 1000 q = bd q [] [] := by
  unfold newE bd
  rw [cutQ_in (n := 1000) (by decide) (by decide), cutQ_in h0 (by omega)]
  rfl
theorem snoc_ne (l : List ByteArray) (s : ByteArray) : l ++ [s] ≠ [] := by simp
theorem bd_one {q : Int} {la lb : List ByteArray} {s : ByteArray} (h : lb = [] ∨ la ≠ []) (hl : la.length < 1000) (hs : s.size ≤ 65535) : pushE (bd q la lb) 1 s = 0 ∧ pushQ (bd q la lb) 1 s = bd q (la ++ [s]) lb := by
  have hp : pushE (bd q la lb) 1 s = 0 := by
    unfold pushE bd rb
    rw [if_neg (by omega)]
    by_cases ha : la = []
    · have hb : lb = [] := by
        rcases h with h | h
        · exact h
        · exact absurd ha h
      subst ha hb
      rfl
    · simp only [ha, if_false]
      rw [List.singleton_append, tbl_head ⟨1, la, 0⟩]
      exact if_neg (by show ¬ ((1000 : Int) ≤ la.length); omega)
  refine ⟨hp, ?_⟩
  unfold pushQ
  rw [if_pos hp]
  unfold addL bd rb
  simp only [snoc_ne, if_false]
  have el : (la ++ [s]).length + lb.length = la.length + lb.length + 1 := by simp; omega
  rw [el]
  by_cases ha : la = []
  · have hb : lb = [] := by
      rcases h with h | h
      · exact h
      · exact absurd ha h
    subst ha hb
    rfl
  · simp only [ha, if_false]
    rw [List.singleton_append, tbl_head ⟨1, la, 0⟩]
    by_cases hb : lb = [] <;> simp [hb]
theorem bd_two {q : Int} {la lb : List ByteArray} {s : ByteArray} (ha : la ≠ []) (hl : lb.length < 1000) (hs : s.size ≤ 65535) : pushE (bd q la lb) 2 s = 0 ∧ pushQ (bd q la lb) 2 s = bd q la (lb ++ [s]) := by
  have ht : tblE (bd q la lb).r 2 = if lb = [] then none else some (lb, 0) := by
    unfold bd rb
    simp only [ha, if_false]
    rw [List.singleton_append, tblE, if_neg (by show ¬ (1 : Int) = 2; decide)]
    by_cases hb : lb = []
    · simp [hb, tblE]
    · simp [hb, tblE]
  have hp : pushE (bd q la lb) 2 s = 0 := by
    unfold pushE
    rw [if_neg (by omega), ht]
    by_cases hb : lb = []
    · rw [if_pos hb]
    · rw [if_neg hb]
      exact if_neg (by show ¬ ((1000 : Int) ≤ lb.length); omega)
  refine ⟨hp, ?_⟩
  unfold pushQ
  rw [if_pos hp]
  unfold addL
  rw [ht]
  have el : la.length + (lb ++ [s]).length = la.length + lb.length + 1 := by simp; omega
  by_cases hb : lb = []
  · subst hb
    unfold bd rb
    simp [ha]
  · rw [if_neg hb]
    unfold bd rb
    simp only [el]
    simp [ha, hb]
theorem bd_sh {q K : Int} {la lb : List ByteArray} (h0 : 1 ≤ q) (ha : la ≠ []) (hb : lb ≠ []) (hz : la.length + lb.length ≤ 600) (hK : 0 ≤ K) (sa : ∀ s ∈ la, (s.size : Int) ≤ K) (sb : ∀ s ∈ lb, (s.size : Int) ≤ K) : Sh (bd q la lb) q K la lb 0 :=
  ⟨rfl, h0, hz, sa, sb, ha, hb, .inl ⟨0, 0, by unfold bd rb; simp [ha, hb], rfl, Int.le_refl _, Int.le_refl _, hK, hK⟩⟩
