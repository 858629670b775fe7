/-
  To which addresses some packet may go, in plain words; that the ports and protocols at which rules change tell it. No condition but that the rules are right.
-/
import Derived.Test.YtndaohiecpdmlaaGreatPoRts
namespace Go.Proofs.YtndaohiecpdmlaaGreat
set_option maxRecDepth 100000
open Go.RowKit

/-- Some packet may go to an address. -/
def Goes (l : List Ru) (a : Int) : Prop := ∃ p q : Int, 1 ≤ p ∧ p ≤ 255 ∧ 0 ≤ q ∧ q ≤ 65535 ∧ sayL l p a q = true
/-- Among so many numbers one is missing. -/
theorem free_num : ∀ (n : Nat) (ls : List Int), ls.length ≤ n → ∃ x : Nat, 1 ≤ x ∧ x ≤ n + 1 ∧ ((x : Int) ∉ ls)
  | 0, ls, h => ⟨1, by omega, by omega, by
      have : ls = [] := List.eq_nil_of_length_eq_zero (by omega)
      rw [this]
      simp⟩
  | n + 1, ls, h => by
    by_cases hm : (((n + 2 : Nat)) : Int) ∈ ls
    · obtain ⟨x, h1, h2, h3⟩ := free_num n (ls.erase ((n + 2 : Nat) : Int)) (by rw [List.length_erase_of_mem hm]; omega)
      refine ⟨x, h1, by omega, fun c => h3 ?_⟩
      rw [List.mem_erase_of_ne (by omega)]
      exact c
    · exact ⟨n + 2, by omega, by omega, hm⟩
theorem sayL_congr : ∀ {l : List Ru} {p a q p' a' q' : Int}, (∀ r ∈ l, fit r p a q = fit r p' a' q') → sayL l p a q = sayL l p' a' q'
  | [], _, _, _, _, _, _, _ => rfl
  | r :: l, p, a, q, p', a', q', h => by
    rw [sayL, sayL, h r (List.mem_cons_self ..), sayL_congr fun r' hr => h r' (List.mem_cons_of_mem _ hr)]
theorem sayL_some : ∀ {l : List Ru} {p a q : Int}, sayL l p a q = true → ∃ r ∈ l, fit r p a q = true
  | [], _, _, _, h => by cases h
  | r :: l, p, a, q, h => by
    rw [sayL] at h
    by_cases hf : fit r p a q = true
    · exact ⟨r, List.mem_cons_self .., hf⟩
    · rw [if_neg hf] at h
      obtain ⟨r', hr, hf'⟩ := sayL_some h
      exact ⟨r', List.mem_cons_of_mem _ hr, hf'⟩
/-- A protocol that no rule names is as any other such. -/
theorem say_other {l : List Ru} {p p' a q : Int} (h : ∀ r ∈ l, r.pro ≠ p) (h' : ∀ r ∈ l, r.pro ≠ p') : sayL l p a q = sayL l p' a q :=
  sayL_congr fun r hr => by
    unfold fit con
    have e1 : (r.pro == p) = false := by simpa using h r hr
    have e2 : (r.pro == p') = false := by simpa using h' r hr
    rw [e1, e2]
/-- .. and as the protocol 0. -/
theorem say_zero {l : List Ru} {p a q : Int} (h : ∀ r ∈ l, r.pro ≠ p) : sayL l p a q = sayL l 0 a q :=
  sayL_congr fun r hr => by
    unfold fit con
    have e1 : (r.pro == p) = false := by simpa using h r hr
    rw [e1]
    cases (r.pro == 0) <;> rfl
/-- The least port that is allowed is one at which a rule begins, or is over. -/
theorem least_port {l : List Ru} {p a : Int} (HR : ∀ r ∈ l, ruR r = true) : ∀ (n : Nat) (q : Int), q = (n : Int) → sayL l p a q = true → ∃ r ∈ l, con r p a = true ∧ (sayL l p a r.fr = true ∨ (r.up + 1 ≤ q ∧ sayL l p a (r.up + 1) = true))
  | n, q, hn, hs => by
    obtain ⟨r, hr, hf⟩ := sayL_some hs
    unfold fit at hf
    simp only [Bool.and_eq_true, decide_eq_true_eq] at hf
    obtain ⟨⟨hc, h1⟩, h2⟩ := hf
    by_cases hb : ∃ r ∈ l, con r p a = true ∧ (q = r.fr ∨ q = r.up + 1)
    · obtain ⟨r', hr', hc', e | e⟩ := hb
      · exact ⟨r', hr', hc', .inl (e ▸ hs)⟩
      · exact ⟨r', hr', hc', .inr ⟨by omega, e ▸ hs⟩⟩
    · have hw := ruR_w (HR r hr)
      have hf0 := hw.f0
      have hne : q ≠ r.fr := fun e => hb ⟨r, hr, hc, .inl e⟩
      cases n with
      | zero => omega
      | succ n =>
        have hs' : sayL l p a (q - 1) = true := by
          rw [← hs]
          refine sayL_congr fun r' hr' => ?_
          unfold fit
          cases hc' : con r' p a with
          | false => rfl
          | true =>
            have n1 : q ≠ r'.fr := fun e => hb ⟨r', hr', hc', .inl e⟩
            have n2 : q ≠ r'.up + 1 := fun e => hb ⟨r', hr', hc', .inr e⟩
            rw [Bool.true_and, Bool.true_and]
            congr 1
            · rw [Bool.eq_iff_iff, decide_eq_true_iff, decide_eq_true_iff]; omega
            · rw [Bool.eq_iff_iff, decide_eq_true_iff, decide_eq_true_iff]; omega
        obtain ⟨r', hr', hc', h⟩ := least_port HR n (q - 1) (by omega) hs'
        exact ⟨r', hr', hc', h.imp id fun ⟨x, y⟩ => ⟨by omega, y⟩⟩
/-- Where a port is allowed it is a port. -/
theorem say_port {l : List Ru} {p a q : Int} (HR : ∀ r ∈ l, ruR r = true) (hs : sayL l p a q = true) : 0 ≤ q ∧ q ≤ 65535 := by
  obtain ⟨r, hr, hf⟩ := sayL_some hs
  have hw := ruR_w (HR r hr)
  have h0 := hw.f0
  have h1 := hw.u1
  unfold fit at hf
  simp only [Bool.and_eq_true, decide_eq_true_eq] at hf
  omega
theorem free_pro {l : List Ru} (hl : l.length ≤ 32) : ∃ p : Int, 1 ≤ p ∧ p ≤ 255 ∧ ∀ r ∈ l, r.pro ≠ p := by
  obtain ⟨x, h1, h2, h3⟩ := free_num 32 (l.map (·.pro)) (by rw [List.length_map]; exact hl)
  exact ⟨x, by omega, by omega, fun r hr e => h3 (List.mem_map.2 ⟨r, hr, e⟩)⟩
theorem reach_goes {l : List Ru} {ps : List Int} {a : Int} (HR : ∀ r ∈ l, ruR r = true) (hl : l.length ≤ 32) (hp : ∀ x, x ∈ ps ↔ ∃ r ∈ l, r.pro = x) : reachB l ps a = true ↔ Goes l a := by
  unfold reachB
  rw [List.any_eq_true]
  constructor
  · rintro ⟨p, hpm, h⟩
    unfold oneB at h
    rw [List.any_eq_true] at h
    obtain ⟨r, hr, h⟩ := h
    simp only [Bool.and_eq_true, Bool.or_eq_true] at h
    obtain ⟨q, hq⟩ : ∃ q, sayL l p a q = true := h.2.elim (fun e => ⟨_, e⟩) fun e => ⟨_, e⟩
    have hqp := say_port HR hq
    obtain ⟨r0, hr0, e0⟩ := (hp p).1 hpm
    have hw := ruR_w (HR r0 hr0)
    have w0 := hw.p0
    have w1 := hw.p1
    by_cases hz : p = 0
    · obtain ⟨p', k1, k2, k3⟩ := free_pro hl
      exact ⟨p', q, k1, k2, hqp.1, hqp.2, by rw [say_zero k3, ← hz]; exact hq⟩
    · exact ⟨p, q, by omega, by omega, hqp.1, hqp.2, hq⟩
  · rintro ⟨p, q, h1, h2, h3, h4, hs⟩
    have key : ∀ p', sayL l p' a q = true → p' ∈ ps → ∃ x ∈ ps, oneB l x a = true := fun p' hs' hm => by
      obtain ⟨r, hr, hc, h⟩ := least_port HR q.toNat q (by omega) hs'
      refine ⟨p', hm, ?_⟩
      unfold oneB
      rw [List.any_eq_true]
      exact ⟨r, hr, by rw [hc, Bool.true_and, Bool.or_eq_true]; exact h.imp id fun x => x.2⟩
    by_cases hn : ∃ r ∈ l, r.pro = p
    · exact key p hs ((hp p).2 hn)
    · have hn' : ∀ r ∈ l, r.pro ≠ p := fun r hr e => hn ⟨r, hr, e⟩
      rw [say_zero hn'] at hs
      obtain ⟨r, hr, hf⟩ := sayL_some hs
      have hr0 : r.pro = 0 := by
        unfold fit con at hf
        simp only [Bool.and_eq_true, Bool.or_eq_true, beq_iff_eq] at hf
        have := hf.1.1.1
        omega
      exact key 0 hs ((hp 0).2 ⟨r, hr, hr0⟩)
end Go.Proofs.YtndaohiecpdmlaaGreat
