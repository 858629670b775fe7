/-
  What the fold over the addresses at which something changes leaves, in plain words: routes that rise and do not touch, and hold every address to which some packet may go. No condition but that the rules are right.
-/
import Derived.Test.YtndaohiecpdmlaaGreatPoSemB
namespace Go.Proofs.YtndaohiecpdmlaaGreat
set_option maxRecDepth 100000
open Go.RowKit

theorem sorted_same : ∀ {a b : List Int}, a.Pairwise (· < ·) → b.Pairwise (· < ·) → (∀ x, x ∈ a ↔ x ∈ b) → a = b
  | [], [], _, _, _ => rfl
  | [], y :: b, _, _, h => absurd ((h y).2 (List.mem_cons_self ..)) (by simp)
  | x :: a, [], _, _, h => absurd ((h x).1 (List.mem_cons_self ..)) (by simp)
  | x :: a, y :: b, ha, hb, h => by
    have ha' := List.pairwise_cons.1 ha
    have hb' := List.pairwise_cons.1 hb
    have e : x = y := by
      rcases List.mem_cons.1 ((h x).1 (List.mem_cons_self ..)) with q | q
      · exact q
      · rcases List.mem_cons.1 ((h y).2 (List.mem_cons_self ..)) with r | r
        · exact r.symm
        · have h1 := ha'.1 y r
          have h2 := hb'.1 x q
          omega
    subst e
    congr 1
    refine sorted_same ha'.2 hb'.2 fun z => ⟨fun hz => ?_, fun hz => ?_⟩
    · rcases List.mem_cons.1 ((h z).1 (List.mem_cons_of_mem _ hz)) with q | q
      · have := ha'.1 z hz
        omega
      · exact q
    · rcases List.mem_cons.1 ((h z).2 (List.mem_cons_of_mem _ hz)) with q | q
      · have := hb'.1 z hz
        omega
      · exact q
/-- Whether some packet may go to an address, reckoned. -/
def goB (l : List Ru) (a : Int) : Bool := reachB l (l.map (·.pro)) a
theorem goB_goes {l : List Ru} {a : Int} (hk : ruK l = 0) : goB l a = true ↔ Goes l a := by
  obtain ⟨hl, HR⟩ := ruK_right.1 hk
  exact reach_goes HR hl fun x => by rw [List.mem_map]
theorem goB_reach {l : List Ru} {ps : List Int} (hk : ruK l = 0) (hp : ∀ x, x ∈ ps ↔ ∃ r ∈ l, r.pro = x) : (fun a => reachB l ps a) = goB l := by
  obtain ⟨hl, HR⟩ := ruK_right.1 hk
  funext a
  rw [Bool.eq_iff_iff, goB_goes hk]
  exact reach_goes HR hl hp
/-- The addresses at which something may change. -/
def bnR (r : Ru) : List Int := [r.ad, hiR r + 1]
def bnS (l : List Ru) : List Int := 0 :: l.flatMap bnR
theorem bnS_mem {l : List Ru} {r : Ru} (h : r ∈ l) : r.ad ∈ bnS l ∧ hiR r + 1 ∈ bnS l :=
  ⟨List.mem_cons_of_mem _ (List.mem_flatMap.2 ⟨r, h, by simp [bnR]⟩), List.mem_cons_of_mem _ (List.mem_flatMap.2 ⟨r, h, by simp [bnR]⟩)⟩
theorem goes_same {l : List Ru} {a b : Int} (h : ∀ c ∈ bnS l, c ≤ a ↔ c ≤ b) : Goes l a ↔ Goes l b := by
  have key : ∀ p q, sayL l p a q = sayL l p b q := fun p q => sayL_congr fun r hr => by
    obtain ⟨h1, h2⟩ := bnS_mem hr
    have e1 := h _ h1
    have e2 := h _ h2
    unfold hiR at e2
    unfold fit con inP
    congr 3
    congr 1
    · congr 1
      rw [decide_eq_decide]
      exact e1
    · rw [decide_eq_decide]
      omega
  unfold Goes
  simp only [key]
theorem goB_same {l : List Ru} {a b : Int} (hk : ruK l = 0) (h : ∀ c ∈ bnS l, c ≤ a ↔ c ≤ b) : goB l a = goB l b := by
  rw [Bool.eq_iff_iff, goB_goes hk, goB_goes hk]
  exact goes_same h
/-- Routes that rise and do not touch. -/
structure WF (out : List (Int × Int)) : Prop where
  ord : out.Pairwise (fun x y => x.2 + 1 < y.1)
  low : ∀ x ∈ out, 0 ≤ x.1 ∧ x.1 ≤ x.2 ∧ x.2 < 4294967296
def InS (out : List (Int × Int)) (a : Int) : Prop := ∃ x ∈ out, x.1 ≤ a ∧ a ≤ x.2
theorem setH_app (init : List (Int × Int)) (lo h0 h : Int) : setH (init ++ [(lo, h0)]) h = init ++ [(lo, h)] := by
  unfold setH
  have e : (init ++ [(lo, h0)]).length - 1 = init.length := by simp
  rw [e, List.getD_eq_getElem?_getD, List.getElem?_append_right (Nat.le_refl _), List.set_append_right _ _ (Nat.le_refl _)]
  simp
theorem rfG_cov (f : Int → Bool) : ∀ (bs : List Int) (j : Bool) (out : List (Int × Int)), bs.Pairwise (· < ·) → (∀ x ∈ bs, 0 ≤ x ∧ x ≤ 4294967296) → WF out →
    (∀ b rest, bs = b :: rest → (∀ y ∈ out, y.2 + 1 ≤ b) ∧ (j = false → ∀ y ∈ out, y.2 + 1 < b) ∧ (j = true → ∃ init lo, out = init ++ [(lo, b - 1)])) →
    WF (rfG f bs j out) ∧ (∀ a, InS out a → InS (rfG f bs j out) a) ∧ (bs.getLast? = some 4294967296 → (∀ pre b b' post, bs = pre ++ b :: b' :: post → ∀ a, b ≤ a → a < b' → f a = f b) →
      ∀ b rest, bs = b :: rest → ∀ a, b ≤ a → a < 4294967296 → f a = true → InS (rfG f bs j out) a)
  | [], j, out, _, _, hw, _ => ⟨hw, fun a h => h, fun h => by simp at h⟩
  | [b], j, out, _, _, hw, _ => ⟨hw, fun a h => h, fun h _ b0 rest e a h1 h2 => by
      simp at h
      injection e with e1 e2
      omega⟩
  | b :: b' :: rest, j, out, hs, hb, hw, hj => by
    have hs2 := (List.pairwise_cons.1 hs).2
    have hlt := (List.pairwise_cons.1 hs).1 b' (List.mem_cons_self ..)
    have hb2 : ∀ x ∈ b' :: rest, 0 ≤ x ∧ x ≤ 4294967296 := fun x hx => hb x (List.mem_cons_of_mem _ hx)
    have h0 := hb b (List.mem_cons_self ..)
    have h1 := hb2 b' (List.mem_cons_self ..)
    obtain ⟨j1, j2, j3⟩ := hj b (b' :: rest) rfl
    have sm : (∀ pre c c' post, b :: b' :: rest = pre ++ c :: c' :: post → ∀ a, c ≤ a → a < c' → f a = f c) → (∀ pre c c' post, b' :: rest = pre ++ c :: c' :: post → ∀ a, c ≤ a → a < c' → f a = f c) := fun H pre c c' post e => H (b :: pre) c c' post (by rw [e]; rfl)
    have lst : (b :: b' :: rest).getLast? = (b' :: rest).getLast? := by simp [List.getLast?_cons]
    -- what the rest says of a new list of routes
    have go : ∀ (k : Bool) (out' : List (Int × Int)), rfG f (b :: b' :: rest) j out = rfG f (b' :: rest) k out' → WF out' → ((∀ y ∈ out', y.2 + 1 ≤ b') ∧ (k = false → ∀ y ∈ out', y.2 + 1 < b') ∧ (k = true → ∃ init lo, out' = init ++ [(lo, b' - 1)])) → (∀ a, InS out a → InS out' a) → (∀ a, b ≤ a → a < b' → f b = true → InS out' a) →
        WF (rfG f (b :: b' :: rest) j out) ∧ (∀ a, InS out a → InS (rfG f (b :: b' :: rest) j out) a) ∧ ((b :: b' :: rest).getLast? = some 4294967296 → (∀ pre c c' post, b :: b' :: rest = pre ++ c :: c' :: post → ∀ a, c ≤ a → a < c' → f a = f c) →
          ∀ c rest', b :: b' :: rest = c :: rest' → ∀ a, c ≤ a → a < 4294967296 → f a = true → InS (rfG f (b :: b' :: rest) j out) a) := fun k out' e w' c' i' n' => by
      rw [e]
      obtain ⟨r1, r2, r3⟩ := rfG_cov f (b' :: rest) k out' hs2 hb2 w' (fun c r e => by injection e with e1 e2; rw [← e1]; exact c')
      refine ⟨r1, fun a h => r2 a (i' a h), fun hl H c r e2 a h2 h3 h4 => ?_⟩
      injection e2 with e3 e4
      subst e3
      by_cases q : a < b'
      · refine r2 a (n' a h2 q ?_)
        rw [← H [] b b' rest rfl a h2 q]
        exact h4
      · exact r3 (lst ▸ hl) (sm H) b' rest rfl a (by omega) h3 h4
    cases hf : f b with
    | false =>
      refine go false out (by rw [rfG, hf]; rfl) hw ⟨fun y hy => ?_, fun _ y hy => ?_, fun h => by cases h⟩ (fun a h => h) fun a _ _ h => by rw [hf] at h; cases h
      · have := j1 y hy
        omega
      · have := j1 y hy
        omega
    | true =>
      cases j with
      | true =>
        obtain ⟨init, lo, rfl⟩ := j3 rfl
        have ho := List.pairwise_append.1 hw.ord
        have hlo := hw.low (lo, b - 1) (by simp)
        simp only at hlo
        refine go true (init ++ [(lo, b' - 1)]) (by rw [rfG, hf, setH_app]; rfl) ⟨?_, ?_⟩ ⟨?_, (fun h => by cases h), fun _ => ⟨init, lo, rfl⟩⟩ ?_ ?_
        · refine List.pairwise_append.2 ⟨ho.1, by simp, fun x hx y hy => ?_⟩
          have : y = (lo, b' - 1) := by simpa using hy
          subst this
          exact ho.2.2 x hx (lo, b - 1) (by simp)
        · intro x hx
          rcases List.mem_append.1 hx with q | q
          · exact hw.low x (List.mem_append.2 (.inl q))
          · have : x = (lo, b' - 1) := by simpa using q
            subst this
            simp only
            omega
        · intro y hy
          rcases List.mem_append.1 hy with q | q
          · have := j1 y (List.mem_append.2 (.inl q))
            omega
          · have : y = (lo, b' - 1) := by simpa using q
            subst this
            simp only
            omega
        · rintro a ⟨x, hx, h2, h3⟩
          rcases List.mem_append.1 hx with q | q
          · exact ⟨x, List.mem_append.2 (.inl q), h2, h3⟩
          · have : x = (lo, b - 1) := by simpa using q
            subst this
            simp only at h2 h3
            exact ⟨(lo, b' - 1), by simp, h2, by simp only; omega⟩
        · intro a h2 h3 _
          exact ⟨(lo, b' - 1), by simp, by simp only; omega, by simp only; omega⟩
      | false =>
        refine go true (out ++ [(b, b' - 1)]) (by rw [rfG, hf]; rfl) ⟨?_, ?_⟩ ⟨?_, (fun h => by cases h), fun _ => ⟨out, b, rfl⟩⟩ ?_ ?_
        · refine List.pairwise_append.2 ⟨hw.ord, by simp, fun x hx y hy => ?_⟩
          have : y = (b, b' - 1) := by simpa using hy
          subst this
          exact j2 rfl x hx
        · intro x hx
          rcases List.mem_append.1 hx with q | q
          · exact hw.low x q
          · have : x = (b, b' - 1) := by simpa using q
            subst this
            simp only
            omega
        · intro y hy
          rcases List.mem_append.1 hy with q | q
          · have := j1 y q
            omega
          · have : y = (b, b' - 1) := by simpa using q
            subst this
            simp only
            omega
        · rintro a ⟨x, hx, h2, h3⟩
          exact ⟨x, List.mem_append.2 (.inl hx), h2, h3⟩
        · intro a h2 h3 _
          exact ⟨(b, b' - 1), by simp, by simp only; omega, by simp only; omega⟩
/-- The addresses at which something changes, and the end. -/
structure Bnd (l : List Ru) (bs : List Int) : Prop where
  srt : bs.Pairwise (· < ·)
  mem : ∀ x, x ∈ bs ↔ (x ∈ bnS l ∨ x = 4294967296)
theorem bnS_in {l : List Ru} (HB : ∀ r ∈ l, RuB r) (hk : ruK l = 0) {x : Int} (h : x ∈ bnS l) : 0 ≤ x ∧ x ≤ 4294967296 := by
  obtain ⟨hl, HR⟩ := ruK_right.1 hk
  rcases List.mem_cons.1 h with q | q
  · omega
  · obtain ⟨r, hr, q⟩ := List.mem_flatMap.1 q
    have h1 := hi_in (HB r hr) (ruR_w (HR r hr)).t
    have h2 := (HB r hr).a0
    have h3 := (HB r hr).a1
    have : x = r.ad ∨ x = hiR r + 1 := by simpa [bnR] using q
    omega
theorem Bnd.rng {l : List Ru} {bs : List Int} (h : Bnd l bs) (HB : ∀ r ∈ l, RuB r) (hk : ruK l = 0) : ∀ x ∈ bs, 0 ≤ x ∧ x ≤ 4294967296 := fun x hx => by
  rcases (h.mem x).1 hx with q | q
  · exact bnS_in HB hk q
  · omega
theorem last_max : ∀ {bs : List Int} {m : Int}, bs.Pairwise (· < ·) → m ∈ bs → (∀ x ∈ bs, x ≤ m) → bs.getLast? = some m
  | [], m, _, h, _ => by cases h
  | [x], m, _, h, _ => by
    have : m = x := by simpa using h
    rw [this]; rfl
  | x :: y :: r, m, hs, h, hm => by
    have e : (x :: y :: r).getLast? = (y :: r).getLast? := by simp [List.getLast?_cons]
    rw [e]
    have h2 := List.pairwise_cons.1 hs
    refine last_max h2.2 ?_ fun z hz => hm z (List.mem_cons_of_mem _ hz)
    rcases List.mem_cons.1 h with q | q
    · have h3 := h2.1 y (List.mem_cons_self ..)
      have h4 := hm y (by simp)
      omega
    · exact q
/-- What the document's routes are: they rise, do not touch, and hold every address to which some packet may go. -/
theorem rfG_routes {l : List Ru} {bs : List Int} (HB : ∀ r ∈ l, RuB r) (hk : ruK l = 0) (h : Bnd l bs) : WF (rfG (goB l) bs false []) ∧ ∀ a, 0 ≤ a → a < 4294967296 → Goes l a → InS (rfG (goB l) bs false []) a := by
  have hr := h.rng HB hk
  obtain ⟨r1, -, r3⟩ := rfG_cov (goB l) bs false [] h.srt hr ⟨.nil, by simp⟩ fun b rest _ => ⟨by simp, by simp, by simp⟩
  refine ⟨r1, fun a h0 h1 hg => ?_⟩
  have hl : bs.getLast? = some 4294967296 := last_max h.srt ((h.mem _).2 (.inr rfl)) fun x hx => (hr x hx).2
  have hz : (0 : Int) ∈ bs := (h.mem 0).2 (.inl (List.mem_cons_self ..))
  cases bs with
  | nil => cases hz
  | cons b rest =>
    have hb0 : b = 0 := by
      have h2 := hr b (List.mem_cons_self ..)
      rcases List.mem_cons.1 hz with q | q
      · exact q.symm
      · have := (List.pairwise_cons.1 h.srt).1 0 q
        omega
    subst hb0
    refine r3 hl ?_ 0 rest rfl a h0 h1 ((goB_goes hk).2 hg)
    intro pre c c' post e x h2 h3
    refine goB_same hk fun y hy => ?_
    have hp := h.srt
    rw [e] at hp
    have hp1 := List.pairwise_append.1 hp
    have hp2 := List.pairwise_cons.1 hp1.2.1
    have hp3 := List.pairwise_cons.1 hp2.2
    have hm := (h.mem y).2 (.inl hy)
    rw [e] at hm
    rcases List.mem_append.1 hm with q | q
    · have := hp1.2.2 y q c (List.mem_cons_self ..)
      omega
    · rcases List.mem_cons.1 q with q | q
      · omega
      · rcases List.mem_cons.1 q with q | q
        · omega
        · have := hp3.1 y q
          omega
theorem goes_zero {l : List Ru} (HB : ∀ r ∈ l, RuB r) (hk : ruK l = 0) (h : (0 : Int) ∉ rawS l) : goB l 0 = false := by
  rw [← Bool.not_eq_true, goB_goes hk]
  rintro ⟨p, q, -, -, -, -, hs⟩
  obtain ⟨r, hr, hf⟩ := sayL_some hs
  unfold fit con inP at hf
  simp only [Bool.and_eq_true, decide_eq_true_eq] at hf
  have h1 := hf.1.1.2.1.2
  have h2 := (HB r hr).a0
  refine h (List.mem_flatMap.2 ⟨r, hr, ?_⟩)
  have : r.ad = 0 := by omega
  unfold rawR
  split <;> simp [this]
theorem raw_bn {l : List Ru} (x : Int) : (x ∈ bnS l ∨ x = 4294967296) ↔ (x = 0 ∨ x ∈ rawS l ∨ x = 4294967296) := by
  have key : ∀ x, (x ∈ l.flatMap bnR ∨ x = 4294967296) ↔ (x ∈ rawS l ∨ x = 4294967296) := fun x => by
    unfold rawS
    rw [List.mem_flatMap, List.mem_flatMap]
    constructor
    · rintro (⟨r, hr, q⟩ | q)
      · have : x = r.ad ∨ x = hiR r + 1 := by simpa [bnR] using q
        by_cases hh : hiR r = 4294967295
        · rcases this with q | q
          · exact .inl ⟨r, hr, by unfold rawR; rw [if_pos hh]; simp [q]⟩
          · exact .inr (by omega)
        · refine .inl ⟨r, hr, ?_⟩
          unfold rawR
          rw [if_neg hh]
          rcases this with q | q <;> simp [q]
      · exact .inr q
    · rintro (⟨r, hr, q⟩ | q)
      · refine .inl ⟨r, hr, ?_⟩
        unfold rawR at q
        unfold bnR
        split at q
        · have : x = r.ad := by simpa using q
          simp [this]
        · exact q
      · exact .inr q
  unfold bnS
  rw [List.mem_cons, or_assoc, key]
/-- The document's fold is the one over the addresses that the program gathers. -/
theorem rfG_st {l : List Ru} {bs st : List Int} (HB : ∀ r ∈ l, RuB r) (hk : ruK l = 0) (h : Bnd l bs) (hs : st.Pairwise (· < ·)) (hm : ∀ x, x ∈ st ↔ x ∈ rawS l) : rfG (goB l) bs false [] = rfG (goB l) (st ++ [4294967296]) false [] := by
  obtain ⟨hl, HR⟩ := ruK_right.1 hk
  have hin : ∀ x ∈ st, 0 ≤ x ∧ x < 4294967296 := fun x hx => raw_in HB HR ((hm x).1 hx)
  have hs1 : (st ++ [4294967296]).Pairwise (· < ·) := List.pairwise_append.2 ⟨hs, by simp, fun x hx y hy => by
    have : y = 4294967296 := by simpa using hy
    have := hin x hx
    omega⟩
  by_cases hz : (0 : Int) ∈ st
  · have e : bs = st ++ [4294967296] := sorted_same h.srt hs1 fun x => by
      rw [h.mem, raw_bn, List.mem_append, hm]
      constructor
      · rintro (q | q | q)
        · exact .inl ((hm x).1 (q ▸ hz))
        · exact .inl q
        · exact .inr (by simp [q])
      · rintro (q | q)
        · exact .inr (.inl q)
        · exact .inr (.inr (by simpa using q))
    rw [e]
  · have e : bs = 0 :: (st ++ [4294967296]) := sorted_same h.srt (List.pairwise_cons.2 ⟨fun x hx => by
        rcases List.mem_append.1 hx with q | q
        · have h1 := hin x q
          have h2 : x ≠ 0 := fun e => hz (e ▸ q)
          omega
        · have : x = 4294967296 := by simpa using q
          omega, hs1⟩) fun x => by
      rw [h.mem, raw_bn, List.mem_cons, List.mem_append, hm]
      simp
    have f0 := goes_zero HB hk fun c => hz ((hm 0).2 c)
    rw [e]
    cases st with
    | nil => rw [List.nil_append, rfG, f0]; rfl
    | cons x r => rw [List.cons_append, rfG, f0]; rfl
/-- What the program's routes are. -/
theorem routes_same {l : List Ru} {bs st ps : List Int} (HB : ∀ r ∈ l, RuB r) (hk : ruK l = 0) (h : Bnd l bs) (hs : st.Pairwise (· < ·)) (hm : ∀ x, x ∈ st ↔ x ∈ rawS l) (hp : ∀ x, x ∈ ps ↔ ∃ r ∈ l, r.pro = x) : prG (fun a => reachB l ps a) st [] = (rfG (goB l) bs false []).take 16 := by
  obtain ⟨hl, HR⟩ := ruK_right.1 hk
  rw [goB_reach hk hp, rfG_st HB hk h hs hm]
  exact folds (goB l) st false [] hs (fun x hx => raw_in HB HR ((hm x).1 hx)) (by simp) fun low rest _ => ⟨fun c => by simp at c, rfl⟩
end Go.Proofs.YtndaohiecpdmlaaGreat
