/-
  The program's stream and the document's, as values: what is told as there or lost, and what is sent next, of the one and of the other. Plain facts; no condition but what always holds of a stream.
-/
import Derived.Test.YtdmoaeegjjenmaaOuPgM
namespace Go.Proofs.Ytdmoaeegjjenmaa
set_option maxRecDepth 100000
open Go.RowKit Go.Sort

theorem ix_of {d : Ox} (h : Ok12 d) (x : Int) : ixM (mOf d) x = (min (max x (thereN d)) d.s.size - thereN d).toNat := by
  have h1 := there_size d h
  unfold ixM
  rw [mOf_len d h]
  show (min (max x (thereN d : Int)) ((thereN d + (d.s.size - thereN d) : Nat) : Int) - (thereN d : Int)).toNat = _
  rw [show thereN d + (d.s.size - thereN d) = d.s.size by omega]
theorem fsM_drop (how : List Int) (T G : Nat) : fsM how (T + G) = (fsM how T).drop G := by
  unfold fsM
  rw [← List.map_drop, List.drop_drop]
theorem ofB_drop (s : ByteArray) (T G : Nat) : ofB (s.extract (T + G) s.size) = (ofB (s.extract T s.size)).drop G := by
  rw [ofB_ext, ofB_ext, List.drop_take, List.drop_drop]
  congr 1
  omega
theorem mOf_acked {d : Ox} (h : Ok12 d) (p : Pc) (hp : p.off + p.n ≤ d.s.size) (hf : p.fin = true → d.fin ≠ 3) : mOf (ackO d p) = fgB (ackM (mOf d) p.off p.n p.fin) := by
  have h1 := there_size d h
  have h2 := h.len
  have h3 := h.fin
  obtain ⟨T, hT⟩ : ∃ T, T = thereN d := ⟨_, rfl⟩
  have hX : ixM (mOf d) (p.off : Int) = max p.off T - T := by rw [ix_of h, ← hT]; omega
  have hY : ixM (mOf d) ((p.off : Int) + (p.n : Int)) = max (p.off + p.n) T - T := by rw [ix_of h, ← hT]; omega
  have hl := mOf_len d h
  rw [← hT] at h1 hl
  obtain ⟨how', hh⟩ : ∃ l, l = setR d.how p.off 2 p.n := ⟨_, rfl⟩
  have hhl : how'.length = d.s.size := by rw [hh, setR_len, h2]
  have hhg : ∀ i, how'.getD i 0 = if p.off ≤ i ∧ i < p.off + p.n then 2 else d.how.getD i 0 := fun i => by rw [hh]; exact setR_get _ _ _ _ (by omega) i
  have e1 : (ackM (mOf d) p.off p.n p.fin).fs = fsM how' T := by
    show setR (mOf d).fs _ 3 _ = _
    rw [hX, hY]
    refine getD_ext (by rw [setR_len, hl, fsM_len, hhl]) fun i hi => ?_
    rw [setR_len, hl] at hi
    rw [setR_get _ _ _ _ (by omega), fsM_get _ _ _ (by omega), hhg]
    by_cases q : p.off ≤ T + i ∧ T + i < p.off + p.n
    · rw [if_pos q, if_pos (by omega)]; rfl
    · rw [if_neg q, if_neg (by omega)]
      show (fsM d.how (thereN d)).getD i 0 = _
      rw [← hT, fsM_get _ _ _ (by omega)]
  have e2 : (ackM (mOf d) p.off p.n p.fin).fin = cdM (ackO d p).fin := by
    show (if p.fin = true ∧ cdM d.fin ≠ 0 then 3 else cdM d.fin) = cdM (if p.fin = true then 2 else d.fin)
    by_cases q : p.fin = true
    · rw [if_pos q, if_pos ⟨q, by have := hf q; unfold cdM; rw [if_neg this]; omega⟩]; rfl
    · rw [if_neg q, if_neg (fun c => q c.1)]
  obtain ⟨G, hG⟩ : ∃ G, G = fgN (ackM (mOf d) p.off p.n p.fin) := ⟨_, rfl⟩
  have hG2 : G = fstP not3 (fsM how' T) := by rw [hG]; unfold fgN; rw [e1]
  have g1 := fstP_le not3 (fsM how' T)
  have g2 := fstP_no not3 (fsM how' T)
  have g3 := fstP_yes not3 (fsM how' T)
  rw [← hG2, fsM_len, hhl] at g1 g3
  rw [← hG2] at g2
  have eT : thereN (ackO d p) = T + G := by
    show fstP notB (setR d.how p.off 2 p.n) = _
    rw [← hh]
    refine there_is _ _ (by omega) (fun i hi => ?_) (fun q => ?_)
    · by_cases c : i < T
      · rw [hhg]
        split
        · rfl
        · exact there_no d i (by omega)
      · have := g2 (i - T) (by omega)
        rw [fsM_get _ _ _ (by omega), show T + (i - T) = i by omega] at this
        have := bne_eq_false_iff_eq.1 this
        omega
    · have := g3 (by omega)
      rw [fsM_get _ _ _ (by omega)] at this
      have := bne_iff_ne.1 this
      omega
  have eS : (ackO d p).s = d.s := rfl
  unfold fgB
  rw [← hG, e1, e2]
  show Mb.mk (ofB ((ackO d p).s.extract (thereN (ackO d p)) (ackO d p).s.size)) (fsM (setR d.how p.off 2 p.n) (thereN (ackO d p))) (thereN (ackO d p)) d.lim _ = Mb.mk ((ofB (d.s.extract (thereN d) d.s.size)).drop G) _ (thereN d + G) d.lim _
  rw [eT, eS, ← hh, fsM_drop, ofB_drop, hT]
theorem lostM_get (fs : List Int) (X : Nat) : ∀ k, X + k ≤ fs.length → ∀ i, (lostM fs X k).getD i 0 = if (X ≤ i ∧ i < X + k) ∧ fs.getD i 0 = 2 then 1 else fs.getD i 0
  | 0, _, i => by
    show fs.getD i 0 = _
    rw [if_neg (by omega)]
  | k + 1, h, i => by
    have ih := fun i => lostM_get fs X k (by omega) i
    have hl := lostM_len fs X k
    have h0 := ih (X + k)
    rw [if_neg (by omega)] at h0
    unfold lostM
    rw [h0]
    by_cases e : X + k = i
    · subst e
      by_cases q : fs.getD (X + k) 0 = 2
      · rw [if_pos q, if_pos ⟨by omega, q⟩]
        simp [List.getD, hl, show X + k < fs.length by omega]
      · rw [if_neg q, if_neg (by omega), h0]
    · have e2 : (if (X ≤ i ∧ i < X + (k + 1)) ∧ fs.getD i 0 = 2 then (1 : Int) else fs.getD i 0) = if (X ≤ i ∧ i < X + k) ∧ fs.getD i 0 = 2 then 1 else fs.getD i 0 := by
        by_cases r : (X ≤ i ∧ i < X + k) ∧ fs.getD i 0 = 2
        · rw [if_pos r, if_pos ⟨by omega, r.2⟩]
        · rw [if_neg r, if_neg (fun c => r ⟨by omega, c.2⟩)]
      rw [e2, ← ih i]
      split
      · simp [List.getD, e]
      · rfl
theorem mOf_lost {d : Ox} (h : Ok12 d) (p : Pc) (hp : p.off + p.n ≤ d.s.size) (hf : p.fin = true → d.fin ≠ 3) : mOf (lostO d p) = lstM (mOf d) p.off p.n p.fin := by
  have h1 := there_size d h
  have h2 := h.len
  have h3 := h.fin
  obtain ⟨T, hT⟩ : ∃ T, T = thereN d := ⟨_, rfl⟩
  have hX : ixM (mOf d) (p.off : Int) = max p.off T - T := by rw [ix_of h, ← hT]; omega
  have hY : ixM (mOf d) ((p.off : Int) + (p.n : Int)) = max (p.off + p.n) T - T := by rw [ix_of h, ← hT]; omega
  have hl := mOf_len d h
  have hno := there_no d
  have hye := there_yes d
  rw [← hT] at h1 hl hno hye
  have hg : ∀ i, (lostO d p).how.getD i 0 = if (p.off ≤ i ∧ i < p.off + p.n) ∧ d.how.getD i 0 ≠ 2 then 0 else d.how.getD i 0 := fun i => lostR_get d.how p.off p.n (by omega) i
  have hll : (lostO d p).how.length = d.s.size := by show (lostR ..).length = _; rw [lostR_len, h2]
  have eT : thereN (lostO d p) = T := by
    refine there_is _ _ (by omega) (fun i hi => ?_) (fun q => ?_)
    · rw [hg, if_neg (fun c => c.2 (hno i hi))]; exact hno i hi
    · rw [hg]
      split
      · decide
      · exact hye (by omega)
  have e1 : (lstM (mOf d) p.off p.n p.fin).fs = fsM (lostO d p).how T := by
    show lostM (mOf d).fs _ _ = _
    rw [hX, hY]
    refine getD_ext (by rw [lostM_len, hl, fsM_len, hll]) fun i hi => ?_
    rw [lostM_len, hl] at hi
    have hb := h.how _ (getD_mem d.how (T + i) (by omega))
    have ef : (mOf d).fs.getD i 0 = d.how.getD (T + i) 0 + 1 := by
      show (fsM d.how (thereN d)).getD i 0 = _
      rw [← hT, fsM_get _ _ _ (by omega)]
    rw [lostM_get _ _ _ (by omega), fsM_get _ _ _ (by omega), hg, ef]
    split <;> split <;> omega
  have e2 : (lstM (mOf d) p.off p.n p.fin).fin = cdM (lostO d p).fin := by
    show (if p.fin = true ∧ cdM d.fin = 2 then 1 else cdM d.fin) = cdM (if p.fin = true ∧ d.fin ≠ 2 then 0 else d.fin)
    by_cases q : p.fin = true
    · have q3 := hf q
      have e : cdM d.fin = d.fin + 1 := by unfold cdM; rw [if_neg q3]
      rw [e]
      by_cases r : d.fin = 2
      · rw [if_neg (fun c => by have := c.2; omega), if_neg (fun c => c.2 r), e]
      · by_cases r1 : d.fin = 1
        · rw [if_pos ⟨q, by omega⟩, if_pos ⟨q, r⟩]; rfl
        · rw [if_neg (fun c => by have := c.2; omega), if_pos ⟨q, r⟩]
          have : d.fin = 0 := by omega
          rw [this]
          rfl
    · rw [if_neg (fun c => q c.1), if_neg (fun c => q c.1)]
  have eM : lstM (mOf d) p.off p.n p.fin = Mb.mk (ofB (txM d)) (lstM (mOf d) p.off p.n p.fin).fs (thereN d) d.lim (lstM (mOf d) p.off p.n p.fin).fin := rfl
  rw [eM, e1, e2, mOf_of (d := d) (d' := lostO d p) rfl (by rw [eT, hT]), hT]
  rfl
theorem fstY_is (c : Int) (l : List Int) (k : Nat) (hk : k ≤ l.length) (h1 : ∀ i, i < k → l.getD i 0 ≠ c) (h2 : k < l.length → l.getD k 0 = c) : fstY c l = k := by
  rcases Nat.lt_trichotomy (fstY c l) k with q | q | q
  · exact absurd (fstY_yes c l (by omega)) (h1 _ q)
  · exact q
  · have := fstY_le c l
    exact absurd (h2 (by omega)) (fstY_no c l k q)
/-- The least new one, of the one and of the other. -/
theorem fr_of {d : Ox} (h : Ok12 d) : (fstP newB d.how < d.s.size ∧ (fstP newB d.how : Int) < d.lim → thereN d ≤ fstP newB d.how ∧ frM (mOf d) = fstP newB d.how - thereN d ∧ frM (mOf d) < ixM (mOf d) (mOf d).lim) ∧ (¬ (fstP newB d.how < d.s.size ∧ (fstP newB d.how : Int) < d.lim) → ¬ frM (mOf d) < ixM (mOf d) (mOf d).lim) := by
  have h1 := there_size d h
  have h2 := h.len
  have h4 := h.lim
  have hl := mOf_len d h
  have hno := there_no d
  obtain ⟨T, hT⟩ : ∃ T, T = thereN d := ⟨_, rfl⟩
  have hX : ixM (mOf d) (mOf d).lim = (min (max d.lim T) d.s.size - T).toNat := by rw [ix_of h, hT]; rfl
  have a1 := fstP_le newB d.how
  have a2 := fstP_no newB d.how
  have a3 := fstP_yes newB d.how
  rw [← hT] at h1 hl hno ⊢
  obtain ⟨a, ha⟩ : ∃ a, a = fstP newB d.how := ⟨_, rfl⟩
  rw [← ha] at a1 a2 a3 ⊢
  obtain ⟨X, hXX⟩ : ∃ X, X = ixM (mOf d) (mOf d).lim := ⟨_, rfl⟩
  rw [← hXX] at hX ⊢
  have ef : ∀ i, T + i < d.how.length → (mOf d).fs.getD i 0 = d.how.getD (T + i) 0 + 1 := fun i hi => by
    show (fsM d.how (thereN d)).getD i 0 = _
    rw [← hT, fsM_get _ _ _ hi]
  have hXl : X ≤ (mOf d).fs.length := by omega
  have htl : ((mOf d).fs.take X).length = X := by rw [List.length_take]; omega
  have eF : frM (mOf d) = fstY 1 ((mOf d).fs.take X) := by unfold frM; rw [hXX]
  rw [eF]
  refine ⟨fun q => ?_, fun q => ?_⟩
  · have hTa : T ≤ a := by
      rcases Nat.lt_or_ge a T with c | c
      · have e1 := hno a c
        have e2 := a3 (by omega)
        rw [e1] at e2
        cases e2
      · exact c
    have e : fstY 1 ((mOf d).fs.take X) = a - T := by
      refine fstY_is 1 _ _ (by omega) (fun i hi => ?_) (fun _ => ?_)
      · rw [getD_take _ _ _ (by omega), ef i (by omega)]
        have := beq_eq_false_iff_ne.1 (a2 (T + i) (by omega))
        omega
      · rw [getD_take _ _ _ (by omega), ef _ (by omega), show T + (a - T) = a by omega]
        have := beq_iff_eq.1 (a3 (by omega))
        omega
    exact ⟨hTa, e, by rw [e]; omega⟩
  · have e : fstY 1 ((mOf d).fs.take X) = X := by
      refine fstY_is 1 _ _ (by omega) (fun i hi => ?_) (fun c => by omega)
      rw [getD_take _ _ _ (by omega), ef i (by omega)]
      have := beq_eq_false_iff_ne.1 (a2 (T + i) (by omega))
      omega
    omega
theorem run_of {d : Ox} (h : Ok12 d) (k : Nat) (hq : fstP newB d.how < d.s.size ∧ (fstP newB d.how : Int) < d.lim) : runM (mOf d).fs (ixM (mOf d) (mOf d).lim) (frM (mOf d)) k = runN d.how d.lim (fstP newB d.how) k := by
  obtain ⟨hTa, eF, hlt⟩ := (fr_of h).1 hq
  have h1 := there_size d h
  have h2 := h.len
  have h4 := h.lim
  have hX : ixM (mOf d) (mOf d).lim = (min (max d.lim (thereN d)) d.s.size - thereN d).toNat := by rw [ix_of h]; rfl
  rw [eF] at hlt ⊢
  obtain ⟨T, hT⟩ : ∃ T, T = thereN d := ⟨_, rfl⟩
  have ef : ∀ i, T + i < d.how.length → (mOf d).fs.getD i 0 = d.how.getD (T + i) 0 + 1 := fun i hi => by
    show (fsM d.how (thereN d)).getD i 0 = _
    rw [← hT, fsM_get _ _ _ hi]
  rw [← hT] at h1 hX hTa hlt ⊢
  generalize fstP newB d.how = a at *
  generalize ixM (mOf d) (mOf d).lim = X at *
  have m1 := runM_le (mOf d).fs X k (a - T)
  have m2 := runM_all (mOf d).fs X k (a - T)
  have m3 := runM_stop (mOf d).fs X k (a - T)
  generalize runM (mOf d).fs X (a - T) k = N at *
  have m4 := m1.2 (by omega)
  refine (runN_is d.how d.lim k a N m1.1 (fun i hi => ⟨by omega, by omega, ?_⟩) ?_).symm
  · have := m2 i hi
    rw [ef _ (by omega), show T + (a - T + i) = a + i by omega] at this
    omega
  · rcases m3 with q | q
    · exact .inl q
    · right
      rintro ⟨r1, r2, r3⟩
      refine q ⟨by omega, ?_⟩
      rw [ef _ (by omega), show T + (a - T + N) = a + N by omega, r3]
      rfl
theorem ext_ext (s : ByteArray) (T i j : Nat) (h : T + j ≤ s.size) : (s.extract T s.size).extract i j = s.extract (T + i) (T + j) := by
  rw [ByteArray.extract_extract]
  congr 1
  omega
/-- What is sent next, of the one and of the other. -/
theorem mOf_next {d : Ox} (h : Ok12 d) (most : Int) : nxV (mOf d) (txM d) most = nxtV d (nxt d most) ∧ mOf (nxtP d most) = nxB (mOf d) most := by
  have h1 := there_size d h
  have h2 := h.len
  have h3 := h.fin
  have h4 := h.lim
  have hl := mOf_len d h
  have hcd : (mOf d).fin = cdM d.fin := rfl
  by_cases hq : fstP newB d.how < d.s.size ∧ (fstP newB d.how : Int) < d.lim
  · obtain ⟨hTa, eF, hlt⟩ := (fr_of h).1 hq
    have eN : nuM (mOf d) most = runN d.how d.lim (fstP newB d.how) most.toNat := run_of h most.toNat hq
    have nX : nxt d most = if runN d.how d.lim (fstP newB d.how) most.toNat = 0 then none else some ⟨fstP newB d.how, runN d.how d.lim (fstP newB d.how) most.toNat, decide (fstP newB d.how + runN d.how d.lim (fstP newB d.how) most.toNat = d.s.size) && (d.fin != 3)⟩ := by
      unfold nxt
      rw [if_neg (by omega)]
    by_cases hm : most < 1
    · have e0 : most.toNat = 0 := by omega
      have en : nxt d most = none := by rw [nX, e0]; rfl
      unfold nxV nxB nxtP
      rw [if_pos hlt, if_pos hm, if_pos hlt, if_pos hm, en]
      exact ⟨rfl, rfl⟩
    · have r1 := runN_le d.how d.lim most.toNat (fstP newB d.how)
      have r2 := runN_all d.how d.lim most.toNat (fstP newB d.how)
      have hpos : 1 ≤ runN d.how d.lim (fstP newB d.how) most.toNat := by
        rw [← eN]
        refine runM_pos _ _ _ _ (by omega) hlt ?_
        have := fstY_yes 1 ((mOf d).fs.take (ixM (mOf d) (mOf d).lim)) (by
          rw [List.length_take]
          have := ixM_le (mOf d) (mOf d).lim
          have : frM (mOf d) < ixM (mOf d) (mOf d).lim := hlt
          unfold frM at this
          omega)
        change ((mOf d).fs.take (ixM (mOf d) (mOf d).lim)).getD (frM (mOf d)) 0 = 1 at this
        rwa [getD_take _ _ _ hlt] at this
      have hlast : laM (mOf d) most = (decide (fstP newB d.how + runN d.how d.lim (fstP newB d.how) most.toNat = d.s.size) && (d.fin != 3)) := by
        unfold laM
        rw [eF, eN, hl]
        have e1 : ((mOf d).fin != 0) = (d.fin != 3) := by
          show (cdM d.fin != 0) = _
          unfold cdM
          by_cases q : d.fin = 3
          · rw [if_pos q, q]; rfl
          · rw [if_neg q, Bool.eq_iff_iff, bne_iff_ne, bne_iff_ne]; omega
        rw [e1]
        congr 1
        rw [Bool.eq_iff_iff, decide_eq_true_eq, decide_eq_true_eq]
        omega
      generalize hN : runN d.how d.lim (fstP newB d.how) most.toNat = N at *
      generalize ha : fstP newB d.how = a at *
      generalize hL : (decide (a + N = d.s.size) && (d.fin != 3)) = L at *
      have en : nxt d most = some ⟨a, N, L⟩ := by rw [nX, if_neg (by omega)]
      have r3 := r1.2.1 (by omega)
      refine ⟨?_, ?_⟩
      · unfold nxV
        rw [if_pos hlt, if_neg hm, eF, eN, hlast, en]
        show Value.tuple #[.agg #[.int .i64 ((thereN d + (a - thereN d) : Nat) : Int), .string ((d.s.extract (thereN d) d.s.size).extract (a - thereN d) (a - thereN d + N)), .bool L], .bool true] = .tuple #[.agg #[.int .i64 (a : Int), .string (d.s.extract a (a + N)), .bool L], .bool true]
        rw [ext_ext _ _ _ _ (by omega), show thereN d + (a - thereN d) = a by omega, show thereN d + (a - thereN d + N) = a + N by omega]
      · have ep : nxtP d most = aftP d ⟨a, N, L⟩ := by unfold nxtP; rw [en]
        rw [ep]
        have hg : ∀ i, (setR d.how a 1 N).getD i 0 = if a ≤ i ∧ i < a + N then 1 else d.how.getD i 0 := fun i => setR_get _ _ _ _ (by omega) i
        have eT : thereN (aftP d ⟨a, N, L⟩) = thereN d := by
          show fstP notB (setR d.how a 1 N) = _
          refine there_is _ _ (by rw [setR_len]; omega) (fun i hi => ?_) (fun q => ?_)
          · rw [hg, if_neg (by omega)]; exact there_no d i hi
          · rw [setR_len] at q
            rw [hg]
            split
            · decide
            · exact there_yes d q
        unfold nxB
        rw [if_pos hlt, if_neg hm, eF, eN, hlast, mOf_of (d := d) (d' := aftP d ⟨a, N, L⟩) rfl eT]
        have e1 : fsM (aftP d ⟨a, N, L⟩).how (thereN d) = setR (mOf d).fs (a - thereN d) 2 N := by
          show fsM (setR d.how a 1 N) (thereN d) = _
          refine getD_ext (by rw [fsM_len, setR_len, setR_len, hl, h2]) fun i hi => ?_
          rw [fsM_len, setR_len] at hi
          rw [fsM_get _ _ _ (by rw [setR_len]; omega), hg, setR_get _ _ _ _ (by omega)]
          by_cases q : a ≤ thereN d + i ∧ thereN d + i < a + N
          · rw [if_pos q, if_pos (by omega)]; rfl
          · rw [if_neg q, if_neg (by omega)]
            show _ = (fsM d.how (thereN d)).getD i 0
            rw [fsM_get _ _ _ (by omega)]
        have e2 : cdM (aftP d ⟨a, N, L⟩).fin = if L = true then 2 else (mOf d).fin := by
          show cdM (if L = true then 1 else d.fin) = if L = true then 2 else cdM d.fin
          cases L <;> rfl
        rw [e1, e2]
        rfl
  · have hlt := (fr_of h).2 hq
    have hle : d.s.size ≤ fstP newB d.how ∨ d.lim ≤ fstP newB d.how := by omega
    have hZ : (mOf d).front + (mOf d).fs.length = d.s.size := by
      rw [hl]
      show thereN d + (d.s.size - thereN d) = _
      omega
    have hne : neM (mOf d) = true ↔ (d.fin = 0 ∧ (d.s.size : Int) ≤ d.lim) := by
      unfold neM
      rw [hZ, Bool.and_eq_true, decide_eq_true_eq, beq_iff_eq]
      have : (mOf d).fin = 1 ↔ d.fin = 0 := by
        show cdM d.fin = 1 ↔ _
        unfold cdM
        by_cases q : d.fin = 3
        · rw [if_pos q]; omega
        · rw [if_neg q]; omega
      rw [this]
      rfl
    have nX : nxt d most = if d.fin ≠ 0 ∨ d.lim < d.s.size ∨ fstP newB d.how < d.s.size then none else some ⟨d.s.size, 0, true⟩ := by
      unfold nxt
      rw [if_pos hle]
    unfold nxV nxB
    rw [if_neg hlt, if_neg hlt]
    by_cases q : d.fin = 0 ∧ (d.s.size : Int) ≤ d.lim
    · have en : nxt d most = some ⟨d.s.size, 0, true⟩ := by rw [nX, if_neg (by omega)]
      refine ⟨?_, ?_⟩
      · unfold neV
        rw [if_pos (hne.2 q), hZ, en]
        show _ = Value.tuple #[.agg #[.int .i64 (d.s.size : Int), .string (d.s.extract d.s.size (d.s.size + 0)), .bool true], .bool true]
        rw [ext_nil]
      · have ep : nxtP d most = aftP d ⟨d.s.size, 0, true⟩ := by unfold nxtP; rw [en]
        rw [ep, mOf_of (d := d) (d' := aftP d ⟨d.s.size, 0, true⟩) rfl rfl]
        unfold neB
        rw [if_pos (hne.2 q)]
        rfl
    · have en : nxt d most = none := by rw [nX, if_pos (by omega)]
      refine ⟨?_, ?_⟩
      · unfold neV
        rw [if_neg (fun c => q (hne.1 c)), en]
        rfl
      · have ep : nxtP d most = d := by unfold nxtP; rw [en]
        rw [ep]
        unfold neB
        rw [if_neg (fun c => q (hne.1 c))]
end Go.Proofs.Ytdmoaeegjjenmaa
