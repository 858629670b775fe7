/-
  Streams whose first bytes are of one kind and whose others are new, as values: what is sent next, what becomes of it. Plain facts; no condition.
-/
import Derived.Test.YtdmoaeegjjenmaaOuFace
namespace Go.Proofs.Ytdmoaeegjjenmaa
set_option maxRecDepth 100000

theorem getD_ext {l m : List Int} (h : l.length = m.length) (e : ∀ i, i < l.length → l.getD i 0 = m.getD i 0) : l = m := by
  apply List.ext_getElem h
  intro i h1 h2
  have := e i h1
  simpa [List.getD, List.getElem?_eq_getElem h1, List.getElem?_eq_getElem h2] using this
def two (a b : Nat) (x y : Int) : List Int := List.replicate a x ++ List.replicate b y
theorem two_len (a b : Nat) (x y : Int) : (two a b x y).length = a + b := by simp [two]
theorem two_get (a b : Nat) (x y : Int) (i : Nat) (h : i < a + b) : (two a b x y).getD i 0 = if i < a then x else y := by
  unfold two
  by_cases q : i < a
  · rw [if_pos q, List.getD, List.getElem?_append_left (by simpa using q)]
    simp [q]
  · rw [if_neg q, List.getD, List.getElem?_append_right (by simp; omega)]
    simp
    rw [List.getElem?_replicate, if_pos (by omega)]
    rfl
theorem lostR_get (how : List Int) (off : Nat) : ∀ n, off + n ≤ how.length → ∀ i, (lostR how off n).getD i 0 = if (off ≤ i ∧ i < off + n) ∧ how.getD i 0 ≠ 2 then 0 else how.getD i 0
  | 0, _, i => by
    show how.getD i 0 = _
    rw [if_neg (by omega)]
  | n + 1, h, i => by
    have ih := fun i => lostR_get how off n (by omega) i
    have hl := lostR_len how off n
    have h0 := ih (off + n)
    rw [if_neg (by omega)] at h0
    unfold lostR
    rw [h0]
    by_cases e : off + n = i
    · subst e
      by_cases q : how.getD (off + n) 0 = 2
      · rw [if_pos q, if_neg (by omega), h0]
      · rw [if_neg q, if_pos ⟨by omega, q⟩]
        simp [List.getD, hl, show off + n < how.length by omega]
    · have e2 : (if (off ≤ i ∧ i < off + (n + 1)) ∧ how.getD i 0 ≠ 2 then (0 : Int) else how.getD i 0) = if (off ≤ i ∧ i < off + n) ∧ how.getD i 0 ≠ 2 then 0 else how.getD i 0 := by
        by_cases r : (off ≤ i ∧ i < off + n) ∧ how.getD i 0 ≠ 2
        · rw [if_pos r, if_pos ⟨by omega, r.2⟩]
        · rw [if_neg r, if_neg (fun c => r ⟨by omega, c.2⟩)]
      rw [e2, ← ih i]
      split
      · rfl
      · simp [List.getD, e]
/-- A stream whose first a bytes are x, the others new. -/
def tx (s : ByteArray) (a : Nat) (x f lim : Int) : Ox := ⟨s, two a (s.size - a) x 0, f, lim⟩
theorem tx_fst (s : ByteArray) (a : Nat) (x f lim : Int) (ha : a ≤ s.size) (hx : x ≠ 0) : fstP newB (tx s a x f lim).how = a := by
  have hl : (two a (s.size - a) x 0).length = s.size := by rw [two_len]; omega
  refine fstP_is newB _ a (by show a ≤ (two ..).length; omega) (fun i hi => ?_) (fun hq => ?_)
  · show newB ((two ..).getD i 0) = false
    rw [two_get _ _ _ _ i (by omega), if_pos hi]
    simp [newB, hx]
  · have hq' : a < (two a (s.size - a) x 0).length := hq
    show newB ((two ..).getD a 0) = true
    rw [two_get _ _ _ _ a (by omega), if_neg (by omega)]
    rfl
def runK (s : ByteArray) (a : Nat) (lim most : Int) : Nat := min most.toNat (min s.size lim.toNat - a)
theorem tx_run (s : ByteArray) (a : Nat) (x f lim most : Int) (ha : a ≤ s.size) (hl0 : 0 ≤ lim) : runN (tx s a x f lim).how lim a most.toNat = runK s a lim most := by
  have hl : (two a (s.size - a) x 0).length = s.size := by rw [two_len]; omega
  unfold runK
  refine runN_is _ lim most.toNat a _ (by omega) (fun i hi => ⟨by show a + i < (two ..).length; omega, by omega, ?_⟩) ?_
  · show (two ..).getD (a + i) 0 = 0
    rw [two_get _ _ _ _ _ (by omega), if_neg (by omega)]
  · by_cases q : most.toNat ≤ min s.size lim.toNat - a
    · left; omega
    · right
      rintro ⟨r1, r2, -⟩
      have r1' : a + min most.toNat (min s.size lim.toNat - a) < (two a (s.size - a) x 0).length := r1
      omega
theorem tx_nxt (s : ByteArray) (a : Nat) (x f lim most : Int) (ha : a ≤ s.size) (hx : x ≠ 0) (hl0 : 0 ≤ lim) :
    nxt (tx s a x f lim) most = if s.size ≤ a ∨ lim ≤ a then (if f ≠ 0 ∨ lim < s.size ∨ a < s.size then none else some (Pc.mk s.size 0 true)) else if runK s a lim most = 0 then none else some ⟨a, runK s a lim most, decide (a + runK s a lim most = s.size) && (f != 3)⟩ := by
  unfold nxt
  rw [tx_fst s a x f lim ha hx]
  show (if s.size ≤ a ∨ lim ≤ a then _ else if runN (tx s a x f lim).how lim a most.toNat = 0 then none else some (Pc.mk a (runN (tx s a x f lim).how lim a most.toNat) (decide (a + runN (tx s a x f lim).how lim a most.toNat = s.size) && (f != 3)))) = _
  rw [tx_run s a x f lim most ha hl0]
  rfl
theorem tx_aft (s : ByteArray) (a k : Nat) (f lim : Int) (b : Bool) (h : a + k ≤ s.size) : aftO (tx s a 1 f lim) ⟨a, k, b⟩ = tx s (a + k) 1 (if b = true ∧ f = 0 then 1 else f) lim := by
  unfold aftO tx
  have e : setR (two a (s.size - a) 1 0) a 1 k = two (a + k) (s.size - (a + k)) 1 0 := by
    have hl : (two a (s.size - a) 1 0).length = s.size := by rw [two_len]; omega
    refine getD_ext (by rw [setR_len, two_len, two_len]; omega) fun i hi => ?_
    rw [setR_len, hl] at hi
    rw [setR_get _ _ _ _ (by omega), two_get _ _ _ _ _ (by omega), two_get _ _ _ _ _ (by omega)]
    by_cases q : a ≤ i ∧ i < a + k
    · rw [if_pos q, if_pos (by omega)]
    · rw [if_neg q]
      by_cases r : i < a
      · rw [if_pos r, if_pos (by omega)]
      · rw [if_neg r, if_neg (by omega)]
  show Ox.mk s (setR _ a 1 k) _ lim = Ox.mk s _ _ lim
  rw [e]
/-- A piece that is told as there behind what is there. -/
theorem tx_ack (s : ByteArray) (a k : Nat) (f lim : Int) (b : Bool) (h : a + k ≤ s.size) : ackO (aftO (tx s a 2 f lim) ⟨a, k, b⟩) ⟨a, k, b⟩ = tx s (a + k) 2 (if b = true then 2 else f) lim := by
  have e : setR (setR (two a (s.size - a) 2 0) a 1 k) a 2 k = two (a + k) (s.size - (a + k)) 2 0 := by
    have hl : (two a (s.size - a) 2 0).length = s.size := by rw [two_len]; omega
    refine getD_ext (by rw [setR_len, setR_len, two_len, two_len]; omega) fun i hi => ?_
    rw [setR_len, setR_len, hl] at hi
    rw [setR_get _ _ _ _ (by rw [setR_len]; omega), setR_get _ _ _ _ (by omega), two_get _ _ _ _ _ (by omega), two_get _ _ _ _ _ (by omega)]
    by_cases q : a ≤ i ∧ i < a + k
    · rw [if_pos q, if_pos (by omega)]
    · rw [if_neg q, if_neg q]
      by_cases r : i < a
      · rw [if_pos r, if_pos (by omega)]
      · rw [if_neg r, if_neg (by omega)]
  unfold ackO aftO tx
  show Ox.mk s (setR (setR _ a 1 k) a 2 k) (if b = true then 2 else if b = true ∧ f = 0 then 1 else f) lim = Ox.mk s _ _ lim
  rw [e]
  cases b <;> simp
/-- .. and one that is lost. -/
theorem tx_lost (s : ByteArray) (a k : Nat) (f lim : Int) (b : Bool) (h : a + k ≤ s.size) (hf : b = true → f = 0) : lostO (aftO (tx s a 2 f lim) ⟨a, k, b⟩) ⟨a, k, b⟩ = tx s a 2 f lim := by
  have e : lostR (setR (two a (s.size - a) 2 0) a 1 k) a k = two a (s.size - a) 2 0 := by
    have hl : (two a (s.size - a) 2 0).length = s.size := by rw [two_len]; omega
    refine getD_ext (by rw [lostR_len, setR_len]) fun i hi => ?_
    rw [lostR_len, setR_len, hl] at hi
    rw [lostR_get _ _ _ (by rw [setR_len]; omega), setR_get _ _ _ _ (by omega), two_get _ _ _ _ _ (by omega)]
    by_cases q : a ≤ i ∧ i < a + k
    · rw [if_pos q, if_pos ⟨q, by decide⟩, if_neg (by omega)]
    · rw [if_neg q, if_neg (fun c => q c.1)]
  unfold lostO aftO tx
  show Ox.mk s (lostR (setR _ a 1 k) a k) (if b = true ∧ (if b = true ∧ f = 0 then (1 : Int) else f) ≠ 2 then 0 else if b = true ∧ f = 0 then 1 else f) lim = Ox.mk s _ _ lim
  rw [e]
  cases b with
  | false => simp
  | true => rw [hf rfl]; rfl
theorem tx_there (s : ByteArray) (f lim : Int) : thereN (tx s s.size 2 f lim) = s.size := by
  unfold thereN tx
  have hl : (two s.size (s.size - s.size) 2 0).length = s.size := by rw [two_len]; omega
  refine fstP_is notB _ s.size (by show s.size ≤ (two ..).length; omega) (fun i hi => ?_) (fun hq => ?_)
  · show notB ((two ..).getD i 0) = false
    rw [two_get _ _ _ _ i (by omega), if_pos hi]
    rfl
  · have hq' : s.size < (two s.size (s.size - s.size) 2 0).length := hq
    omega
theorem tx_all (s : ByteArray) (lim : Int) : allB (tx s s.size 2 2 lim) = true := by
  unfold allB
  rw [tx_there]
  simp [tx]
theorem open_zero (n : Nat) : openN (List.replicate n 0) = n := by
  unfold openN
  rw [List.filter_replicate]
  simp
theorem nil_app (s : ByteArray) : (⟨#[]⟩ : ByteArray) ++ s = s := ByteArray.empty_append
theorem tx_write (s : ByteArray) (x l : Int) (b : Bool) (h : s.size ≤ 16384) : wrE (alwO ox0 l) s.size = 0 ∧ wrO (alwO ox0 l) s b = tx s 0 x (if b = true then 0 else 3) (max 4096 l) := by
  have e : wrE (alwO ox0 l) s.size = 0 := by
    unfold wrE alwO ox0
    show (if (3 : Int) ≠ 3 then (7 : Int) else if 16384 < s.size + openN [] then 4 else 0) = 0
    rw [if_neg (by decide), if_neg (by show ¬ 16384 < s.size + 0; omega)]
  refine ⟨e, ?_⟩
  unfold wrO
  rw [if_pos e]
  unfold alwO ox0 tx two
  show Ox.mk (⟨#[]⟩ ++ s) ([] ++ List.replicate s.size 0) _ _ = _
  rw [nil_app]
  rfl
theorem alw_self : alwO ox0 4096 = ox0 := rfl
theorem tx_write0 (s : ByteArray) (x : Int) (b : Bool) (h : s.size ≤ 16384) : wrE ox0 s.size = 0 ∧ wrO ox0 s b = tx s 0 x (if b = true then 0 else 3) 4096 := by
  have := tx_write s x 4096 b h
  rw [alw_self] at this
  exact this
end Go.Proofs.Ytdmoaeegjjenmaa
