/-
  A stream that is sent until it is there, as values: what is written, what is sent next, what is there. Plain facts; no condition.
-/
import Derived.Test.YtdmoaeegjjenmaaRows
namespace Go.Proofs.Ytdmoaeegjjenmaa
set_option maxRecDepth 100000

/-- A stream: its bytes, what became of each (0: new, 1: on its way, 2: there) and of the end (3: it was not written), the limit. -/
structure Ox where
  s : ByteArray
  how : List Int
  fin : Int
  lim : Int
def ox0 : Ox := ⟨⟨#[]⟩, [], 3, 4096⟩
def openN (how : List Int) : Nat := (how.filter fun h => decide (h ≠ 2)).length
def wrE (d : Ox) (n : Nat) : Int := if d.fin ≠ 3 then 7 else if 16384 < n + openN d.how then 4 else 0
def wrO (d : Ox) (s : ByteArray) (f : Bool) : Ox := if wrE d s.size = 0 then { d with s := d.s ++ s, how := d.how ++ List.replicate s.size 0, fin := if f = true then 0 else d.fin } else d
def alwO (d : Ox) (l : Int) : Ox := { d with lim := max d.lim l }
/-- The first place of which something holds, or behind all. -/
def fstP (f : Int → Bool) : List Int → Nat
  | [] => 0
  | h :: t => if f h = true then 0 else fstP f t + 1
def newB (h : Int) : Bool := h == 0
def notB (h : Int) : Bool := h != 2
/-- How many new ones stand from a place on, below the limit, at most so many. -/
def runN (how : List Int) (lim : Int) (p : Nat) : Nat → Nat
  | 0 => 0
  | m + 1 => if p < how.length ∧ (p : Int) < lim ∧ how.getD p 0 = 0 then runN how lim (p + 1) m + 1 else 0
/-- A piece, by its places. -/
structure Pc where
  off : Nat
  n : Nat
  fin : Bool
def nxt (d : Ox) (most : Int) : Option Pc :=
  if d.s.size ≤ fstP newB d.how ∨ d.lim ≤ fstP newB d.how then
    if d.fin ≠ 0 ∨ d.lim < d.s.size ∨ fstP newB d.how < d.s.size then none else some ⟨d.s.size, 0, true⟩
  else if runN d.how d.lim (fstP newB d.how) most.toNat = 0 then none
  else some ⟨fstP newB d.how, runN d.how d.lim (fstP newB d.how) most.toNat, decide (fstP newB d.how + runN d.how d.lim (fstP newB d.how) most.toNat = d.s.size) && (d.fin != 3)⟩
/-- So many places from one on are set. -/
def setR (how : List Int) (off : Nat) (x : Int) : Nat → List Int
  | 0 => how
  | n + 1 => (setR how off x n).set (off + n) x
def lostR (how : List Int) (off : Nat) : Nat → List Int
  | 0 => how
  | n + 1 => if (lostR how off n).getD (off + n) 0 = 2 then lostR how off n else (lostR how off n).set (off + n) 0
def aftO (d : Ox) (p : Pc) : Ox := { d with how := setR d.how p.off 1 p.n, fin := if p.fin = true ∧ d.fin = 0 then 1 else d.fin }
def nxtO (d : Ox) (most : Int) : Ox := match nxt d most with
  | none => d
  | some p => aftO d p
/-- .. where the end of a piece is on its way then, whatever became of it before. -/
def aftP (d : Ox) (p : Pc) : Ox := { d with how := setR d.how p.off 1 p.n, fin := if p.fin = true then 1 else d.fin }
def nxtP (d : Ox) (most : Int) : Ox := match nxt d most with
  | none => d
  | some p => aftP d p
def ackO (d : Ox) (p : Pc) : Ox := { d with how := setR d.how p.off 2 p.n, fin := if p.fin = true then 2 else d.fin }
def lostO (d : Ox) (p : Pc) : Ox := { d with how := lostR d.how p.off p.n, fin := if p.fin = true ∧ d.fin ≠ 2 then 0 else d.fin }
def thereN (d : Ox) : Nat := fstP notB d.how
def allB (d : Ox) : Bool := decide (thereN d = d.s.size) && (d.fin == 2)
theorem fstP_le (f : Int → Bool) : ∀ l : List Int, fstP f l ≤ l.length
  | [] => Nat.le_refl 0
  | h :: t => by
    unfold fstP
    split
    · omega
    · have := fstP_le f t
      simp
      omega
theorem fstP_no (f : Int → Bool) : ∀ (l : List Int) (i : Nat), i < fstP f l → f (l.getD i 0) = false
  | [], i, h => by simp [fstP] at h
  | h :: t, i, hi => by
    unfold fstP at hi
    split at hi
    · omega
    · rename_i q
      cases i with
      | zero => simpa using q
      | succ i => simpa using fstP_no f t i (by omega)
theorem fstP_yes (f : Int → Bool) : ∀ l : List Int, fstP f l < l.length → f (l.getD (fstP f l) 0) = true
  | [], h => by simp at h
  | h :: t, hi => by
    unfold fstP at hi ⊢
    split
    · rename_i q
      simpa using q
    · rename_i q
      rw [if_neg q] at hi
      simpa using fstP_yes f t (by simpa using hi)
/-- Told by its places. -/
theorem fstP_is (f : Int → Bool) (l : List Int) (k : Nat) (hk : k ≤ l.length) (h1 : ∀ i, i < k → f (l.getD i 0) = false) (h2 : k < l.length → f (l.getD k 0) = true) : fstP f l = k := by
  rcases Nat.lt_trichotomy (fstP f l) k with q | q | q
  · have := fstP_yes f l (by omega)
    rw [h1 _ q] at this
    cases this
  · exact q
  · have h3 := fstP_le f l
    have := fstP_no f l k q
    rw [h2 (by omega)] at this
    cases this
theorem openN_take (l : List Int) (k : Nat) (h : k < l.length) : openN (l.take (k + 1)) = openN (l.take k) + if l.getD k 0 = 2 then 0 else 1 := by
  unfold openN
  rw [List.take_succ_eq_append_getElem h, List.filter_append, List.length_append]
  have e : l.getD k 0 = l[k] := by simp [List.getD, List.getElem?_eq_getElem h]
  rw [e]
  by_cases q : l[k] = 2
  · rw [if_pos q]; simp [q]
  · rw [if_neg q]; simp [q]
theorem openN_le (l : List Int) : openN l ≤ l.length := List.length_filter_le ..
theorem setR_len (how : List Int) (off : Nat) (x : Int) : ∀ n, (setR how off x n).length = how.length
  | 0 => rfl
  | n + 1 => by
    show ((setR how off x n).set (off + n) x).length = _
    rw [List.length_set, setR_len how off x n]
theorem lostR_len (how : List Int) (off : Nat) : ∀ n, (lostR how off n).length = how.length
  | 0 => rfl
  | n + 1 => by
    unfold lostR
    split
    · exact lostR_len how off n
    · rw [List.length_set, lostR_len how off n]
theorem setR_get (how : List Int) (off : Nat) (x : Int) : ∀ n, off + n ≤ how.length → ∀ i, (setR how off x n).getD i 0 = if off ≤ i ∧ i < off + n then x else how.getD i 0
  | 0, _, i => by
    show how.getD i 0 = _
    rw [if_neg (by omega)]
  | n + 1, h, i => by
    show ((setR how off x n).set (off + n) x).getD i 0 = _
    have ih := setR_get how off x n (by omega) i
    have hl := setR_len how off x n
    by_cases e : off + n = i
    · subst e
      rw [if_pos (by omega)]
      simp [List.getD, hl, show off + n < how.length by omega]
    · have q : ((setR how off x n).set (off + n) x).getD i 0 = (setR how off x n).getD i 0 := by simp [List.getD, e]
      rw [q, ih]
      by_cases r : off ≤ i ∧ i < off + n
      · rw [if_pos r, if_pos (by omega)]
      · rw [if_neg r, if_neg (by omega)]
theorem runN_le (how : List Int) (lim : Int) : ∀ (m p : Nat), runN how lim p m ≤ m ∧ (p ≤ how.length → p + runN how lim p m ≤ how.length) ∧ ((p : Int) ≤ lim → ((p + runN how lim p m : Nat) : Int) ≤ lim)
  | 0, p => by
    unfold runN
    exact ⟨Nat.le_refl _, fun h => h, fun h => h⟩
  | m + 1, p => by
    unfold runN
    split
    · rename_i q
      obtain ⟨a, b, c⟩ := runN_le how lim m (p + 1)
      have b' := b (by omega)
      have c' := c (by omega)
      exact ⟨by omega, fun _ => by omega, fun _ => by omega⟩
    · exact ⟨by omega, fun h => h, fun h => h⟩
theorem runN_all (how : List Int) (lim : Int) : ∀ (m p i : Nat), i < runN how lim p m → how.getD (p + i) 0 = 0
  | 0, p, i, h => by simp [runN] at h
  | m + 1, p, i, h => by
    unfold runN at h
    split at h
    · rename_i q
      cases i with
      | zero => exact q.2.2
      | succ i =>
        have := runN_all how lim m (p + 1) i (by omega)
        rwa [show p + (i + 1) = p + 1 + i by omega]
    · omega
theorem runN_stop (how : List Int) (lim : Int) : ∀ (m p : Nat), runN how lim p m = m ∨ ¬ (p + runN how lim p m < how.length ∧ ((p + runN how lim p m : Nat) : Int) < lim ∧ how.getD (p + runN how lim p m) 0 = 0)
  | 0, p => .inl rfl
  | m + 1, p => by
    unfold runN
    split
    · rcases runN_stop how lim m (p + 1) with q | q
      · left; omega
      · right
        rwa [show p + (runN how lim (p + 1) m + 1) = p + 1 + runN how lim (p + 1) m by omega]
    · rename_i q
      right
      exact q
/-- Told by its places. -/
theorem runN_is (how : List Int) (lim : Int) (m p k : Nat) (hk : k ≤ m) (h1 : ∀ i, i < k → p + i < how.length ∧ ((p + i : Nat) : Int) < lim ∧ how.getD (p + i) 0 = 0) (h2 : k = m ∨ ¬ (p + k < how.length ∧ ((p + k : Nat) : Int) < lim ∧ how.getD (p + k) 0 = 0)) : runN how lim p m = k := by
  induction m generalizing p k with
  | zero => unfold runN; omega
  | succ m ih =>
    unfold runN
    cases k with
    | zero =>
      rcases h2 with h2 | h2
      · omega
      · rw [Nat.add_zero] at h2
        rw [if_neg h2]
    | succ k =>
      have h0 := h1 0 (by omega)
      rw [Nat.add_zero] at h0
      have g1 : ∀ i, i < k → p + 1 + i < how.length ∧ ((p + 1 + i : Nat) : Int) < lim ∧ how.getD (p + 1 + i) 0 = 0 := fun i hi => by
        have := h1 (i + 1) (by omega)
        rwa [show p + (i + 1) = p + 1 + i by omega] at this
      have g2 : k = m ∨ ¬ (p + 1 + k < how.length ∧ ((p + 1 + k : Nat) : Int) < lim ∧ how.getD (p + 1 + k) 0 = 0) := by
        rcases h2 with h2 | h2
        · left; omega
        · right
          rwa [show p + (k + 1) = p + 1 + k by omega] at h2
      rw [if_pos h0, ih (p + 1) k (by omega) g1 g2]
/-- What always holds. -/
structure Ok12 (d : Ox) : Prop where
  len : d.how.length = d.s.size
  how : ∀ h ∈ d.how, 0 ≤ h ∧ h ≤ 2
  fin : 0 ≤ d.fin ∧ d.fin ≤ 3
  lim : 4096 ≤ d.lim ∧ d.lim ≤ 9223372036854775807
theorem Ok12.new : Ok12 ox0 := ⟨rfl, fun h hh => (by cases hh), by decide, by decide⟩
theorem set_mem {l : List Int} {i : Nat} {x h : Int} (hh : h ∈ l.set i x) : h ∈ l ∨ h = x := List.mem_or_eq_of_mem_set hh
theorem setR_mem (how : List Int) (off : Nat) (x : Int) : ∀ n h, h ∈ setR how off x n → h ∈ how ∨ h = x
  | 0, h, hh => .inl hh
  | n + 1, h, hh => by
    rcases set_mem hh with q | q
    · exact setR_mem how off x n h q
    · exact .inr q
theorem lostR_mem (how : List Int) (off : Nat) : ∀ n h, h ∈ lostR how off n → h ∈ how ∨ h = 0
  | 0, h, hh => .inl hh
  | n + 1, h, hh => by
    unfold lostR at hh
    split at hh
    · exact lostR_mem how off n h hh
    · rcases set_mem hh with q | q
      · exact lostR_mem how off n h q
      · exact .inr q
theorem Ok12.write {d : Ox} (h : Ok12 d) (s : ByteArray) (f : Bool) : Ok12 (wrO d s f) := by
  unfold wrO
  split
  · refine ⟨by simp [h.len], fun x hx => ?_, ?_, h.lim⟩
    · rcases List.mem_append.1 hx with q | q
      · exact h.how x q
      · rw [(List.mem_replicate.1 q).2]
        decide
    · show 0 ≤ (if _ then _ else d.fin) ∧ (if _ then _ else d.fin) ≤ 3
      have := h.fin
      split <;> omega
  · exact h
theorem Ok12.allow {d : Ox} (h : Ok12 d) (l : Int) (hl : l ≤ 9223372036854775807) : Ok12 (alwO d l) := ⟨h.len, h.how, h.fin, by
  have := h.lim
  show 4096 ≤ max d.lim l ∧ max d.lim l ≤ _
  omega⟩
theorem Ok12.after {d : Ox} (h : Ok12 d) (p : Pc) : Ok12 (aftO d p) := ⟨by show (setR ..).length = _; rw [setR_len]; exact h.len, fun x hx => by
  rcases setR_mem d.how p.off 1 p.n x hx with q | q
  · exact h.how x q
  · rw [q]; decide, by
  have := h.fin
  show 0 ≤ (if _ then _ else d.fin) ∧ (if _ then _ else d.fin) ≤ 3
  split <;> omega, h.lim⟩
theorem Ok12.afterP {d : Ox} (h : Ok12 d) (p : Pc) : Ok12 (aftP d p) := ⟨by show (setR ..).length = _; rw [setR_len]; exact h.len, fun x hx => by
  rcases setR_mem d.how p.off 1 p.n x hx with q | q
  · exact h.how x q
  · rw [q]; decide, by
  have := h.fin
  show 0 ≤ (if _ then _ else d.fin) ∧ (if _ then _ else d.fin) ≤ 3
  split <;> omega, h.lim⟩
theorem Ok12.nextP {d : Ox} (h : Ok12 d) (most : Int) : Ok12 (nxtP d most) := by
  unfold nxtP
  split
  · exact h
  · exact h.afterP _
theorem Ok12.next {d : Ox} (h : Ok12 d) (most : Int) : Ok12 (nxtO d most) := by
  unfold nxtO
  split
  · exact h
  · exact h.after _
theorem Ok12.acked {d : Ox} (h : Ok12 d) (p : Pc) : Ok12 (ackO d p) := ⟨by show (setR ..).length = _; rw [setR_len]; exact h.len, fun x hx => by
  rcases setR_mem d.how p.off 2 p.n x hx with q | q
  · exact h.how x q
  · rw [q]; decide, by
  have := h.fin
  show 0 ≤ (if _ then _ else d.fin) ∧ (if _ then _ else d.fin) ≤ 3
  split <;> omega, h.lim⟩
theorem Ok12.lost {d : Ox} (h : Ok12 d) (p : Pc) : Ok12 (lostO d p) := ⟨by show (lostR ..).length = _; rw [lostR_len]; exact h.len, fun x hx => by
  rcases lostR_mem d.how p.off p.n x hx with q | q
  · exact h.how x q
  · rw [q]; decide, by
  have := h.fin
  show 0 ≤ (if _ then _ else d.fin) ∧ (if _ then _ else d.fin) ≤ 3
  split <;> omega, h.lim⟩
/-- A piece that lies within what was written. -/
def PcIn (d : Ox) (p : Pc) : Prop := p.off + p.n ≤ d.s.size
theorem nxt_in {d : Ox} (h : Ok12 d) {most : Int} {p : Pc} (e : nxt d most = some p) : PcIn d p := by
  have hl := h.len
  unfold nxt at e
  split at e
  · split at e
    · cases e
    · injection e with e
      subst e
      show d.s.size + 0 ≤ _
      omega
  · split at e
    · cases e
    · injection e with e
      subst e
      have := (runN_le d.how d.lim most.toNat (fstP newB d.how)).2.1 (fstP_le newB d.how)
      show fstP newB d.how + runN d.how d.lim (fstP newB d.how) most.toNat ≤ _
      omega
/-- The end of a piece was written. -/
theorem nxt_fin {d : Ox} {most : Int} {p : Pc} (e : nxt d most = some p) (hf : p.fin = true) : d.fin ≠ 3 := by
  unfold nxt at e
  split at e
  · split at e
    · cases e
    · rename_i q
      exact fun c => q (.inl (by rw [c]; decide))
  · split at e
    · cases e
    · injection e with e
      subst e
      simp only [Bool.and_eq_true, decide_eq_true_eq, bne_iff_ne] at hf
      exact hf.2
/-- Where the end is not there yet, both are one. -/
theorem nxtP_eq {d : Ox} (h : Ok12 d) {most : Int} (q : d.fin ≠ 2 ∨ nxt d most = none) : nxtP d most = nxtO d most := by
  unfold nxtP nxtO
  cases e : nxt d most with
  | none => rfl
  | some p =>
    have q2 : d.fin ≠ 2 := q.elim id fun c => by rw [e] at c; cases c
    show aftP d p = aftO d p
    unfold aftP aftO
    by_cases hf : p.fin = true
    · have q3 := nxt_fin e hf
      have := h.fin
      have e1 : (if p.fin = true then (1 : Int) else d.fin) = 1 := if_pos hf
      have e2 : (if p.fin = true ∧ d.fin = 0 then (1 : Int) else d.fin) = 1 := by
        by_cases r : d.fin = 0
        · exact if_pos ⟨hf, r⟩
        · rw [if_neg (fun c => r c.2)]
          omega
      rw [e1, e2]
    · rw [if_neg hf, if_neg (fun c => hf c.1)]
end Go.Proofs.Ytdmoaeegjjenmaa
