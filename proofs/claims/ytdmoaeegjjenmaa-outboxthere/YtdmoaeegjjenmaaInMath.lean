/-
  A stream that comes in pieces, as values: what is laid, what is read, how it ends. Plain facts; no condition.
-/
import Derived.Test.YtdmoaeegjjenmaaRows
namespace Go.Proofs.Ytdmoaeegjjenmaa.ib
set_option maxRecDepth 100000

/-- The byte of a text at a place, as a number. -/
def bt (s : ByteArray) (i : Nat) : Int := ((s.data.toList.getD i 0).toNat : Int)
theorem bt_eq (s : ByteArray) (i : Nat) (h : i < s.size) : ((s[i].toNat : Nat) : Int) = bt s i := by
  have h' : i < s.data.size := h
  unfold bt
  rw [List.getD, Array.getElem?_toList, Array.getElem?_eq_getElem h']
  rfl
theorem bt_bd (s : ByteArray) (i : Nat) : 0 ≤ bt s i ∧ bt s i ≤ 255 := by
  unfold bt
  have := UInt8.toNat_lt (s.data.toList.getD i 0)
  omega
/-- A stream: the bytes by their places (from what was read on they count), how many were read, its size (-1: not known), the place above all that came, whether it was reset; and how many bytes were laid in all. -/
structure Bx where
  got : Int → Option Int
  rd : Int
  size : Int
  most : Int
  rst : Bool
  cnt : Nat
def bx0 : Bx := ⟨fun _ => none, 0, -1, 0, false, 0⟩
def lim (d : Bx) : Int := d.rd + 4096
def putE (d : Bx) (off : Int) (n : Nat) (fin : Bool) : Int :=
  if off < 0 ∨ 4611686018427387903 < off then 2
  else if lim d < off + n then 12
  else if 0 ≤ d.size ∧ (d.size < off + n ∨ (fin = true ∧ off + n ≠ d.size)) then 13
  else if fin = true ∧ off + n < d.most then 13 else 0
/-- What stands at a place when the first n bytes of a piece are laid. -/
def lay (d : Bx) (off : Int) (f : Nat → Int) (n : Nat) (x : Int) : Option Int :=
  if d.rd ≤ x ∧ off ≤ x ∧ x < off + n ∧ d.got x = none then some (f (x - off).toNat) else d.got x
def putB (d : Bx) (off : Int) (s : ByteArray) (fin : Bool) : Bx :=
  if putE d off s.size fin = 0 ∧ d.rst = false then { d with got := lay d off (bt s) s.size, most := if 0 < s.size then max d.most (off + s.size) else d.most, size := if fin = true then off + s.size else d.size, cnt := d.cnt + s.size } else d
def resE (d : Bx) (size : Int) : Int :=
  if size < 0 ∨ 4611686018427387903 < size then 2 else if lim d < size then 12 else if (0 ≤ d.size ∧ size ≠ d.size) ∨ size < d.most then 13 else 0
def ended (d : Bx) : Int := if d.rst = true then 2 else if d.size = d.rd then 1 else 0
def resB (d : Bx) (size : Int) : Bx := if resE d size = 0 ∧ ended d ≠ 1 then { d with rst := true, size := size } else d
/-- The bytes from a place on, up to a gap, at most so many. -/
def runB (g : Int → Option Int) : Int → Nat → List Int
  | _, 0 => []
  | p, k + 1 => match g p with
    | none => []
    | some c => c :: runB g (p + 1) k
def takeL (d : Bx) (n : Int) : List Int := if d.rst = true then [] else runB d.got d.rd n.toNat
def takeB (d : Bx) (n : Int) : Bx := { d with rd := d.rd + (takeL d n).length }
theorem runB_len (g : Int → Option Int) : ∀ (k : Nat) (p : Int), (runB g p k).length ≤ k
  | 0, _ => Nat.le_refl 0
  | k + 1, p => by
    unfold runB
    cases g p with
    | none => simp
    | some c => simpa using runB_len g k (p + 1)
theorem runB_got (g : Int → Option Int) : ∀ (k : Nat) (p : Int) (i : Nat), i < (runB g p k).length → g (p + i) = some ((runB g p k).getD i 0)
  | 0, _, i => fun h => by simp [runB] at h
  | k + 1, p, i => fun h => by
    unfold runB at h ⊢
    cases e : g p with
    | none => rw [e] at h; simp at h
    | some c =>
      rw [e] at h
      simp only at h ⊢
      cases i with
      | zero => simpa using e
      | succ i =>
        have := runB_got g k (p + 1) i (by simpa using h)
        have e2 : p + ((i + 1 : Nat) : Int) = p + 1 + (i : Int) := by omega
        rw [e2, this]
        simp
/-- Where it ends, there is a gap, or enough was taken. -/
theorem runB_end (g : Int → Option Int) : ∀ (k : Nat) (p : Int), (runB g p k).length = k ∨ g (p + (runB g p k).length) = none
  | 0, _ => .inl rfl
  | k + 1, p => by
    unfold runB
    cases e : g p with
    | none => right; simpa using e
    | some c =>
      rcases runB_end g k (p + 1) with q | q
      · left; simp [q]
      · right
        have e2 : p + ((c :: runB g (p + 1) k).length : Nat) = p + 1 + ((runB g (p + 1) k).length : Int) := by simp; omega
        simp only
        rw [e2]
        exact q
/-- What is told of a run by its places. -/
theorem runB_eq (g : Int → Option Int) (p : Int) (l : List Int) (k : Nat) (hk : l.length ≤ k) (h : ∀ i, i < l.length → g (p + i) = some (l.getD i 0)) (he : l.length = k ∨ g (p + l.length) = none) : runB g p k = l := by
  induction k generalizing p l with
  | zero => exact (List.eq_nil_of_length_eq_zero (by omega)).symm
  | succ k ih =>
    cases l with
    | nil =>
      rcases he with he | he
      · simp at he
      · unfold runB
        have : g p = none := by simpa using he
        rw [this]
    | cons c l =>
      unfold runB
      have h0 := h 0 (by simp)
      simp at h0
      rw [h0]
      simp only
      have hg : ∀ i, i < l.length → g (p + 1 + i) = some (l.getD i 0) := fun i hi => by
        have := h (i + 1) (by simpa using hi)
        have e2 : p + ((i + 1 : Nat) : Int) = p + 1 + (i : Int) := by omega
        rw [e2] at this
        simpa using this
      rw [ih (p + 1) l (by simpa using hk) hg ?_]
      · rcases he with he | he
        · left; simpa using he
        · right
          have e2 : p + ((c :: l).length : Nat) = p + 1 + (l.length : Int) := by simp; omega
          rw [e2] at he
          exact he
/-- One more byte of a run. -/
theorem runB_snoc (g : Int → Option Int) (p : Int) (k : Nat) (h : (runB g p k).length = k) : runB g p (k + 1) = runB g p k ++ (match g (p + k) with | none => [] | some c => [c]) := by
  induction k generalizing p with
  | zero =>
    unfold runB
    simp only [runB]
    have : p + ((0 : Nat) : Int) = p := by simp
    rw [this]
    cases g p <;> rfl
  | succ k ih =>
    have e : runB g p (k + 1) = match g p with | none => [] | some c => c :: runB g (p + 1) k := rfl
    cases q : g p with
    | none => rw [e, q] at h; simp at h
    | some c =>
      rw [e, q] at h
      have e3 : runB g p (k + 1 + 1) = c :: runB g (p + 1) (k + 1) := by
        show (match g p with | none => [] | some c => c :: runB g (p + 1) (k + 1)) = _
        rw [q]
      rw [e3, e, q, ih (p + 1) (by simpa using h)]
      have e2 : p + ((k + 1 : Nat) : Int) = p + 1 + (k : Int) := by omega
      rw [e2]
      rfl
theorem runB_stop (g : Int → Option Int) (p : Int) (k m : Nat) (h : (runB g p k).length = k) (hn : g (p + k) = none) (hm : k ≤ m) : runB g p m = runB g p k := by
  refine runB_eq g p (runB g p k) m (by omega) (fun i hi => runB_got g k p i hi) (.inr ?_)
  rw [h]
  exact hn
/-- What always holds of a stream. -/
structure Bk (d : Bx) : Prop where
  rd : 0 ≤ d.rd ∧ d.rd ≤ d.most
  most : d.most ≤ d.rd + 4096
  came : ∀ x, d.rd ≤ x → d.got x ≠ none → x < d.most
  byte : ∀ x c, d.got x = some c → 0 ≤ c ∧ c ≤ 255
  size : d.size = -1 ∨ (d.most ≤ d.size ∧ d.size ≤ d.rd + 4096)
theorem Bk.new : Bk bx0 := ⟨by decide, by decide, fun _ _ h => absurd rfl h, fun _ _ h => (by cases h), .inl rfl⟩
theorem putE_zero {d : Bx} {off : Int} {n : Nat} {fin : Bool} (h : putE d off n fin = 0) : (0 ≤ off ∧ off ≤ 4611686018427387903) ∧ off + n ≤ d.rd + 4096 ∧ (0 ≤ d.size → off + n ≤ d.size ∧ (fin = true → off + n = d.size)) ∧ (fin = true → d.most ≤ off + n) := by
  unfold putE lim at h
  split at h
  · omega
  · split at h
    · omega
    · split at h
      · omega
      · split at h
        · omega
        · rename_i q1 q2 q3 q4
          refine ⟨by omega, by omega, fun hs => ⟨?_, fun hf => ?_⟩, fun hf => ?_⟩
          · exact Classical.byContradiction fun c => q3 ⟨hs, .inl (by omega)⟩
          · exact Classical.byContradiction fun c => q3 ⟨hs, .inr ⟨hf, c⟩⟩
          · exact Classical.byContradiction fun c => q4 ⟨hf, by omega⟩
theorem Bk.put {d : Bx} (h : Bk d) (off : Int) (s : ByteArray) (fin : Bool) : Bk (putB d off s fin) := by
  unfold putB
  split
  · rename_i q
    obtain ⟨p1, p2, p3, p4⟩ := putE_zero q.1
    obtain ⟨h1, h2, h3, h4, h5⟩ := h
    have hm : (if 0 < s.size then max d.most (off + s.size) else d.most) ≤ d.rd + 4096 ∧ d.most ≤ (if 0 < s.size then max d.most (off + s.size) else d.most) ∧ (0 < s.size → off + s.size ≤ (if 0 < s.size then max d.most (off + s.size) else d.most)) ∧ ((if 0 < s.size then max d.most (off + s.size) else d.most) ≤ d.most ∨ (if 0 < s.size then max d.most (off + s.size) else d.most) ≤ off + s.size) := by
      split <;> omega
    refine ⟨⟨h1.1, ?_⟩, ?_, fun x hx hg => ?_, fun x c hg => ?_, ?_⟩
    · show d.rd ≤ (if _ then _ else _)
      omega
    · exact hm.1
    · show x < (if _ then _ else _)
      have hg' : lay d off (bt s) s.size x ≠ none := hg
      unfold lay at hg'
      split at hg'
      · rename_i r
        have := hm.2.2.1 (by omega)
        omega
      · have := h3 x hx hg'
        omega
    · have hg' : lay d off (bt s) s.size x = some c := hg
      unfold lay at hg'
      split at hg'
      · injection hg' with e
        rw [← e]
        exact bt_bd s _
      · exact h4 x c hg'
    · show (if fin = true then off + s.size else d.size) = -1 ∨ ((if _ then _ else _) ≤ (if fin = true then off + s.size else d.size) ∧ (if fin = true then off + s.size else d.size) ≤ d.rd + 4096)
      cases fin with
      | true =>
        right
        have := p4 rfl
        rw [if_pos rfl]
        omega
      | false =>
        rw [if_neg (by decide)]
        rcases h5 with h5 | h5
        · exact .inl h5
        · right
          have := (p3 (by omega)).1
          omega
  · exact h
theorem resE_zero {d : Bx} {size : Int} (h : resE d size = 0) : (0 ≤ size ∧ size ≤ 4611686018427387903) ∧ size ≤ d.rd + 4096 ∧ (0 ≤ d.size → size = d.size) ∧ d.most ≤ size := by
  unfold resE lim at h
  split at h
  · omega
  · split at h
    · omega
    · split at h
      · omega
      · rename_i q1 q2 q3
        refine ⟨by omega, by omega, fun hs => ?_, ?_⟩
        · exact Classical.byContradiction fun c => q3 (.inl ⟨hs, c⟩)
        · exact Classical.byContradiction fun c => q3 (.inr (by omega))
theorem Bk.res {d : Bx} (h : Bk d) (size : Int) : Bk (resB d size) := by
  unfold resB
  split
  · rename_i q
    obtain ⟨p1, p2, p3, p4⟩ := resE_zero q.1
    exact ⟨h.rd, h.most, h.came, h.byte, .inr ⟨p4, p2⟩⟩
  · exact h
theorem takeL_le {d : Bx} (h : Bk d) (n : Int) : d.rd + (takeL d n).length ≤ d.most := by
  unfold takeL
  split
  · have := h.rd
    simp
    omega
  · rcases Nat.eq_zero_or_pos (runB d.got d.rd n.toNat).length with q | q
    · have := h.rd
      omega
    · have g := runB_got d.got n.toNat d.rd ((runB d.got d.rd n.toNat).length - 1) (by omega)
      have := h.came (d.rd + ((runB d.got d.rd n.toNat).length - 1 : Nat)) (by omega) (by rw [g]; simp)
      omega
theorem Bk.take {d : Bx} (h : Bk d) (n : Int) : Bk (takeB d n) := by
  have hl := takeL_le h n
  have h1 := h.rd
  have h2 := h.most
  unfold takeB
  refine ⟨⟨?_, ?_⟩, ?_, fun x hx hg => h.came x ?_ hg, h.byte, ?_⟩
  · show 0 ≤ d.rd + _; omega
  · exact hl
  · show d.most ≤ d.rd + _ + 4096; omega
  · have hx' : d.rd + ((takeL d n).length : Int) ≤ x := hx
    omega
  · rcases h.size with h5 | h5
    · exact .inl h5
    · right
      show d.most ≤ d.size ∧ d.size ≤ d.rd + _ + 4096
      omega
/-- .. and how far it may have come. -/
structure Bw (d : Bx) : Prop where
  k : Bk d
  rd : d.rd < 1152921504606846976
  cnt : d.cnt < 1099511627776
end Go.Proofs.Ytdmoaeegjjenmaa.ib
