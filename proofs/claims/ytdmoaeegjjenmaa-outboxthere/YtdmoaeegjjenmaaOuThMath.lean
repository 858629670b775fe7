/-
  A text that is sent piece by piece, each told as there or as lost at once, and what an inbox makes of the pieces. Plain facts; no condition.
-/
import Derived.Test.YtdmoaeegjjenmaaOuBoth
import Derived.Test.YtdmoaeegjjenmaaInText
namespace Go.Proofs.Ytdmoaeegjjenmaa
set_option maxRecDepth 100000
open Go.RowKit Go.Sort

/-- The next piece of a text of which a bytes are there. -/
def pieceN (s : ByteArray) (a m : Nat) : Nat := min m (s.size - a)
def pieceP (s : ByteArray) (a m : Nat) : Pc := ⟨a, pieceN s a m, decide (a + pieceN s a m = s.size)⟩
theorem th_nxt (s : ByteArray) (a m : Nat) (hs : s.size ≤ 3000) (ha : a ≤ s.size) (hm : 1 ≤ m) : nxt (tx s a 2 0 4096) m = some (pieceP s a m) ∧ nxtO (tx s a 2 0 4096) m = aftO (tx s a 2 0 4096) (pieceP s a m) := by
  have e : nxt (tx s a 2 0 4096) m = some (pieceP s a m) := by
    rw [tx_nxt s a 2 0 4096 m ha (by decide) (by decide)]
    have hk : runK s a 4096 m = pieceN s a m := by unfold runK pieceN; show min m (min s.size 4096 - a) = _; omega
    unfold pieceP
    by_cases q : s.size ≤ a
    · have z : pieceN s a m = 0 := by unfold pieceN; omega
      rw [if_pos (.inl q), if_neg (by omega), z]
      have e2 : s.size = a := by omega
      simp [e2]
    · have z : pieceN s a m ≠ 0 := by unfold pieceN; omega
      rw [if_neg (by omega), hk, if_neg z]
      simp
  refine ⟨e, ?_⟩
  unfold nxtO
  rw [e]
theorem th_stop (s : ByteArray) (m : Nat) : nxt (tx s s.size 2 2 4096) m = none ∧ nxtO (tx s s.size 2 2 4096) m = tx s s.size 2 2 4096 := by
  have e : nxt (tx s s.size 2 2 4096) m = none := by rw [tx_nxt s s.size 2 2 4096 m (by omega) (by decide) (by decide), if_pos (.inl (by omega)), if_pos (.inl (by decide))]
  refine ⟨e, ?_⟩
  unfold nxtO
  rw [e]
theorem piece_le (s : ByteArray) (a m : Nat) (ha : a ≤ s.size) : a + pieceN s a m ≤ s.size ∧ pieceN s a m ≤ m := by unfold pieceN; omega
theorem piece_ok (s : ByteArray) (a m : Nat) (ha : a ≤ s.size) : PcOk (aftO (tx s a 2 0 4096) (pieceP s a m)) (pieceP s a m) (s.extract a (a + pieceN s a m)) := by
  have := piece_le s a m ha
  refine ⟨this.1, rfl, fun hf => ?_⟩
  have hf' : a + pieceN s a m = s.size := by simpa [pieceP] using hf
  refine ⟨?_, hf'⟩
  show (if (pieceP s a m).fin = true ∧ (0 : Int) = 0 then (1 : Int) else 0) ≠ 3
  split <;> decide
theorem piece_ack (s : ByteArray) (a m : Nat) (ha : a ≤ s.size) : ackO (aftO (tx s a 2 0 4096) (pieceP s a m)) (pieceP s a m) = tx s (a + pieceN s a m) 2 (if a + pieceN s a m = s.size then 2 else 0) 4096 := by
  have := tx_ack s a (pieceN s a m) 0 4096 (decide (a + pieceN s a m = s.size)) (piece_le s a m ha).1
  rw [show pieceP s a m = ⟨a, pieceN s a m, decide (a + pieceN s a m = s.size)⟩ from rfl, this]
  simp
theorem piece_lost (s : ByteArray) (a m : Nat) (ha : a ≤ s.size) : lostO (aftO (tx s a 2 0 4096) (pieceP s a m)) (pieceP s a m) = tx s a 2 0 4096 :=
  tx_lost s a (pieceN s a m) 0 4096 _ (piece_le s a m ha).1 (fun _ => rfl)
/-- The inbox has read the first a bytes, and has no others. -/
structure IB (s : ByteArray) (a : Nat) (f : Int) (e : ib.Bx) (c : Nat) : Prop where
  rd : e.rd = a
  most : e.most = a
  size : e.size = if f = 2 then (s.size : Int) else -1
  rst : e.rst = false
  got : ∀ x : Int, a ≤ x → e.got x = none
  cnt : e.cnt ≤ c
theorem IB.new (s : ByteArray) : IB s 0 0 ib.bx0 0 := ⟨rfl, rfl, rfl, rfl, fun _ _ => rfl, Nat.le_refl _⟩
/-- .. and the next piece has come. -/
structure IC (s : ByteArray) (a k : Nat) (b : Bool) (e : ib.Bx) (c : Nat) : Prop where
  rd : e.rd = a
  most : e.most = a + k
  size : e.size = if b = true then (s.size : Int) else -1
  rst : e.rst = false
  got : ∀ i : Nat, i < k → e.got (a + i) = some (ib.bt (s.extract a (a + k)) i)
  none : ∀ x : Int, a + k ≤ x → e.got x = none
  cnt : e.cnt ≤ c
theorem ext_sz (s : ByteArray) (a k : Nat) (h : a + k ≤ s.size) : (s.extract a (a + k)).size = k := by rw [ByteArray.size_extract]; omega
theorem IB.put {s : ByteArray} {a c k : Nat} {e : ib.Bx} (h : IB s a 0 e c) (hs : s.size ≤ 3000) (hk : a + k ≤ s.size) (b : Bool) (hb : b = decide (a + k = s.size)) : ib.putE e a (s.extract a (a + k)).size b = 0 ∧ IC s a k b (ib.putB e a (s.extract a (a + k)) b) (c + 3000) := by
  obtain ⟨h1, h2, h3, h4, h5, h6⟩ := h
  rw [if_neg (by decide)] at h3
  have hz := ext_sz s a k hk
  have he : ib.putE e a (s.extract a (a + k)).size b = 0 := by
    unfold ib.putE ib.lim
    rw [hz, h1, h2, h3, if_neg (by omega), if_neg (by omega), if_neg (fun q => by have := q.1; omega), if_neg (fun q => by have := q.2; omega)]
  refine ⟨he, ?_⟩
  unfold ib.putB
  rw [if_pos ⟨he, h4⟩]
  refine ⟨h1, ?_, ?_, h4, fun i hi => ?_, fun x hx => ?_, ?_⟩
  · show (if 0 < (s.extract a (a + k)).size then max e.most ((a : Int) + (s.extract a (a + k)).size) else e.most) = _
    rw [hz, h2]
    split <;> omega
  · show (if b = true then (a : Int) + (s.extract a (a + k)).size else e.size) = _
    rw [hz, h3]
    cases b with
    | true =>
      have : a + k = s.size := by simpa using hb.symm
      rw [if_pos rfl, if_pos rfl]
      omega
    | false => rfl
  · show ib.lay e a (ib.bt (s.extract a (a + k))) (s.extract a (a + k)).size (a + i) = _
    unfold ib.lay
    rw [hz, if_pos ⟨by omega, by omega, by omega, h5 _ (by omega)⟩]
    congr 2
    omega
  · show ib.lay e a (ib.bt (s.extract a (a + k))) (s.extract a (a + k)).size x = _
    unfold ib.lay
    rw [hz, if_neg (by omega)]
    exact h5 x (by omega)
  · show e.cnt + (s.extract a (a + k)).size ≤ _
    omega
theorem IC.put {s : ByteArray} {a c k : Nat} {e : ib.Bx} {b : Bool} (h : IC s a k b e c) (hs : s.size ≤ 3000) (hk : a + k ≤ s.size) (hb : b = decide (a + k = s.size)) : ib.putE e a (s.extract a (a + k)).size b = 0 ∧ IC s a k b (ib.putB e a (s.extract a (a + k)) b) (c + 3000) := by
  obtain ⟨h1, h2, h3, h4, h5, h6, h7⟩ := h
  have hz := ext_sz s a k hk
  have hbs : b = true → a + k = s.size := fun q => by rw [q] at hb; simpa using hb.symm
  have he : ib.putE e a (s.extract a (a + k)).size b = 0 := by
    unfold ib.putE ib.lim
    rw [hz, h1, h2, if_neg (by omega), if_neg (by omega), if_neg (fun q => ?_), if_neg (fun q => by have := q.2; omega)]
    rw [h3] at q
    cases b with
    | true =>
      have := hbs rfl
      rw [if_pos rfl] at q
      rcases q.2 with r | r
      · omega
      · exact r.2 (by omega)
    | false =>
      rw [if_neg (by decide)] at q
      have := q.1
      omega
  refine ⟨he, ?_⟩
  unfold ib.putB
  rw [if_pos ⟨he, h4⟩]
  refine ⟨h1, ?_, ?_, h4, fun i hi => ?_, fun x hx => ?_, ?_⟩
  · show (if 0 < (s.extract a (a + k)).size then max e.most ((a : Int) + (s.extract a (a + k)).size) else e.most) = _
    rw [hz, h2]
    split <;> omega
  · show (if b = true then (a : Int) + (s.extract a (a + k)).size else e.size) = _
    rw [hz, h3]
    cases b with
    | true =>
      have := hbs rfl
      rw [if_pos rfl, if_pos rfl]
      omega
    | false => rfl
  · show ib.lay e a (ib.bt (s.extract a (a + k))) (s.extract a (a + k)).size (a + i) = _
    unfold ib.lay
    rw [if_neg (fun q => by rw [h5 i hi] at q; cases q.2.2.2)]
    exact h5 i hi
  · show ib.lay e a (ib.bt (s.extract a (a + k))) (s.extract a (a + k)).size x = _
    unfold ib.lay
    rw [hz, if_neg (by omega)]
    exact h6 x hx
  · show e.cnt + (s.extract a (a + k)).size ≤ _
    omega
theorem IC.read {s : ByteArray} {a c k : Nat} {e : ib.Bx} {b : Bool} (h : IC s a k b e c) (hs : s.size ≤ 3000) (hk : a + k ≤ s.size) (f : Int) (hf : (f = 2 ∧ b = true) ∨ (f = 0 ∧ b = false)) : strOfNums (ib.takeL e 5000) = s.extract a (a + k) ∧ IB s (a + k) f (ib.takeB e 5000) c := by
  obtain ⟨h1, h2, h3, h4, h5, h6, h7⟩ := h
  have hz := ext_sz s a k hk
  obtain ⟨r1, r2⟩ := ib.run_text e.got e.rd (s.extract a (a + k)) 5000 (by omega) (fun i hi => by rw [h1]; exact h5 i (by omega)) (.inr (by rw [h1, hz]; exact h6 _ (by omega)))
  have et : ib.takeL e 5000 = ib.runB e.got e.rd 5000 := by unfold ib.takeL; rw [h4]; rfl
  refine ⟨by rw [et]; exact r1, ?_⟩
  unfold ib.takeB
  refine ⟨?_, ?_, ?_, h4, fun x hx => h6 x (by omega), h7⟩
  · show e.rd + ((ib.takeL e 5000).length : Int) = _
    rw [et, r2, hz, h1]
    omega
  · show e.most = _
    rw [h2]
    omega
  · show e.size = _
    rw [h3]
    rcases hf with ⟨rfl, rfl⟩ | ⟨rfl, rfl⟩ <;> rfl
theorem IB.done {s : ByteArray} {c : Nat} {e : ib.Bx} (h : IB s s.size 2 e c) : ib.ended e = 1 := by
  unfold ib.ended
  rw [h.rst, h.size, h.rd]
  simp
theorem ext_cat (s : ByteArray) (a k : Nat) : s.extract 0 a ++ s.extract a (a + k) = s.extract 0 (a + k) := by
  rw [ByteArray.extract_append_extract]
  congr 1 <;> omega
theorem ext_all (s : ByteArray) : s.extract 0 s.size = s := ByteArray.extract_zero_size
end Go.Proofs.Ytdmoaeegjjenmaa
