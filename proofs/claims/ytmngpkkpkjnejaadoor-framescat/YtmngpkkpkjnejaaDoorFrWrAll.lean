/-
  What the document's own Write of frames answers. Fewer than 2^50 frames; no other condition.
-/
import Derived.Test.YtmngpkkpkjnejaaDoorFrSize
namespace Go.Proofs.YtmngpkkpkjnejaaDoor
set_option maxRecDepth 100000
open Go.RowKit Go.Sort

/-- The error of the first that is not right; 0, if all are. -/
def bad1 : List Fr → Int
  | [] => 0
  | f :: l => if chkF f = 0 then bad1 l else chkF f
theorem bad1_zero {l : List Fr} : bad1 l = 0 ↔ ∀ f ∈ l, Rt f := by
  induction l with
  | nil => simp [bad1]
  | cons f l ih =>
    unfold bad1
    by_cases h : chkF f = 0
    · rw [if_pos h, ih]
      constructor
      · intro q g hg
        rcases List.mem_cons.1 hg with rfl | hg
        · exact chkF_zero.1 h
        · exact q g hg
      · exact fun q g hg => q g (List.mem_cons_of_mem _ hg)
    · rw [if_neg h]
      constructor
      · exact fun q => absurd q h
      · exact fun q => absurd (chkF_zero.2 (q f (List.mem_cons_self ..))) h
theorem bad1_at {l : List Fr} : ∀ (k : Nat), k < l.length → (∀ j, j < k → chkF (l.getD j fr0) = 0) → chkF (l.getD k fr0) ≠ 0 → bad1 l = chkF (l.getD k fr0) := by
  induction l with
  | nil => intro k hk; simp at hk
  | cons f l ih =>
    intro k hk h1 h2
    unfold bad1
    cases k with
    | zero => rw [if_neg (by simpa using h2)]; simp
    | succ k =>
      rw [if_pos (by simpa using h1 0 (by omega))]
      exact ih k (by simpa using hk) (fun j hj => by simpa using h1 (j + 1) (by omega)) (by simpa using h2)
theorem bad1_all {l : List Fr} (h : ∀ j, j < l.length → chkF (l.getD j fr0) = 0) : bad1 l = 0 := by
  induction l with
  | nil => rfl
  | cons f l ih =>
    unfold bad1
    rw [if_pos (by simpa using h 0 (by simp))]
    exact ih fun j hj => by simpa using h (j + 1) (by simpa using hj)
theorem wrAll_take (l : List Fr) (k : Nat) (h : k < l.length) : wrAll (l.take (k + 1)) = wrAll (l.take k) ++ wrF (l.getD k fr0) := by
  unfold wrAll
  rw [List.take_succ_eq_append_getElem h, List.flatMap_append]
  simp [List.getD, List.getElem?_eq_getElem h]
/-- What Write answers, as values. -/
def wrE (fs : List Fr) : Ending := .returned (.tuple #[.string (if bad1 fs = 0 then strL (wrAll fs) else ⟨#[]⟩), .int .i64 (bad1 fs)])
set_option maxHeartbeats 4000000 in
theorem rwriteAll_ok {w : World} {v : Value} {fs : List Fr} (hv : FrsAt w v fs) (hl : fs.length < 1125899906842624) (bl : ∀ f ∈ fs, f.rg.length < 9223372036854775807 ∧ f.data.length < 4611686018427387904) :
    Calls Tryd.prog 17 #[v] w fun e w' => e = wrE fs ∧ Below w.heap.size w w' := by
  obtain ⟨a, cap, rfl, hc⟩ := hv
  rcases hc with rfl | ⟨g, o, rfl, hc⟩
  · have e : wrE [] = .returned (.tuple #[.string ⟨#[]⟩, .int .i64 0]) := rfl
    rw [e]
    clear e bl hl
    go_enter Tryd.func17, Tryd.ntmps17
    go_wp2
    go_rounds 1
    go_ret2
    exact ⟨rfl, Below.refl _ _⟩
  · replace hc : Hid _ := hc
    replace bl : Hid _ := bl
    obtain ⟨E, hE⟩ : ∃ E, E = wrE fs := ⟨_, rfl⟩
    rw [← hE]
    replace hE : Hid _ := hE
    go_enter Tryd.func17, Tryd.ntmps17
    go_wp2
    go_loopg [4, 5] fs.length (fun g' sv iv wr => ∃ (k : Nat) (X : ByteArray), k + g' = fs.length ∧ iv = .int .i64 k ∧ sv = .string X ∧ X.size ≤ 2000 * k ∧ Hid (toL X = wrAll (fs.take k)) ∧ Hid (∀ j, j < k → chkF (fs.getD j fr0) = 0) ∧ Hid (Below w.heap.size w wr))
    case atStart => exact ⟨0, ⟨#[]⟩, by omega, rfl, rfl, Nat.zero_le _, rfl, fun j hj => by omega, Below.refl _ _⟩
    case round =>
      obtain ⟨k, X, hk, rfl, rfl, hX, hXe, hall, bel⟩ := hrel
      by_cases hlt : k < fs.length
      · have g1 : decide ((k : Int) < (fs.length : Int)) = true := decide_eq_true (by omega)
        have F1 := (hc.out k hlt).keep bel.out
        have m1 := bl.out (fs.getD k fr0) (by simp [List.getD, List.getElem?_eq_getElem hlt])
        have ia := fun w' => at_frs g o fs.length cap k w' hlt (k : Int) rfl (o + 7 * k) rfl
        have wt := wrAll_take fs k hlt
        have ba : Hid _ := bad1_at (l := fs) k hlt hall.out
        have hall2 : chkF (fs.getD k fr0) = 0 → ∀ j, j < k + 1 → chkF (fs.getD j fr0) = 0 := fun q j hj => by
          by_cases e : j = k
          · rw [e]; exact q
          · exact hall.out j (by omega)
        replace hall2 : Hid _ := hall2
        generalize fs.getD k fr0 = f at *
        obtain ⟨d, sl, cp, d1, d2, d3⟩ := F1
        have IS : FrIs wr (frV f d (.slice sl f.rg.length cp)) f := ⟨d, sl, cp, rfl, d1, d2⟩
        have CK : Hid (Calls Tryd.prog 10 #[.agg #[.int .i64 f.kind, .int .i64 f.id, .int .i64 f.off, .bool f.fin, .int .i64 f.code, .string d, .slice sl f.rg.length cp]] wr fun e w' => e = .returned (.int .i64 (chkF f)) ∧ Below wr.heap.size wr w') := rchkF_ok IS m1.1 m1.2
        have D3 : Hid (C7 wr g (o + 7 * k) f d (.slice sl f.rg.length cp)) := d3
        obtain ⟨x0, x1, x2, x3, x4, x5, x6⟩ := d3
        clear d1 d2 m1
        by_cases h : chkF f = 0
        · have R := chkF_zero.1 h
          have le := wrF_le R
          have zs : (strL (wrF f)).size = (wrF f).length := strL_size _
          have WR : Hid (∀ w', Below wr.heap.size wr w' → Calls Tryd.prog 31 #[.agg #[.int .i64 f.kind, .int .i64 f.id, .int .i64 f.off, .bool f.fin, .int .i64 f.code, .string d, .slice sl f.rg.length cp]] w' fun e w'' => e = .returned (.string (strL (wrF f))) ∧ Below w'.heap.size w' w'') := fun w' q => rwrite_ok (IS.keep q) R
          rw [h] at CK
          have h2 : Hid (∀ j, j < k + 1 → chkF (fs.getD j fr0) = 0) := hall2.out h
          have X2 : Hid (toL (X ++ strL (wrF f)) = wrAll (fs.take (k + 1))) := by
            unfold Hid
            rw [toL_append, hXe.out, toL_strL, wt]
          have X2s : (X ++ strL (wrF f)).size ≤ 2000 * (k + 1) := by rw [ByteArray.size_append]; omega
          clear R h IS wt ba hall hall2
          replace bl : Hid _ := bl
          generalize strL (wrF f) = Y at *
          have hadd : X.size + Y.size ≤ 9223372036854775807 := by omega
          clear le zs
          go_wp2_with fail
          refine CK.out.mono ?_
          rintro _ w1 ⟨rfl, b1⟩
          have W1 : Hid _ := WR.out w1 b1
          have B1 : Hid (Below w.heap.size w w1) := bel.out.trans (b1.mono bel.out.size)
          clear x0 x1 x2 x3 x4 x5 x6
          obtain ⟨x0, x1, x2, x3, x4, x5, x6⟩ := D3.out.keep b1
          clear b1 CK WR D3
          go_wp2_with fail
          refine Calls.mono W1.out ?_
          rintro _ w2 ⟨rfl, b2⟩
          have B2 : Hid (Below w.heap.size w w2) := B1.out.trans (b2.mono B1.out.size)
          clear b2 W1 x0 x1 x2 x3 x4 x5 x6
          go_wp2
          go_roundg (fs.length - (k + 1))
          case measure => omega
          case rel => exact ⟨k + 1, _, by omega, by go_num, rfl, X2s, X2, h2, B2⟩
        · have eE : E = .returned (.tuple #[.string ⟨#[]⟩, .int .i64 (chkF f)]) := by
            rw [hE.out]
            unfold wrE
            rw [ba.out h, if_neg h]
          have gx : (chkF f != 0) = true := by simp [h]
          generalize chkF f = y at *
          subst eE
          clear IS wt ba hall hall2 hE D3
          replace h : Hid _ := h
          go_wp2_with fail
          refine CK.out.mono ?_
          rintro _ w1 ⟨rfl, b1⟩
          have B1 : Hid (Below w.heap.size w w1) := bel.out.trans (b1.mono bel.out.size)
          clear b1 CK
          go_wp2
          go_ret2
          exact ⟨rfl, B1.out⟩
      · have g1 : decide ((k : Int) < (fs.length : Int)) = false := decide_eq_false (by omega)
        obtain rfl : k = fs.length := by omega
        have eE : E = .returned (.tuple #[.string X, .int .i64 0]) := by
          rw [hE.out]
          unfold wrE
          have q := bad1_all hall.out
          have := hXe.out
          rw [List.take_length] at this
          rw [q, if_pos rfl, ← this, strL_toL]
        subst eE
        clear hE hXe hall hc
        go_wp2
        go_ret2
        exact ⟨rfl, bel.out⟩
end Go.Proofs.YtmngpkkpkjnejaaDoor
