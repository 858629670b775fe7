/-
  What the program's own writeFlag and writeRanges put behind a builder's bytes. The builder's text has at most 2^47 bytes; no other condition. What the program's own writeFrame puts behind a builder's bytes, of a right frame. The builder's text has at most 2^47 bytes; no other condition. What the program's own Write, Size and Elicits of frames answer. What Write writes has at most 2^47 bytes; no other condition but the bounds of a frame's numbers.
-/
import Derived.Test.YtmngpkkpkjnejaaDoorFpA
import Derived.Test.YtmngpkkpkjnejaaDoorFrSize
import Derived.Test.YtmngpkkpkjnejaaDoorVaText
import Derived.Test.YtmngpkkpkjnejaaDoorFrLink
import Derived.Test.YtmngpkkpkjnejaaDoorFpC
import Derived.Test.YtmngpkkpkjnejaaDoorFrWrAll
import Derived.Test.YtmngpkkpkjnejaaDoorFrOpen
import Derived.Test.YtmngpkkpkjnejaaDoorFrRow
namespace Go.Proofs.YtmngpkkpkjnejaaDoor
set_option maxRecDepth 100000
open Go.RowKit Go.Sort

theorem pput_ok (n : Int) (w : World) (t : VTab w) (h : 0 ≤ n ∧ n ≤ 4611686018427387903) :
    Calls Tryd.prog 43 #[.int .i64 n] w fun e w' => e = .returned (.string (strL (putI n))) ∧ Below w.heap.size w w' := by
  obtain ⟨m, k, hc, -⟩ := pt_is n.toNat (by omega)
  rw [show ((n.toNat : Nat) : Int) = n by omega] at hc
  refine (put_yes n m k w t hc).mono ?_
  rintro e w' ⟨rfl, b⟩
  refine ⟨?_, b⟩
  congr 2
  exact toL_inj (by rw [link_put hc, toL_strL])
theorem ptext_ok (d : ByteArray) (w : World) (t : VTab w) (h : d.size < 1099511627776) :
    Calls Tryd.prog 45 #[.string d] w fun e w' => e = .returned (.string (strL (putL d.size ++ toL d))) ∧ Below w.heap.size w w' := by
  refine (vtext_ok d w t h).mono ?_
  rintro e w' ⟨rfl, b⟩
  refine ⟨?_, b⟩
  congr 2
  obtain ⟨m, k, hc, e⟩ := pt_is d.size (by omega)
  apply toL_inj
  rw [toL_strL]
  unfold vtx
  rw [toL_append, e, link_put hc]
  rfl
theorem Bd.keep {w w' : World} {B b : Nat} {l : L} (h : Bd w B b l) (k : Below w.heap.size w w') : Bd w' B b l := by
  have hb := h.lt
  have one : ∀ p, Lib.BuilderAtF 55 5 B b p (Lib.byteCells l) w → Lib.BuilderAtF 55 5 B b p (Lib.byteCells l) w' := by
    rintro p ⟨hB, v, hk, hown, hne⟩
    exact ⟨hB, v, (k.block b hb).trans hk, hown.kept (row := none) ⟨k.os, k.tape, k.output, k.size, fun j hj _ => k.block j hj⟩ (by cases hv : v.ownBlock <;> simp), hne⟩
  exact h.elim (fun q => .inl (one _ q)) fun q => .inr (one _ q)
theorem Bk.of {B b : Nat} {w w' : World} (k : Below w.heap.size w w') (hB : B ≤ w.heap.size) : Bk B b w w' :=
  ⟨k.mono hB, fun j _ hj _ _ => (k.block j (heap_lt hj)).trans hj⟩
/-- A builder that is being written; what is older than w0 ends is as it was. -/
structure Ws (w0 w : World) (B b : Nat) (X : L) : Prop where
  bd : Bd w B b X
  le : w0.heap.size ≤ B
  bel : Below w0.heap.size w0 w
theorem Ws.top {w0 w : World} {B b : Nat} {X : L} (h : Ws w0 w B b X) : B ≤ w.heap.size := Nat.le_trans h.bd.ge (Nat.le_of_lt h.bd.lt)
theorem Ws.keep {w0 w w' : World} {B b : Nat} {X : L} (h : Ws w0 w B b X) (k : Below w.heap.size w w') : Ws w0 w' B b X :=
  ⟨h.bd.keep k, h.le, h.bel.trans (k.mono h.bel.size)⟩
theorem Ws.more {w0 w w' : World} {B b : Nat} {X Y : L} (h : Ws w0 w B b X) (k : Bk B b w w') (d : Bd w' B b Y) : Ws w0 w' B b Y :=
  ⟨d, h.le, h.bel.trans (k.bel.mono h.le)⟩
theorem wflag_ok (w0 w : World) (B b : Nat) (X : L) (h : Ws w0 w B b X) (fn : Bool) (hl : X.length + 1 ≤ 140737488355328) :
    Calls Tryd.prog 44 #[.pointer (some ⟨b, 0, none⟩), .bool fn] w fun e w' => e = .returned (.tuple #[]) ∧ Ws w0 w' B b (X ++ [if fn then 1 else 0]) ∧ Bk B b w w' := by
  cases fn
  · have C : Hid _ := wbyte_ok B b X 0 w h.bd hl
    replace h : Hid _ := h
    go_enter Tryd.func44, Tryd.ntmps44
    go_wp2_with fail
    refine Calls.mono C.out ?_
    rintro e w' ⟨rfl, d, k⟩
    have fin : Hid _ := h.out.more k d
    replace k : Hid _ := k
    clear d C
    go_wp2
    go_end0
    exact ⟨rfl, fin.out, k.out⟩
  · have C : Hid _ := wbyte_ok B b X 1 w h.bd hl
    replace h : Hid _ := h
    go_enter Tryd.func44, Tryd.ntmps44
    go_wp2_with fail
    refine Calls.mono C.out ?_
    rintro e w' ⟨rfl, d, k⟩
    have fin : Hid _ := h.out.more k d
    replace k : Hid _ := k
    clear d C
    go_wp2
    go_end0
    exact ⟨rfl, fin.out, k.out⟩
set_option maxHeartbeats 4000000 in
theorem wrng_ok (w0 w : World) (t : VTab w0) (B b : Nat) (X : L) (h : Ws w0 w B b X) (a : Option Addr) (l : List Rg) (cp : Nat) (hr : RgAt w0 (.slice a l.length cp) l) (hl : l.length ≤ 16) (hb : ∀ x ∈ l, (0 ≤ x.1 ∧ x.1 ≤ 4611686018427387903) ∧ 0 ≤ x.2 ∧ x.2 ≤ 4611686018427387903) (hX : X.length + 2000 ≤ 140737488355328) :
    Calls Tryd.prog 46 #[.pointer (some ⟨b, 0, none⟩), .slice a l.length cp] w fun e w' => e = .returned (.tuple #[]) ∧ Ws w0 w' B b (X ++ (putL l.length ++ wrRg l)) ∧ Bk B b w w' := by
  have PN : Hid (Calls Tryd.prog 43 #[.int .i64 (l.length : Nat)] w fun e w' => e = .returned (.string (strL (putI (l.length : Nat)))) ∧ Below w.heap.size w w') := pput_ok l.length w (t.below h.bel) (by omega)
  have pe : putI (l.length : Nat) = putL l.length := rfl
  have n0 : (strL (putI (l.length : Nat))).size ≤ 8 := by rw [strL_size]; exact put_len _
  have all : ∀ k, k ≤ l.length → (putL l.length ++ wrRg (l.take k)).length ≤ 8 + 16 * k := fun k hk => by
    have q1 := wrRg_le (l.take k)
    have q2 := put_len l.length
    rw [List.length_take, Nat.min_eq_left hk] at q1
    rw [List.length_append]
    omega
  replace all : Hid _ := all
  replace h : Hid _ := h
  replace hr : Hid _ := hr
  replace hb : Hid _ := hb
  replace pe : Hid _ := pe
  replace t : Hid _ := t
  go_enter Tryd.func46, Tryd.ntmps46
  go_wp2_with fail
  refine PN.out.mono ?_
  rintro _ w1 ⟨rfl, b1⟩
  have S1 := h.out.keep b1
  have K1 : Bk B b w w1 := Bk.of b1 h.out.top
  have C1 : Hid _ := wstr_ok B b X (strL (putI (l.length : Nat))) w1 S1.bd (by omega)
  replace S1 : Hid _ := S1
  replace K1 : Hid _ := K1
  clear b1 PN
  go_wp2_with fail
  refine Calls.mono C1.out ?_
  rintro _ w2 ⟨rfl, d2, k2⟩
  have S2 : Ws w0 w2 B b (X ++ (putL l.length ++ wrRg (l.take 0))) := S1.out.more k2 (by simpa [wrRg, toL_strL, putI] using d2)
  have K2 : Bk B b w w2 := K1.out.trans k2
  replace S2 : Hid _ := S2
  replace K2 : Hid _ := K2
  clear d2 k2 C1 S1 K1 n0 pe h
  go_wp2
  go_loopg [13] l.length (fun g' iv wr => ∃ k : Nat, k + g' = l.length ∧ iv = .int .i64 k ∧ Hid (Ws w0 wr B b (X ++ (putL l.length ++ wrRg (l.take k)))) ∧ Hid (Bk B b w wr))
  case atStart => exact ⟨0, by omega, rfl, S2, K2⟩
  case round =>
    obtain ⟨k, hk, rfl, S, K⟩ := hrel
    clear S2 K2
    by_cases hlt : k < l.length
    · have g1 : decide ((k : Int) < (l.length : Int)) = true := decide_eq_true (by omega)
      obtain ⟨a', cp', ea, hc⟩ := hr.out
      injection ea with ea1 _ ea2
      subst ea1 ea2
      rcases hc with hc | ⟨g, p, rfl, hc⟩
      · rw [hc] at hlt; simp at hlt
      · obtain ⟨e1, e2⟩ := hc k hlt
        have y1 := (S.out.bel.cell (World.block_lt_of_cell? w0 _ e1)).trans e1
        have y2 := (S.out.bel.cell (World.block_lt_of_cell? w0 _ e2)).trans e2
        have hin := hb.out (l.getD k (0, 0)) (by simp [List.getD, List.getElem?_eq_getElem hlt])
        have wt := wrRg_take l k hlt
        have ia := fun w' => at_rgs g p l.length cp k w' hlt (k : Int) rfl (p + 2 * k) rfl
        have lim := all.out k (Nat.le_of_lt hlt)
        clear e1 e2 hc
        generalize (l.getD k (0, 0)).1 = lo at *
        generalize (l.getD k (0, 0)).2 = hi at *
        generalize hY : X ++ (putL l.length ++ wrRg (l.take k)) = Y at *
        have hYl : Y.length ≤ X.length + (8 + 16 * k) := by rw [← hY, List.length_append]; omega
        have eY : X ++ (putL l.length ++ wrRg (l.take (k + 1))) = Y ++ putI hi ++ putI lo := by rw [wt, ← hY]; simp only [List.append_assoc]
        have n1 : (strL (putI hi)).size ≤ 8 := by rw [strL_size]; exact put_len _
        have n2 : (strL (putI lo)).size ≤ 8 := by rw [strL_size]; exact put_len _
        have n3 : (putI hi).length ≤ 8 := put_len _
        have P1 : Hid (∀ w, VTab w → Calls Tryd.prog 43 #[.int .i64 hi] w fun e w' => e = .returned (.string (strL (putI hi))) ∧ Below w.heap.size w w') := fun w t => pput_ok hi w t hin.2
        have P2 : Hid (∀ w, VTab w → Calls Tryd.prog 43 #[.int .i64 lo] w fun e w' => e = .returned (.string (strL (putI lo))) ∧ Below w.heap.size w w') := fun w t => pput_ok lo w t hin.1
        replace eY : Hid _ := eY
        clear hY wt lim hin
        have y3 : Hid ((wr.alloc (.cells #[.int .i64 lo, .int .i64 hi] 67)).heap[wr.heap.size]? = some (.cells #[.int .i64 lo, .int .i64 hi] 67 (0, 0))) := heap_alloc_new _ _
        have S3 : Hid (Ws w0 (wr.alloc (.cells #[.int .i64 lo, .int .i64 hi] 67)) B b Y) := S.out.keep ((Below.refl _ _).alloc (Nat.le_refl _) _)
        have K3 : Hid (Bk B b w (wr.alloc (.cells #[.int .i64 lo, .int .i64 hi] 67))) := K.out.trans (Bk.of ((Below.refl _ _).alloc (Nat.le_refl _) _) S.out.top)
        have neb : Hid (wr.heap.size ≠ b) := by have := S.out.bd.lt; unfold Hid; omega
        go_wp2_with fail
        generalize wr.alloc (.cells #[.int .i64 lo, .int .i64 hi] 67) = w3 at *
        refine (P1.out _ (t.out.below S3.out.bel)).mono ?_
        rintro _ w4 ⟨rfl, b4⟩
        have S4 := S3.out.keep b4
        have K4 : Hid _ := K3.out.trans (Bk.of b4 S3.out.top)
        have y4 : Hid _ := (b4.block _ (heap_lt y3.out)).trans y3.out
        have C4 : Hid _ := wstr_ok B b Y (strL (putI hi)) w4 S4.bd (by omega)
        replace S4 : Hid _ := S4
        clear b4 S3 K3 y3 P1 y1 y2 ia
        go_wp2_with fail
        refine Calls.mono C4.out ?_
        rintro _ w5 ⟨rfl, d5, k5⟩
        have S5 : Hid (Ws w0 w5 B b (Y ++ putI hi)) := S4.out.more k5 d5
        have K5 : Hid _ := K4.out.trans k5
        have y5 : w5.heap[wr.heap.size]? = some (.cells #[.int .i64 lo, .int .i64 hi] 67 (0, 0)) := k5.oth _ _ y4.out (by simpa using neb.out) (by intro c fz q; injection q with _ q _; exact absurd q (by decide))
        have c5 : w5.cell? ⟨wr.heap.size, 0, none⟩ = some (.int .i64 lo) := by rw [Lib.cell_of_heap y5]; rfl
        replace y5 : Hid _ := y5
        clear d5 k5 C4 S4 K4 y4
        go_wp2_with fail
        refine (P2.out _ (t.out.below S5.out.bel)).mono ?_
        rintro _ w6 ⟨rfl, b6⟩
        have S6 := S5.out.keep b6
        have K6 : Hid _ := K5.out.trans (Bk.of b6 S5.out.top)
        have C6 : Hid _ := wstr_ok B b (Y ++ putI hi) (strL (putI lo)) w6 S6.bd (by rw [List.length_append]; omega)
        replace S6 : Hid _ := S6
        clear b6 S5 K5 y5 P2 c5
        go_wp2_with fail
        refine Calls.mono C6.out ?_
        rintro _ w7 ⟨rfl, d7, k7⟩
        have S7 : Ws w0 w7 B b (Y ++ putI hi ++ putI lo) := S6.out.more k7 d7
        rw [← eY.out] at S7
        replace S7 : Hid _ := S7
        have K7 : Hid _ := K6.out.trans k7
        clear d7 k7 C6 S6 K6
        go_wp2
        go_roundg (l.length - (k + 1))
        case measure => omega
        case rel => exact ⟨k + 1, by omega, by go_num, S7, K7⟩
    · have g1 : decide ((k : Int) < (l.length : Int)) = false := decide_eq_false (by omega)
      obtain rfl : k = l.length := by omega
      have fin : Hid (Ws w0 wr B b (X ++ (putL l.length ++ wrRg l))) := by
        have := S.out
        rw [List.take_length] at this
        exact this
      clear S hk
      go_wp2
      go_end0
      exact ⟨rfl, fin.out, K.out⟩
end Go.Proofs.YtmngpkkpkjnejaaDoor
namespace Go.Proofs.YtmngpkkpkjnejaaDoor
set_option maxRecDepth 100000
open Go.RowKit Go.Sort

/-- A field, as it is written. -/
def enc (f : Fr) : Lt → L
  | .inl () => putI f.id
  | .inr (.inl ()) => putI f.off
  | .inr (.inr (.inl ())) => [if f.fin then 1 else 0]
  | .inr (.inr (.inr (.inl ()))) => putI f.code
  | .inr (.inr (.inr (.inr (.inl ())))) => putL f.data.length ++ f.data
  | .inr (.inr (.inr (.inr (.inr ())))) => putL f.rg.length ++ wrRg f.rg
/-- A frame as far as it is written. -/
def wrT (f : Fr) (j : Nat) : L := putI f.kind ++ ((fl f.kind).take j).flatMap (enc f)
theorem wrT_next (f : Fr) {j : Nat} {x : Lt} (h : (fl f.kind)[j]? = some x) : wrT f (j + 1) = wrT f j ++ enc f x := by
  unfold wrT
  rw [List.take_add_one, h]
  simp [List.flatMap_append]
theorem wrT_all (f : Fr) : wrT f (fl f.kind).length = wrF f := by
  unfold wrT wrF
  rw [List.take_length]
  congr 1
  unfold fl
  split
  · simp [enc]
  · split
    · simp [enc]
    · split
      · simp [enc]
      · split
        · simp [enc]
        · split
          · simp [enc]
          · split <;> simp [enc]
theorem wrT_le (f : Fr) (j : Nat) : (wrT f j).length ≤ (wrF f).length := by
  rw [← wrT_all]
  unfold wrT
  rw [List.take_length, List.length_append, List.length_append]
  have e : (fl f.kind).flatMap (enc f) = ((fl f.kind).take j).flatMap (enc f) ++ ((fl f.kind).drop j).flatMap (enc f) := by
    rw [← List.flatMap_append, List.take_append_drop]
  rw [e, List.length_append]
  omega
/-- The walk's own book: the builder, the frame's block, the text's place. -/
structure Wf (w0 w1 w : World) (B b : Nat) (X : L) (l : List Lt) (j : Nat) (cs : Array Value) (I : Nat) : Prop where
  ws : Ws w0 w B b X
  box : w.heap[w1.heap.size]? = some (.cells cs 24 (0, 0))
  it : w.heap[I]? = some (.stringIter (lts l) j)
  bk : Bk B b w1 w
  hb : b < w1.heap.size
  hI : w1.heap.size < I
theorem Wf.step {w0 w1 w w' : World} {B b : Nat} {X Y : L} {l : List Lt} {j : Nat} {cs : Array Value} {I : Nat} (h : Wf w0 w1 w B b X l j cs I) (k : Bk B b w w') (s : Ws w0 w' B b Y) : Wf w0 w1 w' B b Y l j cs I :=
  ⟨s, k.oth _ _ h.box (by have := h.hb; intro q; injection q with q; omega) (by intro c fz q; injection q with _ q _; exact absurd q (by decide)),
    k.oth _ _ h.it (by have := h.hb; have := h.hI; intro q; injection q with q; omega) (by intro c fz q; cases q), h.bk.trans k, h.hb, h.hI⟩
theorem Wf.keep {w0 w1 w w' : World} {B b : Nat} {X : L} {l : List Lt} {j : Nat} {cs : Array Value} {I : Nat} (h : Wf w0 w1 w B b X l j cs I) (k : Below w.heap.size w w') : Wf w0 w1 w' B b X l j cs I :=
  h.step (Bk.of k h.ws.top) (h.ws.keep k)
theorem Wf.next {w0 w1 w : World} {B b : Nat} {X : L} {l : List Lt} {j : Nat} {cs : Array Value} {I : Nat} (h : Wf w0 w1 w B b X l j cs I) : Wf w0 w1 (itW w I (lts l) (j + 1)) B b X l (j + 1) cs I := by
  have hb := h.hb
  have hI := h.hI
  have hB : B ≤ b := h.ws.bd.ge
  have hI' := heap_lt h.it
  have bel : Below B w (itW w I (lts l) (j + 1)) := below_it (Below.refl _ _) (by omega)
  have oth : ∀ k, k ≠ I → (itW w I (lts l) (j + 1)).heap[k]? = w.heap[k]? := fun k hk => itW_other hk
  have bd : Bd (itW w I (lts l) (j + 1)) B b X := by
    have one : ∀ p, Lib.BuilderAtF 55 5 B b p (Lib.byteCells X) w → Lib.BuilderAtF 55 5 B b p (Lib.byteCells X) (itW w I (lts l) (j + 1)) := by
      rintro p ⟨q1, v, hk, hown, hne⟩
      refine ⟨q1, v, (oth b (by omega)).trans hk, hown.kept (row := some I) ⟨rfl, rfl, rfl, by rw [itW_size]; exact Nat.le_refl _, fun k _ hk => oth k (fun e => hk (by rw [e]))⟩ (Or.inr fun e => ?_), hne⟩
      rcases hown.2 with ⟨rfl, _⟩ | ⟨g, cap, cur, fz, rfl, _, hg, _⟩
      · simp [Value.ownBlock] at e
      · simp only [Value.ownBlock, Option.some.injEq] at e
        rw [e, h.it] at hg
        cases hg
    exact h.ws.bd.elim (fun q => .inl (one _ q)) fun q => .inr (one _ q)
  exact ⟨⟨bd, h.ws.le, h.ws.bel.trans (bel.mono h.ws.le)⟩, (oth _ (by omega)).trans h.box, itW_self hI', ⟨h.bk.bel.trans bel, fun k o hk hne ho => (oth k (by have := heap_lt hk; omega)).trans (h.bk.oth k o hk hne ho)⟩, hb, hI⟩
theorem Wf.iter {w0 w1 w : World} {B b : Nat} {X : L} {cs : Array Value} (ws : Ws w0 w B b X) (box : w.heap[w1.heap.size]? = some (.cells cs 24 (0, 0))) (bk : Bk B b w1 w) (hb : b < w1.heap.size) (l : List Lt) : Wf w0 w1 (w.iter (lts l) 0) B b X l 0 cs w.heap.size := by
  have al : Below w.heap.size w (w.iter (lts l) 0) := (Below.refl _ _).alloc (Nat.le_refl _) _
  have hlt := heap_lt box
  exact ⟨ws.keep al, (al.block _ hlt).trans box, World.iter_heap _ _ _, bk.trans (Bk.of al ws.top), hb, hlt⟩
theorem fl_r {k : Int} {j : Nat} (h : (fl k)[j]? = some Lt.r) : k = 2 := by
  unfold fl at h
  split at h
  · assumption
  · exfalso
    repeat' split at h
    all_goals
      rcases j with _ | _ | _ | _ | j <;> simp at h
set_option maxHeartbeats 4000000 in
theorem wframe_ok (w0 w : World) (t : VTab w0) (B b : Nat) (X : L) (h : Ws w0 w B b X) (f : Fr) (d : ByteArray) (a : Option Addr) (cp : Nat) (hd : toL d = f.data) (hr : RgAt w0 (.slice a f.rg.length cp) f.rg) (R : Rt f) (hX : X.length + 4000 ≤ 140737488355328) :
    Calls Tryd.prog 32 #[.pointer (some ⟨b, 0, none⟩), frV f d (.slice a f.rg.length cp)] w fun e w' => e = .returned (.tuple #[]) ∧ Ws w0 w' B b (X ++ wrF f) ∧ Bk B b w w' := by
  have hk0 : 0 ≤ f.kind ∧ f.kind ≤ 4611686018427387903 := by
    rcases kind_iff.1 R.kind with e | e | e | e | e | e | e | e <;> rw [e] <;> omega
  have PK : Hid (∀ w, VTab w → Calls Tryd.prog 43 #[.int .i64 f.kind] w fun e w' => e = .returned (.string (strL (putI f.kind))) ∧ Below w.heap.size w w') := fun w t => pput_ok f.kind w t hk0
  have FO : Hid (∀ w, Calls Tryd.prog 22 #[.int .i64 f.kind] w fun e w' => e = .returned (.tuple #[.string (lts (fl f.kind)), .bool (kindB f.kind)]) ∧ w' = w) := fun w => fieldsOf_ok f.kind w
  have RG : Hid (f.kind = 2 → f.rg.length ≤ 16 ∧ ∀ x ∈ f.rg, (0 ≤ x.1 ∧ x.1 ≤ 4611686018427387903) ∧ 0 ≤ x.2 ∧ x.2 ≤ 4611686018427387903) := fun e => rg_in (R.rg e).2
  have le := wrF_le R
  have hlenA : Hid (∀ j, (X ++ wrT f j).length ≤ X.length + 2000) := fun j => by
    have := wrT_le f j
    rw [List.length_append]
    omega
  have hdz : Hid (d.size < 1099511627776) := by
    have := R.long
    rw [← hd, toL_len] at this
    unfold Hid
    omega
  have pk8 : (putI f.kind).length ≤ 8 := put_len _
  have hb : b < w.heap.size := h.bd.lt
  have al : Below w.heap.size w (w.alloc (.cells #[.int .i64 f.kind, .int .i64 f.id, .int .i64 f.off, .bool f.fin, .int .i64 f.code, .string d, .slice a f.rg.length cp] 24)) := (Below.refl _ _).alloc (Nat.le_refl _) _
  have S1 : Hid (Ws w0 (w.alloc (.cells #[.int .i64 f.kind, .int .i64 f.id, .int .i64 f.off, .bool f.fin, .int .i64 f.code, .string d, .slice a f.rg.length cp] 24)) B b X) := h.keep al
  have K1 : Hid (Bk B b w (w.alloc (.cells #[.int .i64 f.kind, .int .i64 f.id, .int .i64 f.off, .bool f.fin, .int .i64 f.code, .string d, .slice a f.rg.length cp] 24))) := Bk.of al h.top
  have x1 : Hid ((w.alloc (.cells #[.int .i64 f.kind, .int .i64 f.id, .int .i64 f.off, .bool f.fin, .int .i64 f.code, .string d, .slice a f.rg.length cp] 24)).heap[w.heap.size]? = some (.cells #[.int .i64 f.kind, .int .i64 f.id, .int .i64 f.off, .bool f.fin, .int .i64 f.code, .string d, .slice a f.rg.length cp] 24 (0, 0))) := heap_alloc_new _ _
  replace R : Hid _ := R
  replace t : Hid _ := t
  replace hd : Hid _ := hd
  replace hr : Hid _ := hr
  replace h : Hid _ := h
  replace hb : Hid _ := hb
  replace pk8 : Hid _ := pk8
  replace hX : Hid _ := hX
  clear al hk0 le
  unfold frV
  go_enter Tryd.func32, Tryd.ntmps32
  go_wp2_with fail
  generalize w.alloc (.cells #[.int .i64 f.kind, .int .i64 f.id, .int .i64 f.off, .bool f.fin, .int .i64 f.code, .string d, .slice a f.rg.length cp] 24) = w1 at *
  refine (PK.out _ (t.out.below S1.out.bel)).mono ?_
  rintro _ w2 ⟨rfl, b2⟩
  have S2 := S1.out.keep b2
  have K2 : Hid _ := K1.out.trans (Bk.of b2 S1.out.top)
  have x2 : Hid _ := (b2.block _ (heap_lt x1.out)).trans x1.out
  have C2 : Hid _ := wstr_ok B b X (strL (putI f.kind)) w2 S2.bd (by have := pk8.out; have := hX.out; rw [strL_size]; omega)
  replace S2 : Hid _ := S2
  clear b2 S1 K1 x1 PK
  go_wp2_with fail
  refine Calls.mono C2.out ?_
  rintro _ w3 ⟨rfl, d3, k3⟩
  have S3 : Hid (Ws w0 w3 B b (X ++ putI f.kind)) := S2.out.more k3 d3
  have K3 : Hid _ := K2.out.trans k3
  have x3 : w3.heap[w.heap.size]? = some (.cells #[.int .i64 f.kind, .int .i64 f.id, .int .i64 f.off, .bool f.fin, .int .i64 f.code, .string d, .slice a f.rg.length cp] 24 (0, 0)) := k3.oth _ _ x2.out (by have := hb.out; intro q; injection q with q; omega) (by intro c fz q; injection q with _ q _; exact absurd q (by decide))
  have c3 : w3.cell? ⟨w.heap.size, 0, none⟩ = some (.int .i64 f.kind) := by rw [Lib.cell_of_heap x3]; rfl
  have z0 : Hid (Wf w0 w (w3.iter (lts (fl f.kind)) 0) B b (X ++ wrT f 0) (fl f.kind) 0 #[.int .i64 f.kind, .int .i64 f.id, .int .i64 f.off, .bool f.fin, .int .i64 f.code, .string d, .slice a f.rg.length cp] w3.heap.size) := by
    have := Wf.iter (w1 := w) S3.out x3 K3.out hb.out (fl f.kind)
    have e : wrT f 0 = putI f.kind := by simp [wrT]
    rw [e]
    exact this
  clear d3 k3 C2 S2 K2 x2 x3
  go_wp2_with fail
  refine (FO.out _).mono ?_
  rintro _ w4 ⟨rfl, rfl⟩
  go_wp2
  generalize w4.heap.size = I at *
  generalize w4.iter (lts (fl f.kind)) 0 = w5 at *
  go_loopg [] (fl f.kind).length (fun g' wr => ∃ j : Nat, j + g' = (fl f.kind).length ∧ Hid (Wf w0 w wr B b (X ++ wrT f j) (fl f.kind) j #[.int .i64 f.kind, .int .i64 f.id, .int .i64 f.off, .bool f.fin, .int .i64 f.code, .string d, .slice a f.rg.length cp] I))
  case atStart => exact ⟨0, by omega, z0⟩
  case round =>
    obtain ⟨j, hj, W⟩ := hrel
    clear z0 S3 K3 c3
    rcases Nat.lt_or_ge j (fl f.kind).length with hlt | hge
    · have hx : (fl f.kind)[j]? = some (fl f.kind)[j] := List.getElem?_eq_getElem hlt
      have W2 := W.out.next
      have hnx0 := fun ty => next_at (P := Tryd.prog) wr I (fl f.kind) j (fl f.kind)[j] ty W.out.it hx
      have hs := wrT_next f hx
      have hlen := hlenA.out (j + 1)
      have hlen2 := hlenA.out j
      have hX2 := hX.out
      replace hlen : Hid ((X ++ wrT f (j + 1)).length ≤ 140737488355328) := by unfold Hid; omega
      replace hlen2 : Hid ((X ++ wrT f j).length + 2000 ≤ 140737488355328) := by unfold Hid; omega
      replace hs : Hid _ := hs
      replace hj : Hid _ := hj
      clear W hX2
      have hk2 : Hid ((fl f.kind)[j]? = some Lt.r → f.kind = 2) := fl_r
      generalize itW wr I (lts (fl f.kind)) (j + 1) = w2 at *
      generalize (fl f.kind)[j] = x at *
      replace hx : Hid _ := hx
      have q0 : w2.cell? ⟨w.heap.size, 0, none⟩ = some (.int .i64 f.kind) := by rw [Lib.cell_of_heap W2.box]; rfl
      have q1 : w2.cell? ⟨w.heap.size, 1, none⟩ = some (.int .i64 f.id) := by rw [Lib.cell_of_heap W2.box]; rfl
      have q2 : w2.cell? ⟨w.heap.size, 2, none⟩ = some (.int .i64 f.off) := by rw [Lib.cell_of_heap W2.box]; rfl
      have q3 : w2.cell? ⟨w.heap.size, 3, none⟩ = some (.bool f.fin) := by rw [Lib.cell_of_heap W2.box]; rfl
      have q4 : w2.cell? ⟨w.heap.size, 4, none⟩ = some (.int .i64 f.code) := by rw [Lib.cell_of_heap W2.box]; rfl
      have q5 : w2.cell? ⟨w.heap.size, 5, none⟩ = some (.string d) := by rw [Lib.cell_of_heap W2.box]; rfl
      have q6 : w2.cell? ⟨w.heap.size, 6, none⟩ = some (.slice a f.rg.length cp) := by rw [Lib.cell_of_heap W2.box]; rfl
      replace W2 : Hid _ := W2
      rcases x with ⟨⟨⟩⟩ | ⟨⟨⟩⟩ | ⟨⟨⟩⟩ | ⟨⟨⟩⟩ | ⟨⟨⟩⟩ | ⟨⟨⟩⟩
      · have hnx : ∀ ty, _ := fun ty => hnx0 ty
        simp only [Lt.n] at hnx
        clear hnx0
        have P1 : Hid (∀ w, VTab w → Calls Tryd.prog 43 #[.int .i64 f.id] w fun e w' => e = .returned (.string (strL (putI f.id))) ∧ Below w.heap.size w w') := fun w t => pput_ok f.id w t R.out.id
        go_wp2_with fail
        refine (P1.out _ (t.out.below W2.out.ws.bel)).mono ?_
        rintro _ w3 ⟨rfl, b3⟩
        have W3 := W2.out.keep b3
        have C3 : Hid _ := wstr_ok B b (X ++ wrT f j) (strL (putI f.id)) w3 W3.ws.bd (by have := hlen.out; rw [hs.out, List.length_append, List.length_append] at this; rw [List.length_append, strL_size]; simp only [enc] at this; omega)
        replace W3 : Hid _ := W3
        clear b3 P1 q0 q1 q2 q3 q4 q5 q6
        go_wp2_with fail
        refine Calls.mono C3.out ?_
        rintro _ w4 ⟨rfl, d4, k4⟩
        have W4 := W3.out.step k4 (W3.out.ws.more k4 d4)
        have W9 : Wf w0 w w4 B b (X ++ wrT f (j + 1)) (fl f.kind) (j + 1) #[.int .i64 f.kind, .int .i64 f.id, .int .i64 f.off, .bool f.fin, .int .i64 f.code, .string d, .slice a f.rg.length cp] I := by
          rw [hs.out, ← List.append_assoc]
          exact W4
        replace W9 : Hid _ := W9
        clear W3 W4 d4 k4 C3
        clear hs hlen W2
        go_wp2
        go_roundg ((fl f.kind).length - (j + 1))
        case measure => have := hj.out; omega
        case rel => exact ⟨j + 1, by have := hj.out; omega, W9⟩
      · have hnx : ∀ ty, _ := fun ty => hnx0 ty
        simp only [Lt.n] at hnx
        clear hnx0
        have P1 : Hid (∀ w, VTab w → Calls Tryd.prog 43 #[.int .i64 f.off] w fun e w' => e = .returned (.string (strL (putI f.off))) ∧ Below w.heap.size w w') := fun w t => pput_ok f.off w t R.out.off
        go_wp2_with fail
        refine (P1.out _ (t.out.below W2.out.ws.bel)).mono ?_
        rintro _ w3 ⟨rfl, b3⟩
        have W3 := W2.out.keep b3
        have C3 : Hid _ := wstr_ok B b (X ++ wrT f j) (strL (putI f.off)) w3 W3.ws.bd (by have := hlen.out; rw [hs.out, List.length_append, List.length_append] at this; rw [List.length_append, strL_size]; simp only [enc] at this; omega)
        replace W3 : Hid _ := W3
        clear b3 P1 q0 q1 q2 q3 q4 q5 q6
        go_wp2_with fail
        refine Calls.mono C3.out ?_
        rintro _ w4 ⟨rfl, d4, k4⟩
        have W4 := W3.out.step k4 (W3.out.ws.more k4 d4)
        have W9 : Wf w0 w w4 B b (X ++ wrT f (j + 1)) (fl f.kind) (j + 1) #[.int .i64 f.kind, .int .i64 f.id, .int .i64 f.off, .bool f.fin, .int .i64 f.code, .string d, .slice a f.rg.length cp] I := by
          rw [hs.out, ← List.append_assoc]
          exact W4
        replace W9 : Hid _ := W9
        clear W3 W4 d4 k4 C3
        clear hs hlen W2
        go_wp2
        go_roundg ((fl f.kind).length - (j + 1))
        case measure => have := hj.out; omega
        case rel => exact ⟨j + 1, by have := hj.out; omega, W9⟩
      · have hnx : ∀ ty, _ := fun ty => hnx0 ty
        simp only [Lt.n] at hnx
        clear hnx0
        have C3 : Hid _ := wflag_ok w0 w2 B b (X ++ wrT f j) W2.out.ws f.fin (by have := hlen.out; rw [hs.out, List.length_append, List.length_append] at this; rw [List.length_append]; simp only [enc, List.length_singleton] at this; omega)
        go_wp2_with fail
        refine Calls.mono C3.out ?_
        rintro _ w4 ⟨rfl, d4, k4⟩
        have W4 := W2.out.step k4 d4
        have W9 : Wf w0 w w4 B b (X ++ wrT f (j + 1)) (fl f.kind) (j + 1) #[.int .i64 f.kind, .int .i64 f.id, .int .i64 f.off, .bool f.fin, .int .i64 f.code, .string d, .slice a f.rg.length cp] I := by
          rw [hs.out, ← List.append_assoc]
          exact W4
        replace W9 : Hid _ := W9
        clear W4 d4 k4 C3 q0 q1 q2 q3 q4 q5 q6
        clear hs hlen W2
        go_wp2
        go_roundg ((fl f.kind).length - (j + 1))
        case measure => have := hj.out; omega
        case rel => exact ⟨j + 1, by have := hj.out; omega, W9⟩
      · have hnx : ∀ ty, _ := fun ty => hnx0 ty
        simp only [Lt.n] at hnx
        clear hnx0
        have P1 : Hid (∀ w, VTab w → Calls Tryd.prog 43 #[.int .i64 f.code] w fun e w' => e = .returned (.string (strL (putI f.code))) ∧ Below w.heap.size w w') := fun w t => pput_ok f.code w t R.out.code
        go_wp2_with fail
        refine (P1.out _ (t.out.below W2.out.ws.bel)).mono ?_
        rintro _ w3 ⟨rfl, b3⟩
        have W3 := W2.out.keep b3
        have C3 : Hid _ := wstr_ok B b (X ++ wrT f j) (strL (putI f.code)) w3 W3.ws.bd (by have := hlen.out; rw [hs.out, List.length_append, List.length_append] at this; rw [List.length_append, strL_size]; simp only [enc] at this; omega)
        replace W3 : Hid _ := W3
        clear b3 P1 q0 q1 q2 q3 q4 q5 q6
        go_wp2_with fail
        refine Calls.mono C3.out ?_
        rintro _ w4 ⟨rfl, d4, k4⟩
        have W4 := W3.out.step k4 (W3.out.ws.more k4 d4)
        have W9 : Wf w0 w w4 B b (X ++ wrT f (j + 1)) (fl f.kind) (j + 1) #[.int .i64 f.kind, .int .i64 f.id, .int .i64 f.off, .bool f.fin, .int .i64 f.code, .string d, .slice a f.rg.length cp] I := by
          rw [hs.out, ← List.append_assoc]
          exact W4
        replace W9 : Hid _ := W9
        clear W3 W4 d4 k4 C3
        clear hs hlen W2
        go_wp2
        go_roundg ((fl f.kind).length - (j + 1))
        case measure => have := hj.out; omega
        case rel => exact ⟨j + 1, by have := hj.out; omega, W9⟩
      · have hnx : ∀ ty, _ := fun ty => hnx0 ty
        simp only [Lt.n] at hnx
        clear hnx0
        have P1 : Hid (∀ w, VTab w → Calls Tryd.prog 45 #[.string d] w fun e w' => e = .returned (.string (strL (putL d.size ++ toL d))) ∧ Below w.heap.size w w') := fun w t => ptext_ok d w t hdz.out
        go_wp2_with fail
        refine (P1.out _ (t.out.below W2.out.ws.bel)).mono ?_
        rintro _ w3 ⟨rfl, b3⟩
        have W3 := W2.out.keep b3
        have en : enc f Lt.d = putL d.size ++ toL d := by simp only [enc]; rw [← hd.out, toL_len]
        have C3 : Hid _ := wstr_ok B b (X ++ wrT f j) (strL (putL d.size ++ toL d)) w3 W3.ws.bd (by have := hlen.out; rw [hs.out, List.length_append, List.length_append, en] at this; rw [List.length_append, strL_size]; omega)
        replace W3 : Hid _ := W3
        replace en : Hid _ := en
        clear b3 P1 q0 q1 q2 q3 q4 q5 q6
        go_wp2_with fail
        refine Calls.mono C3.out ?_
        rintro _ w4 ⟨rfl, d4, k4⟩
        have W4 := W3.out.step k4 (W3.out.ws.more k4 d4)
        have W9 : Wf w0 w w4 B b (X ++ wrT f (j + 1)) (fl f.kind) (j + 1) #[.int .i64 f.kind, .int .i64 f.id, .int .i64 f.off, .bool f.fin, .int .i64 f.code, .string d, .slice a f.rg.length cp] I := by
          rw [hs.out, en.out, ← List.append_assoc]
          exact W4
        replace W9 : Hid _ := W9
        clear W3 W4 d4 k4 C3 en
        clear hs hlen W2
        go_wp2
        go_roundg ((fl f.kind).length - (j + 1))
        case measure => have := hj.out; omega
        case rel => exact ⟨j + 1, by have := hj.out; omega, W9⟩
      · have hnx : ∀ ty, _ := fun ty => hnx0 ty
        simp only [Lt.n] at hnx
        clear hnx0
        have C3 : Hid _ := wrng_ok w0 w2 t.out B b (X ++ wrT f j) W2.out.ws a f.rg cp hr.out (RG.out (hk2.out hx.out)).1 (RG.out (hk2.out hx.out)).2 hlen2.out
        go_wp2_with fail
        refine Calls.mono C3.out ?_
        rintro _ w4 ⟨rfl, d4, k4⟩
        have W4 := W2.out.step k4 d4
        have W9 : Wf w0 w w4 B b (X ++ wrT f (j + 1)) (fl f.kind) (j + 1) #[.int .i64 f.kind, .int .i64 f.id, .int .i64 f.off, .bool f.fin, .int .i64 f.code, .string d, .slice a f.rg.length cp] I := by
          rw [hs.out, ← List.append_assoc]
          exact W4
        replace W9 : Hid _ := W9
        clear W4 d4 k4 C3 q0 q1 q2 q3 q4 q5 q6
        clear hs hlen W2
        go_wp2
        go_roundg ((fl f.kind).length - (j + 1))
        case measure => have := hj.out; omega
        case rel => exact ⟨j + 1, by have := hj.out; omega, W9⟩
    · obtain rfl : j = (fl f.kind).length := by omega
      have hnx := fun ty => next_end (P := Tryd.prog) wr I (fl f.kind) ty W.out.it
      have S9 : Hid (Ws w0 wr B b (X ++ wrF f)) := by
        have := W.out.ws
        rw [wrT_all] at this
        exact this
      have K9 : Hid _ := W.out.bk
      clear W hj hge
      go_wp2
      go_end0
      exact ⟨rfl, S9.out, K9.out⟩
end Go.Proofs.YtmngpkkpkjnejaaDoor
namespace Go.Proofs.YtmngpkkpkjnejaaDoor
set_option maxRecDepth 100000
open Go.RowKit Go.Sort

theorem pf_check {w : World} {v : Value} {f : Fr} (hf : FrIs w v f) (hb : FrB f) :
    Calls Tryd.prog 9 #[v] w fun e w' => e = .returned (.int .i64 (chkF f)) ∧ Below w.heap.size w w' :=
  fcheck_own hf (by have := hb.data; omega) (by have := hb.rgs; omega) fun x hx => hb.rg x hx
theorem wrAll_le (l : List Fr) (h : ∀ f ∈ l, Rt f) : (wrAll l).length ≤ 2000 * l.length := by
  induction l with
  | nil => simp [wrAll]
  | cons f l ih =>
    have e : wrAll (f :: l) = wrF f ++ wrAll l := rfl
    have q1 := wrF_le (h f (List.mem_cons_self ..))
    have q2 := ih fun g hg => h g (List.mem_cons_of_mem _ hg)
    rw [e, List.length_append, List.length_cons]
    omega
set_option maxHeartbeats 4000000 in
theorem pf_write {w : World} (t : VTab w) {v : Value} {fs : List Fr} (hv : FrsAt w v fs) (hl : fs.length * 2000 + 4000 ≤ 140737488355328) (bl : ∀ f ∈ fs, FrB f) :
    Calls Tryd.prog 16 #[v] w fun e w' => e = wrE fs ∧ Below w.heap.size w w' := by
  obtain ⟨a, cap, rfl, hc⟩ := hv
  replace hc : Hid _ := hc
  replace bl : Hid _ := bl
  obtain ⟨E, hE⟩ : ∃ E, E = wrE fs := ⟨_, rfl⟩
  rw [← hE]
  replace hE : Hid _ := hE
  have S0 : Hid (Ws w (w.alloc (.cells #[.pointer none, .slice none 0 0] 55)) w.heap.size w.heap.size (wrAll (fs.take 0))) := ⟨Bd.new w, Nat.le_refl _, (Below.refl _ _).alloc (Nat.le_refl _) _⟩
  replace t : Hid _ := t
  go_enter Tryd.func16, Tryd.ntmps16
  go_wp2
  generalize w.alloc (.cells #[.pointer none, .slice none 0 0] 55) = w1 at *
  go_loopg [10] fs.length (fun g' iv wr => ∃ k : Nat, k + g' = fs.length ∧ iv = .int .i64 k ∧ Hid (Ws w wr w.heap.size w.heap.size (wrAll (fs.take k))) ∧ Hid (∀ j, j < k → chkF (fs.getD j fr0) = 0))
  case atStart => exact ⟨0, by omega, rfl, S0, fun j hj => by omega⟩
  case round =>
    obtain ⟨k, hk, rfl, S, hall⟩ := hrel
    clear S0
    by_cases hlt : k < fs.length
    · have g1 : decide ((k : Int) < (fs.length : Int)) = true := decide_eq_true (by omega)
      rcases hc.out with hc0 | ⟨g, o, rfl, hc1⟩
      · rw [hc0] at hlt; simp at hlt
      · have F1 := hc1 k hlt
        have m1 := bl.out (fs.getD k fr0) (by simp [List.getD, List.getElem?_eq_getElem hlt])
        have ia := fun w' => at_frs g o fs.length cap k w' hlt (k : Int) rfl (o + 7 * k) rfl
        have wt := wrAll_take fs k hlt
        have wl := wrAll_le (fs.take k) (fun f hf => by
          obtain ⟨j, hj, e⟩ := List.mem_iff_getElem.1 hf
          rw [List.length_take] at hj
          have := hall.out j (by omega)
          rw [List.getElem_take] at e
          rw [List.getD, List.getElem?_eq_getElem (by omega), Option.getD_some, e] at this
          exact chkF_zero.1 this)
        rw [List.length_take, Nat.min_eq_left (Nat.le_of_lt hlt)] at wl
        have ba : Hid _ := bad1_at (l := fs) k hlt hall.out
        have hall2 : chkF (fs.getD k fr0) = 0 → ∀ j, j < k + 1 → chkF (fs.getD j fr0) = 0 := fun q j hj => by
          by_cases e : j = k
          · rw [e]; exact q
          · exact hall.out j (by omega)
        replace hall2 : Hid _ := hall2
        clear hc1
        generalize fs.getD k fr0 = f at *
        obtain ⟨d, sl, cp, d1, d2, d3⟩ := F1
        obtain ⟨x0, x1, x2, x3, x4, x5, x6⟩ := d3.keep S.out.bel
        clear d3
        have al : Below wr.heap.size wr (wr.alloc (.cells #[.int .i64 f.kind, .int .i64 f.id, .int .i64 f.off, .bool f.fin, .int .i64 f.code, .string d, .slice sl f.rg.length cp] 24)) := (Below.refl _ _).alloc (Nat.le_refl _) _
        have S3 := S.out.keep al
        have IS : FrIs (wr.alloc (.cells #[.int .i64 f.kind, .int .i64 f.id, .int .i64 f.off, .bool f.fin, .int .i64 f.code, .string d, .slice sl f.rg.length cp] 24)) (frV f d (.slice sl f.rg.length cp)) f := ⟨d, sl, cp, rfl, d1, d2.keep S3.bel⟩
        have CK : Hid (Calls Tryd.prog 9 #[.agg #[.int .i64 f.kind, .int .i64 f.id, .int .i64 f.off, .bool f.fin, .int .i64 f.code, .string d, .slice sl f.rg.length cp]] (wr.alloc (.cells #[.int .i64 f.kind, .int .i64 f.id, .int .i64 f.off, .bool f.fin, .int .i64 f.code, .string d, .slice sl f.rg.length cp] 24)) fun e w' => e = .returned (.int .i64 (chkF f)) ∧ Below (wr.alloc (.cells #[.int .i64 f.kind, .int .i64 f.id, .int .i64 f.off, .bool f.fin, .int .i64 f.code, .string d, .slice sl f.rg.length cp] 24)).heap.size (wr.alloc (.cells #[.int .i64 f.kind, .int .i64 f.id, .int .i64 f.off, .bool f.fin, .int .i64 f.code, .string d, .slice sl f.rg.length cp] 24)) w') := pf_check IS m1
        have y3 : Hid (Lies (wr.alloc (.cells #[.int .i64 f.kind, .int .i64 f.id, .int .i64 f.off, .bool f.fin, .int .i64 f.code, .string d, .slice sl f.rg.length cp] 24)) wr.heap.size (fc f d (.slice sl f.rg.length cp))) := Lies.new wr _ _
        replace S3 : Hid _ := S3
        clear al IS m1
        by_cases h : chkF f = 0
        · have R : Hid _ := chkF_zero.1 h
          rw [h] at CK
          have h2 : Hid (∀ j, j < k + 1 → chkF (fs.getD j fr0) = 0) := hall2.out h
          replace wt : Hid _ := wt
          replace d1 : Hid _ := d1
          replace d2 : Hid _ := d2
          have hlim : (wrAll (fs.take k)).length + 4000 ≤ 140737488355328 := by omega
          clear h ba hall hall2 wl S
          go_wp2_with fail
          generalize wr.alloc (.cells #[.int .i64 f.kind, .int .i64 f.id, .int .i64 f.off, .bool f.fin, .int .i64 f.code, .string d, .slice sl f.rg.length cp] 24) = w3 at *
          refine Calls.mono CK.out ?_
          rintro _ w4 ⟨rfl, b4⟩
          have S4 := S3.out.keep b4
          have y4 := y3.out.keep (by show 0 < 7; decide) b4
          have WR : Hid (Calls Tryd.prog 32 #[.pointer (some ⟨w.heap.size, 0, none⟩), .agg #[.int .i64 f.kind, .int .i64 f.id, .int .i64 f.off, .bool f.fin, .int .i64 f.code, .string d, .slice sl f.rg.length cp]] w4 fun e w' => e = .returned (.tuple #[]) ∧ Ws w w' w.heap.size w.heap.size (wrAll (fs.take k) ++ wrF f) ∧ Bk w.heap.size w.heap.size w4 w') := wframe_ok w w4 t.out w.heap.size w.heap.size _ S4 f d sl cp d1.out d2.out R.out hlim
          clear S4 S3 b4 CK y3 x0 x1 x2 x3 x4 x5 x6
          have q0 := y4.cell 0 (v := .int .i64 f.kind) rfl
          have q1 := y4.cell 1 (v := .int .i64 f.id) rfl
          have q2 := y4.cell 2 (v := .int .i64 f.off) rfl
          have q3 := y4.cell 3 (v := .bool f.fin) rfl
          have q4 := y4.cell 4 (v := .int .i64 f.code) rfl
          have q5 := y4.cell 5 (v := .string d) rfl
          have q6 := y4.cell 6 (v := .slice sl f.rg.length cp) rfl
          clear y4
          go_wp2_with fail
          refine Calls.mono WR.out ?_
          rintro _ w5 ⟨rfl, S5, -⟩
          rw [← wt.out] at S5
          replace S5 : Hid _ := S5
          clear WR q0 q1 q2 q3 q4 q5 q6
          go_wp2
          go_roundg (fs.length - (k + 1))
          case measure => omega
          case rel => exact ⟨k + 1, by omega, by go_num, S5, h2⟩
        · have eE : E = .returned (.tuple #[.string ⟨#[]⟩, .int .i64 (chkF f)]) := by
            rw [hE.out]
            unfold wrE
            rw [ba.out h, if_neg h]
          have gx : (chkF f != 0) = true := by simp [h]
          generalize chkF f = y at *
          subst eE
          replace h : Hid _ := h
          replace d1 : Hid _ := d1
          replace d2 : Hid _ := d2
          clear wt ba hall hall2 hE wl S y3
          go_wp2_with fail
          generalize wr.alloc (.cells #[.int .i64 f.kind, .int .i64 f.id, .int .i64 f.off, .bool f.fin, .int .i64 f.code, .string d, .slice sl f.rg.length cp] 24) = w3 at *
          refine Calls.mono CK.out ?_
          rintro _ w4 ⟨rfl, b4⟩
          have B4 : Hid (Below w.heap.size w w4) := (S3.out.keep b4).bel
          clear b4 CK S3
          go_wp2
          go_ret2
          exact ⟨rfl, B4.out⟩
    · have g1 : decide ((k : Int) < (fs.length : Int)) = false := decide_eq_false (by omega)
      obtain rfl : k = fs.length := by omega
      have eE : E = .returned (.tuple #[.string (strL (wrAll fs)), .int .i64 0]) := by
        rw [hE.out]
        unfold wrE
        rw [bad1_all hall.out, if_pos rfl]
      subst eE
      have S9 := S.out
      rw [List.take_length] at S9
      have C9 : Hid _ := bstr_ok w.heap.size w.heap.size (wrAll fs) wr S9.bd
      replace S9 : Hid _ := S9
      clear hE S hall hc hk
      go_wp2_with fail
      refine Calls.mono C9.out ?_
      rintro _ w5 ⟨rfl, b5⟩
      have B5 : Hid (Below w.heap.size w w5) := S9.out.bel.trans b5
      clear b5 C9 S9
      go_wp2
      go_ret2
      exact ⟨rfl, B5.out⟩
theorem lies_frs {w : World} {B : Nat} {f : Fr} {d : ByteArray} {sl : Option Addr} {cp : Nat} (h : Lies w B (fc f d (.slice sl f.rg.length cp))) (hd : toL d = f.data) (hr : RgAt w (.slice sl f.rg.length cp) f.rg) : FrsAt w (.slice (some ⟨B, 0, none⟩) 1 1) [f] :=
  ⟨_, 1, rfl, .inr ⟨B, 0, rfl, fun k hk => by
    obtain rfl : k = 0 := by simp at hk; omega
    exact ⟨d, sl, cp, hd, hr, h.cell 0 rfl, h.cell 1 rfl, h.cell 2 rfl, h.cell 3 rfl, h.cell 4 rfl, h.cell 5 rfl, h.cell 6 rfl⟩⟩⟩
set_option maxHeartbeats 1000000 in
theorem pf_size {w : World} (t : VTab w) {v : Value} {f : Fr} (hf : FrIs w v f) (hb : FrB f) :
    Calls Tryd.prog 11 #[v] w fun e w' => e = .returned (.int .i64 (sizF f : Nat)) ∧ Below w.heap.size w w' := by
  obtain ⟨d, sl, cp, rfl, hd, hr⟩ := hf
  have b1 : Below w.heap.size w (w.alloc (.cells #[.int .i64 f.kind, .int .i64 f.id, .int .i64 f.off, .bool f.fin, .int .i64 f.code, .string d, .slice sl f.rg.length cp] 24)) := (Below.refl _ _).alloc (Nat.le_refl _) _
  have b2 : Below w.heap.size w ((w.alloc (.cells #[.int .i64 f.kind, .int .i64 f.id, .int .i64 f.off, .bool f.fin, .int .i64 f.code, .string d, .slice sl f.rg.length cp] 24)).alloc (.cells #[.int .i64 f.kind, .int .i64 f.id, .int .i64 f.off, .bool f.fin, .int .i64 f.code, .string d, .slice sl f.rg.length cp] 24)) := b1.alloc b1.size _
  have z : (w.alloc (.cells #[.int .i64 f.kind, .int .i64 f.id, .int .i64 f.off, .bool f.fin, .int .i64 f.code, .string d, .slice sl f.rg.length cp] 24)).heap.size = w.heap.size + 1 := by simp
  have y := Lies.new (w.alloc (.cells #[.int .i64 f.kind, .int .i64 f.id, .int .i64 f.off, .bool f.fin, .int .i64 f.code, .string d, .slice sl f.rg.length cp] 24)) (fc f d (.slice sl f.rg.length cp)) 24
  rw [z] at y
  have WR : Calls Tryd.prog 16 #[.slice (some ⟨w.heap.size + 1, 0, none⟩) 1 1] ((w.alloc (.cells #[.int .i64 f.kind, .int .i64 f.id, .int .i64 f.off, .bool f.fin, .int .i64 f.code, .string d, .slice sl f.rg.length cp] 24)).alloc (.cells #[.int .i64 f.kind, .int .i64 f.id, .int .i64 f.off, .bool f.fin, .int .i64 f.code, .string d, .slice sl f.rg.length cp] 24)) fun e w' => e = wrE [f] ∧ Below ((w.alloc (.cells #[.int .i64 f.kind, .int .i64 f.id, .int .i64 f.off, .bool f.fin, .int .i64 f.code, .string d, .slice sl f.rg.length cp] 24)).alloc (.cells #[.int .i64 f.kind, .int .i64 f.id, .int .i64 f.off, .bool f.fin, .int .i64 f.code, .string d, .slice sl f.rg.length cp] 24)).heap.size ((w.alloc (.cells #[.int .i64 f.kind, .int .i64 f.id, .int .i64 f.off, .bool f.fin, .int .i64 f.code, .string d, .slice sl f.rg.length cp] 24)).alloc (.cells #[.int .i64 f.kind, .int .i64 f.id, .int .i64 f.off, .bool f.fin, .int .i64 f.code, .string d, .slice sl f.rg.length cp] 24)) w' := pf_write (t.below b2) (lies_frs y hd (hr.keep b2)) (by simp) (fun g hg => by rw [List.mem_singleton.1 hg]; exact hb)
  have es : (if bad1 [f] = 0 then strL (wrAll [f]) else ⟨#[]⟩ : ByteArray).size = sizF f := by
    unfold sizF
    have e1 : bad1 [f] = chkF f := by
      unfold bad1
      split
      · rename_i q; rw [q]; rfl
      · rfl
    rw [e1]
    split
    · rw [strL_size]; simp [wrAll]
    · rfl
  unfold wrE at WR
  generalize (if bad1 [f] = 0 then strL (wrAll [f]) else ⟨#[]⟩ : ByteArray) = Y at *
  generalize bad1 [f] = y0 at *
  rw [← es]
  replace WR : Hid _ := WR
  replace b2 : Hid _ := b2
  clear es b1 z y hd hr hb t
  unfold frV
  go_enter Tryd.func11, Tryd.ntmps11
  go_wp2_with fail
  refine Calls.mono WR.out ?_
  rintro _ w3 ⟨rfl, b3⟩
  have B3 : Hid (Below w.heap.size w w3) := b2.out.trans (b3.mono b2.out.size)
  clear b3 b2 WR
  go_wp2
  go_ret
  exact ⟨rfl, B3.out⟩
set_option maxHeartbeats 1000000 in
theorem pf_elic {w : World} {v : Value} {f : Fr} (hf : FrIs w v f) :
    Calls Tryd.prog 13 #[v] w fun e w' => e = .returned (.bool (elic f)) ∧ Below w.heap.size w w' := by
  obtain ⟨d, a, cp, rfl, -, -⟩ := hf
  obtain ⟨k, i, o, fn, c, dd, rg⟩ := f
  unfold elic frV
  simp only
  have b := (Below.refl w.heap.size w).alloc (Nat.le_refl _) (.cells #[.int .i64 k, .int .i64 i, .int .i64 o, .bool fn, .int .i64 c, .string d, .slice a rg.length cp] 24)
  have FO : Hid (∀ w, Calls Tryd.prog 22 #[.int .i64 k] w fun e w' => e = .returned (.tuple #[.string (lts (fl k)), .bool (kindB k)]) ∧ w' = w) := fun w => fieldsOf_ok k w
  replace b : Hid _ := b
  by_cases k0 : k = 0
  · subst k0
    clear FO
    go_enter Tryd.func13, Tryd.ntmps13
    go_wp2_with fail
    go_ret
    exact ⟨rfl, b.out⟩
  · by_cases k2 : k = 2
    · subst k2
      clear FO
      go_enter Tryd.func13, Tryd.ntmps13
      go_wp2_with fail
      go_ret
      exact ⟨rfl, b.out⟩
    · by_cases k28 : k = 28
      · subst k28
        clear FO
        go_enter Tryd.func13, Tryd.ntmps13
        go_wp2_with fail
        go_ret
        exact ⟨rfl, b.out⟩
      · have g0 : (k == 0) = false := by simp [k0]
        have g2 : (k == 2) = false := by simp [k2]
        have g28 : (k == 28) = false := by simp [k28]
        have e : (kindB k && decide (k ≠ 0) && decide (k ≠ 2) && decide (k ≠ 28)) = kindB k := by simp [k0, k2, k28]
        rw [e]
        clear e k0 k2 k28
        generalize kindB k = kb at *
        go_enter Tryd.func13, Tryd.ntmps13
        go_wp2_with fail
        refine Calls.mono (FO.out _) ?_
        rintro _ _ ⟨rfl, rfl⟩
        go_wp2
        go_ret
        exact ⟨rfl, b.out⟩
end Go.Proofs.YtmngpkkpkjnejaaDoor
