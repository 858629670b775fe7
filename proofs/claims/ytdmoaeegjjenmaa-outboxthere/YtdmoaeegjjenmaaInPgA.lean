/-
  The program's own stream as it lies in memory; what its New, limit, ended, check and State do; clear of a map from numbers to bytes. No condition but what always holds of a stream.
-/
import Derived.Test.YtdmoaeegjjenmaaInFaceP
namespace Go.Proofs.Ytdmoaeegjjenmaa.ib
set_option maxRecDepth 100000
open Go.RowKit Go.Sort Go.Maps Go.ChangeMaps Go.MapKept

def pxc (m : Nat) (d : Bx) : List Value := [.map (some m), .int .i64 d.most, .int .i64 d.rd, .int .i64 d.size, .bool d.rst]
/-- What the program's map tells: nothing, when it was reset. -/
def gotP (d : Bx) (x : Int) : Option Int := if d.rst = true then none else d.got x
/-- The program's own stream in block B, its map in block m. -/
structure PX (w : World) (B m : Nat) (d : Bx) : Prop where
  led : Lies w B (pxc m d)
  map : ∃ n S, n ≤ d.cnt ∧ MapY w m n S ∧ ∀ x, d.rd ≤ x → S x = gotP d x
  ne : m ≠ B
theorem PX.lt {w : World} {R m : Nat} {d : Bx} (h : PX w R m d) : R < w.heap.size ∧ m < w.heap.size := by
  obtain ⟨n, S, -, h2, -⟩ := h.map
  exact ⟨h.led.lt (by show 0 < 5; decide), h2.lt⟩
theorem PX.of {w w' : World} {R m : Nat} {d : Bx} (h : PX w R m d) (k1 : w'.heap[R]? = w.heap[R]?) (k2 : w'.heap[m]? = w.heap[m]?) : PX w' R m d := by
  obtain ⟨n, S, h1, h2, h3⟩ := h.map
  exact ⟨h.led.of_block k1, ⟨n, S, h1, h2.of_block k2, h3⟩, h.ne⟩
theorem PX.keep {w w' : World} {R m : Nat} {d : Bx} (h : PX w R m d) (b : Below w.heap.size w w') : PX w' R m d := h.of (b.block R h.lt.1) (b.block m h.lt.2)
theorem pnew_ok (w : World) :
    Calls Try.prog 23 #[] w fun e w' => ∃ R m, e = .returned (ptr R) ∧ PX w' R m bx0 ∧ w.heap.size ≤ R ∧ w.heap.size ≤ m ∧ Below w.heap.size w w' := by
  have b1 : Below w.heap.size w (w.alloc (.map #[] 0)) := (Below.refl _ _).alloc (Nat.le_refl _) _
  have b2 := b1.alloc b1.size (.cells #[.map (some w.heap.size), .int .i64 0, .int .i64 0, .int .i64 (-1), .bool false] 74)
  have z : (w.alloc (.map #[] 0)).heap.size = w.heap.size + 1 := by simp
  have L : Hid (PX ((w.alloc (.map #[] 0)).alloc (.cells #[.map (some w.heap.size), .int .i64 0, .int .i64 0, .int .i64 (-1), .bool false] 74)) (w.heap.size + 1) w.heap.size bx0) := by
    have l := Lies.new (w.alloc (.map #[] 0)) (pxc w.heap.size bx0) 74
    rw [z] at l
    refine ⟨l, ⟨0, _, Nat.le_refl _, (MapY.made w).of_block ?_, fun _ _ => rfl⟩, by omega⟩
    exact ((Below.refl (w.alloc (.map #[] 0)).heap.size (w.alloc (.map #[] 0))).alloc (Nat.le_refl _) _).block _ (by omega)
  replace b2 : Hid _ := b2
  have hmm := @run_makeMap Try.prog
  clear b1 z
  go_enter Try.func23, Try.ntmps23
  go_wp2
  go_ret
  exact ⟨_, _, rfl, L.out, by omega, Nat.le_refl _, b2.out⟩
theorem plimit_ok (R m : Nat) (d : Bx) (w : World) (h : PX w R m d) (hd : Bw d) :
    Calls Try.prog 36 #[ptr R] w fun e w' => e = .returned (.int .i64 (lim d)) ∧ w = w' := by
  have c1 := h.led.cell 2 (v := .int .i64 d.rd) rfl
  have h1 := hd.k.rd.1
  have h2 := hd.rd
  unfold lim
  clear h hd
  go_enter Try.func36, Try.ntmps36
  go_wp2
  go_ret
  exact ⟨rfl, rfl⟩
theorem pended_ok (R m : Nat) (d : Bx) (w : World) (h : PX w R m d) :
    Calls Try.prog 37 #[ptr R] w fun e w' => e = .returned (.int .i64 (ended d)) ∧ Below w.heap.size w w' := by
  have c1 := h.led.cell 2 (v := .int .i64 d.rd) rfl
  have c2 := h.led.cell 3 (v := .int .i64 d.size) rfl
  have c4 := h.led.cell 4 (v := .bool d.rst) rfl
  clear h
  unfold ended
  cases hr : d.rst
  · rw [hr] at c4
    rw [if_neg (by decide)]
    by_cases q : d.size = d.rd
    · rw [if_pos q]
      have g : (d.rd == d.size) = true := by simpa using q.symm
      replace q : Hid _ := q
      replace hr : Hid _ := hr
      go_enter Try.func37, Try.ntmps37
      go_wp2
      go_region
      go_wp2
      go_ret
      exact ⟨rfl, drewB _ _⟩
    · rw [if_neg q]
      have g : (d.rd == d.size) = false := by simpa using fun e => q e.symm
      replace q : Hid _ := q
      replace hr : Hid _ := hr
      go_enter Try.func37, Try.ntmps37
      go_wp2
      go_region
      go_wp2
      go_ret
      exact ⟨rfl, drewB _ _⟩
  · rw [hr] at c4
    rw [if_pos rfl]
    replace hr : Hid _ := hr
    go_enter Try.func37, Try.ntmps37
    go_wp2
    go_ret
    exact ⟨rfl, Below.refl _ _⟩
def chkE (d : Bx) (E : Int) (last : Bool) : Int :=
  if lim d < E then 12 else if d.size ≠ -1 ∧ d.size < E then 13 else if last = true ∧ ((d.size ≠ -1 ∧ E ≠ d.size) ∨ E < d.most) then 13 else 0
theorem putE_chk {d : Bx} (h : Bk d) (off : Int) (n : Nat) (fin : Bool) (p : 0 ≤ off ∧ off ≤ 4611686018427387903) : putE d off n fin = chkE d (off + n) fin := by
  have hz : 0 ≤ d.size ↔ d.size ≠ -1 := by have := h.rd; rcases h.size with q | q <;> omega
  unfold putE chkE
  rw [if_neg (by omega)]
  by_cases q : lim d < off + n
  · rw [if_pos q, if_pos q]
  · rw [if_neg q, if_neg q]
    simp only [hz]
    by_cases a : d.size = -1 <;> by_cases b : d.size < off + n <;> cases fin <;> simp [a, b]
    · by_cases c : off + (n : Int) = d.size <;> simp [c]
theorem resE_chk {d : Bx} (h : Bk d) (z : Int) (p : 0 ≤ z ∧ z ≤ 4611686018427387903) : resE d z = chkE d z true := by
  have hz : 0 ≤ d.size ↔ d.size ≠ -1 := by have := h.rd; rcases h.size with q | q <;> omega
  unfold resE chkE
  rw [if_neg (by omega)]
  by_cases q : lim d < z
  · rw [if_pos q, if_pos q]
  · rw [if_neg q, if_neg q]
    simp only [hz]
    by_cases a : d.size = -1 <;> by_cases b : d.size < z <;> simp [a, b]
    · intro c; omega
set_option maxHeartbeats 2000000 in
theorem pcheck_ok (R m : Nat) (d : Bx) (E : Int) (last : Bool) (w : World) (h : PX w R m d) (hd : Bw d) :
    Calls Try.prog 35 #[ptr R, .int .i64 E, .bool last] w fun e w' => e = .returned (.int .i64 (chkE d E last)) ∧ w = w' := by
  have CL : Hid (∀ _ : Unit, _) := fun _ => plimit_ok R m d w h hd
  have c2 := h.led.cell 3 (v := .int .i64 d.size) rfl
  have c3 := h.led.cell 1 (v := .int .i64 d.most) rfl
  clear h hd
  unfold chkE
  generalize lim d = L at *
  generalize d.size = z at *
  generalize d.most = t at *
  by_cases p0 : L < E
  · rw [if_pos p0]
    have g0 : decide (L < E) = true := decide_eq_true p0
    clear c2 c3 p0
    go_enter Try.func35, Try.ntmps35
    go_wp2_with fail
    refine (CL.out ()).mono ?_
    rintro e w1 ⟨rfl, rfl⟩
    go_wp2_with fail
    go_ret
    exact ⟨rfl, rfl⟩
  · rw [if_neg p0]
    have g0 : decide (L < E) = false := decide_eq_false p0
    clear p0
    by_cases p1 : z = -1
    · have g1 : (z != -1) = false := by simpa using p1
      rw [if_neg (fun q => q.1 p1)]
      cases last with
      | false =>
        rw [if_neg (fun q => by cases q.1)]
        clear c3
        replace p1 := Lib.hid p1
        go_enter Try.func35, Try.ntmps35
        go_wp2_with fail
        refine (CL.out ()).mono ?_
        rintro e w1 ⟨rfl, rfl⟩
        go_wp2_with fail
        go_ret
        exact ⟨rfl, rfl⟩
      | true =>
        by_cases p4 : E < t
        · have g4 : decide (E < t) = true := decide_eq_true p4
          rw [if_pos ⟨rfl, .inr p4⟩]
          clear p4
          replace p1 := Lib.hid p1
          go_enter Try.func35, Try.ntmps35
          go_wp2_with fail
          refine (CL.out ()).mono ?_
          rintro e w1 ⟨rfl, rfl⟩
          go_wp2_with fail
          go_ret
          exact ⟨rfl, rfl⟩
        · have g4 : decide (E < t) = false := decide_eq_false p4
          rw [if_neg (fun q => by rcases q.2 with q | q; exact q.1 p1; exact p4 q)]
          clear p4
          replace p1 := Lib.hid p1
          go_enter Try.func35, Try.ntmps35
          go_wp2_with fail
          refine (CL.out ()).mono ?_
          rintro e w1 ⟨rfl, rfl⟩
          go_wp2_with fail
          go_ret
          exact ⟨rfl, rfl⟩
    · have g1 : (z != -1) = true := by simpa using p1
      by_cases p2 : z < E
      · have g2 : decide (z < E) = true := decide_eq_true p2
        rw [if_pos ⟨p1, p2⟩]
        clear c3 p2
        replace p1 := Lib.hid p1
        go_enter Try.func35, Try.ntmps35
        go_wp2_with fail
        refine (CL.out ()).mono ?_
        rintro e w1 ⟨rfl, rfl⟩
        go_wp2_with fail
        go_ret
        exact ⟨rfl, rfl⟩
      · have g2 : decide (z < E) = false := decide_eq_false p2
        rw [if_neg (fun q => p2 q.2)]
        clear p2
        cases last with
        | false =>
          rw [if_neg (fun q => by cases q.1)]
          clear c3
          replace p1 := Lib.hid p1
          go_enter Try.func35, Try.ntmps35
          go_wp2_with fail
          refine (CL.out ()).mono ?_
          rintro e w1 ⟨rfl, rfl⟩
          go_wp2_with fail
          go_ret
          exact ⟨rfl, rfl⟩
        | true =>
          by_cases p3 : E = z
          · have g3 : (E != z) = false := by simpa using p3
            by_cases p4 : E < t
            · have g4 : decide (E < t) = true := decide_eq_true p4
              rw [if_pos ⟨rfl, .inr p4⟩]
              clear p4
              replace p1 := Lib.hid p1
              replace p3 := Lib.hid p3
              go_enter Try.func35, Try.ntmps35
              go_wp2_with fail
              refine (CL.out ()).mono ?_
              rintro e w1 ⟨rfl, rfl⟩
              go_wp2_with fail
              go_ret
              exact ⟨rfl, rfl⟩
            · have g4 : decide (E < t) = false := decide_eq_false p4
              rw [if_neg (fun q => by rcases q.2 with q | q; exact q.2 p3; exact p4 q)]
              clear p4
              replace p1 := Lib.hid p1
              replace p3 := Lib.hid p3
              go_enter Try.func35, Try.ntmps35
              go_wp2_with fail
              refine (CL.out ()).mono ?_
              rintro e w1 ⟨rfl, rfl⟩
              go_wp2_with fail
              go_ret
              exact ⟨rfl, rfl⟩
          · have g3 : (E != z) = true := by simpa using p3
            rw [if_pos ⟨rfl, .inl ⟨p1, p3⟩⟩]
            replace p1 := Lib.hid p1
            replace p3 := Lib.hid p3
            go_enter Try.func35, Try.ntmps35
            go_wp2_with fail
            refine (CL.out ()).mono ?_
            rintro e w1 ⟨rfl, rfl⟩
            go_wp2_with fail
            go_ret
            exact ⟨rfl, rfl⟩
set_option maxHeartbeats 2000000 in
theorem pstate_ok (R m : Nat) (d : Bx) (w : World) (h : PX w R m d) (hd : Bw d) :
    Calls Try.prog 26 #[ptr R] w fun e w' => e = .returned (.tuple #[.int .i64 d.rd, .int .i64 (lim d), .int .i64 (ended d)]) ∧ Below w.heap.size w w' := by
  have c1 := h.led.cell 2 (v := .int .i64 d.rd) rfl
  have k1 := fun d os => cell_regrown (w := w) c1 d os
  have CL : Hid (∀ d' os, _) := fun d' os => Calls.regrown_of (P := Try.prog) (w := w) (d := d') (os := os) ((plimit_ok R m d _ (h.keep (below_regrown w d' os)) hd).mono fun e w' q => ⟨q.1, q.2 ▸ Below.refl _ _⟩)
  have CE : Hid (∀ d' os, _) := fun d' os => Calls.regrown_of (P := Try.prog) (w := w) (d := d') (os := os) (pended_ok R m d _ (h.keep (below_regrown w d' os)))
  clear h hd
  generalize lim d = L at *
  generalize ended d = Z at *
  generalize d.rd = rd at *
  go_enter Try.func26, Try.ntmps26
  go_wp2_with fail
  refine wp_region_quiet_below (by kernel_rfl) (by kernel_rfl) ?_
  repeat (go_big_quiet_step (first | (go_at_call 36; exact CL.out _ _) | (go_at_call 37; exact CE.out _ _)))
  refine wpQuiet_nil ?_
  intro _ hw'
  obtain ⟨⟨dq, osq⟩, hw''⟩ := hw'
  subst hw''
  have b := Lib.hid (below_regrown w dq osq)
  simp only
  generalize Go.Sort.grow (redrawn w dq) osq = w7 at *
  clear CL CE k1 c1
  go_wp2_with fail
  go_ret3
  exact ⟨rfl, b.out⟩
end Go.Proofs.Ytdmoaeegjjenmaa.ib
