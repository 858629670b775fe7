/-
  One bucket, and two, beside all that was there; the law's own check. No condition.
-/
import Derived.Test.YteednkonmnngkaaBkRef
namespace Go.Proofs.Yteednkonmnngkaa
set_option maxRecDepth 100000
open Go.RowKit

/-- A bucket of the law's own. -/
structure One (w0 w : World) (A : Nat) (s : Bkt) : Prop where
  la : Lies w A s.cells
  ok : s.Ok
  ha : w0.heap.size ≤ A
  bel : Below w0.heap.size w0 w
/-- Two of them. -/
structure Two (w0 w : World) (A : Nat) (s : Bkt) (B : Nat) (t : Bkt) : Prop where
  la : Lies w A s.cells
  lb : Lies w B t.cells
  oa : s.Ok
  ob : t.Ok
  ne : A ≠ B
  ha : w0.heap.size ≤ A
  hb : w0.heap.size ≤ B
  bel : Below w0.heap.size w0 w
theorem cells_pos (s : Bkt) : 0 < s.cells.length := by show 0 < 5; decide
theorem Two.symm {w0 w : World} {A B : Nat} {s t : Bkt} (h : Two w0 w A s B t) : Two w0 w B t A s := ⟨h.lb, h.la, h.ob, h.oa, h.ne.symm, h.hb, h.ha, h.bel⟩
theorem Two.of {w0 w w' : World} {A B : Nat} {s t s' : Bkt} (h : Two w0 w A s B t) (l : Lies w' A s'.cells) (o : s'.Ok) (k : Kept (fun j => j = A) w w') : Two w0 w' A s' B t :=
  ⟨l, h.lb.of_block (k.block B (h.lb.lt (cells_pos _)) (fun e => h.ne e.symm)), o, h.ob, h.ne, h.ha, h.hb, h.bel.trans (k.below h.bel.size fun _ e => e ▸ h.ha)⟩
theorem Two.keep {w0 w w' : World} {A B : Nat} {s t : Bkt} (h : Two w0 w A s B t) (b : Below w.heap.size w w') : Two w0 w' A s B t := h.of (h.la.keep (cells_pos _) b) h.oa (Kept.of _ b)
theorem One.of {w0 w w' : World} {A : Nat} {s s' : Bkt} (h : One w0 w A s) (l : Lies w' A s'.cells) (o : s'.Ok) (k : Kept (fun j => j = A) w w') : One w0 w' A s' :=
  ⟨l, o, h.ha, h.bel.trans (k.below h.bel.size fun _ e => e ▸ h.ha)⟩
theorem One.keep {w0 w w' : World} {A : Nat} {s : Bkt} (h : One w0 w A s) (b : Below w.heap.size w w') : One w0 w' A s := h.of (h.la.keep (cells_pos _) b) h.ok (Kept.of _ b)
theorem one_new (r b : Int) (w0 w : World) (bel : Below w0.heap.size w0 w) :
    Calls Try.prog 6 #[.int .i64 r, .int .i64 b] w fun e w' => ∃ A, e = .returned (.pointer (some ⟨A, 0, none⟩)) ∧ One w0 w' A (bkNew r b) :=
  (bknew_ok r b w).mono fun _ _ ⟨A, e, l, hA, k⟩ => ⟨A, e, l, bkNew_ok r b, Nat.le_trans bel.size hA, bel.trans (k.mono bel.size)⟩
theorem one_tick {w0 w : World} {A : Nat} {s : Bkt} (h : One w0 w A s) (n : Int) :
    Calls Try.prog 8 #[.pointer (some ⟨A, 0, none⟩), .int .i64 n] w fun e w' => e = .returned (.tuple #[]) ∧ One w0 w' A (bkTick s n) :=
  (btick_ok A s n w h.la h.ok).mono fun _ _ ⟨e, l, k⟩ => ⟨e, h.of l (bkTick_ok h.ok n) k⟩
theorem one_take {w0 w : World} {A : Nat} {s : Bkt} (h : One w0 w A s) (n : Int) (hn : -9223372036854775808 ≤ n ∧ n ≤ 9223372036854775807) :
    Calls Try.prog 10 #[.pointer (some ⟨A, 0, none⟩), .int .i64 n] w fun e w' => e = .returned (.bool (bkYes s n)) ∧ One w0 w' A (bkTake s n) :=
  (btake_ok A s n w h.la h.ok hn).mono fun _ _ ⟨e, l, k⟩ => ⟨e, h.of l (bkTake_ok h.ok n) k⟩
theorem one_level {w0 w : World} {A : Nat} {s : Bkt} (h : One w0 w A s) :
    Calls Try.prog 13 #[.pointer (some ⟨A, 0, none⟩)] w fun e w' => e = .returned (.int .i64 s.lv) ∧ w = w' := blevel_ok A s w h.la
theorem two_new (r b : Int) {w0 w : World} {A : Nat} {s : Bkt} (h : One w0 w A s) :
    Calls Try.prog 6 #[.int .i64 r, .int .i64 b] w fun e w' => ∃ B, e = .returned (.pointer (some ⟨B, 0, none⟩)) ∧ Two w0 w' A s B (bkNew r b) :=
  (bknew_ok r b w).mono fun _ _ ⟨B, e, l, hB, k⟩ => ⟨B, e, h.la.keep (cells_pos _) k, l, h.ok, bkNew_ok r b, fun e => by have := h.la.lt (cells_pos _); omega, h.ha, Nat.le_trans h.bel.size hB, h.bel.trans (k.mono h.bel.size)⟩
theorem two_rnew (r b : Int) {w0 w : World} {A : Nat} {s : Bkt} (h : One w0 w A s) :
    Calls Try.prog 7 #[.int .i64 r, .int .i64 b] w fun e w' => ∃ B, e = .returned (.pointer (some ⟨B, 0, none⟩)) ∧ Two w0 w' A s B (bkNew r b) :=
  (rbnew_ok r b w).mono fun _ _ ⟨B, e, l, hB, k⟩ => ⟨B, e, h.la.keep (cells_pos _) k, l, h.ok, bkNew_ok r b, fun e => by have := h.la.lt (cells_pos _); omega, h.ha, Nat.le_trans h.bel.size hB, h.bel.trans (k.mono h.bel.size)⟩
theorem two_tick {w0 w : World} {A B : Nat} {s t : Bkt} (h : Two w0 w A s B t) (n : Int) :
    Calls Try.prog 8 #[.pointer (some ⟨A, 0, none⟩), .int .i64 n] w fun e w' => e = .returned (.tuple #[]) ∧ Two w0 w' A (bkTick s n) B t :=
  (btick_ok A s n w h.la h.oa).mono fun _ _ ⟨e, l, k⟩ => ⟨e, h.of l (bkTick_ok h.oa n) k⟩
theorem two_take {w0 w : World} {A B : Nat} {s t : Bkt} (h : Two w0 w A s B t) (n : Int) (hn : -9223372036854775808 ≤ n ∧ n ≤ 9223372036854775807) :
    Calls Try.prog 10 #[.pointer (some ⟨A, 0, none⟩), .int .i64 n] w fun e w' => e = .returned (.bool (bkYes s n)) ∧ Two w0 w' A (bkTake s n) B t :=
  (btake_ok A s n w h.la h.oa hn).mono fun _ _ ⟨e, l, k⟩ => ⟨e, h.of l (bkTake_ok h.oa n) k⟩
theorem two_rtick {w0 w : World} {A B : Nat} {s t : Bkt} (h : Two w0 w A s B t) (n : Int) :
    Calls Try.prog 9 #[.pointer (some ⟨B, 0, none⟩), .int .i64 n] w fun e w' => e = .returned (.tuple #[]) ∧ Two w0 w' A s B (bkTick t n) :=
  (rbtick_ok B t n w h.lb h.ob).mono fun _ _ ⟨e, l, k⟩ => ⟨e, (h.symm.of l (bkTick_ok h.ob n) k).symm⟩
theorem two_rtake {w0 w : World} {A B : Nat} {s t : Bkt} (h : Two w0 w A s B t) (n : Int) :
    Calls Try.prog 11 #[.pointer (some ⟨B, 0, none⟩), .int .i64 n] w fun e w' => e = .returned (.bool (bkYes t n)) ∧ Two w0 w' A s B (bkTake t n) :=
  (rbtake_ok B t n w h.lb h.ob).mono fun _ _ ⟨e, l, k⟩ => ⟨e, (h.symm.of l (bkTake_ok h.ob n) k).symm⟩
theorem two_level {w0 w : World} {A B : Nat} {s t : Bkt} (h : Two w0 w A s B t) :
    Calls Try.prog 13 #[.pointer (some ⟨A, 0, none⟩)] w fun e w' => e = .returned (.int .i64 s.lv) ∧ w = w' := blevel_ok A s w h.la
theorem two_counts {w0 w : World} {A B : Nat} {s t : Bkt} (h : Two w0 w A s B t) :
    Calls Try.prog 12 #[.pointer (some ⟨A, 0, none⟩)] w fun e w' => e = .returned (.tuple #[.int .i64 s.tk, .int .i64 s.nt]) ∧ Two w0 w' A s B t :=
  (bcounts_ok A s w h.la).mono fun _ _ ⟨e, b⟩ => ⟨e, h.keep b⟩
set_option maxHeartbeats 4000000 in
theorem works19_ok (w : World) : Calls Try.prog 14 #[] w fun e w' => e = .returned (.bool true) ∧ Below w.heap.size w w' := by
  have N1 := Lib.hid (one_new 10 100 w w (Below.refl _ _))
  have T := Lib.hid fun (w' : World) (A : Nat) (s : Bkt) (n : Int) (h : One w w' A s) => one_tick h n
  have K := Lib.hid fun (w' : World) (A : Nat) (s : Bkt) (n : Int) (h : One w w' A s) (hn : -9223372036854775808 ≤ n ∧ n ≤ 9223372036854775807) => one_take h n hn
  have L := Lib.hid fun (w' : World) (A : Nat) (s : Bkt) (h : One w w' A s) => one_level h
  have q1 : bkYes (bkNew 10 100) 60 = true := by decide
  have q2 : bkYes (bkTake (bkNew 10 100) 60) 50 = false := by decide
  have q3 : (bkTick (bkTake (bkTake (bkNew 10 100) 60) 50) 1).lv = 50 := by decide
  have q4 : bkYes (bkTick (bkTake (bkTake (bkNew 10 100) 60) 50) 1) 50 = true := by decide
  have q5 : (bkTake (bkTick (bkTake (bkTake (bkNew 10 100) 60) 50) 1) 50).lv = 0 := by decide
  generalize bkNew 10 100 = s0 at *
  have t1 := Lib.hid fun w' A h => K.out w' A s0 60 h (by decide)
  rw [q1] at t1
  generalize bkTake s0 60 = s1 at *
  have t2 := Lib.hid fun w' A h => K.out w' A s1 50 h (by decide)
  rw [q2] at t2
  generalize bkTake s1 50 = s2 at *
  have t3 := Lib.hid fun w' A h => T.out w' A s2 1 h
  generalize bkTick s2 1 = s3 at *
  have t4 := Lib.hid fun w' A h => L.out w' A s3 h
  rw [q3] at t4
  have t5 := Lib.hid fun w' A h => K.out w' A s3 50 h (by decide)
  rw [q4] at t5
  generalize bkTake s3 50 = s4 at *
  have t6 := Lib.hid fun w' A h => L.out w' A s4 h
  rw [q5] at t6
  clear q1 q2 q3 q4 q5 T K L
  go_enter Try.func14, Try.ntmps14
  go_wp2_with fail
  refine N1.out.mono ?_
  rintro e w1 ⟨A, rfl, o⟩
  replace o := Lib.hid o
  go_wp2_with fail
  refine (t1.out _ _ o.out).mono ?_
  rintro e w1 ⟨rfl, o⟩
  replace o := Lib.hid o
  go_wp2_with fail
  refine (t2.out _ _ o.out).mono ?_
  rintro e w1 ⟨rfl, o⟩
  replace o := Lib.hid o
  go_wp2_with fail
  refine (t3.out _ _ o.out).mono ?_
  rintro e w1 ⟨rfl, o⟩
  replace o := Lib.hid o
  go_wp2_with fail
  refine (t4.out _ _ o.out).mono ?_
  rintro e w1 ⟨rfl, rfl⟩
  go_wp2_with fail
  refine (t5.out _ _ o.out).mono ?_
  rintro e w1 ⟨rfl, o⟩
  replace o := Lib.hid o
  go_wp2_with fail
  refine (t6.out _ _ o.out).mono ?_
  rintro e w1 ⟨rfl, rfl⟩
  go_wp2_with fail
  go_ret
  exact ⟨rfl, o.out.bel⟩
end Go.Proofs.Yteednkonmnngkaa
