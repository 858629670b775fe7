/-
  One window of the program's, and beside it one of the document's: what each call leaves of them. They lean on the contracts of New, Check, See and Top. No condition.
-/
import Derived.Test.YtjdkmjpajijkdaaRpOwn
import Derived.Test.YtjdkmjpajijkdaaRpRefB
namespace Go.Proofs.Ytjdkmjpajijkdaa
set_option maxRecDepth 100000
open Go.RowKit

/-- One window, made after the world w0. -/
structure WInv (w0 w : World) (B : Nat) (l : List Int) : Prop where
  win : WinIs w B l
  ge : w0.heap.size ≤ B
  bel : Below w0.heap.size w0 w
theorem winv_new (w0 w : World) (b : Below w0.heap.size w0 w) :
    Calls Try.prog 7 #[] w fun e w' => ∃ B, e = .returned (.pointer (some ⟨B, 0, none⟩)) ∧ WInv w0 w' B [] := by
  refine (wnew_ok w).mono ?_
  rintro e w' ⟨B, rfl, h, hB, _, b'⟩
  exact ⟨B, rfl, h, Nat.le_trans b.size hB, b.trans (b'.mono b.size)⟩
theorem WInv.keep {w0 w w' : World} {B : Nat} {l : List Int} (h : WInv w0 w B l) (b : Below w.heap.size w w') : WInv w0 w' B l :=
  ⟨h.win.of_block (b.block B h.win.lt), h.ge, h.bel.trans (b.mono h.bel.size)⟩
theorem winv_check {w0 w : World} {B : Nat} {l : List Int} (n : Int) (h : WInv w0 w B l) :
    Calls Try.prog 8 #[.pointer (some ⟨B, 0, none⟩), .int .i64 n] w fun e w' => e = .returned (.int .i64 (chk l n)) ∧ WInv w0 w' B l := by
  refine (wcheck_ok B l n w h.win).mono ?_
  rintro e w' ⟨rfl, b⟩
  exact ⟨rfl, h.keep b⟩
theorem winv_see {w0 w : World} {B : Nat} {l : List Int} (n : Int) (h : WInv w0 w B l) :
    Calls Try.prog 10 #[.pointer (some ⟨B, 0, none⟩), .int .i64 n] w fun e w' => e = .returned (.int .i64 (chk l n)) ∧ WInv w0 w' B (nxt l n) := by
  refine (wsee_ok B l n w h.win).mono ?_
  rintro e w' ⟨rfl, hw, k⟩
  exact ⟨rfl, hw, h.ge, h.bel.trans (k.below h.bel.size fun k hk => hk ▸ h.ge)⟩
theorem winv_seeK {w0 w : World} {B : Nat} {l : List Int} (n : Int) (h : WInv w0 w B l) :
    Calls Try.prog 10 #[.pointer (some ⟨B, 0, none⟩), .int .i64 n] w fun e w' => e = .returned (.int .i64 (chk l n)) ∧ WInv w0 w' B (nxt l n) ∧ Kept (fun k => k = B) w w' := by
  refine (wsee_ok B l n w h.win).mono ?_
  rintro e w' ⟨rfl, hw, k⟩
  exact ⟨rfl, ⟨hw, h.ge, h.bel.trans (k.below h.bel.size fun k hk => hk ▸ h.ge)⟩, k⟩
theorem winv_top {w0 w : World} {B : Nat} {l : List Int} (h : WInv w0 w B l) :
    Calls Try.prog 12 #[.pointer (some ⟨B, 0, none⟩)] w fun e w' => e = .returned (.tuple #[.int .i64 (top l), .bool (decide (0 < l.length))]) ∧ WInv w0 w' B l := by
  refine (wtop_ok B l w h.win).mono ?_
  rintro e w' ⟨rfl, b⟩
  exact ⟨rfl, h.keep b⟩
/-- Both windows, the document's behind the program's. -/
structure RInv (w0 w : World) (B R : Nat) (l m : List Int) : Prop where
  win : WInv w0 w B l
  ref : RB w R m
  lt : B < R
  inr : InR m
theorem RInv.keep {w0 w w' : World} {B R : Nat} {l m : List Int} (h : RInv w0 w B R l m) (b : Below w.heap.size w w') : RInv w0 w' B R l m :=
  ⟨h.win.keep b, h.ref.keep fun k _ hk => b.block k hk, h.lt, h.inr⟩
theorem RInv.bel {w0 w : World} {B R : Nat} {l m : List Int} (h : RInv w0 w B R l m) : Below w0.heap.size w0 w := h.win.bel
theorem rinv_check {w0 w : World} {B R : Nat} {l m : List Int} (n : Int) (h : RInv w0 w B R l m) :
    Calls Try.prog 8 #[.pointer (some ⟨B, 0, none⟩), .int .i64 n] w fun e w' => e = .returned (.int .i64 (chk l n)) ∧ Below w.heap.size w w' := wcheck_ok B l n w h.win.win
theorem rinv_rcheck {w0 w : World} {B R : Nat} {l m : List Int} (n : Int) (h : RInv w0 w B R l m) (hm : m.length < 1099511627776) :
    Calls Try.prog 9 #[.pointer (some ⟨R, 0, none⟩), .int .i64 n] w fun e w' => e = .returned (.int .i64 (chk m n)) ∧ Below w.heap.size w w' := by
  obtain ⟨sv, h1, h2⟩ := h.ref
  exact rcheck_b R sv m n w h1 h2 hm h.inr
theorem rinv_see {w0 w : World} {B R : Nat} {l m : List Int} (n : Int) (h : RInv w0 w B R l m) :
    Calls Try.prog 10 #[.pointer (some ⟨B, 0, none⟩), .int .i64 n] w fun e w' => e = .returned (.int .i64 (chk l n)) ∧ RInv w0 w' B R (nxt l n) m := by
  refine (wsee_ok B l n w h.win.win).mono ?_
  rintro e w' ⟨rfl, hw, k⟩
  exact ⟨rfl, ⟨hw, h.win.ge, h.win.bel.trans (k.below h.win.bel.size fun k hk => hk ▸ h.win.ge)⟩, h.ref.keep (fun j hj hl => k.block j hl (by have := h.lt; omega)), h.lt, h.inr⟩
theorem rinv_rsee {w0 w : World} {B R : Nat} {l m : List Int} (n : Int) (h : RInv w0 w B R l m) (hm : m.length < 1099511627776) :
    Calls Try.prog 11 #[.pointer (some ⟨R, 0, none⟩), .int .i64 n] w fun e w' => e = .returned (.int .i64 (chk m n)) ∧ RInv w0 w' B R l (nxt m n) := by
  obtain ⟨sv, h1, h2⟩ := h.ref
  refine (rsee_b R sv m n w h1 h2 hm h.inr).mono ?_
  rintro e w' ⟨rfl, hr, k⟩
  exact ⟨rfl, ⟨h.win.win.of_block (k.block B h.win.win.lt (by have := h.lt; omega)), h.win.ge, h.win.bel.trans (k.below h.win.bel.size fun k hk => Nat.le_trans (Nat.le_trans h.win.ge (Nat.le_of_lt h.lt)) hk)⟩, hr, h.lt, nxt_in h.inr n⟩
theorem rinv_top {w0 w : World} {B R : Nat} {l m : List Int} (h : RInv w0 w B R l m) :
    Calls Try.prog 12 #[.pointer (some ⟨B, 0, none⟩)] w fun e w' => e = .returned (.tuple #[.int .i64 (top l), .bool (decide (0 < l.length))]) ∧ RInv w0 w' B R l m := by
  refine (wtop_ok B l w h.win.win).mono ?_
  rintro e w' ⟨rfl, b⟩
  exact ⟨rfl, h.keep b⟩
theorem rinv_rtop {w0 w : World} {B R : Nat} {l m : List Int} (h : RInv w0 w B R l m) (hm : m.length < 1099511627776) :
    Calls Try.prog 13 #[.pointer (some ⟨R, 0, none⟩)] w fun e w' => e = .returned (.tuple #[.int .i64 (top m), .bool (decide (0 < m.length))]) ∧ RInv w0 w' B R l m := by
  obtain ⟨sv, h1, h2⟩ := h.ref
  refine (rtop_b R sv m w h1 h2 hm).mono ?_
  rintro e w' ⟨rfl, b⟩
  exact ⟨rfl, h.keep b⟩
/-- The document's window is made behind the program's. -/
theorem rinv_new {w0 w : World} {B : Nat} (h : WInv w0 w B []) (t : TypeId) : RInv w0 (w.alloc (.cells #[.slice none 0 0] t)) B w.heap.size [] [] :=
  ⟨h.keep ((Below.refl _ _).alloc (Nat.le_refl _) _), ⟨.slice none 0 0, Lies.new w [.slice none 0 0] t, World.ownsRow_nil _ _ _ _⟩, h.win.lt, fun _ h => by cases h⟩
set_option maxHeartbeats 4000000 in
theorem works_ok (w : World) :
    Calls Try.prog 14 #[] w fun e w' => e = .returned (.bool true) ∧ Below w.heap.size w w' := by
  have NW : Hid (∀ w', Below w.heap.size w w' → _) := fun w' b => winv_new w w' b
  have S1 : Hid (∀ w' B, WInv w w' B [] → Calls Try.prog 10 #[.pointer (some ⟨B, 0, none⟩), .int .i64 5] w' fun e w'' => e = .returned (.int .i64 0) ∧ WInv w w'' B [5]) := fun w' B h => winv_see 5 h
  have S2 : Hid (∀ w' B, WInv w w' B [5] → Calls Try.prog 10 #[.pointer (some ⟨B, 0, none⟩), .int .i64 3] w' fun e w'' => e = .returned (.int .i64 0) ∧ WInv w w'' B [5, 3]) := fun w' B h => winv_see 3 h
  have S3 : Hid (∀ w' B, WInv w w' B [5, 3] → Calls Try.prog 10 #[.pointer (some ⟨B, 0, none⟩), .int .i64 5] w' fun e w'' => e = .returned (.int .i64 11) ∧ WInv w w'' B [5, 3]) := fun w' B h => winv_see 5 h
  have S4 : Hid (∀ w' B, WInv w w' B [5, 3] → Calls Try.prog 10 #[.pointer (some ⟨B, 0, none⟩), .int .i64 100] w' fun e w'' => e = .returned (.int .i64 0) ∧ WInv w w'' B [5, 3, 100]) := fun w' B h => winv_see 100 h
  have S5 : Hid (∀ w' B, WInv w w' B [5, 3, 100] → Calls Try.prog 10 #[.pointer (some ⟨B, 0, none⟩), .int .i64 36] w' fun e w'' => e = .returned (.int .i64 11) ∧ WInv w w'' B [5, 3, 100]) := fun w' B h => winv_see 36 h
  have S6 : Hid (∀ w' B, WInv w w' B [5, 3, 100] → Calls Try.prog 10 #[.pointer (some ⟨B, 0, none⟩), .int .i64 37] w' fun e w'' => e = .returned (.int .i64 0) ∧ WInv w w'' B [5, 3, 100, 37]) := fun w' B h => winv_see 37 h
  go_enter Try.func14, Try.ntmps14
  go_wp2_with fail
  refine (NW.out _ (Below.refl _ _)).mono ?_
  rintro e w1 ⟨B, rfl, n1⟩
  have N1 := Lib.hid n1
  clear n1 NW
  go_wp2_with fail
  refine (S1.out _ _ N1.out).mono ?_
  rintro e w2 ⟨rfl, n2⟩
  have N2 := Lib.hid n2
  clear n2 N1 S1
  go_wp2_with fail
  refine (S2.out _ _ N2.out).mono ?_
  rintro e w3 ⟨rfl, n3⟩
  have N3 := Lib.hid n3
  clear n3 N2 S2
  go_wp2_with fail
  refine (S3.out _ _ N3.out).mono ?_
  rintro e w4 ⟨rfl, n4⟩
  have N4 := Lib.hid n4
  clear n4 N3 S3
  go_wp2_with fail
  refine (S4.out _ _ N4.out).mono ?_
  rintro e w5 ⟨rfl, n5⟩
  have N5 := Lib.hid n5
  clear n5 N4 S4
  go_wp2_with fail
  refine (S5.out _ _ N5.out).mono ?_
  rintro e w6 ⟨rfl, n6⟩
  have N6 := Lib.hid n6
  clear n6 N5 S5
  go_wp2_with fail
  refine (S6.out _ _ N6.out).mono ?_
  rintro e w7 ⟨rfl, n7⟩
  have N7 := Lib.hid n7
  clear n7 N6 S6
  go_wp2_with fail
  go_ret
  exact ⟨rfl, N7.out.bel⟩
end Go.Proofs.Ytjdkmjpajijkdaa
