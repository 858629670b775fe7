/-
  What the reader's packet does, in every world that holds the reader. No condition but that.
-/
import Derived.Test.YtndaohiecpdmlaaIpLen
import Derived.Test.YtndaohiecpdmlaaIpCheck
import Derived.Laws.ResultCell
namespace Go.Proofs.Ytndaohiecpdmlaa
open Go.RowKit

/-- A header's eight cells in a block. -/
structure HB (w : World) (A : Nat) (f : Nat → Value) : Prop where
  lt : A < w.heap.size
  at' : ∀ i, i < 8 → w.cell? ⟨A, i, none⟩ = some (f i) ∧ w.frozen? ⟨A, i, none⟩ = false
def upV (f : Nat → Value) (k : Nat) (v : Value) : Nat → Value := fun i => if i = k then v else f i
theorem HB.alloc {w : World} {A : Nat} {f : Nat → Value} (h : HB w A f) (o : Obj) : HB (w.alloc o) A f := by
  refine ⟨by have := h.lt; simp; omega, fun i hi => ?_⟩
  rw [World.cell?_alloc_past _ _ _ h.lt, World.frozen?_alloc_past _ _ _ h.lt]
  exact h.at' i hi
theorem HB.set {w : World} {A : Nat} {f : Nat → Value} (h : HB w A f) (k : Nat) (hk : k < 8) (v : Value) : HB (w.setCell ⟨A, k, none⟩ v) A (upV f k v) := by
  refine ⟨by simpa [World.setCell] using h.lt, fun i hi => ?_⟩
  rw [World.frozen?_setCell]
  refine ⟨?_, (h.at' i hi).2⟩
  unfold upV
  by_cases e : i = k
  · subst e
    rw [if_pos rfl, World.cell?_setCell_same (h := (h.at' i hi).1)]
  · rw [if_neg e, World.cell?_setCell_other (h := by simp)]
    exact (h.at' i hi).1
theorem HB.other {w : World} {A C k : Nat} {f : Nat → Value} (h : HB w A f) (hc : C ≠ A) (v : Value) : HB (w.setCell ⟨C, k, none⟩ v) A f := by
  refine ⟨by simpa [World.setCell] using h.lt, fun i hi => ?_⟩
  rw [World.frozen?_setCell, World.cell?_setCell_other (h := by simp)]
  exact h.at' i hi
theorem HB.only {w w' : World} {A B : Nat} {f : Nat → Value} (h : HB w A f) (o : Only B w w') (hA : A ≠ B) : HB w' A f :=
  ⟨by rw [o.size]; exact h.lt, fun i hi => ⟨(o.cell hA).trans (h.at' i hi).1, (o.frozen hA).trans (h.at' i hi).2⟩⟩
theorem Rd.alloc {w : World} {B : Nat} {s : ByteArray} {p : Nat} (h : Rd w B s p) (o : Obj) : Rd (w.alloc o) B s p := by
  refine ⟨by have := h.lt; simp; omega, ?_, ?_, ?_⟩
  · rw [World.cell?_alloc_past _ _ _ h.lt]; exact h.c0
  · rw [World.cell?_alloc_past _ _ _ h.lt]; exact h.c1
  · rw [World.frozen?_alloc_past _ _ _ h.lt]; exact h.z1
theorem Rd.other {w : World} {A B k : Nat} {s : ByteArray} {p : Nat} (h : Rd w B s p) (hA : A ≠ B) (v : Value) : Rd (w.setCell ⟨A, k, none⟩ v) B s p := by
  refine ⟨by simpa [World.setCell] using h.lt, ?_, ?_, ?_⟩
  · rw [World.cell?_setCell_other (h := by simp)]; exact h.c0
  · rw [World.cell?_setCell_other (h := by simp)]; exact h.c1
  · rw [World.frozen?_setCell]; exact h.z1

/-- Where the reader stands: at p; the header's block A holds f so far, the result's block R what it was made with. -/
structure St (w0 w : World) (B R A : Nat) (s : ByteArray) (p : Nat) (f g : Nat → Value) : Prop where
  rd : Rd w B s p
  h : HB w A f
  r : HB w R g
  bel : Below B w0 w
  ab : A ≠ B
  rb : R ≠ B
  ar : A ≠ R
  ba : B ≤ A
theorem St.call {w0 w w' : World} {B R A : Nat} {s : ByteArray} {p q : Nat} {f g : Nat → Value} (S : St w0 w B R A s p f g) (hr : Rd w' B s q) (o : Only B w w') : St w0 w' B R A s q f g :=
  ⟨hr, S.h.only o S.ab, S.r.only o S.rb, S.bel.trans (o.below (Nat.le_refl B)), S.ab, S.rb, S.ar, S.ba⟩
theorem St.store {w0 w : World} {B R A : Nat} {s : ByteArray} {p : Nat} {f g : Nat → Value} (S : St w0 w B R A s p f g) (k : Nat) (hk : k < 8) (v : Value) : St w0 (w.setCell ⟨A, k, none⟩ v) B R A s p (upV f k v) g :=
  ⟨S.rd.other S.ab v, S.h.set k hk v, S.r.other S.ar v, S.bel.setCell (p := ⟨A, k, none⟩) S.ba v, S.ab, S.rb, S.ar, S.ba⟩
/-- A header with nothing in it. -/
def zs : Nat → Value := fun i => #[.int .i64 0, .int .i64 0, .int .i64 0, .int .i64 0, .int .i64 0, .int .u32 0, .int .u32 0, .string ⟨#[]⟩].getD i undef
def hdOf (s : ByteArray) : Value := hv (num (byt s) 1 1) (num (byt s) 4 2) (num (byt s) 6 2) (num (byt s) 8 1) (num (byt s) 9 1) (num (byt s) 12 4) (num (byt s) 16 4) (s.extract 20 s.size)

set_option maxHeartbeats 1000000 in
theorem packet_short (w : World) (B : Nat) (s : ByteArray) (h : Rd w B s 0) (h20 : s.size < 20) :
    Calls Try.prog 42 #[.pointer (some ⟨B, 0, none⟩)] w fun e w' => e = .panicked (thrown 1) ∧ Below B w w' := by
  obtain ⟨lt, c0, c1, z1⟩ := h
  have f1 : decide ((s.size : Int) < 20) = true := by simp; omega
  go_enter Try.func42, Try.ntmps42
  go_wp2_with (go_at_call 48; refine (throw_yes _ _).mono ?_; rintro e w' ⟨rfl, rfl⟩)
  exact ⟨rfl, rfl, (Below.refl _ _).alloc (Nat.le_of_lt lt) _⟩
set_option maxHeartbeats 1000000 in
theorem packet_field (w : World) (B : Nat) (s : ByteArray) (h : Rd w B s 0) (h20 : 20 ≤ s.size) (hs : s.size ≤ 9223372036854775807) (hf : num (byt s) 0 1 ≠ 69) :
    Calls Try.prog 42 #[.pointer (some ⟨B, 0, none⟩)] w fun e w' => e = .panicked (thrown 3) ∧ Below B w w' := by
  have hr : Hid (Rd w B s 0) := h
  obtain ⟨lt, c0, c1, z1⟩ := h
  have f1 : decide ((s.size : Int) < 20) = false := by simp; omega
  have N : Hid (∀ w, Rd w B s 0 → _) := fun w hr => number_ok w B s 0 1 hr (by decide) (by omega) hs
  have f2 : (num (byt s) 0 1 != 69) = true := by simp [hf]
  clear hf
  generalize num (byt s) 0 1 = n at *
  go_enter Try.func42, Try.ntmps42
  go_wp2_with (first
    | (go_at_call_of 48 (1 : Int); refine (throw_no _ _).mono ?_; rintro e w' ⟨rfl, rfl⟩)
    | (go_at_call_of 48 (3 : Int); refine (throw_yes _ _).mono ?_; rintro e w' ⟨rfl, rfl⟩)
    | (go_at_call 49; refine (N.out _ (hr.out.alloc _)).mono ?_; rintro e w1 ⟨rfl, R1, o1⟩))
  exact ⟨rfl, rfl, ((Below.refl _ _).alloc (Nat.le_of_lt lt) _).trans (o1.below (Nat.le_refl B))⟩
end Go.Proofs.Ytndaohiecpdmlaa
