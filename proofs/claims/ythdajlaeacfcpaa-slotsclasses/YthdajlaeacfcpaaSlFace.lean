/-
  All that the laws ask of the program's slots; what the laws' own trial of it answers. No condition.
-/
import Derived.Test.YthdajlaeacfcpaaSlRefC
import Derived.Test.YthdajlaeacfcpaaObRowB
namespace Go.Proofs.Ythdajlaeacfcpaa
set_option maxRecDepth 100000
open Go.RowKit

theorem place9 (a : Int) (c : Int) (hc : 0 < c) (hc2 : c < 4611686018427387904) : ∃ x : Nat, wrap64 ((IntKind.u64.wrap a).tmod c) = x ∧ IntKind.i64.wrap ((IntKind.u64.wrap a).tmod c) = x ∧ (x : Int) < c := by
  have h : 0 ≤ IntKind.u64.wrap a := by rw [IntKind.wrap_u64]; omega
  rw [Int.tmod_eq_emod_of_nonneg h]
  have h1 := Int.emod_nonneg (IntKind.u64.wrap a) (by omega : c ≠ 0)
  have h2 := Int.emod_lt_of_pos (IntKind.u64.wrap a) hc
  refine ⟨(IntKind.u64.wrap a % c).toNat, ?_, ?_, by omega⟩
  · unfold wrap64
    omega
  · rw [IntKind.wrap_i64]
    omega
structure SlFace : Prop where
  owner : ∀ {w : World} {v : Value} {l : List Int}, Tb w v l → ∀ t, In64 t → Calls Try.prog 9 #[v, .int .i64 t] w fun e w' => e = .returned (.int .i64 (ownV l t)) ∧ Below w.heap.size w w'
  turn : ∀ {w : World} {v : Value} {l : List Int}, Tb w v l → ∀ t who, In64 t → In64 who → Calls Try.prog 11 #[v, .int .i64 t, .int .i64 who] w fun e w' => e = .returned (.int .i64 (turnV l t who)) ∧ Below w.heap.size w w'
  round : ∀ {w : World} {v : Value} {l : List Int}, Tb w v l → ∀ who, In64 who → Calls Try.prog 13 #[v, .int .i64 who] w fun e w' => e = .returned (.int .i64 (roundV l who)) ∧ Below w.heap.size w w'
  cls : ∀ (w : World) n, In64 n → Calls Try.prog 15 #[.int .i64 n] w fun e w' => e = .returned (.int .i64 (classV n)) ∧ Below w.heap.size w w'
  clss : ∀ w : World, Calls Try.prog 7 #[] w fun e w' => ∃ v, e = .returned v ∧ Tb w' v clsV ∧ Below w.heap.size w w'
theorem Tb.lit (w : World) (l : List Int) (h : l.length ≤ 17592186044416) : Tb (w.alloc (.cells (l.map fun x => Value.int .i64 x).toArray 3)) (.slice (some ⟨w.heap.size, 0, none⟩) l.length l.length) l := by
  have e : l.flatMap KN.cells = l.map fun x => Value.int .i64 x := by
    induction l with
    | nil => rfl
    | cons x t ih => rw [List.flatMap_cons, List.map_cons, ih (by rw [List.length_cons] at h; omega)]; rfl
  have := row_lit kn_ok w l 3
  rw [e] at this
  exact ⟨this, h⟩
def tW : List Int := [0, 1, 0, -1]
set_option maxHeartbeats 1000000 in
theorem works21_ok (face : SlFace) (w : World) : Calls Try.prog 17 #[] w fun e w' => e = .returned (.bool true) ∧ Below w.heap.size w w' := by
  obtain ⟨w0, hw0⟩ : ∃ w0, w0 = w.alloc (.cells #[.int .i64 0, .int .i64 1, .int .i64 0, .int .i64 (-1)] 3) := ⟨_, rfl⟩
  have T : Tb w0 (.slice (some ⟨w.heap.size, 0, none⟩) 4 4) tW := by rw [hw0]; exact Tb.lit w tW (by decide)
  have b0 : Below w.heap.size w w0 := by rw [hw0]; exact (Below.refl _ _).alloc (Nat.le_refl _) _
  have C1 : Hid (∀ w', Below w0.heap.size w0 w' → Calls Try.prog 9 #[.slice (some ⟨w.heap.size, 0, none⟩) 4 4, .int .i64 4] w' fun e w2 => e = .returned (.int .i64 0) ∧ Below w'.heap.size w' w2) := fun w' b => face.owner (T.keep b) 4 (by unfold In64; decide)
  have C2 : Hid (∀ w', Below w0.heap.size w0 w' → Calls Try.prog 9 #[.slice (some ⟨w.heap.size, 0, none⟩) 4 4, .int .i64 7] w' fun e w2 => e = .returned (.int .i64 (-1)) ∧ Below w'.heap.size w' w2) := fun w' b => face.owner (T.keep b) 7 (by unfold In64; decide)
  have C3 : Hid (∀ w', Below w0.heap.size w0 w' → Calls Try.prog 11 #[.slice (some ⟨w.heap.size, 0, none⟩) 4 4, .int .i64 5, .int .i64 0] w' fun e w2 => e = .returned (.int .i64 6) ∧ Below w'.heap.size w' w2) := fun w' b => face.turn (T.keep b) 5 0 (by unfold In64; decide) (by unfold In64; decide)
  have C4 : Hid (∀ w', Below w0.heap.size w0 w' → Calls Try.prog 13 #[.slice (some ⟨w.heap.size, 0, none⟩) 4 4, .int .i64 0] w' fun e w2 => e = .returned (.int .i64 2) ∧ Below w'.heap.size w' w2) := fun w' b => face.round (T.keep b) 0 (by unfold In64; decide)
  have C5 : Hid (∀ w', Below w0.heap.size w0 w' → Calls Try.prog 13 #[.slice (some ⟨w.heap.size, 0, none⟩) 4 4, .int .i64 1] w' fun e w2 => e = .returned (.int .i64 4) ∧ Below w'.heap.size w' w2) := fun w' b => face.round (T.keep b) 1 (by unfold In64; decide)
  have C6 : Hid (∀ w', Calls Try.prog 15 #[.int .i64 129] w' fun e w2 => e = .returned (.int .i64 256) ∧ Below w'.heap.size w' w2) := fun w' => face.cls w' 129 (by unfold In64; decide)
  replace b0 := Lib.hid b0
  clear T
  go_enter Try.func17, Try.ntmps17
  go_upto_region 2 with fail
  rw [← hw0]
  clear hw0
  go_wp2_with fail
  refine (C1.out _ (Below.refl _ _)).mono ?_
  rintro e w1 ⟨rfl, b1⟩
  have D := Lib.hid (C2.out w1 b1)
  replace b1 := Lib.hid b1
  clear C1 C2
  go_wp2_with fail
  refine D.out.mono ?_
  rintro e w2 ⟨rfl, d2⟩
  have b2 := b1.out.trans (d2.mono b1.out.size)
  replace D := Lib.hid (C3.out w2 b2)
  replace b2 := Lib.hid b2
  clear C3 d2 b1
  go_wp2_with fail
  refine D.out.mono ?_
  rintro e w3 ⟨rfl, d2⟩
  have b3 := b2.out.trans (d2.mono b2.out.size)
  replace D := Lib.hid (C4.out w3 b3)
  replace b3 := Lib.hid b3
  clear C4 d2 b2
  go_wp2_with fail
  refine D.out.mono ?_
  rintro e w4 ⟨rfl, d2⟩
  have b4 := b3.out.trans (d2.mono b3.out.size)
  replace D := Lib.hid (C5.out w4 b4)
  replace b4 := Lib.hid b4
  clear C5 d2 b3
  go_wp2_with fail
  refine D.out.mono ?_
  rintro e w5 ⟨rfl, d2⟩
  have b5 := Lib.hid (b4.out.trans (d2.mono b4.out.size))
  replace D := Lib.hid (C6.out w5)
  clear C6 d2 b4
  go_wp2_with fail
  refine D.out.mono ?_
  rintro e w6 ⟨rfl, d2⟩
  have b6 := Lib.hid (b0.out.trans ((b5.out.trans (d2.mono b5.out.size)).mono b0.out.size))
  clear D d2 b5
  go_wp2_with fail
  go_ret
  exact ⟨rfl, b6.out⟩
end Go.Proofs.Ythdajlaeacfcpaa
