/-
  What the document's own Frame answers: a frame's bytes, of any kind and data. No condition but the form's own reach.
-/
import Derived.Test.YtnngdlleicjegaaDoorH3Get
namespace Go.Proofs.YtnngdlleicjegaaDoor
set_option maxRecDepth 100000
open Go.RowKit

/-- A frame's bytes; none, where the kind is no number. -/
def frI (k : Int) (d : L) : L := if 0 ≤ k ∧ k ≤ 4611686018427387903 then frm k.toNat d else []
theorem frm_len (k : Nat) (d : L) : (frm k d).length ≤ d.length + 16 := by
  unfold frm
  rw [List.length_append, List.length_append]
  have := put_len k
  have := put_len d.length
  omega
set_option maxHeartbeats 1000000 in
theorem rframe15_ok (k : Int) (d : ByteArray) (w : World) (hs : d.size ≤ 4611686018427387000) :
    Calls Tryd.prog 18 #[.int .i64 k, .string d] w fun e w' => e = .returned (.string (strL (frI k (toL d)))) ∧ Below w.heap.size w w' := by
  obtain ⟨X, hX⟩ : ∃ X, X = strL (frI k (toL d)) := ⟨_, rfl⟩
  rw [← hX]
  unfold frI at hX
  by_cases h0 : 0 ≤ k
  · have q0 : decide (k < 0) = false := decide_eq_false (by omega)
    by_cases h1 : k ≤ 4611686018427387903
    · have q1 : decide ((4611686018427387903 : Int) < k) = false := decide_eq_false (by omega)
      rw [if_pos ⟨h0, h1⟩] at hX
      have e : X = strL (putI k) ++ strL (putL d.size ++ toL d) := by
        rw [hX, strL_append]
        unfold frm putI
        rw [toL_len]
      have P : Hid (∀ w, _) := fun w => rputI_ok k w ⟨h0, h1⟩
      have T : Hid (∀ w, _) := fun w => rtxtL_ok d w (by omega)
      have z1 : (strL (putI k)).size ≤ 8 := by rw [strL_size]; exact put_len _
      have z2 : (strL (putL d.size ++ toL d)).size ≤ 8 + d.size := by
        rw [strL_size, List.length_append, toL_len]
        have := put_len d.size
        omega
      rw [e]
      clear e hX
      generalize strL (putI k) = A at *
      generalize strL (putL d.size ++ toL d) = B at *
      go_enter Tryd.func18, Tryd.ntmps18
      go_wp2_with fail
      refine (P.out _).mono ?_
      rintro e w1 ⟨rfl, b1⟩
      have Z1 : Hid (Below w.heap.size w w1) := b1
      clear b1 P
      go_wp2_with fail
      refine (T.out _).mono ?_
      rintro e w2 ⟨rfl, b2⟩
      have Z2 : Hid (Below w.heap.size w w2) := Z1.out.trans (b2.mono Z1.out.size)
      clear b2 T Z1
      go_wp2_with fail
      go_ret
      exact ⟨rfl, Z2.out⟩
    · have q1 : decide ((4611686018427387903 : Int) < k) = true := decide_eq_true (by omega)
      rw [if_neg (fun c => h1 c.2)] at hX
      have e : X = ⟨#[]⟩ := hX
      subst e
      clear hX
      go_enter Tryd.func18, Tryd.ntmps18
      go_wp2
      go_ret
      exact ⟨rfl, Below.refl _ _⟩
  · have q0 : decide (k < 0) = true := decide_eq_true (by omega)
    rw [if_neg (fun c => h0 c.1)] at hX
    have e : X = ⟨#[]⟩ := hX
    subst e
    clear hX
    go_enter Tryd.func18, Tryd.ntmps18
    go_wp2
    go_ret
    exact ⟨rfl, Below.refl _ _⟩
end Go.Proofs.YtnngdlleicjegaaDoor
