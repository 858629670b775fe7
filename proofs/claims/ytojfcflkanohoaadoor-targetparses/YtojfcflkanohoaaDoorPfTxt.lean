/-
  What the program's own Text answers, for every address: its writing. An address is a uint32; the tables of Go's library lie as the row's list gives them.
-/
import Derived.Test.YtojfcflkanohoaaDoorPfDig
namespace Go.Proofs.YtojfcflkanohoaaDoor
open Go.RowKit Go.Sort

/-- An address's parts. -/
def part (a : Int) (j : Nat) : ByteArray := strOfNums (dd (if j = 0 then a / 16777216 else if j = 1 then a / 65536 % 256 else if j = 2 then a / 256 % 256 else a % 256))
/-- An array of four texts in a block, the first k of them written. -/
structure ABox (w : World) (B k : Nat) (P : Nat → ByteArray) : Prop where
  lt : B < w.heap.size
  c : ∀ j, j < 4 → w.cell? ⟨B, j, none⟩ = some (.string (if j < k then P j else ⟨#[]⟩))
  f : ∀ j, j < 4 → w.frozen? ⟨B, j, none⟩ = false
theorem ABox.keep {w w' : World} {B k C : Nat} {P : Nat → ByteArray} (h : ABox w B k P) (hB : B < C) (b : Below C w w') : ABox w' B k P :=
  ⟨Nat.lt_of_lt_of_le h.lt b.size, fun j hj => (b.cell hB).trans (h.c j hj), fun j hj => (b.frozen hB).trans (h.f j hj)⟩
theorem ABox.put {w : World} {B k : Nat} {P : Nat → ByteArray} (h : ABox w B k P) (hk : k < 4) : ABox (w.setCell ⟨B, k, none⟩ (.string (P k))) B (k + 1) P := by
  refine ⟨by simpa using h.lt, fun j hj => ?_, fun j hj => by simpa using h.f j hj⟩
  by_cases e : j = k
  · subst e
    rw [World.cell?_setCell_same _ _ _ (h.c j hk), if_pos (by omega)]
  · rw [World.cell?_setCell_other _ _ _ _ (by intro x; injection x with _ x; exact e x.symm), h.c j hj]
    by_cases q : j < k
    · rw [if_pos q, if_pos (by omega)]
    · rw [if_neg q, if_neg (by omega)]
theorem abox_new (w : World) (P : Nat → ByteArray) : ABox (w.alloc (.cells #[.string ⟨#[]⟩, .string ⟨#[]⟩, .string ⟨#[]⟩, .string ⟨#[]⟩] 63)) w.heap.size 0 P := by
  refine ⟨by simp, fun j hj => ?_, fun j hj => by simp⟩
  rw [World.cell?_alloc_new]
  match j, hj with
  | 0, _ => rfl
  | 1, _ => rfl
  | 2, _ => rfl
  | 3, _ => rfl
theorem join_four (p0 p1 p2 p3 : ByteArray) : (⟨(Lib.join ([p0, p1, p2, p3].map (·.data.toList)) (ByteArray.mk #[46]).data.toList).toArray⟩ : ByteArray) = p0 ++ ByteArray.mk #[46] ++ p1 ++ ByteArray.mk #[46] ++ p2 ++ ByteArray.mk #[46] ++ p3 := by
  apply ByteArray.ext
  apply Array.ext'
  simp [Lib.join, List.intercalate, ByteArray.data_append]
theorem txt_four (a : Int) : part a 0 ++ ByteArray.mk #[46] ++ part a 1 ++ ByteArray.mk #[46] ++ part a 2 ++ ByteArray.mk #[46] ++ part a 3 = txt a := by
  have e : ByteArray.mk #[46] = strOfNums [46] := rfl
  rw [e]
  unfold part
  simp only [pf_append]
  rfl
theorem join_ok (a : Int) (B : Nat) (w : World) (X : ABox w B 4 (part a)) :
    Calls Tryd.prog 35 #[.slice (some ⟨B, 0, none⟩) 4 4, .string ⟨#[46]⟩] w fun e w' => e = .returned (.string (txt a)) ∧ Below w.heap.size w w' := by
  have hz : ∀ j, (part a j).data.toList.length ≤ 3 := fun j => by
    have h1 := strOfNums_size (dd (if j = 0 then a / 16777216 else if j = 1 then a / 65536 % 256 else if j = 2 then a / 256 % 256 else a % 256))
    have h2 := dd_len (if j = 0 then a / 16777216 else if j = 1 then a / 65536 % 256 else if j = 2 then a / 256 % 256 else a % 256)
    have h3 : (part a j).data.toList.length = (part a j).size := by simp
    rw [h3]
    unfold part
    omega
  have h := Tryd.strings_Join B 0 4 [part a 0, part a 1, part a 2, part a 3] ⟨#[46]⟩ w (fun j x hj => by
      match j, hj with
      | 0, hj => simp at hj; subst hj; exact X.c 0 (by decide)
      | 1, hj => simp at hj; subst hj; exact X.c 1 (by decide)
      | 2, hj => simp at hj; subst hj; exact X.c 2 (by decide)
      | 3, hj => simp at hj; subst hj; exact X.c 3 (by decide)
      | j + 4, hj => simp at hj) X.lt (by simp) (by simp) (by
    have h0 := hz 0
    have h1 := hz 1
    have h2 := hz 2
    have h3 := hz 3
    simp only [Lib.join, List.intercalate, List.map_cons, List.map_nil, List.intersperse, List.flatten_cons, List.flatten_nil, List.length_append, List.length_cons, List.length_nil]
    omega)
  rw [join_four, txt_four] at h
  exact h
set_option maxHeartbeats 2000000 in
theorem text_ok (a : Int) (w : World) (t : TabP w) (a0 : 0 ≤ a) (a1 : a < 4294967296) :
    Calls Tryd.prog 22 #[.int .u32 a] w fun e w' => e = .returned (.string (txt a)) ∧ Below w.heap.size w w' := by
  have I1 : Hid (∀ w, TabP w → _) := fun w t => itoa_ok (a / 16777216) w t (by omega) (by omega)
  have I2 : Hid (∀ w, TabP w → _) := fun w t => itoa_ok (a / 65536 % 256) w t (by omega) (by omega)
  have I3 : Hid (∀ w, TabP w → _) := fun w t => itoa_ok (a / 256 % 256) w t (by omega) (by omega)
  have I4 : Hid (∀ w, TabP w → _) := fun w t => itoa_ok (a % 256) w t (by omega) (by omega)
  go_enter Tryd.func22, Tryd.ntmps22
  go_wp2
  go_loopw [6] (fun i wr => ∃ k : Nat, k ≤ 4 ∧ i = .int .i64 k ∧ Hid (ABox wr w.heap.size k (part a)) ∧ Hid (Below w.heap.size w wr)) (fun i _ => 4 - (intOf i).toNat)
  case atStart => exact ⟨0, Nat.zero_le _, rfl, abox_new w _, (Below.refl _ _).alloc (Nat.le_refl _) _⟩
  case round =>
    obtain ⟨k, hk, rfl, X, bel⟩ := hrel
    have tr := t.keep bel.out
    clear t
    rcases (show k = 0 ∨ k = 1 ∨ k = 2 ∨ k = 3 ∨ k = 4 by omega) with rfl | rfl | rfl | rfl | rfl
    · go_wp2_with fail
      refine (I1.out _ tr).mono ?_
      rintro e w1 ⟨rfl, b1⟩
      have X1 : Hid (ABox w1 w.heap.size 0 (part a)) := X.out.keep X.out.lt b1
      have c0 := X1.out.c 0 (by decide)
      have f0 := X1.out.f 0 (by decide)
      have X2 : Hid (ABox (w1.setCell ⟨w.heap.size, 0, none⟩ (.string (part a 0))) w.heap.size 1 (part a)) := X1.out.put (by decide)
      have Z : Hid (Below w.heap.size w (w1.setCell ⟨w.heap.size, 0, none⟩ (.string (part a 0)))) := (bel.out.trans (b1.mono bel.out.size)).setCell (p := ⟨w.heap.size, 0, none⟩) (Nat.le_refl _) _
      have e0 : part a 0 = strOfNums (dd (a / 16777216)) := rfl
      rw [e0] at X2 Z
      clear b1 X1 X bel e0
      go_wp2
      go_roundw
      case rel => exact ⟨1, by decide, rfl, X2, Z⟩
      case measure => simp [intOf]
    · go_wp2_with fail
      refine (I2.out _ tr).mono ?_
      rintro e w1 ⟨rfl, b1⟩
      have X1 : Hid (ABox w1 w.heap.size 1 (part a)) := X.out.keep X.out.lt b1
      have c0 := X1.out.c 1 (by decide)
      have f0 := X1.out.f 1 (by decide)
      have X2 : Hid (ABox (w1.setCell ⟨w.heap.size, 1, none⟩ (.string (part a 1))) w.heap.size 2 (part a)) := X1.out.put (by decide)
      have Z : Hid (Below w.heap.size w (w1.setCell ⟨w.heap.size, 1, none⟩ (.string (part a 1)))) := (bel.out.trans (b1.mono bel.out.size)).setCell (p := ⟨w.heap.size, 1, none⟩) (Nat.le_refl _) _
      have e0 : part a 1 = strOfNums (dd (a / 65536 % 256)) := rfl
      rw [e0] at X2 Z
      clear b1 X1 X bel e0
      go_wp2
      go_roundw
      case rel => exact ⟨2, by decide, rfl, X2, Z⟩
      case measure => simp [intOf]
    · go_wp2_with fail
      refine (I3.out _ tr).mono ?_
      rintro e w1 ⟨rfl, b1⟩
      have X1 : Hid (ABox w1 w.heap.size 2 (part a)) := X.out.keep X.out.lt b1
      have c0 := X1.out.c 2 (by decide)
      have f0 := X1.out.f 2 (by decide)
      have X2 : Hid (ABox (w1.setCell ⟨w.heap.size, 2, none⟩ (.string (part a 2))) w.heap.size 3 (part a)) := X1.out.put (by decide)
      have Z : Hid (Below w.heap.size w (w1.setCell ⟨w.heap.size, 2, none⟩ (.string (part a 2)))) := (bel.out.trans (b1.mono bel.out.size)).setCell (p := ⟨w.heap.size, 2, none⟩) (Nat.le_refl _) _
      have e0 : part a 2 = strOfNums (dd (a / 256 % 256)) := rfl
      rw [e0] at X2 Z
      clear b1 X1 X bel e0
      go_wp2
      go_roundw
      case rel => exact ⟨3, by decide, rfl, X2, Z⟩
      case measure => simp [intOf]
    · go_wp2_with fail
      refine (I4.out _ tr).mono ?_
      rintro e w1 ⟨rfl, b1⟩
      have X1 : Hid (ABox w1 w.heap.size 3 (part a)) := X.out.keep X.out.lt b1
      have c0 := X1.out.c 3 (by decide)
      have f0 := X1.out.f 3 (by decide)
      have X2 : Hid (ABox (w1.setCell ⟨w.heap.size, 3, none⟩ (.string (part a 3))) w.heap.size 4 (part a)) := X1.out.put (by decide)
      have Z : Hid (Below w.heap.size w (w1.setCell ⟨w.heap.size, 3, none⟩ (.string (part a 3)))) := (bel.out.trans (b1.mono bel.out.size)).setCell (p := ⟨w.heap.size, 3, none⟩) (Nat.le_refl _) _
      have e0 : part a 3 = strOfNums (dd (a % 256)) := rfl
      rw [e0] at X2 Z
      clear b1 X1 X bel e0
      go_wp2
      go_roundw
      case rel => exact ⟨4, by decide, rfl, X2, Z⟩
      case measure => simp [intOf]
    · have J : Hid (∀ _ : Unit, _) := fun _ => join_ok a w.heap.size wr X.out
      clear X
      go_wp2_with (go_at_call 35; refine (J.out ()).mono ?_; rintro e w1 ⟨rfl, b1⟩)
      go_ret
      exact ⟨rfl, bel.out.trans (b1.mono bel.out.size)⟩
end Go.Proofs.YtojfcflkanohoaaDoor
