/-
  What the document's own first and constants answer: the chapter's numbers, in slices of their own; and bytes as numbers. No condition.
-/
import Derived.Test.YtbicfhilehllnaaGreatDoorShBlock
import Derived.Test.YtbicfhilehllnaaGreatDoorShBytes
namespace Go.Proofs.YtbicfhilehllnaaGreatDoor
set_option maxRecDepth 100000
open Go.RowKit Go.Sort

theorem nb_row (w : World) (l : List Nat) (e : TypeId) : NB (w.alloc (.cells (l.map fun x : Nat => Value.int .u32 (x : Int)).toArray e)) w.heap.size l.length l := by
  refine ⟨by simp, fun j hj => ?_, fun j hj => by simp⟩
  rw [World.cell?_alloc_new]
  simp [List.getD, List.getElem?_eq_getElem hj]
set_option maxHeartbeats 2000000 in
theorem rfirst_ok (w : World) : Calls Tryz.prog 209 #[] w fun e w' => e = .returned (.slice (some ⟨w.heap.size, 0, none⟩) 8 8) ∧ NB w' w.heap.size 8 st0.list ∧ Below w.heap.size w w' := by
  have R := nb_row w st0.list 228
  have e : (st0.list.map fun x : Nat => Value.int .u32 (x : Int)).toArray = #[.int .u32 1779033703, .int .u32 3144134277, .int .u32 1013904242, .int .u32 2773480762, .int .u32 1359893119, .int .u32 2600822924, .int .u32 528734635, .int .u32 1541459225] := rfl
  rw [e] at R
  replace R : Hid _ := R
  go_enter Tryz.func209, Tryz.ntmps209
  go_wp2
  go_ret
  exact ⟨rfl, R.out, (Below.refl _ _).alloc (Nat.le_refl _) _⟩
set_option maxHeartbeats 4000000 in
set_option maxRecDepth 100000 in
theorem rconst_ok (w : World) : Calls Tryz.prog 210 #[] w fun e w' => e = .returned (.slice (some ⟨w.heap.size, 0, none⟩) 64 64) ∧ NB w' w.heap.size 64 ks ∧ Below w.heap.size w w' := by
  have R : Hid (NB (w.alloc (.cells (ks.map fun x : Nat => Value.int .u32 (x : Int)).toArray 228)) w.heap.size 64 ks) := nb_row w ks 228
  go_enter Tryz.func210, Tryz.ntmps210
  go_wp2
  go_ret
  exact ⟨rfl, R.out, (Below.refl _ _).alloc (Nat.le_refl _) _⟩
/-- Bytes as a text. -/
def bstr (l : List Nat) : ByteArray := ⟨(l.map UInt8.ofNat).toArray⟩
theorem bstr_size (l : List Nat) : (bstr l).size = l.length := by simp [bstr, ByteArray.size]
theorem bstr_append (a b : List Nat) : bstr a ++ bstr b = bstr (a ++ b) := by
  unfold bstr
  rw [ByteArray.mk_append_mk, List.map_append]
theorem bstr_nb (s : ByteArray) : bstr (nb s) = s := by
  unfold bstr nb
  rw [List.map_map]
  have : (UInt8.ofNat ∘ UInt8.toNat) = id := by funext b; simp
  rw [this, List.map_id]
theorem nb_bstr {l : List Nat} (h : ∀ x ∈ l, x < 256) : nb (bstr l) = l := by
  unfold bstr nb
  simp only [List.map_map]
  conv => rhs; rw [← List.map_id l]
  refine List.map_congr_left fun y hy => ?_
  have := h y hy
  simp
  omega
theorem nb_length (s : ByteArray) : (nb s).length = s.size := by simp [nb]
theorem be_length (n k : Nat) : (be n k).length = k := by
  induction k generalizing n with
  | zero => rfl
  | succ k ih => simp [be, ih]
theorem be_lt (n k : Nat) : ∀ x ∈ be n k, x < 256 := by
  induction k generalizing n with
  | zero => simp [be]
  | succ k ih =>
    intro x hx
    rcases List.mem_append.1 hx with hx | hx
    · exact ih _ x hx
    · simp at hx; omega
theorem digs_be (n k : Nat) : strOfNums (digs n k) = bstr (be n k) := by
  have : digs (n : Int) k = (be n k).map (fun x : Nat => (x : Int)) := by
    induction k generalizing n with
    | zero => rfl
    | succ k ih =>
      have e1 : (n : Int) / 256 = ((n / 256 : Nat) : Int) := by omega
      simp only [digs, be, List.map_append, e1, ih]
      simp
  rw [this]
  unfold strOfNums bstr
  rw [List.map_map]
  rfl
end Go.Proofs.YtbicfhilehllnaaGreatDoor
