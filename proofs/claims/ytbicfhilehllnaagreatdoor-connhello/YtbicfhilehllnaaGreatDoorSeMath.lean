/-
  Plain facts: what is sealed is opened again; a tag at another number, reckoned out; hidden bytes place by place. No condition but the lengths.
-/
import Derived.Test.YtbicfhilehllnaaGreatDoorSeOpen
namespace Go.Proofs.YtbicfhilehllnaaGreatDoor
set_option maxRecDepth 100000
open Go.RowKit Go.Sort

theorem hdn_get (key : ByteArray) (n : Int) (d : List Nat) (k i : Nat) (h : i < k) : (hdn key n d k).getD i 0 = d.getD i 0 ^^^ sbyte key n i := by
  unfold hdn
  simp [List.getD, h]
theorem hide_hide (secret : ByteArray) (n : Int) (d : List Nat) : hide secret n (hide secret n d) = d := by
  unfold hide
  rw [hdn_length]
  refine List.ext_getElem (by rw [hdn_length]) fun i h1 h2 => ?_
  rw [hdn_length] at h1
  have e1 := hdn_get (ckey secret) n (hdn (ckey secret) n d d.length) d.length i h1
  rw [hdn_get (ckey secret) n d d.length i h1, Nat.xor_assoc, Nat.xor_self, Nat.xor_zero] at e1
  simpa [List.getD, h2, hdn_length] using e1
theorem sld_bstr (secret : ByteArray) (n : Int) (head data : ByteArray) : sld secret n head data = bstr (hide secret n (nb data) ++ tagl secret n head (hide secret n (nb data))) := by unfold sld; rw [bstr_append]
theorem cut_bstr (a b : List Nat) (ha : ∀ x ∈ a, x < 256) (hb : ∀ x ∈ b, x < 256) (hl : b.length = 16) : hdd (bstr (a ++ b)) = bstr a ∧ tgd (bstr (a ++ b)) = bstr b := by
  have hab : ∀ x ∈ a ++ b, x < 256 := fun x hx => (List.mem_append.1 hx).elim (ha x) (hb x)
  have hz : (bstr (a ++ b)).size = a.length + 16 := by rw [bstr_size, List.length_append, hl]
  constructor
  · unfold hdd
    rw [hz, Nat.add_sub_cancel, ← bstr_nb ((bstr (a ++ b)).extract 0 a.length), nb_extract _ _ _ hab, List.drop_zero, Nat.sub_zero, List.take_left]
  · unfold tgd
    rw [hz, Nat.add_sub_cancel, ← bstr_nb ((bstr (a ++ b)).extract a.length (a.length + 16)), nb_extract _ _ _ hab, List.drop_left, Nat.add_sub_cancel_left, ← hl, List.take_length]
theorem good_iff (secret : ByteArray) (n : Int) (head : ByteArray) (a b : List Nat) (ha : ∀ x ∈ a, x < 256) (hb : ∀ x ∈ b, x < 256) (hl : b.length = 16) : good secret n head (bstr (a ++ b)) = true ↔ tagl secret n head a = b := by
  obtain ⟨e1, e2⟩ := cut_bstr a b ha hb hl
  unfold good
  rw [e1, e2, nb_bstr ha]
  have et : ∀ l : List Nat, (bstr l).toList = l.map UInt8.ofNat := fun l => by rw [ByteArray.toList_eq]; rfl
  rw [et, et, beq_iff_eq]
  constructor
  · intro h
    have h2 := congrArg (List.map UInt8.toNat) h
    have back : ∀ l : List Nat, (∀ x ∈ l, x < 256) → (l.map UInt8.ofNat).map UInt8.toNat = l := fun l hl => by
      rw [List.map_map]
      conv => rhs; rw [← List.map_id l]
      refine List.map_congr_left fun y hy => ?_
      have := hl y hy
      simp
      omega
    rw [back _ (tagl_lt _ _ _ _), back _ hb] at h2
    exact h2
  · intro h; rw [h]
/-- What is sealed is opened. -/
theorem open_seal (secret : ByteArray) (n : Int) (head data : ByteArray) : opv secret n head (sld secret n head data) = data ∧ ope secret n head (sld secret n head data) = 0 := by
  have hz := sld_size secret n head data
  have h16 : ¬ (sld secret n head data).size < 16 := by omega
  have hg : good secret n head (sld secret n head data) = true := by
    rw [sld_bstr]
    exact (good_iff _ _ _ _ _ (hide_lt _ _ (nb_lt data)) (tagl_lt _ _ _ _) (tagl_length _ _ _ _)).2 rfl
  constructor
  · unfold opv
    rw [if_neg h16, if_pos hg, sld_bstr, (cut_bstr _ _ (hide_lt _ _ (nb_lt data)) (tagl_lt _ _ _ _) (tagl_length _ _ _ _)).1, nb_bstr (hide_lt _ _ (nb_lt data)), hide_hide, bstr_nb]
  · unfold ope
    rw [if_neg h16, if_pos hg]
def wS : ByteArray := ⟨#[115, 101, 99, 114, 101, 116]⟩
def wH : ByteArray := ⟨#[104]⟩
def wD : ByteArray := ⟨#[97, 98, 99]⟩
theorem w_other : tagl wS 8 wH (hide wS 7 (nb wD)) ≠ tagl wS 7 wH (hide wS 7 (nb wD)) := by decide +kernel
theorem w_open8 : ope wS 8 wH (sld wS 7 wH wD) = 10 ∧ opv wS 8 wH (sld wS 7 wH wD) = ⟨#[]⟩ := by
  have h16 : ¬ (sld wS 7 wH wD).size < 16 := by rw [sld_size]; omega
  have hg : good wS 8 wH (sld wS 7 wH wD) = false := by
    rw [Bool.eq_false_iff, sld_bstr]
    intro h
    exact w_other ((good_iff _ _ _ _ _ (hide_lt _ _ (nb_lt wD)) (tagl_lt _ _ _ _) (tagl_length _ _ _ _)).1 h)
  constructor
  · unfold ope
    rw [if_neg h16, if_neg (by rw [hg]; decide)]
  · unfold opv
    rw [if_neg h16, if_neg (by rw [hg]; decide)]
end Go.Proofs.YtbicfhilehllnaaGreatDoor
