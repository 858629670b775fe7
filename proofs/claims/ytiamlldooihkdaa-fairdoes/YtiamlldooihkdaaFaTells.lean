/-
  Queues, plain: what each act tells, by everyone's list alone. No condition but what always holds of queues.
-/
import Derived.Test.YtiamlldooihkdaaFaMore
namespace Go.Proofs.Ytiamlldooihkdaa
set_option maxRecDepth 100000
open Go.RowKit

theorem push_e {f : FaQ} (ok : f.Ok) (x : Int) (s : ByteArray) : pushE f x s = if 65535 < s.size then 8 else if f.lim ≤ (lsE f.r x).length then 4 else 0 := by
  unfold pushE lsE
  have := ok.l0
  by_cases h : 65535 < s.size
  · rw [if_pos h, if_pos h]
  · rw [if_neg h, if_neg h]
    cases tblE f.r x with
    | none => simp only [List.length_nil]; rw [if_neg (by omega)]
    | some v => rfl
theorem push_yes {f : FaQ} (ok : f.Ok) {x : Int} {s : ByteArray} (h : pushE f x s = 0) : (∀ y, lsE (pushQ f x s).r y = if y = x then lsE f.r x ++ [s] else lsE f.r y) ∧ cntE (pushQ f x s).r = cntE f.r + 1 ∧ (pushQ f x s).lim = f.lim ∧ (pushQ f x s).qu = f.qu ∧ (pushQ f x s).pz = f.pz + 1 := by
  unfold pushQ
  rw [if_pos h]
  refine ⟨fun y => ?_, cnt_add _ _ _ ok.ids, rfl, rfl, rfl⟩
  simp only
  unfold lsE
  rw [tbl_add]
  unfold updT
  by_cases q : y = x
  · rw [if_pos q, if_pos q]
    cases tblE f.r x with
    | none => rfl
    | some v => rfl
  · rw [if_neg q, if_neg q]
theorem push_not {f : FaQ} {x : Int} {s : ByteArray} (h : pushE f x s ≠ 0) : pushQ f x s = { f with pz := f.pz + 1 } := by
  unfold pushQ
  rw [if_neg h]
theorem drop_tells {f : FaQ} (ok : f.Ok) (x : Int) : (∀ y, lsE (dropE f x).r y = if y = x then [] else lsE f.r y) ∧ cntE (dropE f x).r + (lsE f.r x).length = cntE f.r ∧ (dropE f x).lim = f.lim ∧ (dropE f x).qu = f.qu ∧ (dropE f x).pz = f.pz := by
  refine ⟨fun y => ?_, cnt_filter f.r x ok.ids, rfl, rfl, rfl⟩
  unfold dropE
  simp only
  unfold lsE
  rw [tbl_filter]
  unfold updT
  by_cases q : y = x
  · rw [if_pos q, if_pos q]
  · rw [if_neg q, if_neg q]
theorem cnt_pos {f : FaQ} (ok : f.Ok) : f.r ≠ [] ↔ 0 < cntE f.r := by
  constructor
  · intro h
    have := (len_cnt ok).1
    have := List.length_pos_iff.2 h
    omega
  · intro h q
    rw [q] at h
    exact absurd h (Nat.lt_irrefl 0)
theorem ls_new (lim qu x : Int) : lsE (newE lim qu).r x = [] := rfl
theorem ls_nil {f : FaQ} (h : f.r = []) (x : Int) : lsE f.r x = [] := by rw [h]; rfl
end Go.Proofs.Ytiamlldooihkdaa
