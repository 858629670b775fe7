/-
  What the program's Text answers, and that the laws' own four examples hold, in every world that holds the table of sizes. No condition but that.
-/
import Derived.Test.YtbfbfghajdhopaaDoorVarTake
import Derived.Test.YtbfbfghajdhopaaDoorVarRefPut
namespace Go.Proofs.YtbfbfghajdhopaaDoor
open Go.RowKit

set_option maxHeartbeats 1000000 in
theorem text_any (s : ByteArray) (w : World) (t : Tab w) (m k : Nat) (h : Cl s.size m k) :
    Calls Tryd.prog 18 #[.string s] w fun e w' => e = .returned (.string (strOfNums (puts s.size m k) ++ s)) ∧ Below w.heap.size w w' := by
  have hb := h.lo
  have z : (strOfNums (puts s.size m k)).size = k := by rw [strOfNums_size, puts_length]
  go_enter Tryd.func18, Tryd.ntmps18
  go_wp2_with (go_at_call 11; refine (put_yes _ m k _ t h).mono ?_; rintro e w1 ⟨rfl, hb1⟩)
  go_ret
  exact ⟨rfl, hb1⟩

theorem put37 : strOfNums (puts 37 0 1) = ⟨#[37]⟩ := by decide +kernel
theorem put15293 : strOfNums (puts 15293 1 2) = ⟨#[123, 189]⟩ := by decide +kernel
theorem text2 : strOfNums (puts 2 0 1) ++ ⟨#[97, 98]⟩ = ⟨#[2, 97, 98]⟩ := by decide +kernel
theorem gva4025 : gva (byt ⟨#[64, 37]⟩) 2 = 37 := by decide +kernel
set_option maxHeartbeats 1000000 in
theorem works (w : World) (t : Tab w) :
    Calls Tryd.prog 17 #[] w fun e w' => e = .returned (.bool true) ∧ Below w.heap.size w w' := by
  have P1 : Hid (∀ w, Tab w → Calls Tryd.prog 11 #[.int .i64 37] w fun e w' => e = .returned (.string ⟨#[37]⟩) ∧ Below w.heap.size w w') := fun w t => by
    have := put_yes 37 0 1 w t (by unfold Cl; omega)
    rwa [put37] at this
  have P2 : Hid (∀ w, Tab w → Calls Tryd.prog 11 #[.int .i64 15293] w fun e w' => e = .returned (.string ⟨#[123, 189]⟩) ∧ Below w.heap.size w w') := fun w t => by
    have := put_yes 15293 1 2 w t (by unfold Cl; omega)
    rwa [put15293] at this
  have X : Hid (∀ w, Tab w → Calls Tryd.prog 18 #[.string ⟨#[97, 98]⟩] w fun e w' => e = .returned (.string ⟨#[2, 97, 98]⟩) ∧ Below w.heap.size w w') := fun w t => by
    have h2 : (((⟨#[97, 98]⟩ : ByteArray).size : Nat) : Int) = 2 := rfl
    have := text_any ⟨#[97, 98]⟩ w t 0 1 (by rw [h2]; unfold Cl; omega)
    rwa [h2, text2] at this
  have G : Hid (∀ w, Tab w → Calls Tryd.prog 13 #[.string ⟨#[64, 37]⟩] w fun e w' => e = .returned (.tuple #[.int .i64 37, .int .i64 2, .int .i64 0]) ∧ w = w') := fun w t => by
    have := get_ok ⟨#[64, 37]⟩ w t 1 2 (by unfold Mk; omega) (by decide) (by decide) (by decide) (by decide +kernel)
    rwa [gva4025] at this
  go_enter Tryd.func17, Tryd.ntmps17
  go_wp2_with (go_at_call 13; refine (G.out _ t).mono ?_; rintro e w' ⟨rfl, rfl⟩)
  go_wp2_with (first | (go_at_call_of 11 (37 : Int); refine (P1.out _ t).mono ?_; rintro e w1 ⟨rfl, hb1⟩) | (go_at_call_of 11 (15293 : Int); refine (P2.out _ (t.below hb1)).mono ?_; rintro e w2 ⟨rfl, hb2⟩) | (go_at_call 18; refine (X.out _ ((t.below hb1).below hb2)).mono ?_; rintro e w3 ⟨rfl, hb3⟩))
  go_ret
  exact ⟨rfl, (hb1.trans (hb2.mono hb1.size)).trans (hb3.mono (Nat.le_trans hb1.size hb2.size))⟩
end Go.Proofs.YtbfbfghajdhopaaDoor
