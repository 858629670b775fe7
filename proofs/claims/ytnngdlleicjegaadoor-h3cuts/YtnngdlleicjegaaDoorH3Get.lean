/-
  The document's own Get over lists of bytes: a number at the front, or none. No condition but the form's own reach.
-/
import Derived.Test.YtnngdlleicjegaaDoorH3Ref
import Derived.Test.YtnngdlleicjegaaDoorTxRef
namespace Go.Proofs.YtnngdlleicjegaaDoor
set_option maxRecDepth 100000
open Go.RowKit

theorem rget_none (s : ByteArray) (w : World) (hs : s.size ≤ 9223372036854775807) (h : getL (toL s) = none) :
    Calls Tryd.prog 30 #[.string s] w fun e w' => e = .returned (.tuple #[.int .i64 0, .int .i64 0, .int .i64 1]) ∧ Below w.heap.size w w' := by
  rcases cut_or_has s with q | ⟨k, q⟩
  · exact (rget_cut s w hs q).mono fun e w' ⟨h1, h2⟩ => ⟨h1, h2 ▸ Below.refl _ _⟩
  · rw [link_has q] at h
    cases h
theorem rget_some (s : ByteArray) (w : World) (hs : s.size ≤ 9223372036854775807) {n k : Nat} (h : getL (toL s) = some (n, k)) :
    Calls Tryd.prog 30 #[.string s] w fun e w' => e = .returned (.tuple #[.int .i64 (n : Int), .int .i64 (k : Int), .int .i64 0]) ∧ Below w.heap.size w w' := by
  rcases cut_or_has s with q | ⟨j, q⟩
  · rw [link_cut q] at h
    cases h
  · have e := link_has q
    rw [h] at e
    injection e with e
    injection e with e1 e2
    subst e2
    have hq := q
    obtain ⟨_, _, m, hk, _⟩ := hq
    have hb := (gva_bd (byt s) (byt_bd s) hk).1
    have e3 : gva (byt s) k = (n : Int) := by omega
    refine (rget_has s w k hs q).mono ?_
    rw [e3]
    exact fun e w' h => h
theorem get_len {s : ByteArray} {n k : Nat} (h : getL (toL s) = some (n, k)) : 1 ≤ k ∧ k ≤ s.size := by
  have := getL_len h
  rw [toL_len] at this
  exact this
theorem toL_tail (s : ByteArray) (k : Nat) (m : Nat) (hm : m = s.size) : toL (s.extract k m) = (toL s).drop k := by subst hm; exact toL_extract s k
/-- The kind and the number at the front. -/
theorem rhead_none (w : World) (R : Nat) (r : Hr) (h : RH w R r) (hl : r.s.length ≤ 4611686018427387904) (hn : headL r.s = none) :
    Calls Tryd.prog 25 #[.pointer (some ⟨R, 0, none⟩)] w fun e w' => e = .returned (.tuple #[.int .i64 0, .int .i64 0, .int .i64 0]) ∧ Below w.heap.size w w' := by
  obtain ⟨s, hs, h⟩ := h
  have zs : s.size ≤ 4611686018427387904 := by rw [← toL_len, hs]; exact hl
  clear hl
  have c1 := h.cell 1 (v := .string s) rfl
  have hR := h.lt (by show 0 < 7; decide)
  unfold headL at hn
  rw [← hs] at hn
  split at hn
  · rename_i h1
    have G : Hid (∀ w, _) := fun w => rget_none s w (by omega) h1
    clear h hs hn h1
    go_enter Tryd.func25, Tryd.ntmps25
    go_wp2_with fail
    refine (G.out _).mono ?_
    rintro e w1 ⟨rfl, b1⟩
    have Z1 : Hid (Below w.heap.size w w1) := b1
    clear b1 G
    go_wp2_with fail
    go_ret3
    exact ⟨rfl, Z1.out⟩
  · rename_i k n h1
    split at hn
    · rename_i h2
      have hk := get_len h1
      have hkb := (getL_bound h1).1
      have G : Hid (∀ w, _) := fun w => rget_some s w (by omega) h1
      have e2 : toL (s.extract n s.size) = (toL s).drop n := toL_extract s n
      rw [← e2] at h2
      have z2 : (s.extract n s.size).size = s.size - n := by rw [ByteArray.size_extract]; omega
      have G2 : Hid (∀ w, _) := fun w => rget_none (s.extract n s.size) w (by omega) h2
      clear h hs hn h1 h2 e2
      go_enter Tryd.func25, Tryd.ntmps25
      go_wp2_with fail
      refine (G.out _).mono ?_
      rintro e w1 ⟨rfl, b1⟩
      have Z1 : Hid (Below w.heap.size w w1) := b1
      have c1a : w1.cell? ⟨R, 1, none⟩ = some (.string s) := (b1.cell (p := ⟨R, 1, none⟩) hR).trans c1
      clear b1 G
      go_wp2_with fail
      refine (G2.out _).mono ?_
      rintro e w2 ⟨rfl, b2⟩
      have Z2 : Hid (Below w.heap.size w w2) := Z1.out.trans (b2.mono Z1.out.size)
      clear b2 G2 Z1
      go_wp2_with fail
      go_ret3
      exact ⟨rfl, Z2.out⟩
    · cases hn
theorem rhead_some (w : World) (R : Nat) (r : Hr) (h : RH w R r) (hl : r.s.length ≤ 4611686018427387904) {k z n : Nat} (hn : headL r.s = some (k, z, n)) :
    Calls Tryd.prog 25 #[.pointer (some ⟨R, 0, none⟩)] w fun e w' => e = .returned (.tuple #[.int .i64 (k : Int), .int .i64 (z : Int), .int .i64 (n : Int)]) ∧ Below w.heap.size w w' := by
  obtain ⟨s, hs, h⟩ := h
  have zs : s.size ≤ 4611686018427387904 := by rw [← toL_len, hs]; exact hl
  clear hl
  have c1 := h.cell 1 (v := .string s) rfl
  have hR := h.lt (by show 0 < 7; decide)
  unfold headL at hn
  rw [← hs] at hn
  split at hn
  · cases hn
  · rename_i k1 n1 h1
    split at hn
    · cases hn
    · rename_i z1 m1 h2
      injection hn with hn
      injection hn with e1 hn
      injection hn with e2 e3
      subst e1 e2
      have hk := get_len h1
      have hkb := (getL_bound h1).1
      have G : Hid (∀ w, _) := fun w => rget_some s w (by omega) h1
      have e2 : toL (s.extract n1 s.size) = (toL s).drop n1 := toL_extract s n1
      rw [← e2] at h2
      have z2 : (s.extract n1 s.size).size = s.size - n1 := by rw [ByteArray.size_extract]; omega
      have hk2 := get_len h2
      have hkb2 := (getL_bound h2).1
      have G2 : Hid (∀ w, _) := fun w => rget_some (s.extract n1 s.size) w (by omega) h2
      have e3' : Hid ((n1 : Int) + (m1 : Int) = (n : Int)) := by unfold Hid; omega
      have b3 : n ≤ s.size := by omega
      replace e3 : Hid _ := e3
      clear h hs h1 h2 e2
      go_enter Tryd.func25, Tryd.ntmps25
      go_wp2_with fail
      refine (G.out _).mono ?_
      rintro e w1 ⟨rfl, b1⟩
      have Z1 : Hid (Below w.heap.size w w1) := b1
      have c1a : w1.cell? ⟨R, 1, none⟩ = some (.string s) := (b1.cell (p := ⟨R, 1, none⟩) hR).trans c1
      clear b1 G
      go_wp2_with fail
      refine (G2.out _).mono ?_
      rintro e w2 ⟨rfl, b2⟩
      have Z2 : Hid (Below w.heap.size w w2) := Z1.out.trans (b2.mono Z1.out.size)
      clear b2 G2 Z1
      go_wp2_with fail
      rw [e3'.out]
      go_ret3
      exact ⟨rfl, Z2.out⟩
end Go.Proofs.YtnngdlleicjegaaDoor
