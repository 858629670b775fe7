/-
  One step of the document's own reader, whatever its state: no way parts. Texts below 2^63 bytes; no other condition.
-/
import Derived.Test.YtmngpkkpkjnejaaDoorFrRng
namespace Go.Proofs.YtmngpkkpkjnejaaDoor
set_option maxRecDepth 100000
open Go.RowKit Go.Sort

/-- One step: from a state to the next. -/
def Stp {α : Type} (p : Rd α) (s : ByteArray) (x : Int) (a : α) (s' : ByteArray) (x' : Int) : Prop :=
  (x = 0 ∧ p (toL s) = .ok (a, toL s') ∧ x' = 0) ∨ (x = 0 ∧ p (toL s) = .error x' ∧ x' ≠ 0) ∨ (x ≠ 0 ∧ x' = x)
theorem rnum_any (R : Nat) (s : ByteArray) (x : Int) (w : World) (h : RdIs w R s x) (hs : s.size ≤ 9223372036854775807) :
    Calls Tryd.prog 49 #[.pointer (some ⟨R, 0, none⟩)] w fun e w' => ∃ n s' x', e = .returned (.int .i64 n) ∧ RdIs w' R s' x' ∧ Stp rInt s x n s' x' ∧ s'.size ≤ s.size ∧ Kept (fun k => k = R) w w' := by
  by_cases hx : x = 0
  · subst hx
    refine (rnum_ok R s w h hs).mono ?_
    rintro e w' ⟨k, ⟨n, s', h1, rfl, h2⟩ | ⟨h1, rfl, h2⟩⟩
    · exact ⟨n, s', 0, rfl, h2, .inl ⟨rfl, h1, rfl⟩, size_of_int h1, k⟩
    · exact ⟨0, s, 1, rfl, h2, .inr (.inl ⟨rfl, h1, by decide⟩), Nat.le_refl _, k⟩
  · refine (rnum_bad R s x w h hx hs).mono ?_
    rintro e w' ⟨rfl, h2, k⟩
    exact ⟨0, s, x, rfl, h2, .inr (.inr ⟨hx, rfl⟩), Nat.le_refl _, k⟩
set_option maxHeartbeats 4000000 in
theorem rtext_bad (R : Nat) (s : ByteArray) (x : Int) (w : World) (h : RdIs w R s x) (hx : x ≠ 0) (hs : s.size ≤ 9223372036854775807) :
    Calls Tryd.prog 52 #[.pointer (some ⟨R, 0, none⟩)] w fun e w' => e = .returned (.string ⟨#[]⟩) ∧ RdIs w' R s x ∧ Kept (fun k => k = R) w w' := by
  have g : (x == 0) = false := by simp [hx]
  have g' : (x != 0) = true := by simp [hx]
  have G : ∃ (t : ByteArray) (n e : Int), Calls Tryd.prog 63 #[.string s] w fun r w' => r = .returned (.tuple #[.string t, .int .i64 n, .int .i64 e]) ∧ Below w.heap.size w w' := by
    rcases cut_or_has s with q | ⟨k, q⟩
    · exact ⟨⟨#[]⟩, 0, 1, (rtake_cut s w hs q).mono fun _ _ ⟨a, b⟩ => ⟨a, b ▸ Below.refl _ _⟩⟩
    · obtain ⟨_, _, m, hk, _⟩ := id q
      have hb := (gva_bd (byt s) (byt_bd s) hk).1
      obtain ⟨c, hc⟩ : ∃ c : Nat, gva (byt s) k = c := ⟨(gva (byt s) k).toNat, by omega⟩
      by_cases hl : k + c ≤ s.size
      · exact ⟨_, _, 0, rtake_ok s w hs k c q hc hl⟩
      · exact ⟨⟨#[]⟩, 0, 1, rtake_short s w hs k q (by omega)⟩
  obtain ⟨t, n, e0, G1⟩ := G
  have G2 : Hid (∀ _ : Unit, Calls Tryd.prog 63 #[.string s] w fun r w' => r = .returned (.tuple #[.string t, .int .i64 n, .int .i64 e0]) ∧ Below w.heap.size w w') := fun _ => G1
  have H0 : Hid (Lies w R [.string s, .int .i64 x]) := h
  have c0 := h.cell 0 (v := .string s) rfl
  clear h G1 hx
  go_enter Tryd.func52, Tryd.ntmps52
  go_wp2_with fail
  refine (G2.out ()).mono ?_
  rintro e w1 ⟨rfl, b1⟩
  have H1 : Hid (Lies w1 R [.string s, .int .i64 x]) := H0.out.keep (by show 0 < 2; decide) b1
  have K1 : Hid (Kept (fun k => k = R) w w1) := .of _ b1
  clear G2 b1 H0 c0
  have e1 := H1.out.cell 1 (v := .int .i64 x) rfl
  go_wp2_with fail
  go_ret
  exact ⟨rfl, H1.out, K1.out⟩
theorem rtext_any (R : Nat) (s : ByteArray) (x : Int) (w : World) (h : RdIs w R s x) (hs : s.size ≤ 9223372036854775807) :
    Calls Tryd.prog 52 #[.pointer (some ⟨R, 0, none⟩)] w fun e w' => ∃ t s' x', e = .returned (.string t) ∧ RdIs w' R s' x' ∧ Stp rText s x (toL t) s' x' ∧ s'.size ≤ s.size ∧ Kept (fun k => k = R) w w' := by
  by_cases hx : x = 0
  · subst hx
    refine (rtext_ok R s w h hs).mono ?_
    rintro e w' ⟨k, ⟨n, s', h1, rfl, h2⟩ | ⟨h1, rfl, h2⟩⟩
    · exact ⟨n, s', 0, rfl, h2, .inl ⟨rfl, h1, rfl⟩, by have := text_back h1; have := toL_len s; have := toL_len s'; omega, k⟩
    · exact ⟨⟨#[]⟩, s, 1, rfl, h2, .inr (.inl ⟨rfl, h1, by decide⟩), Nat.le_refl _, k⟩
  · refine (rtext_bad R s x w h hx hs).mono ?_
    rintro e w' ⟨rfl, h2, k⟩
    exact ⟨⟨#[]⟩, s, x, rfl, h2, .inr (.inr ⟨hx, rfl⟩), Nat.le_refl _, k⟩
set_option maxHeartbeats 4000000 in
theorem rfin_bad (R : Nat) (s : ByteArray) (x : Int) (w : World) (h : RdIs w R s x) (hx : x ≠ 0) :
    Calls Tryd.prog 51 #[.pointer (some ⟨R, 0, none⟩)] w fun e w' => e = .returned (.bool false) ∧ RdIs w' R s x ∧ Kept (fun k => k = R) w w' := by
  have g : (x == 0) = false := by simp [hx]
  have g' : (x != 0) = true := by simp [hx]
  have c1 := h.cell 1 (v := .int .i64 x) rfl
  have H0 : Hid (RdIs w R s x) := h
  clear h hx
  go_enter Tryd.func51, Tryd.ntmps51
  go_wp2
  go_ret
  exact ⟨rfl, H0.out, Kept.refl _ _⟩
theorem rfin_any (R : Nat) (s : ByteArray) (x : Int) (w : World) (h : RdIs w R s x) (hs : s.size ≤ 9223372036854775807) :
    Calls Tryd.prog 51 #[.pointer (some ⟨R, 0, none⟩)] w fun e w' => ∃ b s' x', e = .returned (.bool b) ∧ RdIs w' R s' x' ∧ Stp rFin s x b s' x' ∧ s'.size ≤ s.size ∧ Kept (fun k => k = R) w w' := by
  by_cases hx : x = 0
  · subst hx
    refine (rfin_ok R s w h hs).mono ?_
    rintro e w' ⟨k, ⟨n, s', h1, rfl, h2⟩ | ⟨y, hy, h1, rfl, h2⟩⟩
    · exact ⟨n, s', 0, rfl, h2, .inl ⟨rfl, h1, rfl⟩, by have := fin_back h1; have := toL_len s; have := toL_len s'; omega, k⟩
    · exact ⟨false, s, y, rfl, h2, .inr (.inl ⟨rfl, h1, hy⟩), Nat.le_refl _, k⟩
  · refine (rfin_bad R s x w h hx).mono ?_
    rintro e w' ⟨rfl, h2, k⟩
    exact ⟨false, s, x, rfl, h2, .inr (.inr ⟨hx, rfl⟩), Nat.le_refl _, k⟩
end Go.Proofs.YtmngpkkpkjnejaaDoor
