/-
  What the document's own reader of frames answers for a number, a text and a byte of Fin, and what it leaves. Texts below 2^62 bytes; no other condition.
-/
import Derived.Test.YtmngpkkpkjnejaaDoorFrLink
import Derived.Test.YtmngpkkpkjnejaaDoorVaRefGet
import Derived.Test.YtmngpkkpkjnejaaDoorObCells
namespace Go.Proofs.YtmngpkkpkjnejaaDoor
set_option maxRecDepth 100000
open Go.RowKit

/-- The document's reader in a block: what is left, and what is wrong. -/
def RdIs (w : World) (R : Nat) (s : ByteArray) (x : Int) : Prop := Lies w R [.string s, .int .i64 x]
theorem toL_cut (s : ByteArray) (i j : Nat) : toL (s.extract i j) = ((toL s).take j).drop i := by
  unfold toL
  rw [ByteArray.data_extract, Array.toList_extract, List.extract_eq_take_drop, List.drop_take]
theorem toL_extract (s : ByteArray) (k : Nat) : toL (s.extract k s.size) = (toL s).drop k := by
  rw [toL_cut, List.take_of_length_le (by rw [toL_len]; exact Nat.le_refl _)]
theorem keptR (w : World) (R j : Nat) (v : Value) {w0 : World} (h : Kept (fun k => k = R) w0 w) : Kept (fun k => k = R) w0 (w.setCell ⟨R, j, none⟩ v) := Kept.set (F := fun k => k = R) h ⟨R, j, none⟩ rfl v
set_option maxHeartbeats 4000000 in
theorem rnum_cut (R : Nat) (s : ByteArray) (w : World) (h : RdIs w R s 0) (hs : s.size ≤ 9223372036854775807) (hc : VCut s) :
    Calls Tryd.prog 49 #[.pointer (some ⟨R, 0, none⟩)] w fun e w' => e = .returned (.int .i64 0) ∧ RdIs w' R s 1 ∧ Kept (fun k => k = R) w w' := by
  have G : Hid (∀ w, _) := fun w => rget_cut s w hs hc
  have c0 := h.cell 0 (v := .string s) rfl
  have c1 := h.cell 1 (v := .int .i64 0) rfl
  have f1 := h.free 1 (by show 1 < 2; decide)
  have H1 : Hid (Lies (w.setCell ⟨R, 1, none⟩ (.int .i64 1)) R [.string s, .int .i64 1]) := h.put 1 (by show 1 < 2; decide) (.int .i64 1)
  have d1 := H1.out.cell 1 (v := .int .i64 1) rfl
  have K1 : Hid (Kept (fun k => k = R) w (w.setCell ⟨R, 1, none⟩ (.int .i64 1))) := keptR w R 1 _ (Kept.refl _ w)
  clear h hc
  go_enter Tryd.func49, Tryd.ntmps49
  go_wp2_with fail
  refine (G.out _).mono ?_
  rintro e w1 ⟨rfl, rfl⟩
  clear G
  go_wp2_with fail
  go_ret
  exact ⟨rfl, H1.out, K1.out⟩
set_option maxHeartbeats 4000000 in
theorem rnum_has (R : Nat) (s : ByteArray) (w : World) (k : Nat) (h : RdIs w R s 0) (hs : s.size ≤ 9223372036854775807) (hk : VHas s k) :
    Calls Tryd.prog 49 #[.pointer (some ⟨R, 0, none⟩)] w fun e w' => e = .returned (.int .i64 (gva (byt s) k)) ∧ RdIs w' R (s.extract k s.size) 0 ∧ Kept (fun k => k = R) w w' := by
  have G : Hid (∀ w, _) := fun w => rget_has s w k hs hk
  have hkl : k ≤ s.size := hk.2.1
  have hR := h.lt (by show 0 < 2; decide)
  have H0 : Hid (Lies w R [.string s, .int .i64 0]) := h
  have c0 := h.cell 0 (v := .string s) rfl
  clear h hk
  generalize gva (byt s) k = n at *
  go_enter Tryd.func49, Tryd.ntmps49
  go_wp2_with fail
  refine (G.out _).mono ?_
  rintro e w1 ⟨rfl, b1⟩
  have H1 : Hid (Lies w1 R [.string s, .int .i64 0]) := H0.out.keep (by show 0 < 2; decide) b1
  have K1 : Hid (Kept (fun k => k = R) w w1) := .of _ b1
  clear G b1 H0 c0
  have e1 := H1.out.cell 1 (v := .int .i64 0) rfl
  have f1 := H1.out.free 1 (by show 1 < 2; decide)
  have H2 : Hid (Lies (w1.setCell ⟨R, 1, none⟩ (.int .i64 0)) R [.string s, .int .i64 0]) := H1.out.put 1 (by show 1 < 2; decide) (.int .i64 0)
  have K2 : Hid (Kept (fun k => k = R) w (w1.setCell ⟨R, 1, none⟩ (.int .i64 0))) := keptR w1 R 1 _ K1.out
  have g0 := H2.out.cell 0 (v := .string s) rfl
  have g1 := H2.out.cell 1 (v := .int .i64 0) rfl
  have g2 := H2.out.free 0 (by show 0 < 2; decide)
  have H3 : Hid (Lies ((w1.setCell ⟨R, 1, none⟩ (.int .i64 0)).setCell ⟨R, 0, none⟩ (.string (s.extract k s.size))) R [.string (s.extract k s.size), .int .i64 0]) := H2.out.put 0 (by show 0 < 2; decide) _
  have K3 : Hid (Kept (fun k => k = R) w ((w1.setCell ⟨R, 1, none⟩ (.int .i64 0)).setCell ⟨R, 0, none⟩ (.string (s.extract k s.size)))) := keptR _ R 0 _ K2.out
  clear H1 K1 H2 K2
  go_wp2_with fail
  go_ret
  exact ⟨rfl, H3.out, K3.out⟩
/-- What a number leaves. -/
theorem rnum_ok (R : Nat) (s : ByteArray) (w : World) (h : RdIs w R s 0) (hs : s.size ≤ 9223372036854775807) :
    Calls Tryd.prog 49 #[.pointer (some ⟨R, 0, none⟩)] w fun e w' => Kept (fun k => k = R) w w' ∧
      ((∃ n s', rInt (toL s) = .ok (n, toL s') ∧ e = .returned (.int .i64 n) ∧ RdIs w' R s' 0) ∨ (rInt (toL s) = .error 1 ∧ e = .returned (.int .i64 0) ∧ RdIs w' R s 1)) := by
  rcases cut_or_has s with q | ⟨k, q⟩
  · refine (rnum_cut R s w h hs q).mono ?_
    rintro e w' ⟨rfl, h1, k1⟩
    exact ⟨k1, .inr ⟨by unfold rInt Rd.bind rNum; rw [link_cut q], rfl, h1⟩⟩
  · refine (rnum_has R s w k h hs q).mono ?_
    rintro e w' ⟨rfl, h1, k1⟩
    refine ⟨k1, .inl ⟨_, s.extract k s.size, ?_, rfl, h1⟩⟩
    unfold rInt Rd.bind rNum
    rw [link_has q]
    obtain ⟨_, _, m, hk, _⟩ := q
    have := (gva_bd (byt s) (byt_bd s) hk).1
    show Except.ok _ = _
    rw [toL_extract, Int.toNat_of_nonneg this]
set_option maxHeartbeats 4000000 in
theorem rnum_bad (R : Nat) (s : ByteArray) (x : Int) (w : World) (h : RdIs w R s x) (hx : x ≠ 0) (hs : s.size ≤ 9223372036854775807) :
    Calls Tryd.prog 49 #[.pointer (some ⟨R, 0, none⟩)] w fun e w' => e = .returned (.int .i64 0) ∧ RdIs w' R s x ∧ Kept (fun k => k = R) w w' := by
  have g : (x == 0) = false := by simp [hx]
  have g' : (x != 0) = true := by simp [hx]
  have G : Hid (∀ w, ∃ n k e, Calls Tryd.prog 62 #[.string s] w fun r w' => r = .returned (.tuple #[.int .i64 n, .int .i64 k, .int .i64 e]) ∧ Below w.heap.size w w') := fun w => by
    rcases cut_or_has s with q | ⟨k, q⟩
    · exact ⟨0, 0, 1, (rget_cut s w hs q).mono fun _ _ ⟨a, b⟩ => ⟨a, b ▸ Below.refl _ _⟩⟩
    · exact ⟨_, _, 0, rget_has s w k hs q⟩
  have H0 : Hid (Lies w R [.string s, .int .i64 x]) := h
  have c0 := h.cell 0 (v := .string s) rfl
  obtain ⟨n, k, e0, G1⟩ := G.out w
  replace G1 : Hid (∀ _ : Unit, Calls Tryd.prog 62 #[.string s] w fun r w' => r = .returned (.tuple #[.int .i64 n, .int .i64 k, .int .i64 e0]) ∧ Below w.heap.size w w') := fun _ => G1
  clear h G hx
  go_enter Tryd.func49, Tryd.ntmps49
  go_wp2_with fail
  refine (G1.out ()).mono ?_
  rintro e w1 ⟨rfl, b1⟩
  have H1 : Hid (Lies w1 R [.string s, .int .i64 x]) := H0.out.keep (by show 0 < 2; decide) b1
  have K1 : Hid (Kept (fun k => k = R) w w1) := .of _ b1
  clear G1 b1 H0 c0
  have e1 := H1.out.cell 1 (v := .int .i64 x) rfl
  go_wp2_with fail
  go_ret
  exact ⟨rfl, H1.out, K1.out⟩
set_option maxHeartbeats 4000000 in
theorem rtext_err (R : Nat) (s : ByteArray) (w : World) (h : RdIs w R s 0) (G : Hid (∀ w, Calls Tryd.prog 63 #[.string s] w fun e w' => e = .returned (.tuple #[.string ⟨#[]⟩, .int .i64 0, .int .i64 1]) ∧ Below w.heap.size w w')) :
    Calls Tryd.prog 52 #[.pointer (some ⟨R, 0, none⟩)] w fun e w' => e = .returned (.string ⟨#[]⟩) ∧ RdIs w' R s 1 ∧ Kept (fun k => k = R) w w' := by
  have H0 : Hid (Lies w R [.string s, .int .i64 0]) := h
  have c0 := h.cell 0 (v := .string s) rfl
  clear h
  go_enter Tryd.func52, Tryd.ntmps52
  go_wp2_with fail
  refine (G.out _).mono ?_
  rintro e w1 ⟨rfl, b1⟩
  have H1 : Hid (Lies w1 R [.string s, .int .i64 0]) := H0.out.keep (by show 0 < 2; decide) b1
  have K1 : Hid (Kept (fun k => k = R) w w1) := .of _ b1
  clear G b1 H0 c0
  have e1 := H1.out.cell 1 (v := .int .i64 0) rfl
  have f1 := H1.out.free 1 (by show 1 < 2; decide)
  have H2 : Hid (Lies (w1.setCell ⟨R, 1, none⟩ (.int .i64 1)) R [.string s, .int .i64 1]) := H1.out.put 1 (by show 1 < 2; decide) (.int .i64 1)
  have K2 : Hid (Kept (fun k => k = R) w (w1.setCell ⟨R, 1, none⟩ (.int .i64 1))) := keptR w1 R 1 _ K1.out
  have g1 := H2.out.cell 1 (v := .int .i64 1) rfl
  clear H1 K1
  go_wp2_with fail
  go_ret
  exact ⟨rfl, H2.out, K2.out⟩
set_option maxHeartbeats 4000000 in
theorem rtext_yes (R : Nat) (s t : ByteArray) (n : Nat) (w : World) (h : RdIs w R s 0) (_hs : s.size ≤ 9223372036854775807) (hn : n ≤ s.size) (G : Hid (∀ w, Calls Tryd.prog 63 #[.string s] w fun e w' => e = .returned (.tuple #[.string t, .int .i64 (n : Int), .int .i64 0]) ∧ Below w.heap.size w w')) :
    Calls Tryd.prog 52 #[.pointer (some ⟨R, 0, none⟩)] w fun e w' => e = .returned (.string t) ∧ RdIs w' R (s.extract n s.size) 0 ∧ Kept (fun k => k = R) w w' := by
  have H0 : Hid (Lies w R [.string s, .int .i64 0]) := h
  have c0 := h.cell 0 (v := .string s) rfl
  clear h
  go_enter Tryd.func52, Tryd.ntmps52
  go_wp2_with fail
  refine (G.out _).mono ?_
  rintro e w1 ⟨rfl, b1⟩
  have H1 : Hid (Lies w1 R [.string s, .int .i64 0]) := H0.out.keep (by show 0 < 2; decide) b1
  have K1 : Hid (Kept (fun k => k = R) w w1) := .of _ b1
  clear G b1 H0 c0
  have e1 := H1.out.cell 1 (v := .int .i64 0) rfl
  have f1 := H1.out.free 1 (by show 1 < 2; decide)
  have H2 : Hid (Lies (w1.setCell ⟨R, 1, none⟩ (.int .i64 0)) R [.string s, .int .i64 0]) := H1.out.put 1 (by show 1 < 2; decide) (.int .i64 0)
  have K2 : Hid (Kept (fun k => k = R) w (w1.setCell ⟨R, 1, none⟩ (.int .i64 0))) := keptR w1 R 1 _ K1.out
  have g0 := H2.out.cell 0 (v := .string s) rfl
  have g1 := H2.out.cell 1 (v := .int .i64 0) rfl
  have g2 := H2.out.free 0 (by show 0 < 2; decide)
  have H3 : Hid (Lies ((w1.setCell ⟨R, 1, none⟩ (.int .i64 0)).setCell ⟨R, 0, none⟩ (.string (s.extract n s.size))) R [.string (s.extract n s.size), .int .i64 0]) := H2.out.put 0 (by show 0 < 2; decide) _
  have K3 : Hid (Kept (fun k => k = R) w ((w1.setCell ⟨R, 1, none⟩ (.int .i64 0)).setCell ⟨R, 0, none⟩ (.string (s.extract n s.size)))) := keptR _ R 0 _ K2.out
  clear H1 K1 H2 K2
  go_wp2_with fail
  go_ret
  exact ⟨rfl, H3.out, K3.out⟩
/-- What a text leaves. -/
theorem rtext_ok (R : Nat) (s : ByteArray) (w : World) (h : RdIs w R s 0) (hs : s.size ≤ 9223372036854775807) :
    Calls Tryd.prog 52 #[.pointer (some ⟨R, 0, none⟩)] w fun e w' => Kept (fun k => k = R) w w' ∧
      ((∃ t s', rText (toL s) = .ok (toL t, toL s') ∧ e = .returned (.string t) ∧ RdIs w' R s' 0) ∨ (rText (toL s) = .error 1 ∧ e = .returned (.string ⟨#[]⟩) ∧ RdIs w' R s 1)) := by
  rcases cut_or_has s with q | ⟨k, q⟩
  · refine (rtext_err R s w h fun w => (rtake_cut s w hs q).mono fun _ _ ⟨a, b⟩ => ⟨a, b ▸ Below.refl _ _⟩).mono ?_
    rintro e w' ⟨rfl, h1, k1⟩
    exact ⟨k1, .inr ⟨by unfold rText Rd.bind rNum; rw [link_cut q], rfl, h1⟩⟩
  · have hq := q
    obtain ⟨_, hkl, m, hk, _⟩ := hq
    have hb := (gva_bd (byt s) (byt_bd s) hk).1
    have hn : rNum (toL s) = .ok ((gva (byt s) k).toNat, (toL s).drop k) := by unfold rNum; rw [link_has q]
    have hlen : ((toL s).drop k).length = s.size - k := by rw [List.length_drop, toL_len]
    obtain ⟨c, hc⟩ : ∃ c : Nat, gva (byt s) k = c := ⟨(gva (byt s) k).toNat, by omega⟩
    rw [hc, Int.toNat_natCast] at hn
    by_cases hl : k + c ≤ s.size
    · refine (rtext_yes R s (s.extract k (k + c)) (k + c) w h hs hl fun w => by have := rtake_ok s w hs k c q hc hl; simpa using this).mono ?_
      rintro e w' ⟨rfl, h1, k1⟩
      refine ⟨k1, .inl ⟨_, _, ?_, rfl, h1⟩⟩
      unfold rText
      rw [bind_ok hn]
      unfold rTake
      rw [if_neg (by omega), toL_extract, toL_cut, List.drop_drop, List.drop_take]
      congr 3
      omega
    · refine (rtext_err R s w h fun w => rtake_short s w hs k q (by omega)).mono ?_
      rintro e w' ⟨rfl, h1, k1⟩
      refine ⟨k1, .inr ⟨?_, rfl, h1⟩⟩
      unfold rText
      rw [bind_ok hn]
      unfold rTake
      rw [if_pos (by omega)]
set_option maxHeartbeats 4000000 in
/-- What the byte of Fin leaves. -/
theorem rfin_ok (R : Nat) (s : ByteArray) (w : World) (h : RdIs w R s 0) (hs : s.size ≤ 9223372036854775807) :
    Calls Tryd.prog 51 #[.pointer (some ⟨R, 0, none⟩)] w fun e w' => Kept (fun k => k = R) w w' ∧
      ((∃ b s', rFin (toL s) = .ok (b, toL s') ∧ e = .returned (.bool b) ∧ RdIs w' R s' 0) ∨ (∃ x, x ≠ 0 ∧ rFin (toL s) = .error x ∧ e = .returned (.bool false) ∧ RdIs w' R s x)) := by
  have c0 := h.cell 0 (v := .string s) rfl
  have c1 := h.cell 1 (v := .int .i64 0) rfl
  have f0 := h.free 0 (by show 0 < 2; decide)
  have f1 := h.free 1 (by show 1 < 2; decide)
  have H0 : Hid (Lies w R [.string s, .int .i64 0]) := h
  clear h
  cases e : toL s with
  | nil =>
    have hz : s.size = 0 := by rw [← toL_len, e]; rfl
    have hE : s.toList.isEmpty = true := by
      rw [ByteArray.toList_eq]
      show (toL s).isEmpty = true
      rw [e]
      rfl
    have H1 : Hid (Lies (w.setCell ⟨R, 1, none⟩ (.int .i64 1)) R [.string s, .int .i64 1]) := H0.out.put 1 (by show 1 < 2; decide) (.int .i64 1)
    have d1 := H1.out.cell 1 (v := .int .i64 1) rfl
    have K1 : Hid (Kept (fun k => k = R) w (w.setCell ⟨R, 1, none⟩ (.int .i64 1))) := keptR w R 1 _ (Kept.refl _ w)
    clear H0 e
    go_enter Tryd.func51, Tryd.ntmps51
    go_wp2
    go_ret
    exact ⟨K1.out, .inr ⟨1, by decide, rfl, rfl, H1.out⟩⟩
  | cons c r =>
    have hz : 0 < s.size := by rw [← toL_len, e]; simp
    have hE : s.toList.isEmpty = false := by
      rw [ByteArray.toList_eq]
      show (toL s).isEmpty = false
      rw [e]
      rfl
    have hi : s[0] = c := by
      have : (toL s)[0]? = some c := by rw [e]; rfl
      have h2 : (toL s)[0]? = some s[0] := by
        unfold toL
        rw [List.getElem?_eq_getElem (by simpa using hz)]
        rfl
      rw [h2] at this
      injection this
    have hr : toL (s.extract 1 s.size) = r := by rw [toL_extract, e]; rfl
    by_cases q : 1 < c.toNat
    · have g : decide ((1 : Int) < (s[0].toNat : Int)) = true := decide_eq_true (by rw [hi]; omega)
      have H1 : Hid (Lies (w.setCell ⟨R, 1, none⟩ (.int .i64 3)) R [.string s, .int .i64 3]) := H0.out.put 1 (by show 1 < 2; decide) (.int .i64 3)
      have d1 := H1.out.cell 1 (v := .int .i64 3) rfl
      have K1 : Hid (Kept (fun k => k = R) w (w.setCell ⟨R, 1, none⟩ (.int .i64 3))) := keptR w R 1 _ (Kept.refl _ w)
      have hF : Hid (rFin (c :: r) = .error 3) := by
        unfold Hid rFin
        simp [q]
      clear H0 e hi hr q
      go_enter Tryd.func51, Tryd.ntmps51
      go_wp2
      go_ret
      exact ⟨K1.out, .inr ⟨3, by decide, hF.out, rfl, H1.out⟩⟩
    · have g : decide ((1 : Int) < (s[0].toNat : Int)) = false := decide_eq_false (by rw [hi]; omega)
      have H1 : Hid (Lies (w.setCell ⟨R, 0, none⟩ (.string (s.extract 1 s.size))) R [.string (s.extract 1 s.size), .int .i64 0]) := H0.out.put 0 (by show 0 < 2; decide) _
      have K1 : Hid (Kept (fun k => k = R) w (w.setCell ⟨R, 0, none⟩ (.string (s.extract 1 s.size)))) := keptR w R 0 _ (Kept.refl _ w)
      have hF : Hid (rFin (c :: r) = .ok (((s[0].toNat : Int) == 1), toL (s.extract 1 s.size))) := by
        unfold Hid rFin
        rw [hr, hi]
        have : (c == 1) = ((c.toNat : Int) == 1) := by
          rw [Bool.eq_iff_iff]
          simp only [beq_iff_eq]
          constructor
          · rintro rfl; rfl
          · intro h
            exact UInt8.toNat_inj.1 (by show c.toNat = 1; omega)
        simp [q, this]
      clear H0 e hi hr q
      go_enter Tryd.func51, Tryd.ntmps51
      go_wp2
      go_ret
      exact ⟨K1.out, .inl ⟨_, _, hF.out, rfl, H1.out⟩⟩
end Go.Proofs.YtmngpkkpkjnejaaDoor
