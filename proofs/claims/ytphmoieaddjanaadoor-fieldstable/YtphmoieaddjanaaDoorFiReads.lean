/-
  The law FieldsReads returns true for all bytes and numbers, by what is asked of the program's calls (FiFace). No other condition.
-/
import Derived.Test.YtphmoieaddjanaaDoorFiBack
namespace Go.Proofs.YtphmoieaddjanaaDoor
set_option maxRecDepth 100000
open Go.RowKit Go.Sort

/-- A new box with a field in it. -/
structure Box (w w' : World) (K : Nat) (A B : ByteArray) : Prop where
  k : Lies w' K [.string A, .string B]
  bel : Below w.heap.size w w'
theorem Box.new (w : World) (A B : ByteArray) : Box w (w.alloc (.cells #[.string A, .string B] 34)) w.heap.size A B :=
  ⟨Lies.new w [.string A, .string B] 34, (Below.refl _ _).alloc (Nat.le_refl _) _⟩
theorem Box.keep {w w1 w2 : World} {K : Nat} {A B : ByteArray} (h : Box w w1 K A B) (b : Below w1.heap.size w1 w2) : Box w w2 K A B := ⟨h.k.keep (by show 0 < 2; decide) b, h.bel.trans (b.mono h.bel.size)⟩
theorem entV_in {i : Int} (h : 0 ≤ i ∧ i < 20) : entV i = .tuple #[.agg #[.string (strL (tab.getD i.toNat nF).1), .string (strL (tab.getD i.toNat nF).2)], .bool true] := by
  unfold entV
  rw [if_pos h]
  rfl
theorem entV_out {i : Int} (h : ¬ (0 ≤ i ∧ i < 20)) : entV i = .tuple #[.agg #[.string ⟨#[]⟩, .string ⟨#[]⟩], .bool false] := by
  unfold entV
  rw [if_neg h]
  rfl
theorem rd_len (s : ByteArray) : (rdL (readS (toL s))).length ≤ maxLen := by
  cases q : readS (toL s) with
  | ok d => exact Nat.le_trans (chk_len (read_back q).1).1 (by decide)
  | error x => exact Nat.zero_le _
set_option maxHeartbeats 8000000 in
theorem reads_walk {T : World → Prop} (fc : FiFace T) (s : ByteArray) (i : Int) (w : World) (t : T w) (hs : s.size ≤ maxLen) (hi : -9223372036854775808 ≤ i ∧ i ≤ 9223372036854775807) :
    Calls Tryd.prog 4 #[.string s, .int .i64 i] w fun e w' => e = .returned (.bool true) ∧ Below w.heap.size w w' := by
  have hs2 : s.size ≤ 9223372036854775807 := by unfold maxLen at hs; omega
  by_cases q : 20000 < s.size
  · have z : decide ((20000 : Int) < (s.size : Int)) = true := decide_eq_true (by omega)
    have z' : decide (20000 < s.size) = true := decide_eq_true q
    go_enter Tryd.func4, Tryd.ntmps4
    go_wp2_with fail
    go_ret
    exact ⟨rfl, Below.refl _ _⟩
  · have z : decide ((20000 : Int) < (s.size : Int)) = false := decide_eq_false (by omega)
    have z' : decide (20000 < s.size) = false := decide_eq_false q
    have RD := Lib.hid (fc.read w s t (by omega))
    have RR : Hid (∀ w', _) := fun w' => rread14_ok s w' (by omega)
    have EN : Hid (∀ w', Below w.heap.size w w' → _) := fun w' b => fc.entry w' i (fc.keep t b) hi
    have TB : Hid (∀ w, _) := fun w => rtable_ok w
    have SM : Hid (∀ w' u v, FdsAt w' u (rdL (readS (toL s))) → FdsAt w' v (rdL (readS (toL s))) → _) := fun w' u v (hu : FdsAt w' u (rdL (readS (toL s)))) (hv : FdsAt w' v (rdL (readS (toL s)))) => rsame14_ok _ _ u v w' hu hv (rd_len s) (rd_len s)
    clear t hs q
    go_enter Tryd.func4, Tryd.ntmps4
    go_wp2_with fail
    refine RD.out.mono ?_
    rintro e w1 ⟨⟨v1, rfl, f1⟩, b1⟩
    obtain ⟨a1, c1, rfl⟩ := f1.slice
    replace f1 := Lib.hid f1
    have B1 := Lib.hid b1
    clear b1 RD
    go_wp2_with fail
    refine (RR.out w1).mono ?_
    rintro e w2 ⟨⟨v2, rfl, f2⟩, b2⟩
    obtain ⟨a2, c2, rfl⟩ := f2.slice
    have F1 := Lib.hid (f1.out.keep b2)
    have F2 := Lib.hid f2
    have B2 := Lib.hid (B1.out.trans (b2.mono B1.out.size))
    clear b2 B1 f1 f2 RR
    generalize rdL (readS (toL s)) = d at *
    generalize rdE (readS (toL s)) = x at *
    go_wp2_with fail
    refine (EN.out w2 B2.out).mono ?_
    rintro e w3 ⟨rfl, b3⟩
    have G1 := Lib.hid (F1.out.keep b3)
    have G2 := Lib.hid (F2.out.keep b3)
    have B3 := Lib.hid (B2.out.trans (b3.mono B2.out.size))
    clear b3 B2 F1 F2 EN
    by_cases r : 0 ≤ i ∧ i < 20
    · rw [entV_in r]
      obtain ⟨n, rfl⟩ : ∃ n : Nat, i = n := ⟨i.toNat, by omega⟩
      have hn : n < 20 := by omega
      rw [Int.toNat_natCast]
      have y0 : decide ((0 : Int) ≤ (n : Int)) = true := decide_eq_true (by omega)
      have y1 : decide ((n : Int) < 20) = true := decide_eq_true (by omega)
      have y1' : decide (n < 20) = true := decide_eq_true (by omega)
      obtain ⟨f, hf⟩ : ∃ f, f = tab.getD n nF := ⟨_, rfl⟩
      rw [← hf]
      have TN := Lib.hid hf.symm
      clear hf
      obtain ⟨fa, fb⟩ := f
      have BX := Lib.hid (Box.new w3 (strL fa) (strL fb))
      have ea : ((strL fa).toList == (strL fa).toList) = true := by rw [eq_strL]; exact decide_eq_true rfl
      have eb : ((strL fb).toList == (strL fb).toList) = true := by rw [eq_strL]; exact decide_eq_true rfl
      obtain ⟨K, hK⟩ : ∃ K, K = w3.heap.size := ⟨_, rfl⟩
      simp only at BX ⊢
      rw [← hK] at BX
      go_upto_region 6 with fail
      rw [← hK]
      replace hK := Lib.hid hK
      generalize w3.alloc (.cells #[.string (strL fa), .string (strL fb)] 34) = w4 at *
      have H1 := Lib.hid (G1.out.keep (BX.out.bel))
      have H2 := Lib.hid (G2.out.keep (BX.out.bel))
      have B4 := Lib.hid (B3.out.trans (BX.out.bel.mono B3.out.size))
      clear G1 G2 B3
      go_wp2_with fail
      refine (TB.out w4).mono ?_
      rintro e w5 ⟨tv, rfl, ft, b5⟩
      have J1 := Lib.hid (H1.out.keep b5)
      have J2 := Lib.hid (H2.out.keep b5)
      have B5 := Lib.hid (B4.out.trans (b5.mono B4.out.size))
      have BY := Lib.hid (BX.out.keep b5)
      obtain ⟨ta, tc, etv⟩ := ft.slice
      rw [tab_len] at etv
      subst etv
      obtain ⟨g, o, eg, d1, d2⟩ := ft.at (k := n) (by rw [tab_len]; exact hn)
      subst eg
      rw [TN.out] at d1 d2
      have ia := fun w' => at_fds g o 20 tc n w' hn (n : Int) rfl (o + 2 * n) rfl
      have k0 := BY.out.k.cell 0 (v := .string (strL fa)) rfl
      have k1 := BY.out.k.cell 1 (v := .string (strL fb)) rfl
      clear H1 H2 B4 BX BY b5 ft TB TN
      go_wp2_with fail
      go_quiet (fail)
      have B6 := Lib.hid (⟨rfl, rfl, rfl, Nat.le_refl _, fun _ _ => rfl⟩ : Below w5.heap.size w5 (w5.drewN nq))
      generalize w5.drewN nq = w6 at *
      have S6 := Lib.hid (SM.out w6 _ _ (J1.out.keep B6.out) (J2.out.keep B6.out))
      simp only [decide_true] at S6
      have B7 := Lib.hid (B5.out.trans (B6.out.mono B5.out.size))
      clear J1 J2 SM B5 B6
      go_wp2_with fail
      refine S6.out.mono ?_
      rintro e w7 ⟨rfl, b7⟩
      have B8 := Lib.hid (B7.out.trans (b7.mono B7.out.size))
      clear b7 B7 S6
      go_wp2_with fail
      go_ret
      exact ⟨rfl, B8.out⟩
    · rw [entV_out r]
      have BX := Lib.hid (Box.new w3 ⟨#[]⟩ ⟨#[]⟩)
      obtain ⟨K, hK⟩ : ∃ K, K = w3.heap.size := ⟨_, rfl⟩
      rw [← hK] at BX
      go_upto_region 6 with fail
      rw [← hK]
      replace hK := Lib.hid hK
      generalize w3.alloc (.cells #[.string ⟨#[]⟩, .string ⟨#[]⟩] 34) = w4 at *
      have H1 := Lib.hid (G1.out.keep (BX.out.bel))
      have H2 := Lib.hid (G2.out.keep (BX.out.bel))
      have B4 := Lib.hid (B3.out.trans (BX.out.bel.mono B3.out.size))
      clear G1 G2 B3
      go_wp2_with fail
      refine (TB.out w4).mono ?_
      rintro e w5 ⟨tv, rfl, ft, b5⟩
      have J1 := Lib.hid (H1.out.keep b5)
      have J2 := Lib.hid (H2.out.keep b5)
      have B5 := Lib.hid (B4.out.trans (b5.mono B4.out.size))
      have BY := Lib.hid (BX.out.keep b5)
      obtain ⟨ta, tc, etv⟩ := ft.slice
      rw [tab_len] at etv
      subst etv
      have k0 := BY.out.k.cell 0 (v := .string ⟨#[]⟩) rfl
      have k1 := BY.out.k.cell 1 (v := .string ⟨#[]⟩) rfl
      have S6 := Lib.hid (SM.out w5 _ _ J1.out J2.out)
      simp only [decide_true] at S6
      clear H1 H2 B4 BX BY b5 ft TB J1 J2 SM
      by_cases r0 : 0 ≤ i
      · have y0 : decide ((0 : Int) ≤ i) = true := decide_eq_true r0
        have y1 : decide (i < 20) = false := decide_eq_false (by omega)
        go_wp2_with fail
        refine S6.out.mono ?_
        rintro e w7 ⟨rfl, b7⟩
        have B8 := Lib.hid (B5.out.trans (b7.mono B5.out.size))
        clear b7 B5 S6
        go_wp2_with fail
        go_ret
        exact ⟨rfl, B8.out⟩
      · have y0 : decide ((0 : Int) ≤ i) = false := decide_eq_false r0
        go_wp2_with fail
        refine S6.out.mono ?_
        rintro e w7 ⟨rfl, b7⟩
        have B8 := Lib.hid (B5.out.trans (b7.mono B5.out.size))
        clear b7 B5 S6
        go_wp2_with fail
        go_ret
        exact ⟨rfl, B8.out⟩
end Go.Proofs.YtphmoieaddjanaaDoor
