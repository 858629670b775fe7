/-
  The law FieldsTable returns true for all numbers, by what is asked of the program's calls (FiFace). No other condition.
-/
import Derived.Test.YtphmoieaddjanaaDoorFiReads
namespace Go.Proofs.YtphmoieaddjanaaDoor
set_option maxRecDepth 100000
open Go.RowKit Go.Sort

set_option maxHeartbeats 8000000 in
theorem table_walk {T : World → Prop} (fc : FiFace T) (i : Int) (w : World) (t : T w) (hi : -9223372036854775808 ≤ i ∧ i ≤ 9223372036854775807) :
    Calls Tryd.prog 7 #[.int .i64 i] w fun e w' => e = .returned (.bool true) ∧ Below w.heap.size w w' := by
  have WK := Lib.hid (works_ok fc w t)
  have EN : Hid (∀ w', Below w.heap.size w w' → _) := fun w' b => fc.entry w' i (fc.keep t b) hi
  have WX : Hid (∀ w' x d, Below w.heap.size w w' → FdsAt w' x d → d.length ≤ 16 → _) := fun w' x d b (hx : FdsAt w' x d) (hd : d.length ≤ 16) => fc.write w' x d (fc.keep t b) hx (by unfold maxLen; omega)
  have RD : Hid (∀ w' (u : ByteArray), Below w.heap.size w w' → u.size ≤ 100000 → _) := fun w' u b (hu : u.size ≤ 100000) => fc.read w' u (fc.keep t b) hu
  clear t
  by_cases r : 0 ≤ i ∧ i < 20
  · obtain ⟨n, rfl⟩ : ∃ n : Nat, i = n := ⟨i.toNat, by omega⟩
    have hn : n < 20 := by omega
    obtain ⟨r1, r2, r3⟩ := tab_right n hn
    have ev := entV_in r
    rw [Int.toNat_natCast] at ev
    obtain ⟨f, hf⟩ : ∃ f, f = tab.getD n nF := ⟨_, rfl⟩
    rw [← hf] at ev
    rw [show tab.getD n ([], []) = f from hf.symm] at r1 r2 r3
    clear hf
    have ck : chkS [f] = 0 := by
      unfold chkS
      rw [if_neg (by simp)]
      unfold fstE
      rw [if_pos r1]
      rfl
    have wl : writeL [f] = lineL f := by simp [writeL]
    have wv := wrV_ok ck
    rw [wl] at wv
    have y2 : (strL (lineL f)).size = 1 := by rw [strL_size]; exact r2
    obtain ⟨X, hX⟩ : ∃ X, X = strL (lineL f) := ⟨_, rfl⟩
    rw [← hX] at wv y2
    obtain ⟨Z, hZ⟩ : ∃ Z, Z = strL [UInt8.ofNat (128 + n)] := ⟨_, rfl⟩
    have zs : Z.size = 1 := by rw [hZ]; rfl
    have zr : readS (toL Z) = .ok [f] := by rw [hZ, toL_strL]; exact r3
    have CV : Hid (∀ w' g', w'.cell? ⟨g', 0, none⟩ = some (.int .u8 (128 + (n : Int))) → (convert 40 9 (.slice (some ⟨g', 0, none⟩) 1 1)).run Tryd.prog w' = .ok (.string Z) w') := fun w' g' h => by rw [hZ]; exact one_str w' g' 1 (128 + n) _ (by omega) (by omega) h
    have hw8 : IntKind.u8.wrap (128 + (n : Int)) = (128 + (n : Int)) := by rw [IntKind.wrap_u8]; omega
    clear hX hZ r1 r2 r3 ck wl
    replace wv := Lib.hid wv
    replace zr := Lib.hid zr
    obtain ⟨fa, fb⟩ := f
    simp only at ev
    have ea : ((strL fa).toList == (strL fa).toList) = true := by rw [eq_strL]; exact decide_eq_true rfl
    have eb : ((strL fb).toList == (strL fb).toList) = true := by rw [eq_strL]; exact decide_eq_true rfl
    rw [ev] at EN
    clear ev r hi
    go_enter Tryd.func7, Tryd.ntmps7
    go_wp2_with fail
    refine WK.out.mono ?_
    rintro e w1 ⟨rfl, b1⟩
    have B1 := Lib.hid b1
    clear b1 WK
    go_wp2_with fail
    refine (EN.out w1 B1.out).mono ?_
    rintro e w2 ⟨rfl, b2⟩
    have B2 := Lib.hid (B1.out.trans (b2.mono B1.out.size))
    clear b2 B1 EN
    have BX := Lib.hid (Box.new w2 (strL fa) (strL fb))
    obtain ⟨K, hK⟩ : ∃ K, K = w2.heap.size := ⟨_, rfl⟩
    rw [← hK] at BX
    go_upto_region 4 with fail
    rw [← hK]
    replace hK := Lib.hid hK
    generalize w2.alloc (.cells #[.string (strL fa), .string (strL fb)] 34) = w3 at *
    have B3 := Lib.hid (B2.out.trans (BX.out.bel.mono B2.out.size))
    have k0 := BX.out.k.cell 0 (v := .string (strL fa)) rfl
    have k1 := BX.out.k.cell 1 (v := .string (strL fb)) rfl
    have fn : FdsAt (w3.alloc (.cells #[.string (strL fa), .string (strL fb)] 34)) (.slice (some ⟨w3.heap.size, 0, none⟩) 1 1) [(fa, fb)] := fds_new w3 [(fa, fb)] 1
    have bn : Below w3.heap.size w3 (w3.alloc (.cells #[.string (strL fa), .string (strL fb)] 34)) := (Below.refl _ _).alloc (Nat.le_refl _) _
    have BY := Lib.hid (BX.out.keep bn)
    have B4 := Lib.hid (B3.out.trans (bn.mono B3.out.size))
    have W4 := Lib.hid (WX.out _ _ _ B4.out fn (by show 1 ≤ 16; decide))
    rw [wv.out] at W4
    clear B2 BX B3 fn bn WX
    go_wp2_with fail
    refine W4.out.mono ?_
    rintro e w4 ⟨rfl, b4⟩
    have BZ := Lib.hid (BY.out.keep b4)
    have B5 := Lib.hid (B4.out.trans (b4.mono B4.out.size))
    clear k0 k1 b4 BY B4 W4
    have cv := CV.out (w4.alloc (.cells #[.int .u8 (128 + (n : Int))] 5)) w4.heap.size (by rw [World.cell?_alloc_new]; rfl)
    have bm : Below w4.heap.size w4 (w4.alloc (.cells #[.int .u8 (128 + (n : Int))] 5)) := (Below.refl _ _).alloc (Nat.le_refl _) _
    have BU := Lib.hid (BZ.out.keep bm)
    have B6 := Lib.hid (B5.out.trans (bm.mono B5.out.size))
    have R6 := Lib.hid (RD.out _ Z B6.out (by omega))
    clear BZ bm B5 RD CV
    go_wp2_with fail
    refine R6.out.mono ?_
    rintro e w6 ⟨⟨v, rfl, hf⟩, b6⟩
    rw [zr.out] at hf ⊢
    unfold rdE
    unfold rdL at hf
    simp only at hf ⊢
    have BV := Lib.hid (BU.out.keep b6)
    have B7 := Lib.hid (B6.out.trans (b6.mono B6.out.size))
    obtain ⟨la, lc, rfl⟩ := hf.slice
    obtain ⟨g, o, eg, d1, d2⟩ := hf.at (k := 0) (by show 0 < 1; decide)
    subst eg
    have ia := fun w' => at_fds g o 1 lc 0 w' (by decide) 0 rfl o rfl
    have k0 := BV.out.k.cell 0 (v := .string (strL fa)) rfl
    have k1 := BV.out.k.cell 1 (v := .string (strL fb)) rfl
    change w6.cell? ⟨g, o, none⟩ = some (.string (strL fa)) at d1
    change w6.cell? ⟨g, o + 1, none⟩ = some (.string (strL fb)) at d2
    clear hf b6 BU B6 BV R6 cv
    go_wp2_with fail
    go_quiet (fail)
    have B8 := Lib.hid (⟨rfl, rfl, rfl, Nat.le_refl _, fun _ _ => rfl⟩ : Below w6.heap.size w6 (w6.drewN nq))
    generalize w6.drewN nq = w7 at *
    have B9 := Lib.hid (B7.out.trans (B8.out.mono B7.out.size))
    go_wp2_with fail
    go_ret
    exact ⟨rfl, B9.out⟩
  · rw [entV_out r] at EN
    have y : decide (i < 0) = true ∨ (decide (i < 0) = false ∧ decide ((20 : Int) ≤ i) = true) := by
      by_cases c : i < 0
      · exact .inl (decide_eq_true c)
      · exact .inr ⟨decide_eq_false c, decide_eq_true (by omega)⟩
    go_enter Tryd.func7, Tryd.ntmps7
    go_wp2_with fail
    refine WK.out.mono ?_
    rintro e w1 ⟨rfl, b1⟩
    have B1 := Lib.hid b1
    clear b1 WK
    go_wp2_with fail
    refine (EN.out w1 B1.out).mono ?_
    rintro e w2 ⟨rfl, b2⟩
    have B2 := Lib.hid (B1.out.trans (b2.mono B1.out.size))
    clear b2 B1 EN
    have B3 : Hid (Below w.heap.size w (w2.alloc (.cells #[.string ⟨#[]⟩, .string ⟨#[]⟩] 34))) := B2.out.alloc B2.out.size _
    go_upto_region 4 with fail
    generalize w2.alloc (.cells #[.string ⟨#[]⟩, .string ⟨#[]⟩] 34) = w3 at *
    rcases y with y0 | ⟨y0, y1⟩
    · go_wp2_with fail
      go_ret
      exact ⟨rfl, B3.out⟩
    · go_wp2_with fail
      go_ret
      exact ⟨rfl, B3.out⟩
end Go.Proofs.YtphmoieaddjanaaDoor
