/-
  The law FieldsCat returns true for all fields, by what is asked of the program's calls (FiFace). No condition but the statements' own bound of an argument's bytes.
-/
import Derived.Test.YtphmoieaddjanaaDoorFiWrites
namespace Go.Proofs.YtphmoieaddjanaaDoor
set_option maxRecDepth 100000
open Go.RowKit Go.Sort

/-- Both, one behind the other, in a new row. -/
theorem both_fds (w : World) {u v : Value} {l m : List Fd} (hu : FdsAt w u l) (hv : FdsAt w v m) (hd : l.length + m.length ≤ 16) :
    ∃ x w1 y w2, (∀ z, (builtin .append #[22, 22] 22 z #[.slice (some ⟨w.heap.size, 0, none⟩) 0 0, u]).run Tryd.prog (w.alloc (.cells #[] 34)) = .ok (.value x) w1) ∧ (∀ z, (builtin .append #[22, 22] 22 z #[x, v]).run Tryd.prog w1 = .ok (.value y) w2) ∧ FdsAt w2 y (l ++ m) ∧ Below w.heap.size w w2 := by
  obtain ⟨x, w1, h1, h2, h3, h4⟩ := copy_fds w hu (by omega) 22
  obtain ⟨y, w2, q1, q2, q3, q4⟩ := h2.cat h3 h4.size (hv.keep h4) (by omega) 22
  exact ⟨x, w1, y, w2, h1, q1, q2.fds, h4.grown q4 h4.size fun k hk => (h2.lt k hk).1⟩
theorem wrV_name (l : List Fd) : ∃ G c, wrV l = .tuple #[.string G, .int .i64 c] ∧ Hid (c = chkS l) ∧ Hid (chkS l = 0 → G = strL (writeL l)) := ⟨_, _, rfl, rfl, fun h => if_pos h⟩
set_option maxHeartbeats 16000000 in
theorem cat_walk {T : World → Prop} (fc : FiFace T) (l m : List Fd) (u v : Value) (w : World) (t : T w) (hu : FdsAt w u l) (hv : FdsAt w v m) (hl : l.length * 32 ≤ 140737488351232) (hm : m.length * 32 ≤ 140737488351232) :
    Calls Tryd.prog 6 #[u, v] w fun e w' => e = .returned (.bool true) ∧ Below w.heap.size w w' := by
  have WK := Lib.hid (works_ok fc w t)
  obtain ⟨ua, uc, rfl⟩ := hu.slice
  obtain ⟨va, vc, rfl⟩ := hv.slice
  have hw : wrap64 ((l.length : Int) + (m.length : Int)) = (l.length : Int) + (m.length : Int) := by unfold wrap64; omega
  by_cases q : 16 < l.length + m.length
  · have z : decide ((16 : Int) < (l.length : Int) + (m.length : Int)) = true := decide_eq_true (by omega)
    clear hu hv t
    go_enter Tryd.func6, Tryd.ntmps6
    go_wp2_with fail
    refine WK.out.mono ?_
    rintro e w1 ⟨rfl, b1⟩
    have B1 := Lib.hid b1
    clear b1 WK
    go_wp2_with fail
    go_ret
    exact ⟨rfl, B1.out⟩
  · have z : decide ((16 : Int) < (l.length : Int) + (m.length : Int)) = false := decide_eq_false (by omega)
    have KT : Hid (∀ w', Below w.heap.size w w' → T w') := fun w' b => fc.keep t b
    have WL : Hid (∀ w', Below w.heap.size w w' → _) := fun w' b => fc.write w' _ l (fc.keep t b) (hu.keep b) (by unfold maxLen; omega)
    have WM : Hid (∀ w', Below w.heap.size w w' → _) := fun w' b => fc.write w' _ m (fc.keep t b) (hv.keep b) (by unfold maxLen; omega)
    have WB : Hid (∀ w' x, Below w.heap.size w w' → FdsAt w' x (l ++ m) → _) := fun w' x b (hx : FdsAt w' x (l ++ m)) => fc.write w' x (l ++ m) (fc.keep t b) hx (by rw [List.length_append]; unfold maxLen; omega)
    have RD : Hid (∀ w' (s : ByteArray), Below w.heap.size w w' → s.size ≤ 100000 → _) := fun w' s b (hs : s.size ≤ 100000) => fc.read w' s (fc.keep t b) hs
    have SM : Hid (∀ w' x y, FdsAt w' x (l ++ m) → FdsAt w' y (l ++ m) → _) := fun w' x y (hx : FdsAt w' x (l ++ m)) (hy : FdsAt w' y (l ++ m)) => rsame14_ok _ _ x y w' hx hy (by rw [List.length_append]; unfold maxLen; omega) (by rw [List.length_append]; unfold maxLen; omega)
    have BF : Hid (∀ w', Below w.heap.size w w' → _) := fun w' b => both_fds w' (hu.keep b) (hv.keep b) (by omega)
    have CA := Lib.hid (chk_app (a := l) (b := m) (by omega))
    have q16 := Lib.hid q
    obtain ⟨X, cl, eX, hcl, hX⟩ := wrV_name l
    obtain ⟨Y, cm, eY, hcm, hY⟩ := wrV_name m
    obtain ⟨Z, cb, eZ, hcb, hZ⟩ := wrV_name (l ++ m)
    rw [eX] at WL
    rw [eY] at WM
    rw [eZ] at WB
    clear hu hv t hl hm q eX eY eZ
    go_enter Tryd.func6, Tryd.ntmps6
    go_wp2_with fail
    refine WK.out.mono ?_
    rintro e w1 ⟨rfl, b1⟩
    have B1 := Lib.hid b1
    clear b1 WK
    go_wp2_with fail
    refine (WL.out w1 B1.out).mono ?_
    rintro e w2 ⟨rfl, b2⟩
    have B2 := Lib.hid (B1.out.trans (b2.mono B1.out.size))
    clear b2 B1 WL
    go_wp2_with fail
    refine (WM.out w2 B2.out).mono ?_
    rintro e w3 ⟨rfl, b3⟩
    have B3 := Lib.hid (B2.out.trans (b3.mono B2.out.size))
    clear b3 B2 WM
    obtain ⟨x4, w4, x5, w5, r4, r5, f5, b5⟩ := BF.out w3 B3.out
    have B5 := Lib.hid (B3.out.trans (b5.mono B3.out.size))
    have W5 := Lib.hid (WB.out w5 x5 B5.out f5)
    replace r4 := Lib.hid r4
    replace r5 := Lib.hid r5
    clear f5 b5 B3 WB
    go_wp2_with (first
      | (refine obB2L _ rfl .append _ _ 22 22 rfl (.slice (some ⟨w3.heap.size, 0, none⟩) 0 0) (.slice ua l.length uc) rfl rfl r4.out ?_; clear r4)
      | (refine obB2L _ rfl .append _ _ 22 22 rfl x4 (.slice va m.length vc) rfl rfl r5.out ?_; clear r5))
    refine W5.out.mono ?_
    rintro e w6 ⟨rfl, b6⟩
    have B6 := Lib.hid (B5.out.trans (b6.mono B5.out.size))
    clear b6 B5 W5
    by_cases c1 : chkS l = 0
    · by_cases c2 : chkS m = 0
      · have c3 : chkS (l ++ m) = 0 := by rw [CA.out, if_pos c1, c2]
        have e1 : cl = 0 := hcl.out.trans c1
        have e2 : cm = 0 := hcm.out.trans c2
        have e3 : cb = 0 := hcb.out.trans c3
        subst e1 e2 e3
        have hX := hX.out c1
        have hY := hY.out c2
        have hZ := hZ.out c3
        have CL := chk_len c3
        have rr := read_write c3
        have hZ2 : Z = X ++ Y := by rw [hX, hY, hZ, strL_append, write_app]
        have XY : (X ++ Y).size ≤ 9600 := by rw [← hZ2, hZ, strL_size]; exact CL.2
        have XY2 : X.size + Y.size ≤ 9600 := by rw [← ByteArray.size_append]; exact XY
        have rr2 : readS (toL (X ++ Y)) = .ok (l ++ m) := by rw [← hZ2, hZ, toL_strL]; exact rr
        clear hX hY hZ rr CA c1 c2 c3 CL hcl hcm hcb
        subst hZ2
        have ee := tl_refl (X ++ Y)
        replace rr2 := Lib.hid rr2
        go_wp2_with fail
        refine (RD.out w6 (X ++ Y) B6.out (by omega)).mono ?_
        rintro e w7 ⟨hr, b7⟩
        have B7 := Lib.hid (B6.out.trans (b7.mono B6.out.size))
        clear b7 B6 RD
        obtain ⟨x7, rfl, f7⟩ := hr
        rw [rr2.out] at f7 ⊢
        change FdsAt w7 x7 (l ++ m) at f7
        obtain ⟨x8, w8, x9, w9, r8, r9, f9, b9⟩ := BF.out w7 B7.out
        have B9 := Lib.hid (B7.out.trans (b9.mono B7.out.size))
        have S9 := Lib.hid (SM.out w9 x7 x9 (f7.keep b9) f9)
        simp only [decide_true] at S9
        replace r8 := Lib.hid r8
        replace r9 := Lib.hid r9
        obtain ⟨ya, yc, rfl⟩ := f7.slice
        rw [List.length_append] at S9 ⊢
        unfold rdE
        simp only
        clear f7 b9 f9 B7 SM BF rr2
        go_wp2_with (at_builtin; first
          | (refine obB2Wd _ (by kernel_rfl) .append _ _ 22 22 rfl (.slice (some ⟨w7.heap.size, 0, none⟩) 0 0) (.slice ua l.length uc) rfl rfl r8.out ?_; clear r8)
          | (refine obB2Wd _ (by kernel_rfl) .append _ _ 22 22 rfl x8 (.slice va m.length vc) rfl rfl r9.out ?_; clear r9))
        refine S9.out.mono ?_
        rintro e wa ⟨rfl, ba⟩
        have BA := Lib.hid (B9.out.trans (ba.mono B9.out.size))
        clear ba S9 B9
        go_wp2_with fail
        go_ret
        exact ⟨rfl, BA.out⟩
      · have c3 : chkS (l ++ m) ≠ 0 := by rw [CA.out, if_pos c1]; exact c2
        have e1 : cl = 0 := hcl.out.trans c1
        subst e1
        have z1 : (cm != 0) = true := bne_iff_ne.2 (by rw [hcm.out]; exact c2)
        have z2 : (cb != 0) = true := bne_iff_ne.2 (by rw [hcb.out]; exact c3)
        clear CA c1 c2 c3 hcl hcm hcb hX hY hZ
        go_wp2_with fail
        go_ret
        exact ⟨rfl, B6.out⟩
    · have c3 : chkS (l ++ m) ≠ 0 := by rw [CA.out, if_neg c1]; exact c1
      have z1 : (cl != 0) = true := bne_iff_ne.2 (by rw [hcl.out]; exact c1)
      have z2 : (cb != 0) = true := bne_iff_ne.2 (by rw [hcb.out]; exact c3)
      clear CA c1 c3 hcl hcm hcb hX hY hZ
      go_wp2_with fail
      go_ret
      exact ⟨rfl, B6.out⟩
end Go.Proofs.YtphmoieaddjanaaDoor
