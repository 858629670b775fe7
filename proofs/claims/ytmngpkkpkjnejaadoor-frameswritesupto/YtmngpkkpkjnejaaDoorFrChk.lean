/-
  What the document's own Same, Check and Elicits of frames answer. Rows that are not too long; no other condition.
-/
import Derived.Test.YtmngpkkpkjnejaaDoorFrVal
import Derived.Lib.QuietBelow
namespace Go.Proofs.YtmngpkkpkjnejaaDoor
set_option maxRecDepth 100000
open Go.RowKit Go.Sort

theorem bytes_inj {a b : ByteArray} (h : a.toList = b.toList) : a = b := by
  rw [ByteArray.toList_eq, ByteArray.toList_eq] at h
  exact toL_inj h
theorem below2 (w : World) (a b : Obj) : Below w.heap.size w ((w.alloc a).alloc b) := ((Below.refl _ _).alloc (Nat.le_refl _) _).alloc (by simp) _
set_option maxHeartbeats 8000000 in
theorem rsameF_ok {w : World} {v u : Value} {f g : Fr} (hf : FrIs w v f) (hg : FrIs w u g) (lf : f.rg.length < 9223372036854775807) (lg : g.rg.length < 9223372036854775807) :
    Calls Tryd.prog 27 #[v, u] w fun e w' => e = .returned (.bool (eqF f g)) ∧ Below w.heap.size w w' := by
  obtain ⟨d, a, cp, rfl, hd, hr⟩ := hf
  obtain ⟨d2, a2, cp2, rfl, hd2, hr2⟩ := hg
  obtain ⟨k, i, o, fn, c, dd, rg⟩ := f
  obtain ⟨k2, i2, o2, fn2, c2, dd2, rg2⟩ := g
  unfold frV
  simp only at hd hd2 hr hr2 lf lg ⊢
  have SM : Hid (∀ w', Below w.heap.size w w' → Calls Tryd.prog 38 #[.slice a rg.length cp, .slice a2 rg2.length cp2] w' fun e w'' => e = .returned (.bool (decide (rg = rg2))) ∧ Below w'.heap.size w' w'') := fun w' b => rsame_ok _ _ rg rg2 w' (hr.keep b) (hr2.keep b) lf lg
  clear hr hr2
  by_cases h0 : k = k2
  · subst h0
    by_cases h1 : i = i2
    · subst h1
      by_cases h2 : o = o2
      · subst h2
        by_cases h3 : fn = fn2
        · subst h3
          by_cases h4 : c = c2
          · subst h4
            by_cases h5 : d = d2
            · subst h5
              have e : eqF ⟨k, i, o, fn, c, dd, rg⟩ ⟨k, i, o, fn, c, dd2, rg2⟩ = decide (rg = rg2) := by
                have q : dd = dd2 := by rw [← hd, ← hd2]
                subst q
                unfold eqF
                by_cases h : rg = rg2 <;> simp [h]
              rw [e]
              generalize decide (rg = rg2) = D at *
              go_enter Tryd.func27, Tryd.ntmps27
              go_wp2_with fail
              refine (SM.out _ (below2 _ _ _)).mono ?_
              rintro e w1 ⟨rfl, b1⟩
              have Z1 := Lib.hid ((below2 w _ _).trans (b1.mono (below2 w _ _).size))
              clear b1 SM
              go_wp2_with fail
              go_ret
              exact ⟨rfl, Z1.out⟩
            · have g5 : (d.toList == d2.toList) = false := by
                rw [beq_eq_false_iff_ne]
                exact fun q => h5 (bytes_inj q)
              have e : eqF ⟨k, i, o, fn, c, dd, rg⟩ ⟨k, i, o, fn, c, dd2, rg2⟩ = false := eqF_false fun q => h5 (toL_inj (by rw [hd, hd2]; injection q))
              rw [e]
              clear e SM
              go_enter Tryd.func27, Tryd.ntmps27
              go_wp2_with fail
              go_ret
              exact ⟨rfl, below2 _ _ _⟩
          · have g4 : (c == c2) = false := by simp [h4]
            have e : eqF ⟨k, i, o, fn, c, dd, rg⟩ ⟨k, i, o, fn, c2, dd2, rg2⟩ = false := eqF_false fun q => h4 (congrArg Fr.code q)
            rw [e]
            clear e SM
            go_enter Tryd.func27, Tryd.ntmps27
            go_wp2_with fail
            go_ret
            exact ⟨rfl, below2 _ _ _⟩
        · have g3 : (fn == fn2) = false := by simp [h3]
          have e : eqF ⟨k, i, o, fn, c, dd, rg⟩ ⟨k, i, o, fn2, c2, dd2, rg2⟩ = false := eqF_false fun q => h3 (congrArg Fr.fin q)
          rw [e]
          clear e SM
          go_enter Tryd.func27, Tryd.ntmps27
          go_wp2_with fail
          go_ret
          exact ⟨rfl, below2 _ _ _⟩
      · have g2 : (o == o2) = false := by simp [h2]
        have e : eqF ⟨k, i, o, fn, c, dd, rg⟩ ⟨k, i, o2, fn2, c2, dd2, rg2⟩ = false := eqF_false fun q => h2 (congrArg Fr.off q)
        rw [e]
        clear e SM
        go_enter Tryd.func27, Tryd.ntmps27
        go_wp2_with fail
        go_ret
        exact ⟨rfl, below2 _ _ _⟩
    · have g1 : (i == i2) = false := by simp [h1]
      have e : eqF ⟨k, i, o, fn, c, dd, rg⟩ ⟨k, i2, o2, fn2, c2, dd2, rg2⟩ = false := eqF_false fun q => h1 (congrArg Fr.id q)
      rw [e]
      clear e SM
      go_enter Tryd.func27, Tryd.ntmps27
      go_wp2_with fail
      go_ret
      exact ⟨rfl, below2 _ _ _⟩
  · have g0 : (k == k2) = false := by simp [h0]
    have e : eqF ⟨k, i, o, fn, c, dd, rg⟩ ⟨k2, i2, o2, fn2, c2, dd2, rg2⟩ = false := eqF_false fun q => h0 (congrArg Fr.kind q)
    rw [e]
    clear e SM
    go_enter Tryd.func27, Tryd.ntmps27
    go_wp2_with fail
    go_ret
    exact ⟨rfl, below2 _ _ _⟩
/-- What bare hands out. -/
def bareV (f : Fr) (d : ByteArray) (sv : Value) : Value := frV (bare f) (if f.kind = 8 ∨ f.kind = 48 then d else ByteArray.empty) (if f.kind = 2 then sv else .slice none 0 0)
theorem rbareV_ok (f : Fr) (d : ByteArray) (a : Option Addr) (n cp : Nat) (w : World) :
    Calls Tryd.prog 28 #[frV f d (.slice a n cp)] w fun e w' => e = .returned (bareV f d (.slice a n cp)) ∧ Below w.heap.size w w' := by
  obtain ⟨k, i, o, fn, c, dd, rg⟩ := f
  unfold bareV bare
  simp only
  by_cases k2 : k = 2
  · subst k2
    exact rbare2 i o fn c d a n cp w
  · by_cases k4 : k = 4
    · subst k4
      exact rbare4 i o fn c d a n cp w
    · by_cases k8 : k = 8
      · subst k8
        exact rbare8 i o fn c d a n cp w
      · by_cases k17 : k = 17
        · subst k17
          exact rbare17 i o fn c d a n cp w
        · by_cases k28 : k = 28
          · subst k28
            exact rbare28 i o fn c d a n cp w
          · by_cases k48 : k = 48
            · subst k48
              exact rbare48 i o fn c d a n cp w
            · rw [if_neg k2, if_neg k4, if_neg k8, if_neg k17, if_neg k28, if_neg k48, if_neg (by simp [k8, k48]), if_neg k2]
              exact rbareN k i o fn c d a n cp w (by simp [k2]) (by simp [k4]) (by simp [k8]) (by simp [k17]) (by simp [k28]) (by simp [k48])
theorem bareV_is {w : World} {f : Fr} {d : ByteArray} {a : Option Addr} {cp : Nat} (hd : toL d = f.data) (hr : RgAt w (.slice a f.rg.length cp) f.rg) : FrIs w (bareV f d (.slice a f.rg.length cp)) (bare f) := by
  obtain ⟨k, i, o, fn, c, dd, rg⟩ := f
  unfold bareV bare
  simp only at hd hr ⊢
  by_cases k2 : k = 2
  · subst k2
    exact ⟨ByteArray.empty, a, cp, rfl, rfl, hr⟩
  · by_cases k4 : k = 4
    · subst k4
      exact ⟨ByteArray.empty, none, 0, rfl, rfl, rgAt_nil _⟩
    · by_cases k8 : k = 8
      · subst k8
        exact ⟨d, none, 0, rfl, hd, rgAt_nil _⟩
      · by_cases k17 : k = 17
        · subst k17
          exact ⟨ByteArray.empty, none, 0, rfl, rfl, rgAt_nil _⟩
        · by_cases k28 : k = 28
          · subst k28
            exact ⟨ByteArray.empty, none, 0, rfl, rfl, rgAt_nil _⟩
          · by_cases k48 : k = 48
            · subst k48
              exact ⟨d, none, 0, rfl, hd, rgAt_nil _⟩
            · rw [if_neg k2, if_neg k4, if_neg k8, if_neg k17, if_neg k28, if_neg k48, if_neg (by simp [k8, k48]), if_neg k2]
              exact ⟨ByteArray.empty, none, 0, rfl, rfl, rgAt_nil _⟩
theorem bare_rg (f : Fr) : (bare f).rg.length ≤ f.rg.length := by
  unfold bare
  repeat' split
  all_goals simp
set_option maxHeartbeats 8000000 in
theorem rchkF_ok {w : World} {v : Value} {f : Fr} (hf : FrIs w v f) (lf : f.rg.length < 9223372036854775807) (ld : f.data.length < 4611686018427387904) :
    Calls Tryd.prog 10 #[v] w fun e w' => e = .returned (.int .i64 (chkF f)) ∧ Below w.heap.size w w' := by
  obtain ⟨d, a, cp, rfl, hd, hr⟩ := hf
  have hsz : d.size = f.data.length := by rw [← hd, toL_len]
  have hB : Below w.heap.size w (w.alloc (.cells #[.int .i64 f.kind, .int .i64 f.id, .int .i64 f.off, .bool f.fin, .int .i64 f.code, .string d, .slice a f.rg.length cp] 24)) := (Below.refl _ _).alloc (Nat.le_refl _) _
  have KD : Hid (∀ w, _) := fun w => rkind_ok f.kind w
  have BR : Hid (∀ w', _) := fun w' => rbareV_ok f d a f.rg.length cp w'
  have SM : Hid (∀ w', Below w.heap.size w w' → Calls Tryd.prog 27 #[frV f d (.slice a f.rg.length cp), bareV f d (.slice a f.rg.length cp)] w' fun e w'' => e = .returned (.bool (eqF f (bare f))) ∧ Below w'.heap.size w' w'') := fun w' b =>
    rsameF_ok ⟨d, a, cp, rfl, hd, hr.keep b⟩ (bareV_is hd (hr.keep b)) lf (Nat.lt_of_le_of_lt (bare_rg f) lf)
  have NI : Hid (∀ w, _) := fun w => rnumber_ok f.id w
  have NO : Hid (∀ w, _) := fun w => rnumber_ok f.off w
  have NC : Hid (∀ w, _) := fun w => rnumber_ok f.code w
  have CK : Hid (∀ w', Below w.heap.size w w' → _) := fun w' b => rchk_ok (.slice a f.rg.length cp) f.rg w' (hr.keep b) lf
  have BW : Hid _ := hB
  clear hr hB hd
  obtain ⟨E, hE⟩ : ∃ E, E = chkF f := ⟨_, rfl⟩
  rw [← hE]
  unfold chkF at hE
  replace hE : Hid _ := hE
  generalize bareV f d (.slice a f.rg.length cp) = bv at *
  unfold frV at *
  cases hk : kindB f.kind
  · have hE5 : E = 5 := by rw [hE.out, if_pos hk]
    subst hE5
    rw [hk] at KD
    clear BR SM NI NO NC CK
    go_enter Tryd.func10, Tryd.ntmps10
    go_wp2_with fail
    refine (KD.out _).mono ?_
    rintro e w1 ⟨rfl, rfl⟩
    clear KD
    go_wp2_with fail
    go_ret
    exact ⟨rfl, BW.out⟩
  · have hk' : ¬ kindB f.kind = false := by rw [hk]; simp
    have hE1 := hE.out
    rw [if_neg hk'] at hE1
    clear hE
    replace hE1 : Hid _ := hE1
    rw [hk] at KD
    go_enter Tryd.func10, Tryd.ntmps10
    go_wp2_with fail
    refine (KD.out _).mono ?_
    rintro e w1 ⟨rfl, rfl⟩
    clear KD
    go_wp2_with fail
    have hL : Hid (Lies (w.alloc (.cells #[.int .i64 f.kind, .int .i64 f.id, .int .i64 f.off, .bool f.fin, .int .i64 f.code, .string d, .slice a f.rg.length cp] 24)) w.heap.size [.int .i64 f.kind, .int .i64 f.id, .int .i64 f.off, .bool f.fin, .int .i64 f.code, .string d, .slice a f.rg.length cp]) := Lies.new w [.int .i64 f.kind, .int .i64 f.id, .int .i64 f.off, .bool f.fin, .int .i64 f.code, .string d, .slice a f.rg.length cp] 24
    obtain ⟨W1, hW1⟩ : ∃ W1, W1 = w.alloc (.cells #[.int .i64 f.kind, .int .i64 f.id, .int .i64 f.off, .bool f.fin, .int .i64 f.code, .string d, .slice a f.rg.length cp] 24) := ⟨_, rfl⟩
    rw [← hW1] at BW hL ⊢
    replace hW1 : Hid _ := hW1
    have c0 := fun d' os => cell_regrown (hL.out.cell 0 (v := .int .i64 f.kind) rfl) d' os
    have c1 := fun d' os => cell_regrown (hL.out.cell 1 (v := .int .i64 f.id) rfl) d' os
    have c2 := fun d' os => cell_regrown (hL.out.cell 2 (v := .int .i64 f.off) rfl) d' os
    have c3 := fun d' os => cell_regrown (hL.out.cell 3 (v := .bool f.fin) rfl) d' os
    have c4 := fun d' os => cell_regrown (hL.out.cell 4 (v := .int .i64 f.code) rfl) d' os
    have c5 := fun d' os => cell_regrown (hL.out.cell 5 (v := .string d) rfl) d' os
    have c6 := fun d' os => cell_regrown (hL.out.cell 6 (v := .slice a f.rg.length cp) rfl) d' os
    have C1 : Hid (∀ d' os, _) := fun d' os => Calls.regrown_of (P := Tryd.prog) (w := W1) (d := d') (os := os) (BR.out (Go.Sort.grow (redrawn W1 d') os))
    have C2 : Hid (∀ d' os, _) := fun d' os => Calls.regrown_of (P := Tryd.prog) (w := W1) (d := d') (os := os) (SM.out (Go.Sort.grow (redrawn W1 d') os) (BW.out.trans ((below_regrown W1 d' os).mono BW.out.size)))
    refine wp_region_quiet_below (by kernel_rfl) (by kernel_rfl) ?_
    repeat (go_big_quiet_step (first | (go_at_call 28; exact C1.out _ _) | (go_at_call 27; exact C2.out _ _)))
    refine wpQuiet_nil ?_
    intro _ hw'
    obtain ⟨⟨dq, osq⟩, hw''⟩ := hw'
    subst hw''
    have HL2 : Hid (Lies (Go.Sort.grow (redrawn W1 dq) osq) w.heap.size [.int .i64 f.kind, .int .i64 f.id, .int .i64 f.off, .bool f.fin, .int .i64 f.code, .string d, .slice a f.rg.length cp]) := hL.out.keep (by show 0 < 7; decide) (below_regrown W1 dq osq)
    have BW2 : Hid (Below w.heap.size w (Go.Sort.grow (redrawn W1 dq) osq)) := BW.out.trans ((below_regrown W1 dq osq).mono BW.out.size)
    simp only
    clear c0 c1 c2 c3 c4 c5 c6 C1 C2 hL BW BR SM
    generalize Go.Sort.grow (redrawn W1 dq) osq = w2 at *
    have e0 := HL2.out.cell 0 (v := .int .i64 f.kind) rfl
    have e1 := HL2.out.cell 1 (v := .int .i64 f.id) rfl
    have e2 := HL2.out.cell 2 (v := .int .i64 f.off) rfl
    have e3 := HL2.out.cell 3 (v := .bool f.fin) rfl
    have e4 := HL2.out.cell 4 (v := .int .i64 f.code) rfl
    have e5 := HL2.out.cell 5 (v := .string d) rfl
    have e6 := HL2.out.cell 6 (v := .slice a f.rg.length cp) rfl
    by_cases hb : f = bare f
    · rw [eqF_true hb]
      replace hb : Hid (f = bare f) := hb
      cases hn1 : numB f.id
      · rw [hn1] at NI
        go_wp2_with fail
        refine (NI.out _).mono ?_
        rintro e w3 ⟨rfl, rfl⟩
        have hv : E = 2 := by rw [hE1.out, if_neg (show ¬ eqF f (bare f) = false by rw [eqF_true hb.out]; simp), if_pos (by rw [hn1]; rfl)]
        subst hv
        go_wp2_with fail
        go_ret
        exact ⟨rfl, BW2.out⟩
      · rw [hn1] at NI
        cases hn2 : numB f.off
        · rw [hn2] at NO
          go_wp2_with fail
          refine (NI.out _).mono ?_
          rintro e w3 ⟨rfl, rfl⟩
          go_wp2_with fail
          refine (NO.out _).mono ?_
          rintro e w3 ⟨rfl, rfl⟩
          have hv : E = 2 := by rw [hE1.out, if_neg (show ¬ eqF f (bare f) = false by rw [eqF_true hb.out]; simp), if_pos (by rw [hn1, hn2]; rfl)]
          subst hv
          go_wp2_with fail
          go_ret
          exact ⟨rfl, BW2.out⟩
        · rw [hn2] at NO
          cases hn3 : numB f.code
          · rw [hn3] at NC
            go_wp2_with fail
            refine (NI.out _).mono ?_
            rintro e w3 ⟨rfl, rfl⟩
            go_wp2_with fail
            refine (NO.out _).mono ?_
            rintro e w3 ⟨rfl, rfl⟩
            go_wp2_with fail
            refine (NC.out _).mono ?_
            rintro e w3 ⟨rfl, rfl⟩
            have hv : E = 2 := by rw [hE1.out, if_neg (show ¬ eqF f (bare f) = false by rw [eqF_true hb.out]; simp), if_pos (by rw [hn1, hn2, hn3]; rfl)]
            subst hv
            go_wp2_with fail
            go_ret
            exact ⟨rfl, BW2.out⟩
          · rw [hn3] at NC
            have hnn : ¬ (numB f.id && numB f.off && numB f.code) = false := by rw [hn1, hn2, hn3]; simp
            go_wp2_with fail
            refine (NI.out _).mono ?_
            rintro e w3 ⟨rfl, rfl⟩
            go_wp2_with fail
            refine (NO.out _).mono ?_
            rintro e w3 ⟨rfl, rfl⟩
            go_wp2_with fail
            refine (NC.out _).mono ?_
            rintro e w3 ⟨rfl, rfl⟩
            clear NI NO NC
            by_cases k8 : f.kind = 8
            · have g8 : (f.kind == 8) = true := by simp [k8]
              by_cases h4 : 4611686018427387903 - (f.data.length : Int) < f.off
              · have d4 : decide (4611686018427387903 - (d.size : Int) < f.off) = true := decide_eq_true (by rw [hsz]; exact h4)
                have hv : E = 2 := by rw [hE1.out, if_neg (show ¬ eqF f (bare f) = false by rw [eqF_true hb.out]; simp), if_neg hnn, if_pos ⟨k8, h4⟩]
                subst hv
                go_wp2_with fail
                go_ret
                exact ⟨rfl, BW2.out⟩
              · have d4 : decide (4611686018427387903 - (d.size : Int) < f.off) = false := decide_eq_false (by rw [hsz]; exact h4)
                by_cases h5 : 1200 < f.data.length
                · have d5 : decide ((1200 : Int) < (d.size : Int)) = true := decide_eq_true (by omega)
                  have hv : E = 8 := by rw [hE1.out, if_neg (show ¬ eqF f (bare f) = false by rw [eqF_true hb.out]; simp), if_neg hnn, if_neg (fun q => h4 q.2), if_pos h5]
                  subst hv
                  go_wp2_with fail
                  go_ret
                  exact ⟨rfl, BW2.out⟩
                · have d5 : decide ((1200 : Int) < (d.size : Int)) = false := decide_eq_false (by omega)
                  by_cases k2 : f.kind = 2
                  · exact absurd (k8.symm.trans k2) (by decide)
                  · have g2 : (f.kind == 2) = false := by simp [k2]
                    have hv : E = 0 := by rw [hE1.out, if_neg (show ¬ eqF f (bare f) = false by rw [eqF_true hb.out]; simp), if_neg hnn, if_neg (fun q => h4 q.2), if_neg h5, if_neg (fun q => k2 q.1)]
                    subst hv
                    go_wp2_with fail
                    go_ret
                    exact ⟨rfl, BW2.out⟩
            · have g8 : (f.kind == 8) = false := by simp [k8]
              by_cases h5 : 1200 < f.data.length
              · have d5 : decide ((1200 : Int) < (d.size : Int)) = true := decide_eq_true (by omega)
                have hv : E = 8 := by rw [hE1.out, if_neg (show ¬ eqF f (bare f) = false by rw [eqF_true hb.out]; simp), if_neg hnn, if_neg (fun q => k8 q.1), if_pos h5]
                subst hv
                go_wp2_with fail
                go_ret
                exact ⟨rfl, BW2.out⟩
              · have d5 : decide ((1200 : Int) < (d.size : Int)) = false := decide_eq_false (by omega)
                by_cases k2 : f.kind = 2
                · have g2 : (f.kind == 2) = true := by simp [k2]
                  by_cases hr0 : f.rg.length = 0
                  · have g3 : ((f.rg.length : Int) == 0) = true := by simp [hr0]
                    have hv : E = 3 := by rw [hE1.out, if_neg (show ¬ eqF f (bare f) = false by rw [eqF_true hb.out]; simp), if_neg hnn, if_neg (fun q => k8 q.1), if_neg h5, if_pos ⟨k2, .inl (List.eq_nil_of_length_eq_zero hr0)⟩]
                    subst hv
                    go_wp2_with fail
                    go_ret
                    exact ⟨rfl, BW2.out⟩
                  · have g3 : ((f.rg.length : Int) == 0) = false := by rw [beq_eq_false_iff_ne]; omega
                    have CK2 : Hid (∀ _ : Unit, _) := fun _ => CK.out w2 BW2.out
                    by_cases hc : chkR f.rg = 0
                    · have hv : E = 0 := by rw [hE1.out, if_neg (show ¬ eqF f (bare f) = false by rw [eqF_true hb.out]; simp), if_neg hnn, if_neg (fun q => k8 q.1), if_neg h5, if_neg (by rintro ⟨_, q | q⟩; exact hr0 (by rw [q]; rfl); exact q hc)]
                      subst hv
                      rw [hc] at CK2
                      go_wp2_with fail
                      refine (CK2.out ()).mono ?_
                      rintro e w4 ⟨rfl, b4⟩
                      have Z4 := Lib.hid (BW2.out.trans (b4.mono BW2.out.size))
                      clear b4 CK2 CK
                      go_wp2_with fail
                      go_ret
                      exact ⟨rfl, Z4.out⟩
                    · have hv : E = 3 := by rw [hE1.out, if_neg (show ¬ eqF f (bare f) = false by rw [eqF_true hb.out]; simp), if_neg hnn, if_neg (fun q => k8 q.1), if_neg h5, if_pos ⟨k2, .inr hc⟩]
                      subst hv
                      have g4 : (chkR f.rg != 0) = true := by simp [hc]
                      generalize chkR f.rg = X at *
                      go_wp2_with fail
                      refine (CK2.out ()).mono ?_
                      rintro e w4 ⟨rfl, b4⟩
                      have Z4 := Lib.hid (BW2.out.trans (b4.mono BW2.out.size))
                      clear b4 CK2 CK
                      go_wp2_with fail
                      go_ret
                      exact ⟨rfl, Z4.out⟩
                · have g2 : (f.kind == 2) = false := by simp [k2]
                  have hv : E = 0 := by rw [hE1.out, if_neg (show ¬ eqF f (bare f) = false by rw [eqF_true hb.out]; simp), if_neg hnn, if_neg (fun q => k8 q.1), if_neg h5, if_neg (fun q => k2 q.1)]
                  subst hv
                  go_wp2_with fail
                  go_ret
                  exact ⟨rfl, BW2.out⟩
    · rw [eqF_false hb]
      replace hb : Hid (¬ f = bare f) := hb
      have hv : E = 3 := by rw [hE1.out, if_pos (eqF_false hb.out)]
      subst hv
      go_wp2_with fail
      go_ret
      exact ⟨rfl, BW2.out⟩
end Go.Proofs.YtmngpkkpkjnejaaDoor
