/-
  What the document's own line answers of a field. Names and values of at most 256 bytes; no other condition.
-/
import Derived.Test.YtphmoieaddjanaaDoorFiRefC
import Derived.Laws.IdiomStrings
namespace Go.Proofs.YtphmoieaddjanaaDoor
set_option maxRecDepth 100000
open Go.RowKit Go.Sort

theorem one_str (w : World) (g c x : Nat) (y : Int) (hy : y = (x : Int)) (hx : x < 256) (h : w.cell? ⟨g, 0, none⟩ = some (.int .u8 y)) : (convert 40 9 (.slice (some ⟨g, 0, none⟩) 1 c)).run Tryd.prog w = .ok (.string (strL [UInt8.ofNat x])) w := by
  subst hy
  have := run_convert_bytes_back (P := Tryd.prog) w 40 9 5 ⟨g, 0, none⟩ c [UInt8.ofNat x] Tryd.underlying40 Tryd.underlying5 Tryd.underlying9 (fun j hj => by
    obtain rfl : j = 0 := by simpa using hj
    rw [Addr.add_mid, h]
    show _ = some (Value.int .u8 ((UInt8.ofNat x).toNat : Int))
    rw [u8n x hx])
  exact this
theorem enter_text (x : Value) (w : World) : (callFunc 30 #[x]).run Tryd.prog w = .ok (.enter 30 #[x]) w := by simp [go_sem]
theorem obCall1f (f : FuncId) (o : Oper) {k1 d : Nat} {tys : Array TypeId} {x1 : Value} {R : Ending → World → Prop} (ho : o.op = .call { callee := .value (.func f), args := #[.tmp k1], argTypes := tys }) (hd : o.dst = some d) (a : Act) (w : World) (K : Act → World → Prop) (Q : Exit → Act → World → Prop)
    (hcf : ∀ w, (callFunc f #[x1]).run Tryd.prog w = .ok (.enter f #[x1]) w) (h1 : a.eval (.tmp k1) = x1) (C : Calls Tryd.prog f #[x1] w R) (hK : ∀ e w', R e w' → ∃ v, e = .returned v ∧ K (a.put (some d) v) w') : o.wp Tryd.prog a w K Q := by
  unfold Oper.wp
  have hr : (execOp a.eval o).run Tryd.prog w = .ok (.enter f #[x1]) w := by
    unfold execOp
    rw [ho]
    simp only [go_sem] at h1 ⊢
    simp [go_sem, h1, hcf]
  rw [hr]
  exact C.mono fun e w' h => by
    obtain ⟨v, rfl, hk⟩ := hK e w' h
    rw [hd]
    exact hk
theorem isF_eq (f g : Fd) : (((strL g.1).toList == (strL f.1).toList) && ((strL g.2).toList == (strL f.2).toList)) = isF f g := by
  rw [eq_strL, eq_strL]
  unfold isF
  rw [Bool.eq_iff_iff, Bool.and_eq_true, decide_eq_true_eq, decide_eq_true_eq, decide_eq_true_eq]
  constructor
  · rintro ⟨a, b⟩; exact Prod.ext a b
  · rintro rfl; exact ⟨rfl, rfl⟩
set_option maxHeartbeats 8000000 in
theorem rline_ok (f : Fd) (w : World) (h1 : f.1.length ≤ 256) (h2 : f.2.length ≤ 256) : Calls Tryd.prog 22 #[fbV f] w fun e w' => e = .returned (.string (strL (lineL f))) ∧ Below w.heap.size w w' := by
  obtain ⟨E, hE⟩ : ∃ E, E = lineL f := ⟨_, rfl⟩
  rw [← hE]
  unfold lineL at hE
  have TB : Hid (∀ w, _) := fun w => rtable_ok w
  have i1 := ixT_le (isF f) tab
  have i2 := Lib.hid (ixT_no (isF f) tab)
  have i3 := Lib.hid (ixT_yes (isF f) tab)
  have j1 := ixT_le (isN f.1) tab
  have j2 := Lib.hid (ixT_no (isN f.1) tab)
  have j3 := Lib.hid (ixT_yes (isN f.1) tab)
  rw [tab_len] at i1 i3 j1 j3
  have TX : Hid (∀ (d : L), d.length ≤ 256 → ∀ w, Calls Tryd.prog 30 #[.string (strL d)] w fun e w' => e = .returned (.string (strL (txt d))) ∧ Below w.heap.size w w') := fun d hd w => by
    have := rtxtL_ok (strL d) w (by rw [strL_size]; omega)
    rw [strL_size, toL_strL] at this
    exact this
  obtain ⟨I, hI⟩ : ∃ I, I = ixT (isF f) tab := ⟨_, rfl⟩
  obtain ⟨J, hJ⟩ : ∃ J, J = ixT (isN f.1) tab := ⟨_, rfl⟩
  rw [← hI] at i1 i2 i3 hE
  rw [← hJ] at j1 j2 j3 hE
  replace hE := Lib.hid hE
  clear hI hJ
  have ff : Hid (∀ k, ((strL (tab.getD k nF).1).toList == (strL f.1).toList && (strL (tab.getD k nF).2).toList == (strL f.2).toList) = isF f (tab.getD k nF)) := fun k => isF_eq f _
  have fn : Hid (∀ k, ((strL (tab.getD k nF).1).toList == (strL f.1).toList) = isN f.1 (tab.getD k nF)) := fun k => eq_strL _ _
  obtain ⟨a, b⟩ := f
  unfold fbV
  simp only at h1 h2 i2 i3 j2 j3 hE ff fn ⊢
  have T1 := Lib.hid (TX.out a h1)
  have T2 := Lib.hid (TX.out b h2)
  have zt : (strL (txt b)).size ≤ 1000 ∧ (strL (txt a)).size ≤ 1000 := by
    have := put_len b.length
    have := put_len a.length
    rw [strL_size, strL_size]
    unfold txt
    rw [List.length_append, List.length_append]
    omega
  obtain ⟨zb, za⟩ := zt
  obtain ⟨TB2, hTB⟩ : ∃ X, X = strL (txt b) := ⟨_, rfl⟩
  obtain ⟨TA2, hTA⟩ : ∃ X, X = strL (txt a) := ⟨_, rfl⟩
  rw [← hTB] at T2 zb
  rw [← hTA] at T1 za
  replace hTB := Lib.hid hTB
  replace hTA := Lib.hid hTA
  clear TX
  obtain ⟨A, hA⟩ : ∃ A, A = strL a := ⟨_, rfl⟩
  obtain ⟨B, hB⟩ : ∃ B, B = strL b := ⟨_, rfl⟩
  rw [← hA] at ff fn T1 ⊢
  rw [← hB] at ff T2 ⊢
  replace hA := Lib.hid hA
  replace hB := Lib.hid hB
  obtain ⟨wa, hwa⟩ : ∃ wa, wa = w.alloc (.cells #[.string A, .string B] 34) := ⟨_, rfl⟩
  have BA : Below w.heap.size w wa := by rw [hwa]; exact (Below.refl _ _).alloc (Nat.le_refl _) _
  have lA : Lies wa w.heap.size [.string A, .string B] := by rw [hwa]; exact Lies.new w _ _
  obtain ⟨K, hK⟩ : ∃ K, K = w.heap.size := ⟨_, rfl⟩
  rw [← hK] at lA BA ⊢
  replace lA := Lib.hid lA
  replace BA := Lib.hid BA
  clear h1 h2
  go_enter Tryd.func22, Tryd.ntmps22
  go_wp2_with fail
  rw [← hwa, ← hK]
  clear hwa
  refine (TB.out wa).mono ?_
  rintro e w1 ⟨tv, rfl, ft, b1⟩
  have L1 := Lib.hid (lA.out.keep (by show 0 < 2; decide) b1)
  have B1 : Hid (Below K w w1) := BA.out.trans (b1.mono (by rw [hK]; exact BA.out.size))
  have hK1 : K ≤ w1.heap.size := by rw [hK]; exact B1.out.size
  have FT := Lib.hid ft
  obtain ⟨ta, tc, etv⟩ := ft.slice
  rw [tab_len] at etv
  subst etv
  obtain ⟨g, o, egt, -, -⟩ := FT.out.at (k := 0) (by rw [tab_len]; decide)
  subst egt
  replace hK := Lib.hid hK
  clear lA BA ft b1 TB
  go_wp2_with fail
  go_loopg [4] I (fun g' iv wr => ∃ k : Nat, k + g' = I ∧ iv = .int .i64 k ∧ Hid (Below w1.heap.size w1 wr))
  case atStart => exact ⟨0, by omega, rfl, Below.refl _ _⟩
  case round =>
    obtain ⟨k, hk, rfl, bl⟩ := hrel
    by_cases hlt : k < 20
    · have g1 : decide ((k : Int) < 20) = true := decide_eq_true (by omega)
      have g1' : decide (k < 20) = true := decide_eq_true hlt
      have LK := L1.out.keep (by show 0 < 2; decide) bl.out
      have c0 := LK.cell 0 (v := .string A) rfl
      have c1 := LK.cell 1 (v := .string B) rfl
      obtain ⟨g', o', eg, d1, d2⟩ := (FT.out.keep bl.out).at (k := k) (by rw [tab_len]; exact hlt)
      injection eg with eg
      injection eg with eg1 eg2
      subst eg1 eg2
      have ia := fun w' => at_fds g o 20 tc k w' hlt (k : Int) rfl (o + 2 * k) rfl
      have e1 := fn.out k
      have ekk := eq_strL (tab.getD k nF).2 b
      rw [← hB.out] at ekk
      by_cases hkI : k < I
      · have hn := i2.out k hkI
        have hne : ¬ tab.getD k nF = (a, b) := of_decide_eq_false hn
        by_cases r1 : (tab.getD k nF).1 = a
        · have r2 : ¬ (tab.getD k nF).2 = b := fun c => hne (Prod.ext r1 c)
          rw [show isN a (tab.getD k nF) = true from decide_eq_true r1] at e1
          rw [decide_eq_false r2] at ekk
          generalize (tab.getD k nF).1 = x1 at *
          generalize (tab.getD k nF).2 = x2 at *
          clear hne hn
          go_wp2_with fail
          go_quiet (fail)
          have B2 := Lib.hid (bl.out.trans (⟨rfl, rfl, rfl, Nat.le_refl _, fun _ _ => rfl⟩ : Below w1.heap.size wr (wr.drewN nq)))
          generalize wr.drewN nq = w2 at *
          go_wp2_with fail
          go_roundg (I - (k + 1))
          case measure => omega
          case rel => exact ⟨k + 1, by omega, by go_num, B2⟩
        · rw [show isN a (tab.getD k nF) = false from decide_eq_false r1] at e1
          clear ekk
          generalize (tab.getD k nF).1 = x1 at *
          generalize (tab.getD k nF).2 = x2 at *
          clear hne hn
          go_wp2_with fail
          go_quiet (fail)
          have B2 := Lib.hid (bl.out.trans (⟨rfl, rfl, rfl, Nat.le_refl _, fun _ _ => rfl⟩ : Below w1.heap.size wr (wr.drewN nq)))
          generalize wr.drewN nq = w2 at *
          go_wp2_with fail
          go_roundg (I - (k + 1))
          case measure => omega
          case rel => exact ⟨k + 1, by omega, by go_num, B2⟩
      · obtain rfl : k = I := by omega
        have hy := i3.out hlt
        have hye : tab.getD k nF = (a, b) := of_decide_eq_true hy
        rw [show isN a (tab.getD k nF) = true from decide_eq_true (by rw [hye])] at e1
        rw [decide_eq_true (show (tab.getD k nF).2 = b by rw [hye])] at ekk
        obtain ⟨Z, hZ⟩ : ∃ Z, Z = strL [UInt8.ofNat (128 + k)] := ⟨_, rfl⟩
        have E0 : Hid (strL E = Z) := by unfold Hid; rw [hZ, hE.out, if_pos hlt]
        clear hE hy hye i2 i3 j2 j3
        generalize (tab.getD k nF).1 = x1 at *
        generalize (tab.getD k nF).2 = x2 at *
        go_wp2_with fail
        go_quiet (fail)
        have B2 := Lib.hid (bl.out.trans (⟨rfl, rfl, rfl, Nat.le_refl _, fun _ _ => rfl⟩ : Below w1.heap.size wr (wr.drewN nq)))
        generalize wr.drewN nq = w2 at *
        have hw8 : IntKind.u8.wrap (128 + (k : Int)) = (128 + (k : Int)) := by rw [IntKind.wrap_u8]; omega
        have cv := one_str (w2.alloc (.cells #[.int .u8 (128 + (k : Int))] 5)) w2.heap.size 1 (128 + k) (128 + (k : Int)) (by omega) (by omega) (by simp)
        rw [← hZ] at cv
        clear hZ
        have B3 : Hid (Below K w (w2.alloc (.cells #[.int .u8 (128 + (k : Int))] 5))) := (B1.out.trans (B2.out.mono hK1)).alloc (Nat.le_trans hK1 B2.out.size) _
        go_wp2_with fail
        go_ret
        exact ⟨by rw [E0.out]; rfl, B3.out⟩
    · have g1 : decide ((k : Int) < 20) = false := decide_eq_false (by omega)
      have g1' : decide (k < 20) = false := decide_eq_false hlt
      have E1 : Hid (E = if J < 20 then UInt8.ofNat (64 + J) :: txt b else 0 :: (txt a ++ txt b)) := hE.out.trans (if_neg (by omega))
      clear hE i2 i3 ff
      go_wp2_with fail
      go_loopg [5] J (fun g' iv wr => ∃ j : Nat, j + g' = J ∧ iv = .int .i64 j ∧ Hid (Below w1.heap.size w1 wr))
      case atStart => exact ⟨0, by omega, rfl, bl⟩
      case round =>
        clear bl hk
        obtain ⟨j, hj, rfl, bl⟩ := hrel
        have LK := L1.out.keep (by show 0 < 2; decide) bl.out
        have c0 := LK.cell 0 (v := .string A) rfl
        have c1 := LK.cell 1 (v := .string B) rfl
        by_cases hlj : j < 20
        · have g2 : decide ((j : Int) < 20) = true := decide_eq_true (by omega)
          have g2' : decide (j < 20) = true := decide_eq_true hlj
          obtain ⟨g', o', eg, d1, d2⟩ := (FT.out.keep bl.out).at (k := j) (by rw [tab_len]; exact hlj)
          injection eg with eg
          injection eg with eg1 eg2
          subst eg1 eg2
          have ia := fun w' => at_fds g o 20 tc j w' hlj (j : Int) rfl (o + 2 * j) rfl
          have e1 := fn.out j
          by_cases hjJ : j < J
          · rw [j2.out j hjJ] at e1
            generalize (tab.getD j nF).1 = x1 at *
            generalize (tab.getD j nF).2 = x2 at *
            go_wp2_with fail
            go_quiet (fail)
            have B2 := Lib.hid (bl.out.trans (⟨rfl, rfl, rfl, Nat.le_refl _, fun _ _ => rfl⟩ : Below w1.heap.size wr (wr.drewN nq)))
            generalize wr.drewN nq = w2 at *
            go_wp2_with fail
            go_roundg (J - (j + 1))
            case measure => omega
            case rel => exact ⟨j + 1, by omega, by go_num, B2⟩
          · obtain rfl : j = J := by omega
            rw [j3.out hlj] at e1
            obtain ⟨Z, hZ⟩ : ∃ Z, Z = strL [UInt8.ofNat (64 + j)] := ⟨_, rfl⟩
            have hZs : Z.size = 1 := by rw [hZ]; rfl
            have E0 : Hid (strL E = Z ++ TB2) := by
              unfold Hid
              rw [hZ, E1.out, if_pos hlj, hTB.out, strL_append]
              rfl
            clear E1 j2 j3 fn
            generalize (tab.getD j nF).1 = x1 at *
            generalize (tab.getD j nF).2 = x2 at *
            go_wp2_with fail
            go_quiet (fail)
            have B2 := Lib.hid (bl.out.trans (⟨rfl, rfl, rfl, Nat.le_refl _, fun _ _ => rfl⟩ : Below w1.heap.size wr (wr.drewN nq)))
            generalize wr.drewN nq = w3 at *
            have LK3 := L1.out.keep (by show 0 < 2; decide) B2.out
            clear c0 c1 d1 d2 ia LK
            have c1 := LK3.cell 1 (v := .string B) rfl
            have hw8 : IntKind.u8.wrap (64 + (j : Int)) = (64 + (j : Int)) := by rw [IntKind.wrap_u8]; omega
            have hw9 : IntKind.i64.wrap (64 + (j : Int)) = (64 + (j : Int)) := by rw [IntKind.wrap_i64]; omega
            have KB : Hid (Below K w w3) := B1.out.trans (B2.out.mono hK1)
            have hK3 : K ≤ w3.heap.size := Nat.le_trans hK1 B2.out.size
            have bA : Below w3.heap.size w3.drew (w3.drew.alloc (.cells #[.int .u8 (64 + (j : Int))] 5)) := Below.alloc (Below.refl w3.heap.size w3.drew) (Nat.le_refl _) _
            have cA := (bA.cell (World.block_lt_of_cell? _ _ c1)).trans c1
            have CV : Hid (∀ w' g', w'.cell? ⟨g', 0, none⟩ = some (.int .u8 (64 + (j : Int))) → (convert 40 9 (.slice (some ⟨g', 0, none⟩) 1 1)).run Tryd.prog w' = .ok (.string Z) w') := fun w' g' h => by rw [hZ]; exact one_str w' g' 1 (64 + j) _ (by omega) (by omega) h
            replace hZ := Lib.hid hZ
            have nA : (w3.drew.alloc (.cells #[.int .u8 (64 + (j : Int))] 5)).cell? ⟨w3.heap.size, 0, none⟩ = some (.int .u8 (64 + (j : Int))) := by rw [show w3.heap.size = w3.drew.heap.size from rfl, World.cell?_alloc_new]; rfl
            go_wp2_with fail
            refine wp_region_held (S := fun w' => w'.cell? ⟨K, 1, none⟩ = some (.string B)) (by kernel_rfl) ?_
            change wpAnyH _ .any _ _ _ 10 (Array.replicate 10 false) _ w3.drew
            have hS : w3.drew.cell? ⟨K, 1, none⟩ = some (.string B) := c1
            refine obTakeH (i := 0) (d := 38) (v := .int .i64 (j : Int)) rfl rfl (by kernel_rfl) (by kernel_rfl) (by kernel_rfl) (fun _ _ _ h => h) rfl (fun w hS => by obtain s1 := hS; go_simp) hS ?_
            refine obTakeH (i := 1) (d := 39) (v := .int .i64 (64 + (j : Int))) rfl rfl (by kernel_rfl) (by kernel_rfl) (by kernel_rfl) (fun _ _ _ h => h) rfl (fun w hS => by obtain s1 := hS; go_simp) hS ?_
            refine obTakeH (i := 2) (d := 40) (v := .int .u8 (64 + (j : Int))) rfl rfl (by kernel_rfl) (by kernel_rfl) (by kernel_rfl) (fun _ _ _ h => h) rfl (fun w hS => by obtain s1 := hS; go_simp) hS ?_
            refine obTakeH (i := 5) (d := 43) (v := .pointer (some ⟨K, 1, none⟩)) rfl rfl (by kernel_rfl) (by kernel_rfl) (by kernel_rfl) (fun _ _ _ h => h) rfl (fun w hS => by obtain s1 := hS; go_simp) hS ?_
            refine obTakeH (i := 6) (d := 44) (v := .string B) rfl rfl (by kernel_rfl) (by kernel_rfl) (by kernel_rfl) (fun _ _ _ h => h) rfl (fun w hS => by obtain s1 := hS; go_simp) hS ?_
            try simp only [Act.put, List.setIfInBounds_toArray, List.set_cons_succ, List.set_cons_zero]
            refine wpAnyH_all (rs := [3, 7]) (by kernel_rfl) (by simp) (fun y hy => ?_)
            have hy2 : y = 3 ∨ y = 7 := by simpa using hy
            clear hy
            rcases hy2 with rfl | rfl
            · refine wpOp_step rfl (fun K' hK => ?_)
              go_simp
              refine hK _ _ ⟨cA, ?_⟩
              clear hK K' hS
              have hS := cA
              try simp only [Act.put, List.setIfInBounds_toArray, List.set_cons_succ, List.set_cons_zero]
              refine wpAnyH_all (rs := [4, 7]) (by kernel_rfl) (by simp) (fun y hy => ?_)
              have hy2 : y = 4 ∨ y = 7 := by simpa using hy
              clear hy
              rcases hy2 with rfl | rfl
              · refine wpOp_step rfl (fun K' hK => ?_)
                have cv : (convert 40 9 (.slice (some ⟨w3.heap.size, 0, none⟩) 1 1)).run Tryd.prog (w3.alloc (.cells #[.int .u8 (64 + (j : Int))] 5)).drew = .ok (.string Z) (w3.alloc (.cells #[.int .u8 (64 + (j : Int))] 5)).drew := CV.out _ _ nA
                go_simp
                refine hK _ _ ⟨hS, ?_⟩
                clear hK K'
                try simp only [Act.put, List.setIfInBounds_toArray, List.set_cons_succ, List.set_cons_zero]
                refine wpAnyH_all (rs := [7]) (by kernel_rfl) (by simp) (fun j hj => ?_)
                obtain rfl : j = 7 := by simpa using hj
                refine wpOp_step rfl (fun K' hK => ?_)
                clear hj
                refine obCall1f (k1 := 44) (d := 45) (x1 := .string B) 30 _ rfl rfl _ _ _ _ (enter_text _) rfl (T2.out _) (fun e w5 hR => ?_)
                obtain ⟨rfl, b5⟩ := hR
                have h5 := (b5.cell (World.block_lt_of_cell? _ _ hS)).trans hS
                refine ⟨_, rfl, hK _ _ ⟨h5, ?_⟩⟩
                clear hK K'
                have BZ : Hid (Below K w w5) := (KB.out.trans (show Below K w3 (w3.drew.alloc (.cells #[.int .u8 (64 + (j : Int))] 5)) from ⟨rfl, rfl, rfl, bA.size, fun k hk => bA.block k (Nat.lt_of_lt_of_le hk hK3)⟩)).trans (b5.mono (Nat.le_trans hK3 bA.size))
                try simp only [Act.put, List.setIfInBounds_toArray, List.set_cons_succ, List.set_cons_zero]
                clear hS
                have hS := h5
                refine obTakeH (i := 8) (d := 46) (v := .string (Z ++ TB2)) rfl rfl (by kernel_rfl) (by kernel_rfl) (by kernel_rfl) (fun _ _ _ h => h) rfl (fun w hS => by obtain s1 := hS; go_simp <;> omega) hS ?_
                refine obTakeH (i := 9) (d := 2) (v := .string (Z ++ TB2)) rfl rfl (by kernel_rfl) (by kernel_rfl) (by kernel_rfl) (fun _ _ _ h => h) rfl (fun w hS => by obtain s1 := hS; go_simp) hS ?_
                try simp only [Act.put, List.setIfInBounds_toArray, List.set_cons_succ, List.set_cons_zero]
                refine wpAnyH_done (by kernel_rfl) ?_ 0
                go_wp2_with fail
                go_ret
                exact ⟨by rw [E0.out]; rfl, BZ.out⟩
              · refine wpOp_step rfl (fun K' hK => ?_)
                refine obCall1f (k1 := 44) (d := 45) (x1 := .string B) 30 _ rfl rfl _ _ _ _ (enter_text _) rfl (T2.out _) (fun e w5 hR => ?_)
                obtain ⟨rfl, b5⟩ := hR
                have h5 := (b5.cell (World.block_lt_of_cell? _ _ hS)).trans hS
                refine ⟨_, rfl, hK _ _ ⟨h5, ?_⟩⟩
                clear hK K'
                have BZ : Hid (Below K w w5) := (KB.out.trans (show Below K w3 (w3.drew.alloc (.cells #[.int .u8 (64 + (j : Int))] 5)) from ⟨rfl, rfl, rfl, bA.size, fun k hk => bA.block k (Nat.lt_of_lt_of_le hk hK3)⟩)).trans (b5.mono (Nat.le_trans hK3 bA.size))
                have n5 := (b5.cell (World.block_lt_of_cell? _ _ nA)).trans nA
                have cv := CV.out _ _ n5
                try simp only [Act.put, List.setIfInBounds_toArray, List.set_cons_succ, List.set_cons_zero]
                refine wpAnyH_all (rs := [4]) (by kernel_rfl) (by simp) (fun j hj => ?_)
                obtain rfl : j = 4 := by simpa using hj
                refine wpOp_step rfl (fun K' hK => ?_)
                clear hj
                go_simp
                refine hK _ _ ⟨h5, ?_⟩
                clear hK K'
                try simp only [Act.put, List.setIfInBounds_toArray, List.set_cons_succ, List.set_cons_zero]
                clear hS
                have hS := h5
                refine obTakeH (i := 8) (d := 46) (v := .string (Z ++ TB2)) rfl rfl (by kernel_rfl) (by kernel_rfl) (by kernel_rfl) (fun _ _ _ h => h) rfl (fun w hS => by obtain s1 := hS; go_simp <;> omega) hS ?_
                refine obTakeH (i := 9) (d := 2) (v := .string (Z ++ TB2)) rfl rfl (by kernel_rfl) (by kernel_rfl) (by kernel_rfl) (fun _ _ _ h => h) rfl (fun w hS => by obtain s1 := hS; go_simp) hS ?_
                try simp only [Act.put, List.setIfInBounds_toArray, List.set_cons_succ, List.set_cons_zero]
                refine wpAnyH_done (by kernel_rfl) ?_ 0
                go_wp2_with fail
                go_ret
                exact ⟨by rw [E0.out]; rfl, BZ.out⟩
            · refine wpOp_step rfl (fun K' hK => ?_)
              refine obCall1f (k1 := 44) (d := 45) (x1 := .string B) 30 _ rfl rfl _ _ _ _ (enter_text _) rfl (T2.out w3.drew) (fun e w5 hR => ?_)
              obtain ⟨rfl, b5⟩ := hR
              have h5 := (b5.cell (World.block_lt_of_cell? _ _ hS)).trans hS
              refine ⟨_, rfl, hK _ _ ⟨h5, ?_⟩⟩
              clear hK K'
              have bB : Below w5.heap.size w5 (w5.alloc (.cells #[.int .u8 (64 + (j : Int))] 5)) := Below.alloc (Below.refl w5.heap.size w5) (Nat.le_refl _) _
              have BZ : Hid (Below K w (w5.alloc (.cells #[.int .u8 (64 + (j : Int))] 5))) := (KB.out.trans (show Below K w3 w5 from ⟨b5.os, b5.tape, b5.output, b5.size, fun k hk => b5.block k (Nat.lt_of_lt_of_le hk hK3)⟩)).trans (bB.mono (Nat.le_trans hK3 b5.size))
              have h6 := (bB.cell (World.block_lt_of_cell? _ _ h5)).trans h5
              have n5 : (w5.alloc (.cells #[.int .u8 (64 + (j : Int))] 5)).cell? ⟨w5.heap.size, 0, none⟩ = some (.int .u8 (64 + (j : Int))) := by rw [World.cell?_alloc_new]; rfl
              have cv := CV.out _ _ n5
              try simp only [Act.put, List.setIfInBounds_toArray, List.set_cons_succ, List.set_cons_zero]
              refine wpAnyH_all (rs := [3]) (by kernel_rfl) (by simp) (fun j hj => ?_)
              obtain rfl : j = 3 := by simpa using hj
              refine wpOp_step rfl (fun K' hK => ?_)
              clear hj
              go_simp
              refine hK _ _ ⟨h6, ?_⟩
              clear hK K'
              try simp only [Act.put, List.setIfInBounds_toArray, List.set_cons_succ, List.set_cons_zero]
              refine wpAnyH_all (rs := [4]) (by kernel_rfl) (by simp) (fun j hj => ?_)
              obtain rfl : j = 4 := by simpa using hj
              refine wpOp_step rfl (fun K' hK => ?_)
              clear hj
              go_simp
              refine hK _ _ ⟨h6, ?_⟩
              clear hK K' h5
              have h5 := h6
              try simp only [Act.put, List.setIfInBounds_toArray, List.set_cons_succ, List.set_cons_zero]
              clear hS
              have hS := h5
              refine obTakeH (i := 8) (d := 46) (v := .string (Z ++ TB2)) rfl rfl (by kernel_rfl) (by kernel_rfl) (by kernel_rfl) (fun _ _ _ h => h) rfl (fun w hS => by obtain s1 := hS; go_simp <;> omega) hS ?_
              refine obTakeH (i := 9) (d := 2) (v := .string (Z ++ TB2)) rfl rfl (by kernel_rfl) (by kernel_rfl) (by kernel_rfl) (fun _ _ _ h => h) rfl (fun w hS => by obtain s1 := hS; go_simp) hS ?_
              try simp only [Act.put, List.setIfInBounds_toArray, List.set_cons_succ, List.set_cons_zero]
              refine wpAnyH_done (by kernel_rfl) ?_ 0
              go_wp2_with fail
              go_ret
              exact ⟨by rw [E0.out]; rfl, BZ.out⟩
        · have g2 : decide ((j : Int) < 20) = false := decide_eq_false (by omega)
          have g2' : decide (j < 20) = false := decide_eq_false hlj
          have E0 : Hid (strL E = strL [0] ++ TA2 ++ TB2) := by
            unfold Hid
            rw [E1.out, if_neg (by omega), hTB.out, hTA.out, strL_append, strL_append]
            rfl
          have q0 := fun d os => cell_regrown c0 d os
          have q1 := fun d os => cell_regrown c1 d os
          have R1 : Hid (∀ d os, _) := fun d os => Calls.regrown_of (T1.out (grow (redrawn wr d) os))
          have R2 : Hid (∀ d os, _) := fun d os => Calls.regrown_of (T2.out (grow (redrawn wr d) os))
          have KB : Hid (Below K w wr) := B1.out.trans (bl.out.mono hK1)
          have hK3 : K ≤ wr.heap.size := Nat.le_trans hK1 bl.out.size
          clear E1 j2 j3 fn LK
          go_wp2_with fail
          refine wp_region_quiet_below (by kernel_rfl) (by kernel_rfl) ?_
          repeat (go_big_quiet_step (first | (go_at_call_of 30 A; exact R1.out _ _) | (go_at_call_of 30 B; exact R2.out _ _)))
          refine wpQuiet_nil ?_
          intro _ hw'
          obtain ⟨⟨dq, osq⟩, hw''⟩ := hw'
          subst hw''
          have BZ := Lib.hid (KB.out.trans ((below_regrown wr dq osq).mono hK3))
          simp only
          generalize Go.Sort.grow (redrawn wr dq) osq = w6 at *
          go_wp2_with fail
          go_ret
          exact ⟨by rw [E0.out]; rfl, BZ.out⟩
end Go.Proofs.YtphmoieaddjanaaDoor
