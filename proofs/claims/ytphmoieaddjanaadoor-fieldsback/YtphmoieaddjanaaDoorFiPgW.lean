/-
  What the program's writeLine puts behind a builder's bytes. Names and values of at most 256 bytes, a text of at most 100000 bytes; no other condition.
-/
import Derived.Test.YtphmoieaddjanaaDoorFiPgT
import Derived.Test.YtphmoieaddjanaaDoorObBld
namespace Go.Proofs.YtphmoieaddjanaaDoor
set_option maxRecDepth 100000
open Go.RowKit Go.Sort

/-- A builder that is being written, and a field in a box beside it. -/
structure WS (w0 w : World) (B b K : Nat) (X : L) (f : Fd) : Prop where
  ws : Ws w0 w B b X
  bx : w.heap[K]? = some (.cells #[.string (strL f.1), .string (strL f.2)] 34)
  ne : K ≠ b
section
variable {w0 w w' : World} {B b K : Nat} {X Y : L} {f : Fd}
theorem WS.keep (h : WS w0 w B b K X f) (k : Below w.heap.size w w') : WS w0 w' B b K X f := ⟨h.ws.keep k, (k.block K (heap_lt h.bx)).trans h.bx, h.ne⟩
theorem WS.more (h : WS w0 w B b K X f) (k : Bk B b w w') (d : Bd w' B b Y) : WS w0 w' B b K Y f :=
  ⟨h.ws.more k d, k.oth K _ h.bx (by intro c; injection c with c; exact h.ne c) (by
    intro c fz q
    injection q with q1 q2
    exact absurd q2 (by decide)), h.ne⟩
theorem WS.new (h : Ws w0 w B b X) (f : Fd) : WS w0 (w.alloc (.cells #[.string (strL f.1), .string (strL f.2)] 34)) B b w.heap.size X f :=
  ⟨h.keep ((Below.refl _ _).alloc (Nat.le_refl _) _), heap_alloc_new _ _, fun c => Nat.lt_irrefl _ (c ▸ h.bd.lt)⟩
theorem WS.c0 (h : WS w0 w B b K X f) : w.cell? ⟨K, 0, none⟩ = some (.string (strL f.1)) := by rw [Lib.cell_of_heap h.bx]; rfl
theorem WS.c1 (h : WS w0 w B b K X f) : w.cell? ⟨K, 1, none⟩ = some (.string (strL f.2)) := by rw [Lib.cell_of_heap h.bx]; rfl
theorem WS.tb (h : WS w0 w B b K X f) (t : T14 w0) : T14 w := t.keep h.ws.bel
end
theorem or128 (k : Nat) (h : k < 20) : bits .or .u8 128 (k : Int) = 128 + (k : Int) := by
  have : ∀ j : Fin 20, bits .or .u8 128 ((j.1 : Nat) : Int) = 128 + ((j.1 : Nat) : Int) := by decide +kernel
  exact this ⟨k, h⟩
theorem or64 (k : Nat) (h : k < 20) : bits .or .u8 64 (k : Int) = 64 + (k : Int) := by
  have : ∀ j : Fin 20, bits .or .u8 64 ((j.1 : Nat) : Int) = 64 + ((j.1 : Nat) : Int) := by decide +kernel
  exact this ⟨k, h⟩
set_option maxHeartbeats 8000000 in
theorem wline_ok (w0 w : World) (B b : Nat) (X : L) (h : Ws w0 w B b X) (t : T14 w0) (f : Fd) (h1 : f.1.length ≤ 256) (h2 : f.2.length ≤ 256) (hX : X.length ≤ 100000) :
    Calls Tryd.prog 20 #[.pointer (some ⟨b, 0, none⟩), fbV f] w fun e w' => e = .returned (.tuple #[]) ∧ Ws w0 w' B b (X ++ lineL f) := by
  obtain ⟨E, hE⟩ : ∃ E, E = X ++ lineL f := ⟨_, rfl⟩
  rw [← hE]
  unfold lineL at hE
  have i1 := ixT_le (isF f) tab
  have i2 := Lib.hid (ixT_no (isF f) tab)
  have i3 := Lib.hid (ixT_yes (isF f) tab)
  have j1 := ixT_le (isN f.1) tab
  have j2 := Lib.hid (ixT_no (isN f.1) tab)
  have j3 := Lib.hid (ixT_yes (isN f.1) tab)
  rw [tab_len] at i1 i3 j1 j3
  have TX : Hid (∀ (d : L), d.length ≤ 256 → ∀ w, T14 w → Calls Tryd.prog 29 #[.string (strL d)] w fun e w' => e = .returned (.string (strL (txt d))) ∧ Below w.heap.size w w') := fun d hd w t => by
    have := ptxtL_ok (strL d) w t.v (by rw [strL_size]; omega)
    rw [strL_size, toL_strL] at this
    exact this
  obtain ⟨I, hI⟩ : ∃ I, I = ixT (isF f) tab := ⟨_, rfl⟩
  obtain ⟨J, hJ⟩ : ∃ J, J = ixT (isN f.1) tab := ⟨_, rfl⟩
  rw [← hI] at i1 i2 i3 hE
  rw [← hJ] at j1 j2 j3 hE
  replace hE := Lib.hid hE
  clear hI hJ
  have fn : Hid (∀ k, ((strL (tab.getD k nF).1).toList == (strL f.1).toList) = isN f.1 (tab.getD k nF)) := fun k => eq_strL _ _
  have S0 := WS.new h f
  obtain ⟨a, c⟩ := f
  unfold fbV
  simp only at h1 h2 i2 i3 j2 j3 hE fn S0 ⊢
  have T1 := Lib.hid (TX.out a h1)
  have T2 := Lib.hid (TX.out c h2)
  have lt1 : (txt a).length ≤ 264 := by
    have := put_len a.length
    unfold txt
    rw [List.length_append]
    omega
  have lt2 : (txt c).length ≤ 264 := by
    have := put_len c.length
    unfold txt
    rw [List.length_append]
    omega
  have WB : Hid (∀ (Y : L) (ch : UInt8) (x : Int), (ch.toNat : Int) = x → Y.length ≤ 200000 → ∀ w', Bd w' B b Y → _) := fun Y ch x hx (hY : Y.length ≤ 200000) w' (hb : Bd w' B b Y) => wbyte_ok' B b Y ch x hx w' hb (by omega)
  have WT : Hid (∀ (Y d : L), Y.length ≤ 200000 → d.length ≤ 264 → ∀ w', Bd w' B b Y → Calls Tryd.prog 28 #[.pointer (some ⟨b, 0, none⟩), .string (strL d)] w' fun e w'' => e = .returned (.tuple #[.int .i64 ((strL d).size : Int), .nilIface]) ∧ Bd w'' B b (Y ++ d) ∧ Bk B b w' w'') := fun Y d (hY : Y.length ≤ 200000) (hd : d.length ≤ 264) w' (hb : Bd w' B b Y) => by
    have := wstr_ok B b Y (strL d) w' hb (by rw [strL_size]; omega)
    rw [toL_strL] at this
    exact this
  clear TX
  obtain ⟨wa, hwa⟩ : ∃ wa, wa = w.alloc (.cells #[.string (strL a), .string (strL c)] 34) := ⟨_, rfl⟩
  rw [← hwa] at S0
  obtain ⟨K, hK⟩ : ∃ K, K = w.heap.size := ⟨_, rfl⟩
  rw [← hK] at S0
  obtain ⟨TV, hTV⟩ : ∃ TV, TV = fCells tab := ⟨_, rfl⟩
  have RA : Hid (∀ w', T14 w' → w'.rangeAt 0 0 TV) := fun w' t => by rw [hTV]; exact t.t
  have LT : (Tryd.prog.info? 53).map (·.size) = some TV.length := by rw [hTV, fCells_len]; kernel_rfl
  have IX : Hid (∀ k : Nat, k < 20 → ∀ w', (Instr.index 53 (.agg TV.toArray) (.int .i64 (k : Int))).run Tryd.prog w' = .ok (.agg #[.string (strL (tab.getD k nF).1), .string (strL (tab.getD k nF).2)]) w') := fun k hk w' => by rw [hTV]; exact ix_tab k w' hk (k : Int) rfl
  clear hTV
  have S := Lib.hid S0
  have TT := Lib.hid t
  replace LT := Lib.hid LT
  clear h S0 t h1 h2
  have PT : Hid (∀ wr k, WS w0 wr B b K X (a, c) → WS w0 (wr.alloc (.cells #[.string (strL (tab.getD k nF).1), .string (strL (tab.getD k nF).2)] 34)) B b K X (a, c) ∧ Lies (wr.alloc (.cells #[.string (strL (tab.getD k nF).1), .string (strL (tab.getD k nF).2)] 34)) wr.heap.size [.string (strL (tab.getD k nF).1), .string (strL (tab.getD k nF).2)]) := fun wr k (hs : WS w0 wr B b K X (a, c)) => ⟨hs.keep ((Below.refl _ _).alloc (Nat.le_refl _) _), Lies.new wr _ _⟩
  go_enter Tryd.func20, Tryd.ntmps20
  go_upto_region 1 with fail
  rw [← hwa, ← hK]
  clear hwa
  replace hK := Lib.hid hK
  go_wp2_with (refine wpList_load_mid rfl 53 _ rfl 0 0 rfl TV _ (RA.out _ (S.out.tb TT.out)) Tryd.underlying53 rfl LT.out ?_)
  go_loopg [9] I (fun g' iv wr => ∃ k : Nat, k + g' = I ∧ iv = .int .i64 k ∧ Hid (WS w0 wr B b K X (a, c)))
  case atStart => exact ⟨0, by omega, rfl, S⟩
  case round =>
    clear S
    obtain ⟨k, hk, rfl, S⟩ := hrel
    by_cases hlt : k < 20
    · have g1 : decide ((k : Int) < 20) = true := decide_eq_true (by omega)
      have g1' : decide (k < 20) = true := decide_eq_true hlt
      have ia := IX.out k hlt
      have e1 := fn.out k
      have ekk := eq_strL (tab.getD k nF).2 c
      obtain ⟨S1, L1⟩ := PT.out wr k S.out
      by_cases hkI : k < I
      · have hn := i2.out k hkI
        have hne : ¬ tab.getD k nF = (a, c) := of_decide_eq_false hn
        have hcase : ((strL (tab.getD k nF).1).toList == (strL a).toList) = false ∨ (((strL (tab.getD k nF).1).toList == (strL a).toList) = true ∧ ((strL (tab.getD k nF).2).toList == (strL c).toList) = false) := by
          by_cases r1 : (tab.getD k nF).1 = a
          · exact .inr ⟨by rw [e1]; exact decide_eq_true r1, by rw [ekk]; exact decide_eq_false fun q => hne (Prod.ext r1 q)⟩
          · exact .inl (by rw [e1]; exact decide_eq_false r1)
        clear e1 ekk hne hn
        generalize (tab.getD k nF).1 = x1 at *
        generalize (tab.getD k nF).2 = x2 at *
        obtain ⟨w2, hw2⟩ : ∃ w2, w2 = wr.alloc (.cells #[.string (strL x1), .string (strL x2)] 34) := ⟨_, rfl⟩
        obtain ⟨F, hF⟩ : ∃ F, F = wr.heap.size := ⟨_, rfl⟩
        rw [← hw2] at S1 L1
        rw [← hF] at L1
        have c0 := S1.c0
        have c1 := S1.c1
        simp only at c0 c1
        have d0 := L1.cell 0 (v := .string (strL x1)) rfl
        have d1 := L1.cell 1 (v := .string (strL x2)) rfl
        replace S1 := Lib.hid S1
        clear L1 S
        go_upto_region 4 with fail
        rw [← hw2, ← hF]
        clear hw2
        replace hF := Lib.hid hF
        rcases hcase with e1 | ⟨e1, e2⟩
        · go_wp2_with fail
          go_roundg (I - (k + 1))
          case measure => omega
          case rel => exact ⟨k + 1, by omega, by go_num, S1⟩
        · go_wp2_with fail
          go_roundg (I - (k + 1))
          case measure => omega
          case rel => exact ⟨k + 1, by omega, by go_num, S1⟩
      · obtain rfl : k = I := by omega
        have hy := i3.out hlt
        have hye : tab.getD k nF = (a, c) := of_decide_eq_true hy
        have E0 : Hid (E = X ++ [UInt8.ofNat (128 + k)]) := by unfold Hid; rw [hE.out, if_pos hlt]
        rw [hye] at S1 L1 ia
        simp only at S1 L1 ia
        clear hE hy hye i2 i3 j2 j3 e1 ekk
        obtain ⟨w2, hw2⟩ : ∃ w2, w2 = wr.alloc (.cells #[.string (strL a), .string (strL c)] 34) := ⟨_, rfl⟩
        obtain ⟨F, hF⟩ : ∃ F, F = wr.heap.size := ⟨_, rfl⟩
        rw [← hw2] at S1 L1
        rw [← hF] at L1
        have c0 := S1.c0
        have c1 := S1.c1
        simp only at c0 c1
        have d0 := L1.cell 0 (v := .string (strL a)) rfl
        have d1 := L1.cell 1 (v := .string (strL c)) rfl
        have hw8 : IntKind.u8.wrap (k : Int) = (k : Int) := by rw [IntKind.wrap_u8]; omega
        have ho := or128 k hlt
        have W1 := Lib.hid (WB.out X (UInt8.ofNat (128 + k)) (128 + (k : Int)) (by rw [u8n _ (by omega)]; omega) (by omega) w2 S1.ws.bd)
        replace S1 := Lib.hid S1
        clear L1 S
        go_upto_region 4 with fail
        rw [← hw2, ← hF]
        clear hw2
        replace hF := Lib.hid hF
        go_wp2_with fail
        refine W1.out.mono ?_
        rintro e w3 ⟨rfl, d3, k3⟩
        have S3 := Lib.hid (S1.out.more k3 d3)
        clear W1 d3 k3 S1 c0 c1 d0 d1
        go_wp2_with fail
        exact bodyPost_ret (v := .tuple #[]) (by simp [results, Tryd.results20]) rfl ⟨rfl, by rw [E0.out]; exact S3.out.ws⟩
    · have g1 : decide ((k : Int) < 20) = false := decide_eq_false (by omega)
      have g1' : decide (k < 20) = false := decide_eq_false hlt
      have E1 : Hid (E = X ++ if J < 20 then UInt8.ofNat (64 + J) :: txt c else 0 :: (txt a ++ txt c)) := by unfold Hid; rw [hE.out, if_neg (by omega)]
      clear hE i2 i3
      go_wp2_with (refine wpList_load_mid rfl 53 _ rfl 0 0 rfl TV _ (RA.out _ (S.out.tb TT.out)) Tryd.underlying53 rfl LT.out ?_)
      go_loopg [23] J (fun g' iv wr => ∃ j : Nat, j + g' = J ∧ iv = .int .i64 j ∧ Hid (WS w0 wr B b K X (a, c)))
      case atStart => exact ⟨0, by omega, rfl, S⟩
      case round =>
        clear S hk
        obtain ⟨j, hj, rfl, S⟩ := hrel
        by_cases hlj : j < 20
        · have g2 : decide ((j : Int) < 20) = true := decide_eq_true (by omega)
          have g2' : decide (j < 20) = true := decide_eq_true hlj
          have ia := IX.out j hlj
          have e1 := fn.out j
          obtain ⟨S1, L1⟩ := PT.out wr j S.out
          by_cases hjJ : j < J
          · rw [j2.out j hjJ] at e1
            generalize (tab.getD j nF).1 = x1 at *
            generalize (tab.getD j nF).2 = x2 at *
            obtain ⟨w2, hw2⟩ : ∃ w2, w2 = wr.alloc (.cells #[.string (strL x1), .string (strL x2)] 34) := ⟨_, rfl⟩
            obtain ⟨F, hF⟩ : ∃ F, F = wr.heap.size := ⟨_, rfl⟩
            rw [← hw2] at S1 L1
            rw [← hF] at L1
            have c0 := S1.c0
            simp only at c0
            have d0 := L1.cell 0 (v := .string (strL x1)) rfl
            replace S1 := Lib.hid S1
            clear L1 S
            go_upto_region 10 with fail
            rw [← hw2, ← hF]
            clear hw2
            replace hF := Lib.hid hF
            go_wp2_with fail
            go_roundg (J - (j + 1))
            case measure => omega
            case rel => exact ⟨j + 1, by omega, by go_num, S1⟩
          · obtain rfl : j = J := by omega
            rw [j3.out hlj] at e1
            have E0 : Hid (E = X ++ [UInt8.ofNat (64 + j)] ++ txt c) := by unfold Hid; rw [E1.out, if_pos hlj]; simp
            clear E1 j2 j3 fn
            generalize (tab.getD j nF).1 = x1 at *
            generalize (tab.getD j nF).2 = x2 at *
            obtain ⟨w2, hw2⟩ : ∃ w2, w2 = wr.alloc (.cells #[.string (strL x1), .string (strL x2)] 34) := ⟨_, rfl⟩
            obtain ⟨F, hF⟩ : ∃ F, F = wr.heap.size := ⟨_, rfl⟩
            rw [← hw2] at S1 L1
            rw [← hF] at L1
            have c0 := S1.c0
            simp only at c0
            have d0 := L1.cell 0 (v := .string (strL x1)) rfl
            have hw8 : IntKind.u8.wrap (j : Int) = (j : Int) := by rw [IntKind.wrap_u8]; omega
            have ho := or64 j hlj
            have W1 := Lib.hid (WB.out X (UInt8.ofNat (64 + j)) (64 + (j : Int)) (by rw [u8n _ (by omega)]; omega) (by omega) w2 S1.ws.bd)
            replace S1 := Lib.hid S1
            clear L1 S
            go_upto_region 10 with fail
            rw [← hw2, ← hF]
            clear hw2
            replace hF := Lib.hid hF
            go_wp2_with fail
            refine W1.out.mono ?_
            rintro e w3 ⟨rfl, d3, k3⟩
            have S3 := Lib.hid (S1.out.more k3 d3)
            clear W1 d3 k3 S1 c0 d0
            have c1 := S3.out.c1
            simp only at c1
            have T3 := Lib.hid (T2.out w3 (S3.out.tb TT.out))
            go_wp2_with fail
            refine T3.out.mono ?_
            rintro e w4 ⟨rfl, b4⟩
            have S4 := Lib.hid (S3.out.keep b4)
            have W4 := Lib.hid (WT.out (X ++ [UInt8.ofNat (64 + j)]) (txt c) (by simp; omega) lt2 w4 S4.out.ws.bd)
            clear T3 b4 S3 c1
            go_wp2_with fail
            refine W4.out.mono ?_
            rintro e w5 ⟨rfl, d5, k5⟩
            have S5 := Lib.hid (S4.out.more k5 d5)
            clear W4 d5 k5 S4
            go_wp2_with fail
            exact bodyPost_ret (v := .tuple #[]) (by simp [results, Tryd.results20]) rfl ⟨rfl, by rw [E0.out]; exact S5.out.ws⟩
        · have g2 : decide ((j : Int) < 20) = false := decide_eq_false (by omega)
          have g2' : decide (j < 20) = false := decide_eq_false hlj
          have E0 : Hid (E = X ++ [0] ++ txt a ++ txt c) := by unfold Hid; rw [E1.out, if_neg (by omega)]; simp
          have W1 := Lib.hid (WB.out X 0 0 rfl (by omega) wr S.out.ws.bd)
          clear E1 j2 j3 fn
          go_wp2_with fail
          refine W1.out.mono ?_
          rintro e w3 ⟨rfl, d3, k3⟩
          have S3 := Lib.hid (S.out.more k3 d3)
          clear W1 d3 k3 S
          have c0 := S3.out.c0
          simp only at c0
          have T3 := Lib.hid (T1.out w3 (S3.out.tb TT.out))
          go_wp2_with fail
          refine T3.out.mono ?_
          rintro e w4 ⟨rfl, b4⟩
          have S4 := Lib.hid (S3.out.keep b4)
          have W4 := Lib.hid (WT.out (X ++ [0]) (txt a) (by simp; omega) lt1 w4 S4.out.ws.bd)
          clear T3 b4 S3 c0
          go_wp2_with fail
          refine W4.out.mono ?_
          rintro e w5 ⟨rfl, d5, k5⟩
          have S5 := Lib.hid (S4.out.more k5 d5)
          clear W4 d5 k5 S4
          have c1 := S5.out.c1
          simp only at c1
          have T5 := Lib.hid (T2.out w5 (S5.out.tb TT.out))
          go_wp2_with fail
          refine T5.out.mono ?_
          rintro e w6 ⟨rfl, b6⟩
          have S6 := Lib.hid (S5.out.keep b6)
          have W6 := Lib.hid (WT.out (X ++ [0] ++ txt a) (txt c) (by simp; omega) lt2 w6 S6.out.ws.bd)
          clear T5 b6 S5 c1
          go_wp2_with fail
          refine W6.out.mono ?_
          rintro e w7 ⟨rfl, d7, k7⟩
          have S7 := Lib.hid (S6.out.more k7 d7)
          clear W6 d7 k7 S6
          go_wp2_with fail
          go_end0
          exact ⟨rfl, by rw [E0.out]; exact S7.out.ws⟩
end Go.Proofs.YtphmoieaddjanaaDoor
