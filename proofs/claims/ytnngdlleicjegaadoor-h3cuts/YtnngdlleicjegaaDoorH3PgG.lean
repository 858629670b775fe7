/-
  What readFirst, readKind and readCount leave of the program's reader. No condition but the form's own reach.
-/
import Derived.Test.YtnngdlleicjegaaDoorH3PgF
namespace Go.Proofs.YtnngdlleicjegaaDoor
set_option maxRecDepth 100000
open Go.RowKit

theorem at_strL15 (l : L) (i : Nat) (w : World) (h : i < l.length) (z : Int) (hz : z = i) :
    (Instr.index 9 (.string (strL l)) (.int .i64 z)).run Tryd.prog w = .ok (.int .u8 ((l.getD i 0).toNat : Int)) w := by
  subst hz
  have hs : i < (strL l).size := by rw [strL_size]; exact h
  rw [run_index_string (P := Tryd.prog) w 9 (strL l) .i64 i Tryd.underlying9]
  have h1 : (i : Int) < (strL l).size := by omega
  have hx : (strL l)[i] = l.getD i 0 := by
    have e : l.getD i 0 = l[i] := by rw [List.getD, List.getElem?_eq_getElem h]; rfl
    rw [e]
    rfl
  simp [h1, hx]
set_option maxHeartbeats 2000000 in
theorem pfirst_ok (w0 w : World) (R : Nat) (q : Pm) (l : List Ev) (t : L) (h : PI w0 w R q l) (ht : t.length ≤ 4611686018427387903) (hn : t ≠ []) :
    Calls Tryd.prog 23 #[rp R, .string (strL t)] w (CallA w0 R l (q.first t)) := by
  have hp := List.length_pos_iff.2 hn
  have zs : (strL t).size = t.length := strL_size t
  have ix : (Instr.index 9 (.string (strL t)) (.int .i64 0)).run Tryd.prog w = .ok (.int .u8 ((t.getD 0 0).toNat : Int)) w := at_strL15 t 0 w hp 0 rfl
  have e1 : (strL t).extract 1 (strL t).size = strL (t.drop 1) := cut_behind t 1
  have hs1 : 1 ≤ (strL t).size := by omega
  have hs2 : (strL t).size ≤ 4611686018427387903 := by omega
  unfold Pm.first
  by_cases h0 : t.head? = some 0
  · rw [if_pos h0]
    have g0 : (t.getD 0 0) = 0 := by
      cases t with
      | nil => rfl
      | cons b t => simpa using h0
    rw [g0] at ix
    have EN := Lib.hid (pend_ok w0 w R q l h)
    clear h h0 g0 zs hp hn
    replace e1 := Lib.hid e1
    generalize strL t = s at *
    go_enter Tryd.func23, Tryd.ntmps23
    go_wp2_with fail
    refine EN.out.mono ?_
    rintro e w1 ⟨rfl, n1⟩
    have N1 := Lib.hid n1
    clear n1 EN
    go_wp2_with fail
    go_ret
    exact ⟨by show _ = Ending.returned (.string (strL (t.drop 1))); rw [← e1.out]; rfl, by rw [List.append_nil]; exact N1.out⟩
  · rw [if_neg h0]
    have g0 : (((t.getD 0 0).toNat : Int) == 0) = false := by
      cases t with
      | nil => exact absurd rfl hn
      | cons b t =>
        have : b ≠ 0 := by simpa using h0
        have h2 : b.toNat ≠ 0 := fun c => this (UInt8.toNat_inj.1 c)
        simpa using h2
    have FA := Lib.hid (pfail_ok w0 w R q l h 261)
    clear h h0 e1 zs hp hn
    generalize strL t = s at *
    generalize ((t.getD 0 0).toNat : Int) = B at *
    go_enter Tryd.func23, Tryd.ntmps23
    go_wp2_with fail
    refine FA.out.mono ?_
    rintro e w1 ⟨rfl, n1⟩
    have N1 := Lib.hid n1
    clear n1 FA
    go_wp2_with fail
    go_ret
    exact ⟨rfl, by rw [List.append_nil]; exact N1.out⟩
set_option maxHeartbeats 2000000 in
theorem pkind_ok (w0 w : World) (R : Nat) (q : Pm) (l : List Ev) (t : L) (h : PI w0 w R q l) (ht : t.length ≤ 4611686018427387903) (hk : getL q.kept = none) :
    Calls Tryd.prog 22 #[rp R, .string (strL t)] w (CallA w0 R l (q.knd t)) := by
  have hmf := mf_run
  have hsf := sf_run
  have c5 := h.cell 5 (v := .bool q.wi) fun _ => rfl
  have f5 := h.free 5 (by decide)
  have h1 : PI w0 (w.setCell ⟨R, 5, none⟩ (.bool true)) R { q with wi := true } l := h.put 5 (by decide) _ _ fun _ => rfl
  unfold Pm.knd
  cases hn : numP q.kept t with
  | none =>
    have NU := Lib.hid (pnum_none w0 _ R _ l t h1 ht hk hn)
    clear h h1
    generalize strL t = s at *
    go_enter Tryd.func22, Tryd.ntmps22
    go_wp2_with fail
    refine NU.out.mono ?_
    rintro e w1 ⟨rfl, n1⟩
    have N1 := Lib.hid n1
    clear n1 NU
    go_wp2_with fail
    go_ret
    exact ⟨rfl, by rw [List.append_nil]; exact N1.out⟩
  | some p =>
    obtain ⟨v, z⟩ := p
    have NU := Lib.hid (pnum_some w0 _ R _ l t h1 ht hk hn)
    have F : Hid (∀ w1, PI w0 w1 R { q with wi := true, kept := [] } l → (w1.cell? ⟨R, 3, none⟩ = some (.int .i64 (q.kind : Int)) ∧ w1.frozen? ⟨R, 3, none⟩ = false ∧ (w1.setCell ⟨R, 3, none⟩ (.int .i64 (v : Int))).cell? ⟨R, 1, none⟩ = some (nx R q.m) ∧ (w1.setCell ⟨R, 3, none⟩ (.int .i64 (v : Int))).frozen? ⟨R, 1, none⟩ = false ∧ PI w0 ((w1.setCell ⟨R, 3, none⟩ (.int .i64 (v : Int))).setCell ⟨R, 1, none⟩ (.func (.func 36) #[.pointer (some ⟨R, 0, none⟩)] #[])) R { q with wi := true, kept := [], kind := v, m := 2 } l)) := fun w1 h2 => by
      have h3 : PI w0 (w1.setCell ⟨R, 3, none⟩ (.int .i64 (v : Int))) R { q with wi := true, kept := [], kind := v } l := h2.put 3 (by decide) _ _ fun _ => rfl
      exact ⟨h2.cell 3 fun _ => rfl, h2.free 3 (by decide), h3.cell 1 fun _ => rfl, h3.free 1 (by decide), h3.put 1 (by decide) _ _ fun _ => rfl⟩
    clear h h1
    generalize strL t = s at *
    simp only
    generalize t.drop (z - q.kept.length) = B at *
    have NU2 : Hid (Calls Tryd.prog 35 #[rp R, .string s] (w.setCell ⟨R, 5, none⟩ (.bool true)) fun e w' => e = .returned (.tuple #[.int .i64 (v : Int), .string (strL B), .bool true]) ∧ PI w0 w' R { q with wi := true, kept := [] } l) := NU
    clear NU
    go_enter Tryd.func22, Tryd.ntmps22
    go_wp2_with fail
    refine NU2.out.mono ?_
    rintro e w1 ⟨rfl, n1⟩
    obtain ⟨c3, f3, c1, f1, n2⟩ := F.out w1 n1
    have N2 := Lib.hid n2
    clear n1 n2 NU2 F
    go_wp2_with fail
    go_ret
    exact ⟨rfl, by rw [List.append_nil]; exact N2.out⟩
set_option maxHeartbeats 8000000 in
theorem pcount_ok (w0 w : World) (R : Nat) (q : Pm) (l : List Ev) (t : L) (h : PI w0 w R q l) (ht : t.length ≤ 4611686018427387903) (hk : getL q.kept = none) (hq : q.kind < 4611686018427387904) (hm : l.length < 1000000000) :
    Calls Tryd.prog 36 #[rp R, .string (strL t)] w (CallA w0 R l (q.count t)) := by
  have hmf := mf_run
  have hsf := sf_run
  unfold Pm.count
  cases hn : numP q.kept t with
  | none =>
    have NU := Lib.hid (pnum_none w0 _ R _ l t h ht hk hn)
    clear h
    generalize strL t = s at *
    go_enter Tryd.func36, Tryd.ntmps36
    go_wp2_with fail
    refine NU.out.mono ?_
    rintro e w1 ⟨rfl, n1⟩
    have N1 := Lib.hid n1
    clear n1 NU
    go_wp2_with fail
    go_ret
    exact ⟨rfl, by rw [List.append_nil]; exact N1.out⟩
  | some p =>
    obtain ⟨v, z⟩ := p
    have NU := Lib.hid (pnum_some w0 _ R _ l t h ht hk hn)
    have hv : v < 4611686018427387904 := (getL_bound (show getL (q.kept ++ t.take (min t.length (8 - q.kept.length))) = some (v, z) from hn)).1
    have hB : (t.drop (z - q.kept.length)).length ≤ 4611686018427387903 := by rw [List.length_drop]; omega
    have HF : Hid (∀ w1, PI w0 w1 R { q with kept := [] } l → _) := fun w1 h1 => phead_ok w0 w1 R { q with kept := [] } l v h1 hq hv
    have eH : headC { q with kept := [] } v = headC q v := rfl
    rw [eH] at HF
    clear h hn
    simp only
    generalize strL t = s at *
    generalize t.drop (z - q.kept.length) = B at *
    by_cases hC : headC q v = 0
    · rw [if_neg (by simpa using hC)]
      rw [hC] at HF
      have hw : wholeK q.kind = true → v ≤ 4096 := fun hw => by
        unfold headC at hC
        split at hC
        · rename_i c; exact absurd hC c
        · split at hC
          · cases hC
          · rename_i c
            refine Nat.le_of_not_lt fun d => c ⟨hw, d⟩
      have F : Hid (∀ w1, PI w0 w1 R { q with kept := [] } l → (w1.cell? ⟨R, 4, none⟩ = some (.int .i64 (q.left : Int)) ∧ w1.frozen? ⟨R, 4, none⟩ = false ∧ PI w0 (w1.setCell ⟨R, 4, none⟩ (.int .i64 (v : Int))) R { q with kept := [], left := v } l)) := fun w1 h2 => ⟨h2.cell 4 fun _ => rfl, h2.free 4 (by decide), h2.put 4 (by decide) _ _ fun _ => rfl⟩
      have F2 : Hid (∀ w2 (m : Nat) (f : Nat), PI w0 w2 R { q with kept := [], left := v } l → f = nxF m → (w2.cell? ⟨R, 3, none⟩ = some (.int .i64 (q.kind : Int)) ∧ w2.cell? ⟨R, 1, none⟩ = some (nx R q.m) ∧ w2.frozen? ⟨R, 1, none⟩ = false ∧ (w2.setCell ⟨R, 1, none⟩ (.func (.func f) #[.pointer (some ⟨R, 0, none⟩)] #[])).cell? ⟨R, 1, none⟩ = some (.func (.func f) #[.pointer (some ⟨R, 0, none⟩)] #[]) ∧ PI w0 (w2.setCell ⟨R, 1, none⟩ (.func (.func f) #[.pointer (some ⟨R, 0, none⟩)] #[])) R { q with kept := [], left := v, m := m } l)) := fun w2 m f h2 ef => by
        subst ef
        have h3 : PI w0 (w2.setCell ⟨R, 1, none⟩ (nx R m)) R { q with kept := [], left := v, m := m } l := h2.put 1 (by decide) _ _ fun _ => rfl
        exact ⟨h2.cell 3 fun _ => rfl, h2.cell 1 fun _ => rfl, h2.free 1 (by decide), h3.cell 1 fun _ => rfl, h3⟩
      by_cases h0 : q.kind = 0
      · rw [if_pos h0]
        have XX : Hid (∀ w3, PI w0 w3 R { q with kept := [], left := v, m := 3 } l → _) := fun w3 h3 => ppiece_ok w0 w3 R { q with kept := [], left := v, m := 3 } l B h3 (by show v ≤ 4611686018427387903; omega) hB hm
        generalize Pm.piece { q with kept := [], left := v, m := 3 } B = X at *
        clear hw hC hq eH
        go_enter Tryd.func36, Tryd.ntmps36
        go_wp2_with fail
        refine NU.out.mono ?_
        rintro e w1 ⟨rfl, n1⟩
        have H1 := Lib.hid (HF.out w1 n1)
        obtain ⟨c4, f4, n2⟩ := F.out w1 n1
        obtain ⟨c3, c1, f1, d1, n3⟩ := F2.out _ 3 47 n2 rfl
        rw [h0] at c3
        clear h0
        have X3 := Lib.hid (XX.out _ n3)
        clear n1 n2 n3 NU HF F F2 XX
        generalize strL B = B' at *
        go_wp2_with fail
        refine H1.out.mono ?_
        rintro e w2 ⟨rfl, rfl⟩
        clear H1
        go_wp2_with fail
        refine X3.out.mono ?_
        rintro e w4 ⟨rfl, n4⟩
        have N4 := Lib.hid n4
        clear n4 X3
        go_wp2_with fail
        go_ret
        exact ⟨rfl, N4.out⟩
      · rw [if_neg h0]
        have y0 : ((q.kind : Int) == 0) = false := by simp; omega
        by_cases hW : wholeK q.kind = true
        · rw [if_pos hW]
          have hv4 := hw hW
          have XX : Hid (∀ w3, PI w0 w3 R { q with kept := [], left := v, m := 4 } l → _) := fun w3 h3 => pwhole_ok w0 w3 R { q with kept := [], left := v, m := 4 } l B h3 (by show v ≤ 4611686018427387903; omega) hB hm (by show 0 + v ≤ 4096; omega)
          generalize Pm.whole { q with kept := [], left := v, m := 4 } B = X at *
          have kw : q.kind = 1 ∨ q.kind = 4 ∨ q.kind = 7 := by unfold wholeK at hW; simpa [or_assoc] using hW
          clear hw hW h0 hC hq eH
          rcases kw with kw | kw | kw
          · go_enter Tryd.func36, Tryd.ntmps36
            go_wp2_with fail
            refine NU.out.mono ?_
            rintro e w1 ⟨rfl, n1⟩
            have H1 := Lib.hid (HF.out w1 n1)
            obtain ⟨c4, f4, n2⟩ := F.out w1 n1
            obtain ⟨c3, c1, f1, d1, n3⟩ := F2.out _ 4 48 n2 rfl
            rw [kw] at c3 y0
            clear kw
            have X3 := Lib.hid (XX.out _ n3)
            clear n1 n2 n3 NU HF F F2 XX
            generalize strL B = B' at *
            go_wp2_with fail
            refine H1.out.mono ?_
            rintro e w2 ⟨rfl, rfl⟩
            clear H1
            go_wp2_with fail
            refine X3.out.mono ?_
            rintro e w4 ⟨rfl, n4⟩
            have N4 := Lib.hid n4
            clear n4 X3
            go_wp2_with fail
            go_ret
            exact ⟨rfl, N4.out⟩
          · go_enter Tryd.func36, Tryd.ntmps36
            go_wp2_with fail
            refine NU.out.mono ?_
            rintro e w1 ⟨rfl, n1⟩
            have H1 := Lib.hid (HF.out w1 n1)
            obtain ⟨c4, f4, n2⟩ := F.out w1 n1
            obtain ⟨c3, c1, f1, d1, n3⟩ := F2.out _ 4 48 n2 rfl
            rw [kw] at c3 y0
            clear kw
            have X3 := Lib.hid (XX.out _ n3)
            clear n1 n2 n3 NU HF F F2 XX
            generalize strL B = B' at *
            go_wp2_with fail
            refine H1.out.mono ?_
            rintro e w2 ⟨rfl, rfl⟩
            clear H1
            go_wp2_with fail
            refine X3.out.mono ?_
            rintro e w4 ⟨rfl, n4⟩
            have N4 := Lib.hid n4
            clear n4 X3
            go_wp2_with fail
            go_ret
            exact ⟨rfl, N4.out⟩
          · go_enter Tryd.func36, Tryd.ntmps36
            go_wp2_with fail
            refine NU.out.mono ?_
            rintro e w1 ⟨rfl, n1⟩
            have H1 := Lib.hid (HF.out w1 n1)
            obtain ⟨c4, f4, n2⟩ := F.out w1 n1
            obtain ⟨c3, c1, f1, d1, n3⟩ := F2.out _ 4 48 n2 rfl
            rw [kw] at c3 y0
            clear kw
            have X3 := Lib.hid (XX.out _ n3)
            clear n1 n2 n3 NU HF F F2 XX
            generalize strL B = B' at *
            go_wp2_with fail
            refine H1.out.mono ?_
            rintro e w2 ⟨rfl, rfl⟩
            clear H1
            go_wp2_with fail
            refine X3.out.mono ?_
            rintro e w4 ⟨rfl, n4⟩
            have N4 := Lib.hid n4
            clear n4 X3
            go_wp2_with fail
            go_ret
            exact ⟨rfl, N4.out⟩
        · rw [if_neg hW]
          have kw : ¬ (q.kind = 1 ∨ q.kind = 4 ∨ q.kind = 7) := fun c => hW (by unfold wholeK; rcases c with c | c | c <;> rw [c] <;> rfl)
          have y1 : ((q.kind : Int) == 1) = false := by simp; omega
          have y4 : ((q.kind : Int) == 4) = false := by simp; omega
          have y7 : ((q.kind : Int) == 7) = false := by simp; omega
          have XX : Hid (∀ w3, PI w0 w3 R { q with kept := [], left := v, m := 5 } l → _) := fun w3 h3 => ppass_ok w0 w3 R { q with kept := [], left := v, m := 5 } l B h3 (by show v ≤ 4611686018427387903; omega) hB
          generalize Pm.pass { q with kept := [], left := v, m := 5 } B = X at *
          clear hw hW h0 hC hq eH kw
          go_enter Tryd.func36, Tryd.ntmps36
          go_wp2_with fail
          refine NU.out.mono ?_
          rintro e w1 ⟨rfl, n1⟩
          have H1 := Lib.hid (HF.out w1 n1)
          obtain ⟨c4, f4, n2⟩ := F.out w1 n1
          obtain ⟨c3, c1, f1, d1, n3⟩ := F2.out _ 5 49 n2 rfl
          have X3 := Lib.hid (XX.out _ n3)
          clear n1 n2 n3 NU HF F F2 XX
          generalize strL B = B' at *
          go_wp2_with fail
          refine H1.out.mono ?_
          rintro e w2 ⟨rfl, rfl⟩
          clear H1
          go_wp2_with fail
          refine X3.out.mono ?_
          rintro e w4 ⟨rfl, n4⟩
          have N4 := Lib.hid n4
          clear n4 X3
          go_wp2_with fail
          go_ret
          exact ⟨rfl, N4.out⟩
    · rw [if_pos hC]
      have qC : (headC q v == 0) = false := by simpa using hC
      have FA : Hid (∀ w1, PI w0 w1 R { q with kept := [] } l → _) := fun w1 h1 => pfail_ok w0 w1 R { q with kept := [] } l h1 (headC q v)
      clear hC eH
      generalize headC q v = C at *
      go_enter Tryd.func36, Tryd.ntmps36
      go_wp2_with fail
      refine NU.out.mono ?_
      rintro e w1 ⟨rfl, n1⟩
      have H1 := Lib.hid (HF.out w1 n1)
      have FF := Lib.hid (FA.out w1 n1)
      clear n1 NU HF FA
      generalize strL B = B' at *
      go_wp2_with fail
      refine H1.out.mono ?_
      rintro e w2 ⟨rfl, rfl⟩
      clear H1
      go_wp2_with fail
      refine FF.out.mono ?_
      rintro e w2 ⟨rfl, n2⟩
      have N2 := Lib.hid n2
      clear n2 FF
      go_wp2_with fail
      go_ret
      exact ⟨rfl, by rw [List.append_nil]; exact N2.out⟩
end Go.Proofs.YtnngdlleicjegaaDoor
