/-
  What each of the methods that read next leaves of the program's reader. No condition but the form's own reach.
-/
import Derived.Test.YtnngdlleicjegaaDoorH3PgE
namespace Go.Proofs.YtnngdlleicjegaaDoor
set_option maxRecDepth 100000
open Go.RowKit

/-- What one call of what is read next leaves. -/
def CallA (w0 : World) (R : Nat) (l : List Ev) (x : Pm × L × List Ev) (e : Ending) (w' : World) : Prop := e = .returned (.string (strL x.2.1)) ∧ PI w0 w' R x.1 (l ++ x.2.2)
theorem str_nil {t : L} (h : t = []) : (strL t).toList.isEmpty = true := by rw [toL_emp, toL_strL, h]; rfl
theorem str_ne {t : L} (h : t ≠ []) : (strL t).toList.isEmpty = false := str_emp (by rw [toL_strL]; exact h)
set_option maxHeartbeats 2000000 in
theorem ppass_ok (w0 w : World) (R : Nat) (q : Pm) (l : List Ev) (t : L) (h : PI w0 w R q l) (hl : q.left ≤ 4611686018427387903) (ht : t.length ≤ 4611686018427387903) :
    Calls Tryd.prog 49 #[rp R, .string (strL t)] w (CallA w0 R l (q.pass t)) := by
  have CU := Lib.hid (pcut_ok w0 w R q l t h hl ht)
  unfold Pm.pass
  clear h
  generalize strL t = s at *
  generalize t.take (min q.left t.length) = A at *
  generalize t.drop (min q.left t.length) = B at *
  go_enter Tryd.func49, Tryd.ntmps49
  go_wp2_with fail
  refine CU.out.mono ?_
  rintro e w1 ⟨rfl, n1⟩
  have N1 := Lib.hid n1
  clear n1 CU
  go_wp2_with fail
  go_ret
  exact ⟨rfl, by rw [List.append_nil]; exact N1.out⟩
set_option maxHeartbeats 2000000 in
theorem ppiece_ok (w0 w : World) (R : Nat) (q : Pm) (l : List Ev) (t : L) (h : PI w0 w R q l) (hl : q.left ≤ 4611686018427387903) (ht : t.length ≤ 4611686018427387903) (hm : l.length < 1000000000) :
    Calls Tryd.prog 47 #[rp R, .string (strL t)] w (CallA w0 R l (q.piece t)) := by
  have CU := Lib.hid (pcut_ok w0 w R q l t h hl ht)
  have TE : Hid (∀ w1 d, PI w0 w1 R (q.cut t.length) l → _) := fun w1 d h1 => ptell_ok w0 w1 R (q.cut t.length) l d h1 hm
  rw [cut_kind] at TE
  unfold Pm.piece
  clear h hl
  generalize strL t = s at *
  generalize q.cut t.length = q1 at *
  generalize t.take (min q.left t.length) = A at *
  generalize t.drop (min q.left t.length) = B at *
  by_cases hA : A = []
  · rw [if_pos hA]
    have hAe := str_nil hA
    subst hA
    clear TE
    go_enter Tryd.func47, Tryd.ntmps47
    go_wp2_with fail
    refine CU.out.mono ?_
    rintro e w1 ⟨rfl, n1⟩
    have N1 := Lib.hid n1
    clear n1 CU
    go_wp2_with fail
    go_ret
    exact ⟨rfl, by rw [List.append_nil]; exact N1.out⟩
  · rw [if_neg hA]
    have hAe := str_ne hA
    clear hA
    go_enter Tryd.func47, Tryd.ntmps47
    go_wp2_with fail
    refine CU.out.mono ?_
    rintro e w1 ⟨rfl, n1⟩
    have T1 := Lib.hid (TE.out w1 A n1)
    clear n1 CU TE
    generalize strL A = A' at *
    go_wp2_with fail
    refine T1.out.mono ?_
    rintro e w2 ⟨rfl, n2⟩
    have N2 := Lib.hid n2
    clear n2 T1
    go_wp2_with fail
    go_ret
    exact ⟨rfl, N2.out⟩
set_option maxHeartbeats 4000000 in
theorem pwhole_ok (w0 w : World) (R : Nat) (q : Pm) (l : List Ev) (t : L) (h : PI w0 w R q l) (hl : q.left ≤ 4611686018427387903) (ht : t.length ≤ 4611686018427387903) (hm : l.length < 1000000000) (hk : q.kept.length + q.left ≤ 4096) :
    Calls Tryd.prog 48 #[rp R, .string (strL t)] w (CallA w0 R l (q.whole t)) := by
  have CU := Lib.hid (pcut_ok w0 w R q l t h hl ht)
  have hA : (t.take (min q.left t.length)).length ≤ 4096 - q.kept.length := by rw [List.length_take]; omega
  have hK : q.kept.length ≤ 4096 := by omega
  have DF : Hid (∀ (w1 : World) (q1 : Pm), PI w0 w1 R q1 l → Calls Tryd.prog 55 #[.int .i64 (q.kind : Int), .string (strL (q.kept ++ t.take (min q.left t.length)))] w1 fun e w' => e = .returned (.int .i64 (contC q.kind (q.kept ++ t.take (min q.left t.length)))) ∧ Below w1.heap.size w1 w') := fun w1 q1 h1 => by
    have := pcont_ok q.kind (strL (q.kept ++ t.take (min q.left t.length))) w1 h1.vt (by rw [strL_size, List.length_append]; omega)
    rw [toL_strL] at this
    exact this
  unfold Pm.whole
  have e1 := cut_kind q t.length
  have e2 := cut_kept q t.length
  have hc1 : (q.cut t.length).left ≤ 4096 := by
    unfold Pm.cut
    split
    · exact Nat.zero_le _
    · show q.left - _ ≤ 4096
      omega
  clear h hl
  generalize strL t = s at *
  generalize q.cut t.length = q1 at *
  generalize t.take (min q.left t.length) = A at *
  generalize t.drop (min q.left t.length) = B at *
  have eK : strL q.kept ++ strL A = strL (q.kept ++ A) := strL_append _ _
  have zK : (strL q.kept).size ≤ 4096 := by rw [strL_size]; omega
  have zA : (strL A).size ≤ 4096 := by rw [strL_size]; omega
  have FX : Hid (∀ w1, PI w0 w1 R q1 l → (w1.cell? ⟨R, 2, none⟩ = some (.string (strL q.kept)) ∧ w1.frozen? ⟨R, 2, none⟩ = false ∧ PI w0 (w1.setCell ⟨R, 2, none⟩ (.string (strL q.kept ++ strL A))) R { q1 with kept := q.kept ++ A } l)) := fun w1 h1 => by
    refine ⟨?_, h1.free 2 (by decide), ?_⟩
    · have := h1.cell 2 (v := .string (strL q1.kept)) fun _ => rfl
      rw [e2] at this
      exact this
    · rw [eK]
      exact h1.put 2 (by decide) _ _ fun _ => rfl
  by_cases h0 : 0 < q1.left
  · rw [if_pos h0]
    have g0 : decide ((0 : Int) < (q1.left : Int)) = true := decide_eq_true (by omega)
    clear DF eK e1 e2
    go_enter Tryd.func48, Tryd.ntmps48
    go_wp2_with fail
    refine CU.out.mono ?_
    rintro e w1 ⟨rfl, n1⟩
    obtain ⟨c2, f2, n2⟩ := FX.out w1 n1
    have c4 := n2.cell 4 (v := .int .i64 (q1.left : Int)) fun _ => rfl
    have N2 := Lib.hid n2
    clear n1 n2 CU FX
    generalize strL q.kept = K' at *
    generalize strL A = A' at *
    go_wp2_with fail
    go_ret
    exact ⟨rfl, by rw [List.append_nil]; exact N2.out⟩
  · rw [if_neg h0]
    have hz : q1.left = 0 := by omega
    have F2 : Hid (∀ w2, PI w0 w2 R { q1 with kept := q.kept ++ A } l → (w2.cell? ⟨R, 4, none⟩ = some (.int .i64 0) ∧ w2.cell? ⟨R, 2, none⟩ = some (.string (strL (q.kept ++ A))) ∧ w2.frozen? ⟨R, 2, none⟩ = false ∧ PI w0 (w2.setCell ⟨R, 2, none⟩ (.string ⟨#[]⟩)) R { q1 with kept := [] } l)) := fun w2 h2 => by
      refine ⟨?_, h2.cell 2 fun _ => rfl, h2.free 2 (by decide), h2.put 2 (by decide) _ _ fun _ => rfl⟩
      have := h2.cell 4 (v := .int .i64 (q1.left : Int)) fun _ => rfl
      rw [hz] at this
      exact this
    have F3 : Hid (∀ w3, PI w0 w3 R { q1 with kept := [] } l → w3.cell? ⟨R, 3, none⟩ = some (.int .i64 (q.kind : Int))) := fun w3 h3 => by
      have := h3.cell 3 (v := .int .i64 (q1.kind : Int)) fun _ => rfl
      rw [e1] at this
      exact this
    by_cases hC : contC q.kind (q.kept ++ A) = 0
    · rw [if_neg (by simpa using hC)]
      rw [hC] at DF
      have F4 : Hid (∀ w4, PI w0 w4 R { q1 with kept := [] } l → (w4.cell? ⟨R, 6, none⟩ = some (.bool q1.op) ∧ w4.frozen? ⟨R, 6, none⟩ = false ∧ PI w0 (w4.setCell ⟨R, 6, none⟩ (.bool true)) R { q1 with kept := [], op := true } l)) := fun w4 h4 => ⟨h4.cell 6 fun _ => rfl, h4.free 6 (by decide), h4.put 6 (by decide) _ _ fun _ => rfl⟩
      have F5 : Hid (∀ w5, PI w0 w5 R { q1 with kept := [], op := true } l → Calls Tryd.prog 54 #[rp R, .string (strL (q.kept ++ A))] w5 fun e w' => e = .returned (.tuple #[]) ∧ PI w0 w' R { q1 with kept := [], op := true } (l ++ [(q.kind, q.kept ++ A)])) := fun w5 h5 => by
        have := ptell_ok w0 w5 R _ l (q.kept ++ A) h5 hm
        rw [← e1]
        exact this
      clear h0 hz hC hA e1 e2
      rw [← eK] at DF F2 F5
      clear eK
      go_enter Tryd.func48, Tryd.ntmps48
      go_wp2_with fail
      refine CU.out.mono ?_
      rintro e w1 ⟨rfl, n1⟩
      obtain ⟨c2, f2, n2⟩ := FX.out w1 n1
      obtain ⟨c4, d2, g2, n3⟩ := F2.out _ n2
      have c3 := F3.out _ n3
      have D := Lib.hid (DF.out _ _ n3)
      have N3 := Lib.hid n3
      clear n1 n2 n3 CU FX F2 F3 DF
      generalize strL q.kept = K' at *
      generalize strL A = A' at *
      go_wp2_with fail
      refine D.out.mono ?_
      rintro e w4 ⟨rfl, b4⟩
      obtain ⟨c6, f6, n5⟩ := F4.out w4 (N3.out.below b4)
      have T5 := Lib.hid (F5.out _ n5)
      clear D b4 N3 F4 F5 n5
      go_wp2_with fail
      refine T5.out.mono ?_
      rintro e w6 ⟨rfl, n6⟩
      have N6 := Lib.hid n6
      clear T5 n6
      go_wp2_with fail
      go_ret
      exact ⟨rfl, N6.out⟩
    · rw [if_pos hC]
      have qC : (contC q.kind (q.kept ++ A) == 0) = false := by simpa using hC
      have F5 : Hid (∀ w5, PI w0 w5 R { q1 with kept := [] } l → _) := fun w5 h5 => pfail_ok w0 w5 R _ l h5 (contC q.kind (q.kept ++ A))
      clear h0 hz hC hA e1 e2
      generalize contC q.kind (q.kept ++ A) = C at *
      rw [← eK] at DF F2
      clear eK
      go_enter Tryd.func48, Tryd.ntmps48
      go_wp2_with fail
      refine CU.out.mono ?_
      rintro e w1 ⟨rfl, n1⟩
      obtain ⟨c2, f2, n2⟩ := FX.out w1 n1
      obtain ⟨c4, d2, g2, n3⟩ := F2.out _ n2
      have c3 := F3.out _ n3
      have D := Lib.hid (DF.out _ _ n3)
      have N3 := Lib.hid n3
      clear n1 n2 n3 CU FX F2 F3 DF
      generalize strL q.kept = K' at *
      generalize strL A = A' at *
      go_wp2_with fail
      refine D.out.mono ?_
      rintro e w4 ⟨rfl, b4⟩
      have T5 := Lib.hid (F5.out _ (N3.out.below b4))
      clear D b4 N3 F5
      go_wp2_with fail
      refine T5.out.mono ?_
      rintro e w6 ⟨rfl, n6⟩
      have N6 := Lib.hid n6
      clear T5 n6
      go_wp2_with fail
      go_ret
      exact ⟨rfl, by rw [List.append_nil]; exact N6.out⟩
end Go.Proofs.YtnngdlleicjegaaDoor
