/-
  What the document's own write of ranges answers. Right ranges; no other condition.
-/
import Derived.Test.YtmngpkkpkjnejaaDoorFrWr
namespace Go.Proofs.YtmngpkkpkjnejaaDoor
set_option maxRecDepth 100000
open Go.RowKit Go.Sort

/-- A frame's cells, and those of one of its ranges. -/
def C7r (w : World) (T : Nat) (k i o : Int) (b : Bool) (c : Int) (d : ByteArray) (sv : Value) (g p : Nat) (lo hi : Int) : Prop := C7b w T k i o b c d sv ∧ w.cell? ⟨g, p, none⟩ = some (.int .i64 lo) ∧ w.cell? ⟨g, p + 1, none⟩ = some (.int .i64 hi)
theorem C7r.keep {w w' : World} {T : Nat} {k i o : Int} {b : Bool} {c : Int} {d : ByteArray} {sv : Value} {g p : Nat} {lo hi : Int} (h : C7r w T k i o b c d sv g p lo hi) (q : Below w.heap.size w w') : C7r w' T k i o b c d sv g p lo hi :=
  ⟨h.1.keep q, (q.cell (World.block_lt_of_cell? w _ h.2.1)).trans h.2.1, (q.cell (World.block_lt_of_cell? w _ h.2.2)).trans h.2.2⟩
theorem wrRg_take (l : List Rg) (k : Nat) (h : k < l.length) : wrRg (l.take (k + 1)) = wrRg (l.take k) ++ (putI (l.getD k (0, 0)).2 ++ putI (l.getD k (0, 0)).1) := by
  unfold wrRg
  rw [List.take_succ_eq_append_getElem h, List.flatMap_append]
  simp [List.getD, List.getElem?_eq_getElem h]
set_option maxHeartbeats 4000000 in
theorem rwr2 (i o c : Int) (b : Bool) (d : ByteArray) (w : World) (a : Option Addr) (l : List Rg) (cp : Nat) (hr : RgAt w (.slice a l.length cp) l) (hl : l.length ≤ 16) (hb : ∀ x ∈ l, (0 ≤ x.1 ∧ x.1 ≤ 4611686018427387903) ∧ 0 ≤ x.2 ∧ x.2 ≤ 4611686018427387903) :
    Calls Tryd.prog 31 #[.agg #[.int .i64 2, .int .i64 i, .int .i64 o, .bool b, .int .i64 c, .string d, .slice a l.length cp]] w fun e w' => e = .returned (.string (strL (putI 2 ++ putL l.length ++ wrRg l))) ∧ Below w.heap.size w w' := by
  have b0 := (Below.refl w.heap.size w).alloc (Nat.le_refl _) (.cells #[.int .i64 2, .int .i64 i, .int .i64 o, .bool b, .int .i64 c, .string d, .slice a l.length cp] 24)
  have S0 : C7b (w.alloc (.cells #[.int .i64 2, .int .i64 i, .int .i64 o, .bool b, .int .i64 c, .string d, .slice a l.length cp] 24)) w.heap.size 2 i o b c d (.slice a l.length cp) := by
    have l := Lies.new w [.int .i64 2, .int .i64 i, .int .i64 o, .bool b, .int .i64 c, .string d, .slice a l.length cp] 24
    exact ⟨l.cell 0 rfl, l.cell 1 rfl, l.cell 2 rfl, l.cell 3 rfl, l.cell 4 rfl, l.cell 5 rfl, l.cell 6 rfl⟩
  have PK : Hid (Calls Tryd.prog 40 #[.int .i64 2] (w.alloc (.cells #[.int .i64 2, .int .i64 i, .int .i64 o, .bool b, .int .i64 c, .string d, .slice a l.length cp] 24)) fun e w' => e = .returned (.string (strL (putI 2))) ∧ Below (w.alloc (.cells #[.int .i64 2, .int .i64 i, .int .i64 o, .bool b, .int .i64 c, .string d, .slice a l.length cp] 24)).heap.size (w.alloc (.cells #[.int .i64 2, .int .i64 i, .int .i64 o, .bool b, .int .i64 c, .string d, .slice a l.length cp] 24)) w') := rputI_ok 2 _ (by omega)
  have PN : Hid (∀ w, Calls Tryd.prog 40 #[.int .i64 (l.length : Int)] w fun e w' => e = .returned (.string (strL (putI l.length))) ∧ Below w.heap.size w w') := fun w => rputI_ok l.length w (by omega)
  have nn : (strL (putI l.length)).size ≤ 8 := by rw [strL_size]; exact put_len _
  have nk : (strL (putI 2)).size ≤ 8 := by rw [strL_size]; exact put_len _
  replace b0 : Hid _ := b0
  replace S0 : Hid (C7b (w.alloc (.cells #[.int .i64 2, .int .i64 i, .int .i64 o, .bool b, .int .i64 c, .string d, .slice a l.length cp] 24)) w.heap.size 2 i o b c d (.slice a l.length cp)) := S0
  go_enter Tryd.func31, Tryd.ntmps31
  go_wp2_with fail
  refine PK.out.mono ?_
  rintro _ w1 ⟨rfl, b1⟩
  have HS : Hid (C7b w1 w.heap.size 2 i o b c d (.slice a l.length cp)) := S0.out.keep b1
  have B1 : Hid (Below w.heap.size w w1) := b0.out.trans (b1.mono b0.out.size)
  clear b1 S0 b0 PK
  obtain ⟨z0, z1, z2, z3, z4, z5, z6⟩ := HS.out
  replace hr : Hid _ := hr
  replace hb : Hid _ := hb
  go_wp2_with fail
  refine (PN.out _).mono ?_
  rintro _ w2 ⟨rfl, b2⟩
  have B2 : Hid (Below w.heap.size w w2) := B1.out.trans (b2.mono B1.out.size)
  have HS2 : Hid (C7b w2 w.heap.size 2 i o b c d (.slice a l.length cp)) := HS.out.keep b2
  clear b2 HS B1 z0 z1 z2 z3 z4 z5 z6
  obtain ⟨z0, z1, z2, z3, z4, z5, z6⟩ := HS2.out
  have zz : (strL (putI 2)).size + (strL (putI l.length)).size ≤ 9223372036854775807 := by omega
  have X0 : Hid (toL (strL (putI 2) ++ strL (putI l.length)) = putI 2 ++ putL l.length ++ wrRg (l.take 0)) := by unfold Hid; rw [toL_append]; simp [toL_strL, wrRg, putI]
  have X0s : (strL (putI 2) ++ strL (putI l.length)).size ≤ 16 := by rw [ByteArray.size_append]; omega
  clear nk nn PN
  go_wp2
  go_loopg [3, 4] l.length (fun g' sv iv wr => ∃ (k : Nat) (X : ByteArray), k + g' = l.length ∧ iv = .int .i64 k ∧ sv = .string X ∧ X.size ≤ 16 + 16 * k ∧ Hid (toL X = putI 2 ++ putL l.length ++ wrRg (l.take k)) ∧ Hid (C7b wr w.heap.size 2 i o b c d (.slice a l.length cp)) ∧ Hid (Below w.heap.size w wr))
  case atStart => exact ⟨0, _, by omega, rfl, rfl, by omega, X0, HS2, B2⟩
  case round =>
    obtain ⟨k, X, hk, rfl, rfl, hX, hXe, HS, bel⟩ := hrel
    clear z0 z1 z2 z3 z4 z5 z6
    obtain ⟨z0, z1, z2, z3, z4, z5, z6⟩ := HS.out
    by_cases hlt : k < l.length
    · have g1 : decide ((k : Int) < (l.length : Int)) = true := decide_eq_true (by omega)
      obtain ⟨a', cp', ea, hc⟩ := hr.out
      injection ea with ea1 _ ea2
      subst ea1 ea2
      rcases hc with hc | ⟨g, p, rfl, hc⟩
      · rw [hc] at hlt; simp at hlt
      · obtain ⟨e1, e2⟩ := hc k hlt
        have y1 := (bel.out.cell (World.block_lt_of_cell? w _ e1)).trans e1
        have y2 := (bel.out.cell (World.block_lt_of_cell? w _ e2)).trans e2
        have hin := hb.out (l.getD k (0, 0)) (by simp [List.getD, List.getElem?_eq_getElem hlt])
        have wt := wrRg_take l k hlt
        have ia := fun w' => at_rgs g p l.length cp k w' hlt (k : Int) rfl (p + 2 * k) rfl
        clear e1 e2 hc
        generalize (l.getD k (0, 0)).1 = lo at *
        generalize (l.getD k (0, 0)).2 = hi at *
        have P1 : Hid (∀ w, Calls Tryd.prog 40 #[.int .i64 hi] w fun e w' => e = .returned (.string (strL (putI hi))) ∧ Below w.heap.size w w') := fun w => rputI_ok hi w hin.2
        have P2 : Hid (∀ w, Calls Tryd.prog 40 #[.int .i64 lo] w fun e w' => e = .returned (.string (strL (putI lo))) ∧ Below w.heap.size w w') := fun w => rputI_ok lo w hin.1
        have n1 : (strL (putI hi)).size ≤ 8 := by rw [strL_size]; exact put_len _
        have n2 : (strL (putI lo)).size ≤ 8 := by rw [strL_size]; exact put_len _
        have X2 : Hid (toL (X ++ strL (putI hi) ++ strL (putI lo)) = putI 2 ++ putL l.length ++ wrRg (l.take (k + 1))) := by
          unfold Hid
          rw [toL_append, toL_append, hXe.out, toL_strL, toL_strL, wt]
          simp only [List.append_assoc]
        have X2s : (X ++ strL (putI hi) ++ strL (putI lo)).size ≤ 16 + 16 * (k + 1) := by rw [ByteArray.size_append, ByteArray.size_append]; omega
        have HS9 : Hid (C7r wr w.heap.size 2 i o b c d (.slice (some ⟨g, p, none⟩) l.length cp) g (p + 2 * k) lo hi) := ⟨HS.out, y1, y2⟩
        clear wt hin y1 y2
        go_wp2_with fail
        refine wp_region_held (S := fun w' => C7r w' w.heap.size 2 i o b c d (.slice (some ⟨g, p, none⟩) l.length cp) g (p + 2 * k) lo hi) (by kernel_rfl) ?_
        change wpAnyH _ .any _ _ _ 18 (Array.replicate 18 false) _ (wr).drew
        have hS : (fun w' => C7r w' w.heap.size 2 i o b c d (.slice (some ⟨g, p, none⟩) l.length cp) g (p + 2 * k) lo hi) (wr).drew := HS9.out.keep (drewB _ _)
        refine obTakeH (i := 0) (d := 26) (v := .string X) rfl rfl (by kernel_rfl) (by kernel_rfl) (by kernel_rfl) (fun _ _ _ h => h) rfl (fun w hS => by obtain ⟨⟨s0, s1, s2, s3, s4, s5, s6⟩, s7, s8⟩ := hS; go_simp) hS ?_
        refine obTakeH (i := 1) (d := 27) (v := .pointer (some ⟨w.heap.size, 6, none⟩)) rfl rfl (by kernel_rfl) (by kernel_rfl) (by kernel_rfl) (fun _ _ _ h => h) rfl (fun w hS => by obtain ⟨⟨s0, s1, s2, s3, s4, s5, s6⟩, s7, s8⟩ := hS; go_simp) hS ?_
        refine obTakeH (i := 2) (d := 28) (v := .slice (some ⟨g, p, none⟩) l.length cp) rfl rfl (by kernel_rfl) (by kernel_rfl) (by kernel_rfl) (fun _ _ _ h => h) rfl (fun w hS => by obtain ⟨⟨s0, s1, s2, s3, s4, s5, s6⟩, s7, s8⟩ := hS; go_simp) hS ?_
        refine obTakeH (i := 3) (d := 29) (v := .int .i64 (k : Int)) rfl rfl (by kernel_rfl) (by kernel_rfl) (by kernel_rfl) (fun _ _ _ h => h) rfl (fun w hS => by obtain ⟨⟨s0, s1, s2, s3, s4, s5, s6⟩, s7, s8⟩ := hS; go_simp) hS ?_
        refine obTakeH (i := 4) (d := 30) (v := .pointer (some ⟨g, p + 2 * k, none⟩)) rfl rfl (by kernel_rfl) (by kernel_rfl) (by kernel_rfl) (fun _ _ _ h => h) rfl (fun w hS => by obtain ⟨⟨s0, s1, s2, s3, s4, s5, s6⟩, s7, s8⟩ := hS; go_simp) hS ?_
        refine obTakeH (i := 5) (d := 31) (v := .pointer (some ⟨g, p + 2 * k + 1, none⟩)) rfl rfl (by kernel_rfl) (by kernel_rfl) (by kernel_rfl) (fun _ _ _ h => h) rfl (fun w hS => by obtain ⟨⟨s0, s1, s2, s3, s4, s5, s6⟩, s7, s8⟩ := hS; go_simp) hS ?_
        refine obTakeH (i := 6) (d := 32) (v := .int .i64 hi) rfl rfl (by kernel_rfl) (by kernel_rfl) (by kernel_rfl) (fun _ _ _ h => h) rfl (fun w hS => by obtain ⟨⟨s0, s1, s2, s3, s4, s5, s6⟩, s7, s8⟩ := hS; go_simp) hS ?_
        refine obTakeH (i := 9) (d := 35) (v := .pointer (some ⟨w.heap.size, 6, none⟩)) rfl rfl (by kernel_rfl) (by kernel_rfl) (by kernel_rfl) (fun _ _ _ h => h) rfl (fun w hS => by obtain ⟨⟨s0, s1, s2, s3, s4, s5, s6⟩, s7, s8⟩ := hS; go_simp) hS ?_
        refine obTakeH (i := 10) (d := 36) (v := .slice (some ⟨g, p, none⟩) l.length cp) rfl rfl (by kernel_rfl) (by kernel_rfl) (by kernel_rfl) (fun _ _ _ h => h) rfl (fun w hS => by obtain ⟨⟨s0, s1, s2, s3, s4, s5, s6⟩, s7, s8⟩ := hS; go_simp) hS ?_
        refine obTakeH (i := 11) (d := 37) (v := .int .i64 (k : Int)) rfl rfl (by kernel_rfl) (by kernel_rfl) (by kernel_rfl) (fun _ _ _ h => h) rfl (fun w hS => by obtain ⟨⟨s0, s1, s2, s3, s4, s5, s6⟩, s7, s8⟩ := hS; go_simp) hS ?_
        refine obTakeH (i := 12) (d := 38) (v := .pointer (some ⟨g, p + 2 * k, none⟩)) rfl rfl (by kernel_rfl) (by kernel_rfl) (by kernel_rfl) (fun _ _ _ h => h) rfl (fun w hS => by obtain ⟨⟨s0, s1, s2, s3, s4, s5, s6⟩, s7, s8⟩ := hS; go_simp) hS ?_
        refine obTakeH (i := 13) (d := 39) (v := .pointer (some ⟨g, p + 2 * k, none⟩)) rfl rfl (by kernel_rfl) (by kernel_rfl) (by kernel_rfl) (fun _ _ _ h => h) rfl (fun w hS => by obtain ⟨⟨s0, s1, s2, s3, s4, s5, s6⟩, s7, s8⟩ := hS; go_simp) hS ?_
        refine obTakeH (i := 14) (d := 40) (v := .int .i64 lo) rfl rfl (by kernel_rfl) (by kernel_rfl) (by kernel_rfl) (fun _ _ _ h => h) rfl (fun w hS => by obtain ⟨⟨s0, s1, s2, s3, s4, s5, s6⟩, s7, s8⟩ := hS; go_simp) hS ?_
        simp only [Act.put, List.setIfInBounds_toArray, List.set_cons_succ, List.set_cons_zero]
        refine wpAnyH_all (rs := [7]) (by kernel_rfl) (by simp) (fun i' hi' => ?_)
        obtain rfl : i' = 7 := by simpa using hi'
        refine wpOp_step rfl (fun K' hK => ?_)
        clear hi'
        simp only [Region.wanted]
        refine obCall1 40 _ (k1 := 32) (d := 33) rfl rfl _ _ _ _ (fun w => by simp [go_sem]) rfl (P1.out _) ?_
        rintro _ V1 ⟨rfl, q1⟩
        have hS1 : (fun w' => C7r w' w.heap.size 2 i o b c d (.slice (some ⟨g, p, none⟩) l.length cp) g (p + 2 * k) lo hi) V1 := C7r.keep hS q1
        refine ⟨_, rfl, hK _ _ ⟨hS1, ?_⟩⟩
        clear hK K'
        have Q1 : Below (wr).heap.size (wr) V1 := (drewB _ _).trans q1
        refine obTakeH (i := 8) (d := 34) (v := .string (X ++ strL (putI hi))) rfl rfl (by kernel_rfl) (by kernel_rfl) (by kernel_rfl) (fun _ _ _ h => h) rfl (fun w hS => by obtain ⟨⟨s0, s1, s2, s3, s4, s5, s6⟩, s7, s8⟩ := hS; go_simp; omega) hS1 ?_
        simp only [Act.put, List.setIfInBounds_toArray, List.set_cons_succ, List.set_cons_zero]
        refine wpAnyH_all (rs := [15]) (by kernel_rfl) (by simp) (fun i' hi' => ?_)
        obtain rfl : i' = 15 := by simpa using hi'
        refine wpOp_step rfl (fun K' hK => ?_)
        clear hi'
        simp only [Region.wanted]
        refine obCall1 40 _ (k1 := 40) (d := 41) rfl rfl _ _ _ _ (fun w => by simp [go_sem]) rfl (P2.out _) ?_
        rintro _ V2 ⟨rfl, q2⟩
        have hS2 : (fun w' => C7r w' w.heap.size 2 i o b c d (.slice (some ⟨g, p, none⟩) l.length cp) g (p + 2 * k) lo hi) V2 := C7r.keep hS1 q2
        refine ⟨_, rfl, hK _ _ ⟨hS2, ?_⟩⟩
        clear hK K'
        have Q2 : Below (wr).heap.size (wr) V2 := Q1.trans (q2.mono Q1.size)
        refine obTakeH (i := 16) (d := 42) (v := .string (X ++ strL (putI hi) ++ strL (putI lo))) rfl rfl (by kernel_rfl) (by kernel_rfl) (by kernel_rfl) (fun _ _ _ h => h) rfl (fun w hS => by obtain ⟨⟨s0, s1, s2, s3, s4, s5, s6⟩, s7, s8⟩ := hS; go_simp; omega) hS2 ?_
        simp only [Act.put, List.setIfInBounds_toArray, List.set_cons_succ, List.set_cons_zero]
        refine wpAnyH_all (rs := [17]) (by kernel_rfl) (by simp) (fun i' hi' => ?_)
        obtain rfl : i' = 17 := by simpa using hi'
        refine wpOp_step rfl (fun K' hK => ?_)
        clear hi'
        go_simp
        refine hK _ _ ⟨hS2, ?_⟩
        clear hK K'
        refine wpAnyH_done (by kernel_rfl) ?_ 0
        have QQ : Hid (Below w.heap.size w V2) := bel.out.trans (Q2.mono bel.out.size)
        have HSn : Hid (C7b V2 w.heap.size 2 i o b c d (.slice (some ⟨g, p, none⟩) l.length cp)) := hS2.1
        clear Q1 q1 hS1 Q2 q2 hS2 hS HS9 HS ia
        go_wp2
        go_roundg (l.length - (k + 1))
        case measure => omega
        case rel => exact ⟨k + 1, _, by omega, by go_num, rfl, X2s, X2, HSn, QQ⟩
    · have g1 : decide ((k : Int) < (l.length : Int)) = false := decide_eq_false (by omega)
      obtain rfl : k = l.length := by omega
      have fX : Hid (strL (putI 2 ++ putL l.length ++ wrRg l) = X) := by
        unfold Hid
        have := hXe.out
        rw [List.take_length] at this
        rw [← this, strL_toL]
      clear hXe
      go_wp2
      go_ret
      exact ⟨by rw [fX.out]; rfl, bel.out⟩
end Go.Proofs.YtmngpkkpkjnejaaDoor
