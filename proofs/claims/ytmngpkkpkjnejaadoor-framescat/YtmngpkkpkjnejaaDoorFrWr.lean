/-
  What the document's own write of a frame, and Size, answer. Right frames; no other condition.
-/
import Derived.Test.YtmngpkkpkjnejaaDoorFrAll
import Derived.Test.YtmngpkkpkjnejaaDoorFrLink
import Derived.Test.YtmngpkkpkjnejaaDoorVaRefPut
import Derived.Test.YtmngpkkpkjnejaaDoorObDraw
namespace Go.Proofs.YtmngpkkpkjnejaaDoor
set_option maxRecDepth 100000
open Go.RowKit Go.Sort

/-- Bytes as a text. -/
def strL (l : L) : ByteArray := ⟨l.toArray⟩
theorem toL_strL (l : L) : toL (strL l) = l := rfl
theorem strL_toL (s : ByteArray) : strL (toL s) = s := toL_inj rfl
theorem strL_append (a b : L) : strL a ++ strL b = strL (a ++ b) := toL_inj (by rw [toL_append]; rfl)
theorem strL_size (l : L) : (strL l).size = l.length := by rw [← toL_len, toL_strL]
theorem put_len (n : Nat) : (putL n).length ≤ 8 := by unfold putL; split <;> (try split) <;> (try split) <;> simp
theorem rputI_ok (n : Int) (w : World) (h : 0 ≤ n ∧ n ≤ 4611686018427387903) :
    Calls Tryd.prog 40 #[.int .i64 n] w fun e w' => e = .returned (.string (strL (putI n))) ∧ Below w.heap.size w w' := by
  rcases cl_or_no n with ⟨m, k, hc⟩ | hn
  · have e := link_put hc
    refine (rput_yes n m k w hc).mono ?_
    rintro e' w' ⟨rfl, b⟩
    rw [← e, strL_toL]
    exact ⟨rfl, b⟩
  · unfold No at hn
    omega
set_option maxHeartbeats 1000000 in
theorem rtxtL_ok (d : ByteArray) (w : World) (h : d.size ≤ 4611686018427387903) :
    Calls Tryd.prog 41 #[.string d] w fun e w' => e = .returned (.string (strL (putL d.size ++ toL d))) ∧ Below w.heap.size w w' := by
  have P : Hid (∀ w, Calls Tryd.prog 40 #[.int .i64 (d.size : Int)] w fun e w' => e = .returned (.string (strL (putI d.size))) ∧ Below w.heap.size w w') := fun w => rputI_ok d.size w ⟨by omega, by omega⟩
  have z : (strL (putI d.size)).size ≤ 8 := by rw [strL_size]; exact put_len _
  have e : strL (putI d.size) ++ d = strL (putL d.size ++ toL d) := by
    rw [← strL_append, strL_toL]
    rfl
  rw [← e]
  clear e
  generalize strL (putI d.size) = X at *
  go_enter Tryd.func41, Tryd.ntmps41
  go_wp2_with (go_at_call 40; refine (P.out _).mono ?_; rintro e w1 ⟨rfl, b1⟩)
  go_ret
  exact ⟨rfl, b1⟩
theorem obCall1 (f : FuncId) (o : Oper) {k1 d : Nat} {tys : Array TypeId} {x1 : Value} {R : Ending → World → Prop} (ho : o.op = .call { callee := .value (.func f), args := #[.tmp k1], argTypes := tys }) (hd : o.dst = some d) (a : Act) (w : World) (K : Act → World → Prop) (Q : Exit → Act → World → Prop)
    (hcf : ∀ w, (callFunc f #[x1]).run Tryd.prog w = .ok (.enter f #[x1]) w) (h1 : a.eval (.tmp k1) = x1) (C : Calls Tryd.prog f #[x1] w R) (hK : ∀ e w', R e w' → ∃ v, e = .returned v ∧ K (a.put (some d) v) w') : o.wp Tryd.prog a w K Q := by
  unfold Oper.wp
  have hr : (execOp a.eval o).run Tryd.prog w = .ok (.enter f #[x1]) w := by
    unfold execOp
    rw [ho]
    simp only [go_sem] at h1 ⊢
    simp [go_sem, h1, hcf]
  rw [hr]
  exact C.mono fun e w' h => by
    obtain ⟨v, rfl, hk⟩ := hK e w' h
    rw [hd]
    exact hk
/-- A frame's cells in a block of its own. -/
def C7b (w : World) (T : Nat) (k i o : Int) (b : Bool) (c : Int) (d : ByteArray) (sv : Value) : Prop :=
  w.cell? ⟨T, 0, none⟩ = some (.int .i64 k) ∧ w.cell? ⟨T, 1, none⟩ = some (.int .i64 i) ∧ w.cell? ⟨T, 2, none⟩ = some (.int .i64 o) ∧ w.cell? ⟨T, 3, none⟩ = some (.bool b) ∧ w.cell? ⟨T, 4, none⟩ = some (.int .i64 c) ∧ w.cell? ⟨T, 5, none⟩ = some (.string d) ∧ w.cell? ⟨T, 6, none⟩ = some sv
theorem C7b.keep {w w' : World} {T : Nat} {k i o : Int} {b : Bool} {c : Int} {d : ByteArray} {sv : Value} (h : C7b w T k i o b c d sv) (q : Below w.heap.size w w') : C7b w' T k i o b c d sv := by
  obtain ⟨h0, h1, h2, h3, h4, h5, h6⟩ := h
  exact ⟨(q.cell (World.block_lt_of_cell? w _ h0)).trans h0, (q.cell (World.block_lt_of_cell? w _ h1)).trans h1, (q.cell (World.block_lt_of_cell? w _ h2)).trans h2, (q.cell (World.block_lt_of_cell? w _ h3)).trans h3, (q.cell (World.block_lt_of_cell? w _ h4)).trans h4, (q.cell (World.block_lt_of_cell? w _ h5)).trans h5, (q.cell (World.block_lt_of_cell? w _ h6)).trans h6⟩
set_option maxHeartbeats 1000000 in
theorem rwr0 (k i o c : Int) (b : Bool) (d : ByteArray) (sv : Value) (w : World) (hk : k = 0 ∨ k = 1) :
    Calls Tryd.prog 31 #[.agg #[.int .i64 k, .int .i64 i, .int .i64 o, .bool b, .int .i64 c, .string d, sv]] w fun e w' => e = .returned (.string (strL (putI k))) ∧ Below w.heap.size w w' := by
  have b0 := (Below.refl w.heap.size w).alloc (Nat.le_refl _) (.cells #[.int .i64 k, .int .i64 i, .int .i64 o, .bool b, .int .i64 c, .string d, sv] 24)
  have PK : Hid (Calls Tryd.prog 40 #[.int .i64 k] (w.alloc (.cells #[.int .i64 k, .int .i64 i, .int .i64 o, .bool b, .int .i64 c, .string d, sv] 24)) fun e w' => e = .returned (.string (strL (putI k))) ∧ Below (w.alloc (.cells #[.int .i64 k, .int .i64 i, .int .i64 o, .bool b, .int .i64 c, .string d, sv] 24)).heap.size (w.alloc (.cells #[.int .i64 k, .int .i64 i, .int .i64 o, .bool b, .int .i64 c, .string d, sv] 24)) w') := rputI_ok k _ (by omega)
  have l0 := (Lies.new w [.int .i64 k, .int .i64 i, .int .i64 o, .bool b, .int .i64 c, .string d, sv] 24).cell 0 (v := .int .i64 k) rfl
  have hk8 : w.heap.size < (w.alloc (.cells #[.int .i64 k, .int .i64 i, .int .i64 o, .bool b, .int .i64 c, .string d, sv] 24)).heap.size := by simp
  replace b0 : Hid _ := b0
  replace l0 : Hid _ := l0
  rcases hk with rfl | rfl
  all_goals (
    go_enter Tryd.func31, Tryd.ntmps31
    go_wp2_with fail
    refine PK.out.mono ?_
    rintro _ w1 ⟨rfl, b1⟩
    have z0 := (b1.cell hk8).trans l0.out
    have B1 : Hid (Below w.heap.size w w1) := b0.out.trans (b1.mono b0.out.size)
    clear b1 l0 b0 PK hk8
    go_wp2
    go_ret
    exact ⟨rfl, B1.out⟩)
set_option maxHeartbeats 4000000 in
theorem rwr4 (i o c : Int) (b : Bool) (d : ByteArray) (sv : Value) (w : World) (hi : 0 ≤ i ∧ i ≤ 4611686018427387903) (hc : 0 ≤ c ∧ c ≤ 4611686018427387903) (ho : 0 ≤ o ∧ o ≤ 4611686018427387903) :
    Calls Tryd.prog 31 #[.agg #[.int .i64 4, .int .i64 i, .int .i64 o, .bool b, .int .i64 c, .string d, sv]] w fun e w' => e = .returned (.string (strL (putI 4 ++ putI i ++ putI c ++ putI o))) ∧ Below w.heap.size w w' := by
  have b0 := (Below.refl w.heap.size w).alloc (Nat.le_refl _) (.cells #[.int .i64 4, .int .i64 i, .int .i64 o, .bool b, .int .i64 c, .string d, sv] 24)
  have S0 : C7b (w.alloc (.cells #[.int .i64 4, .int .i64 i, .int .i64 o, .bool b, .int .i64 c, .string d, sv] 24)) w.heap.size 4 i o b c d sv := by
    have l := Lies.new w [.int .i64 4, .int .i64 i, .int .i64 o, .bool b, .int .i64 c, .string d, sv] 24
    exact ⟨l.cell 0 rfl, l.cell 1 rfl, l.cell 2 rfl, l.cell 3 rfl, l.cell 4 rfl, l.cell 5 rfl, l.cell 6 rfl⟩
  have PK : Hid (Calls Tryd.prog 40 #[.int .i64 4] (w.alloc (.cells #[.int .i64 4, .int .i64 i, .int .i64 o, .bool b, .int .i64 c, .string d, sv] 24)) fun e w' => e = .returned (.string (strL (putI 4))) ∧ Below (w.alloc (.cells #[.int .i64 4, .int .i64 i, .int .i64 o, .bool b, .int .i64 c, .string d, sv] 24)).heap.size (w.alloc (.cells #[.int .i64 4, .int .i64 i, .int .i64 o, .bool b, .int .i64 c, .string d, sv] 24)) w') := rputI_ok 4 _ (by omega)
  have Pi : Hid (∀ w, Calls Tryd.prog 40 #[.int .i64 i] w fun e w' => e = .returned (.string (strL (putI i))) ∧ Below w.heap.size w w') := fun w => rputI_ok i w hi
  have ni : (strL (putI i)).size ≤ 8 := by rw [strL_size]; exact put_len _
  have Pc : Hid (∀ w, Calls Tryd.prog 40 #[.int .i64 c] w fun e w' => e = .returned (.string (strL (putI c))) ∧ Below w.heap.size w w') := fun w => rputI_ok c w hc
  have nc : (strL (putI c)).size ≤ 8 := by rw [strL_size]; exact put_len _
  have Po : Hid (∀ w, Calls Tryd.prog 40 #[.int .i64 o] w fun e w' => e = .returned (.string (strL (putI o))) ∧ Below w.heap.size w w') := fun w => rputI_ok o w ho
  have no : (strL (putI o)).size ≤ 8 := by rw [strL_size]; exact put_len _
  have nk : (strL (putI 4)).size ≤ 8 := by rw [strL_size]; exact put_len _
  replace b0 : Hid _ := b0
  replace S0 : Hid (C7b (w.alloc (.cells #[.int .i64 4, .int .i64 i, .int .i64 o, .bool b, .int .i64 c, .string d, sv] 24)) w.heap.size 4 i o b c d sv) := S0
  go_enter Tryd.func31, Tryd.ntmps31
  go_wp2_with fail
  refine PK.out.mono ?_
  rintro _ w1 ⟨rfl, b1⟩
  have HS : Hid (C7b w1 w.heap.size 4 i o b c d sv) := S0.out.keep b1
  have B1 : Hid (Below w.heap.size w w1) := b0.out.trans (b1.mono b0.out.size)
  clear b1 S0 b0 PK
  obtain ⟨z0, z1, z2, z3, z4, z5, z6⟩ := HS.out
  go_wp2_with fail
  refine wp_region_held (S := fun w' => C7b w' w.heap.size 4 i o b c d sv) (by kernel_rfl) ?_
  change wpAnyH _ .any _ _ _ 14 (Array.replicate 14 false) _ (w1).drew
  have hS : (fun w' => C7b w' w.heap.size 4 i o b c d sv) (w1).drew := HS.out.keep (drewB _ _)
  refine obTakeH (i := 0) (d := 45) (v := .string (strL (putI 4))) rfl rfl (by kernel_rfl) (by kernel_rfl) (by kernel_rfl) (fun _ _ _ h => h) rfl (fun w hS => by obtain ⟨s0, s1, s2, s3, s4, s5, s6⟩ := hS; go_simp) hS ?_
  refine obTakeH (i := 1) (d := 46) (v := .pointer (some ⟨w.heap.size, 1, none⟩)) rfl rfl (by kernel_rfl) (by kernel_rfl) (by kernel_rfl) (fun _ _ _ h => h) rfl (fun w hS => by obtain ⟨s0, s1, s2, s3, s4, s5, s6⟩ := hS; go_simp) hS ?_
  refine obTakeH (i := 2) (d := 47) (v := .int .i64 i) rfl rfl (by kernel_rfl) (by kernel_rfl) (by kernel_rfl) (fun _ _ _ h => h) rfl (fun w hS => by obtain ⟨s0, s1, s2, s3, s4, s5, s6⟩ := hS; go_simp) hS ?_
  refine obTakeH (i := 5) (d := 50) (v := .pointer (some ⟨w.heap.size, 4, none⟩)) rfl rfl (by kernel_rfl) (by kernel_rfl) (by kernel_rfl) (fun _ _ _ h => h) rfl (fun w hS => by obtain ⟨s0, s1, s2, s3, s4, s5, s6⟩ := hS; go_simp) hS ?_
  refine obTakeH (i := 6) (d := 51) (v := .int .i64 c) rfl rfl (by kernel_rfl) (by kernel_rfl) (by kernel_rfl) (fun _ _ _ h => h) rfl (fun w hS => by obtain ⟨s0, s1, s2, s3, s4, s5, s6⟩ := hS; go_simp) hS ?_
  refine obTakeH (i := 9) (d := 54) (v := .pointer (some ⟨w.heap.size, 2, none⟩)) rfl rfl (by kernel_rfl) (by kernel_rfl) (by kernel_rfl) (fun _ _ _ h => h) rfl (fun w hS => by obtain ⟨s0, s1, s2, s3, s4, s5, s6⟩ := hS; go_simp) hS ?_
  refine obTakeH (i := 10) (d := 55) (v := .int .i64 o) rfl rfl (by kernel_rfl) (by kernel_rfl) (by kernel_rfl) (fun _ _ _ h => h) rfl (fun w hS => by obtain ⟨s0, s1, s2, s3, s4, s5, s6⟩ := hS; go_simp) hS ?_
  simp only [Act.put, List.setIfInBounds_toArray, List.set_cons_succ, List.set_cons_zero]
  refine wpAnyH_all (rs := [3]) (by kernel_rfl) (by simp) (fun i' hi' => ?_)
  obtain rfl : i' = 3 := by simpa using hi'
  refine wpOp_step rfl (fun K' hK => ?_)
  clear hi'
  simp only [Region.wanted]
  refine obCall1 40 _ (k1 := 47) (d := 48) rfl rfl _ _ _ _ (fun w => by simp [go_sem]) rfl (Pi.out _) ?_
  rintro _ V1 ⟨rfl, q1⟩
  have hS1 : (fun w' => C7b w' w.heap.size 4 i o b c d sv) V1 := C7b.keep hS q1
  refine ⟨_, rfl, hK _ _ ⟨hS1, ?_⟩⟩
  clear hK K'
  have Q1 : Below (w1).heap.size (w1) V1 := (drewB _ _).trans q1
  refine obTakeH (i := 4) (d := 49) (v := .string (strL (putI 4) ++ strL (putI i))) rfl rfl (by kernel_rfl) (by kernel_rfl) (by kernel_rfl) (fun _ _ _ h => h) rfl (fun w hS => by obtain ⟨s0, s1, s2, s3, s4, s5, s6⟩ := hS; go_simp; omega) hS1 ?_
  simp only [Act.put, List.setIfInBounds_toArray, List.set_cons_succ, List.set_cons_zero]
  refine wpAnyH_all (rs := [7]) (by kernel_rfl) (by simp) (fun i' hi' => ?_)
  obtain rfl : i' = 7 := by simpa using hi'
  refine wpOp_step rfl (fun K' hK => ?_)
  clear hi'
  simp only [Region.wanted]
  refine obCall1 40 _ (k1 := 51) (d := 52) rfl rfl _ _ _ _ (fun w => by simp [go_sem]) rfl (Pc.out _) ?_
  rintro _ V2 ⟨rfl, q2⟩
  have hS2 : (fun w' => C7b w' w.heap.size 4 i o b c d sv) V2 := C7b.keep hS1 q2
  refine ⟨_, rfl, hK _ _ ⟨hS2, ?_⟩⟩
  clear hK K'
  have Q2 : Below (w1).heap.size (w1) V2 := Q1.trans (q2.mono Q1.size)
  refine obTakeH (i := 8) (d := 53) (v := .string (strL (putI 4) ++ strL (putI i) ++ strL (putI c))) rfl rfl (by kernel_rfl) (by kernel_rfl) (by kernel_rfl) (fun _ _ _ h => h) rfl (fun w hS => by obtain ⟨s0, s1, s2, s3, s4, s5, s6⟩ := hS; go_simp; omega) hS2 ?_
  simp only [Act.put, List.setIfInBounds_toArray, List.set_cons_succ, List.set_cons_zero]
  refine wpAnyH_all (rs := [11]) (by kernel_rfl) (by simp) (fun i' hi' => ?_)
  obtain rfl : i' = 11 := by simpa using hi'
  refine wpOp_step rfl (fun K' hK => ?_)
  clear hi'
  simp only [Region.wanted]
  refine obCall1 40 _ (k1 := 55) (d := 56) rfl rfl _ _ _ _ (fun w => by simp [go_sem]) rfl (Po.out _) ?_
  rintro _ V3 ⟨rfl, q3⟩
  have hS3 : (fun w' => C7b w' w.heap.size 4 i o b c d sv) V3 := C7b.keep hS2 q3
  refine ⟨_, rfl, hK _ _ ⟨hS3, ?_⟩⟩
  clear hK K'
  have Q3 : Below (w1).heap.size (w1) V3 := Q2.trans (q3.mono Q2.size)
  refine obTakeH (i := 12) (d := 57) (v := .string (strL (putI 4) ++ strL (putI i) ++ strL (putI c) ++ strL (putI o))) rfl rfl (by kernel_rfl) (by kernel_rfl) (by kernel_rfl) (fun _ _ _ h => h) rfl (fun w hS => by obtain ⟨s0, s1, s2, s3, s4, s5, s6⟩ := hS; go_simp; omega) hS3 ?_
  simp only [Act.put, List.setIfInBounds_toArray, List.set_cons_succ, List.set_cons_zero]
  refine wpAnyH_all (rs := [13]) (by kernel_rfl) (by simp) (fun i' hi' => ?_)
  obtain rfl : i' = 13 := by simpa using hi'
  refine wpOp_step rfl (fun K' hK => ?_)
  clear hi'
  go_simp
  refine hK _ _ ⟨hS3, ?_⟩
  clear hK K'
  refine wpAnyH_done (by kernel_rfl) ?_ 0
  have QQ : Hid (Below w.heap.size w V3) := B1.out.trans (Q3.mono B1.out.size)
  clear Q1 q1 hS1 Q2 q2 hS2 Q3 q3 hS3 hS HS
  go_wp2
  go_ret
  exact ⟨by rw [strL_append, strL_append, strL_append]; rfl, QQ.out⟩
set_option maxHeartbeats 4000000 in
theorem rwr17 (i o c : Int) (b : Bool) (d : ByteArray) (sv : Value) (w : World) (hi : 0 ≤ i ∧ i ≤ 4611686018427387903) (ho : 0 ≤ o ∧ o ≤ 4611686018427387903) :
    Calls Tryd.prog 31 #[.agg #[.int .i64 17, .int .i64 i, .int .i64 o, .bool b, .int .i64 c, .string d, sv]] w fun e w' => e = .returned (.string (strL (putI 17 ++ putI i ++ putI o))) ∧ Below w.heap.size w w' := by
  have b0 := (Below.refl w.heap.size w).alloc (Nat.le_refl _) (.cells #[.int .i64 17, .int .i64 i, .int .i64 o, .bool b, .int .i64 c, .string d, sv] 24)
  have S0 : C7b (w.alloc (.cells #[.int .i64 17, .int .i64 i, .int .i64 o, .bool b, .int .i64 c, .string d, sv] 24)) w.heap.size 17 i o b c d sv := by
    have l := Lies.new w [.int .i64 17, .int .i64 i, .int .i64 o, .bool b, .int .i64 c, .string d, sv] 24
    exact ⟨l.cell 0 rfl, l.cell 1 rfl, l.cell 2 rfl, l.cell 3 rfl, l.cell 4 rfl, l.cell 5 rfl, l.cell 6 rfl⟩
  have PK : Hid (Calls Tryd.prog 40 #[.int .i64 17] (w.alloc (.cells #[.int .i64 17, .int .i64 i, .int .i64 o, .bool b, .int .i64 c, .string d, sv] 24)) fun e w' => e = .returned (.string (strL (putI 17))) ∧ Below (w.alloc (.cells #[.int .i64 17, .int .i64 i, .int .i64 o, .bool b, .int .i64 c, .string d, sv] 24)).heap.size (w.alloc (.cells #[.int .i64 17, .int .i64 i, .int .i64 o, .bool b, .int .i64 c, .string d, sv] 24)) w') := rputI_ok 17 _ (by omega)
  have Pi : Hid (∀ w, Calls Tryd.prog 40 #[.int .i64 i] w fun e w' => e = .returned (.string (strL (putI i))) ∧ Below w.heap.size w w') := fun w => rputI_ok i w hi
  have ni : (strL (putI i)).size ≤ 8 := by rw [strL_size]; exact put_len _
  have Po : Hid (∀ w, Calls Tryd.prog 40 #[.int .i64 o] w fun e w' => e = .returned (.string (strL (putI o))) ∧ Below w.heap.size w w') := fun w => rputI_ok o w ho
  have no : (strL (putI o)).size ≤ 8 := by rw [strL_size]; exact put_len _
  have nk : (strL (putI 17)).size ≤ 8 := by rw [strL_size]; exact put_len _
  replace b0 : Hid _ := b0
  replace S0 : Hid (C7b (w.alloc (.cells #[.int .i64 17, .int .i64 i, .int .i64 o, .bool b, .int .i64 c, .string d, sv] 24)) w.heap.size 17 i o b c d sv) := S0
  go_enter Tryd.func31, Tryd.ntmps31
  go_wp2_with fail
  refine PK.out.mono ?_
  rintro _ w1 ⟨rfl, b1⟩
  have HS : Hid (C7b w1 w.heap.size 17 i o b c d sv) := S0.out.keep b1
  have B1 : Hid (Below w.heap.size w w1) := b0.out.trans (b1.mono b0.out.size)
  clear b1 S0 b0 PK
  obtain ⟨z0, z1, z2, z3, z4, z5, z6⟩ := HS.out
  go_wp2_with fail
  refine wp_region_held (S := fun w' => C7b w' w.heap.size 17 i o b c d sv) (by kernel_rfl) ?_
  change wpAnyH _ .any _ _ _ 10 (Array.replicate 10 false) _ (w1).drew
  have hS : (fun w' => C7b w' w.heap.size 17 i o b c d sv) (w1).drew := HS.out.keep (drewB _ _)
  refine obTakeH (i := 0) (d := 79) (v := .string (strL (putI 17))) rfl rfl (by kernel_rfl) (by kernel_rfl) (by kernel_rfl) (fun _ _ _ h => h) rfl (fun w hS => by obtain ⟨s0, s1, s2, s3, s4, s5, s6⟩ := hS; go_simp) hS ?_
  refine obTakeH (i := 1) (d := 80) (v := .pointer (some ⟨w.heap.size, 1, none⟩)) rfl rfl (by kernel_rfl) (by kernel_rfl) (by kernel_rfl) (fun _ _ _ h => h) rfl (fun w hS => by obtain ⟨s0, s1, s2, s3, s4, s5, s6⟩ := hS; go_simp) hS ?_
  refine obTakeH (i := 2) (d := 81) (v := .int .i64 i) rfl rfl (by kernel_rfl) (by kernel_rfl) (by kernel_rfl) (fun _ _ _ h => h) rfl (fun w hS => by obtain ⟨s0, s1, s2, s3, s4, s5, s6⟩ := hS; go_simp) hS ?_
  refine obTakeH (i := 5) (d := 84) (v := .pointer (some ⟨w.heap.size, 2, none⟩)) rfl rfl (by kernel_rfl) (by kernel_rfl) (by kernel_rfl) (fun _ _ _ h => h) rfl (fun w hS => by obtain ⟨s0, s1, s2, s3, s4, s5, s6⟩ := hS; go_simp) hS ?_
  refine obTakeH (i := 6) (d := 85) (v := .int .i64 o) rfl rfl (by kernel_rfl) (by kernel_rfl) (by kernel_rfl) (fun _ _ _ h => h) rfl (fun w hS => by obtain ⟨s0, s1, s2, s3, s4, s5, s6⟩ := hS; go_simp) hS ?_
  simp only [Act.put, List.setIfInBounds_toArray, List.set_cons_succ, List.set_cons_zero]
  refine wpAnyH_all (rs := [3]) (by kernel_rfl) (by simp) (fun i' hi' => ?_)
  obtain rfl : i' = 3 := by simpa using hi'
  refine wpOp_step rfl (fun K' hK => ?_)
  clear hi'
  simp only [Region.wanted]
  refine obCall1 40 _ (k1 := 81) (d := 82) rfl rfl _ _ _ _ (fun w => by simp [go_sem]) rfl (Pi.out _) ?_
  rintro _ V1 ⟨rfl, q1⟩
  have hS1 : (fun w' => C7b w' w.heap.size 17 i o b c d sv) V1 := C7b.keep hS q1
  refine ⟨_, rfl, hK _ _ ⟨hS1, ?_⟩⟩
  clear hK K'
  have Q1 : Below (w1).heap.size (w1) V1 := (drewB _ _).trans q1
  refine obTakeH (i := 4) (d := 83) (v := .string (strL (putI 17) ++ strL (putI i))) rfl rfl (by kernel_rfl) (by kernel_rfl) (by kernel_rfl) (fun _ _ _ h => h) rfl (fun w hS => by obtain ⟨s0, s1, s2, s3, s4, s5, s6⟩ := hS; go_simp; omega) hS1 ?_
  simp only [Act.put, List.setIfInBounds_toArray, List.set_cons_succ, List.set_cons_zero]
  refine wpAnyH_all (rs := [7]) (by kernel_rfl) (by simp) (fun i' hi' => ?_)
  obtain rfl : i' = 7 := by simpa using hi'
  refine wpOp_step rfl (fun K' hK => ?_)
  clear hi'
  simp only [Region.wanted]
  refine obCall1 40 _ (k1 := 85) (d := 86) rfl rfl _ _ _ _ (fun w => by simp [go_sem]) rfl (Po.out _) ?_
  rintro _ V2 ⟨rfl, q2⟩
  have hS2 : (fun w' => C7b w' w.heap.size 17 i o b c d sv) V2 := C7b.keep hS1 q2
  refine ⟨_, rfl, hK _ _ ⟨hS2, ?_⟩⟩
  clear hK K'
  have Q2 : Below (w1).heap.size (w1) V2 := Q1.trans (q2.mono Q1.size)
  refine obTakeH (i := 8) (d := 87) (v := .string (strL (putI 17) ++ strL (putI i) ++ strL (putI o))) rfl rfl (by kernel_rfl) (by kernel_rfl) (by kernel_rfl) (fun _ _ _ h => h) rfl (fun w hS => by obtain ⟨s0, s1, s2, s3, s4, s5, s6⟩ := hS; go_simp; omega) hS2 ?_
  simp only [Act.put, List.setIfInBounds_toArray, List.set_cons_succ, List.set_cons_zero]
  refine wpAnyH_all (rs := [9]) (by kernel_rfl) (by simp) (fun i' hi' => ?_)
  obtain rfl : i' = 9 := by simpa using hi'
  refine wpOp_step rfl (fun K' hK => ?_)
  clear hi'
  go_simp
  refine hK _ _ ⟨hS2, ?_⟩
  clear hK K'
  refine wpAnyH_done (by kernel_rfl) ?_ 0
  have QQ : Hid (Below w.heap.size w V2) := B1.out.trans (Q2.mono B1.out.size)
  clear Q1 q1 hS1 Q2 q2 hS2 hS HS
  go_wp2
  go_ret
  exact ⟨by rw [strL_append, strL_append]; rfl, QQ.out⟩
set_option maxHeartbeats 4000000 in
theorem rwr28 (i o c : Int) (b : Bool) (d : ByteArray) (sv : Value) (w : World) (hc : 0 ≤ c ∧ c ≤ 4611686018427387903) :
    Calls Tryd.prog 31 #[.agg #[.int .i64 28, .int .i64 i, .int .i64 o, .bool b, .int .i64 c, .string d, sv]] w fun e w' => e = .returned (.string (strL (putI 28 ++ putI c))) ∧ Below w.heap.size w w' := by
  have b0 := (Below.refl w.heap.size w).alloc (Nat.le_refl _) (.cells #[.int .i64 28, .int .i64 i, .int .i64 o, .bool b, .int .i64 c, .string d, sv] 24)
  have S0 : C7b (w.alloc (.cells #[.int .i64 28, .int .i64 i, .int .i64 o, .bool b, .int .i64 c, .string d, sv] 24)) w.heap.size 28 i o b c d sv := by
    have l := Lies.new w [.int .i64 28, .int .i64 i, .int .i64 o, .bool b, .int .i64 c, .string d, sv] 24
    exact ⟨l.cell 0 rfl, l.cell 1 rfl, l.cell 2 rfl, l.cell 3 rfl, l.cell 4 rfl, l.cell 5 rfl, l.cell 6 rfl⟩
  have PK : Hid (Calls Tryd.prog 40 #[.int .i64 28] (w.alloc (.cells #[.int .i64 28, .int .i64 i, .int .i64 o, .bool b, .int .i64 c, .string d, sv] 24)) fun e w' => e = .returned (.string (strL (putI 28))) ∧ Below (w.alloc (.cells #[.int .i64 28, .int .i64 i, .int .i64 o, .bool b, .int .i64 c, .string d, sv] 24)).heap.size (w.alloc (.cells #[.int .i64 28, .int .i64 i, .int .i64 o, .bool b, .int .i64 c, .string d, sv] 24)) w') := rputI_ok 28 _ (by omega)
  have Pc : Hid (∀ w, Calls Tryd.prog 40 #[.int .i64 c] w fun e w' => e = .returned (.string (strL (putI c))) ∧ Below w.heap.size w w') := fun w => rputI_ok c w hc
  have nc : (strL (putI c)).size ≤ 8 := by rw [strL_size]; exact put_len _
  have nk : (strL (putI 28)).size ≤ 8 := by rw [strL_size]; exact put_len _
  replace b0 : Hid _ := b0
  replace S0 : Hid (C7b (w.alloc (.cells #[.int .i64 28, .int .i64 i, .int .i64 o, .bool b, .int .i64 c, .string d, sv] 24)) w.heap.size 28 i o b c d sv) := S0
  go_enter Tryd.func31, Tryd.ntmps31
  go_wp2_with fail
  refine PK.out.mono ?_
  rintro _ w1 ⟨rfl, b1⟩
  have HS : Hid (C7b w1 w.heap.size 28 i o b c d sv) := S0.out.keep b1
  have B1 : Hid (Below w.heap.size w w1) := b0.out.trans (b1.mono b0.out.size)
  clear b1 S0 b0 PK
  obtain ⟨z0, z1, z2, z3, z4, z5, z6⟩ := HS.out
  go_wp2_with fail
  refine (Pc.out _).mono ?_
  rintro _ w2 ⟨rfl, b2⟩
  have B2 : Hid (Below w.heap.size w w2) := B1.out.trans (b2.mono B1.out.size)
  clear b2 HS
  have zz : (strL (putI 28)).size + (strL (putI c)).size ≤ 9223372036854775807 := by omega
  go_wp2
  go_ret
  exact ⟨by rw [← strL_append]; rfl, B2.out⟩
set_option maxHeartbeats 4000000 in
theorem rwr48 (i o c : Int) (b : Bool) (d : ByteArray) (sv : Value) (w : World) (hd : d.size ≤ 1200) :
    Calls Tryd.prog 31 #[.agg #[.int .i64 48, .int .i64 i, .int .i64 o, .bool b, .int .i64 c, .string d, sv]] w fun e w' => e = .returned (.string (strL (putI 48 ++ (putL d.size ++ toL d)))) ∧ Below w.heap.size w w' := by
  have b0 := (Below.refl w.heap.size w).alloc (Nat.le_refl _) (.cells #[.int .i64 48, .int .i64 i, .int .i64 o, .bool b, .int .i64 c, .string d, sv] 24)
  have S0 : C7b (w.alloc (.cells #[.int .i64 48, .int .i64 i, .int .i64 o, .bool b, .int .i64 c, .string d, sv] 24)) w.heap.size 48 i o b c d sv := by
    have l := Lies.new w [.int .i64 48, .int .i64 i, .int .i64 o, .bool b, .int .i64 c, .string d, sv] 24
    exact ⟨l.cell 0 rfl, l.cell 1 rfl, l.cell 2 rfl, l.cell 3 rfl, l.cell 4 rfl, l.cell 5 rfl, l.cell 6 rfl⟩
  have PK : Hid (Calls Tryd.prog 40 #[.int .i64 48] (w.alloc (.cells #[.int .i64 48, .int .i64 i, .int .i64 o, .bool b, .int .i64 c, .string d, sv] 24)) fun e w' => e = .returned (.string (strL (putI 48))) ∧ Below (w.alloc (.cells #[.int .i64 48, .int .i64 i, .int .i64 o, .bool b, .int .i64 c, .string d, sv] 24)).heap.size (w.alloc (.cells #[.int .i64 48, .int .i64 i, .int .i64 o, .bool b, .int .i64 c, .string d, sv] 24)) w') := rputI_ok 48 _ (by omega)
  have PT : Hid (∀ w, Calls Tryd.prog 41 #[.string d] w fun e w' => e = .returned (.string (strL (putL d.size ++ toL d))) ∧ Below w.heap.size w w') := fun w => rtxtL_ok d w (by omega)
  have nd : (strL (putL d.size ++ toL d)).size ≤ d.size + 8 := by rw [strL_size, List.length_append, toL_len]; have := put_len d.size; omega
  have nk : (strL (putI 48)).size ≤ 8 := by rw [strL_size]; exact put_len _
  replace b0 : Hid _ := b0
  replace S0 : Hid (C7b (w.alloc (.cells #[.int .i64 48, .int .i64 i, .int .i64 o, .bool b, .int .i64 c, .string d, sv] 24)) w.heap.size 48 i o b c d sv) := S0
  go_enter Tryd.func31, Tryd.ntmps31
  go_wp2_with fail
  refine PK.out.mono ?_
  rintro _ w1 ⟨rfl, b1⟩
  have HS : Hid (C7b w1 w.heap.size 48 i o b c d sv) := S0.out.keep b1
  have B1 : Hid (Below w.heap.size w w1) := b0.out.trans (b1.mono b0.out.size)
  clear b1 S0 b0 PK
  obtain ⟨z0, z1, z2, z3, z4, z5, z6⟩ := HS.out
  go_wp2_with fail
  refine (PT.out _).mono ?_
  rintro _ w2 ⟨rfl, b2⟩
  have B2 : Hid (Below w.heap.size w w2) := B1.out.trans (b2.mono B1.out.size)
  clear b2 HS
  have zz : (strL (putI 48)).size + (strL (putL d.size ++ toL d)).size ≤ 9223372036854775807 := by omega
  go_wp2
  go_ret
  exact ⟨by rw [← strL_append]; rfl, B2.out⟩
set_option maxHeartbeats 4000000 in
theorem rwr8 (i o c : Int) (b : Bool) (d : ByteArray) (sv : Value) (w : World) (hi : 0 ≤ i ∧ i ≤ 4611686018427387903) (ho : 0 ≤ o ∧ o ≤ 4611686018427387903) (hd : d.size ≤ 1200) :
    Calls Tryd.prog 31 #[.agg #[.int .i64 8, .int .i64 i, .int .i64 o, .bool b, .int .i64 c, .string d, sv]] w fun e w' => e = .returned (.string (strL (putI 8 ++ putI i ++ putI o ++ [if b then 1 else 0] ++ (putL d.size ++ toL d)))) ∧ Below w.heap.size w w' := by
  have b0 := (Below.refl w.heap.size w).alloc (Nat.le_refl _) (.cells #[.int .i64 8, .int .i64 i, .int .i64 o, .bool b, .int .i64 c, .string d, sv] 24)
  have S0 : C7b (w.alloc (.cells #[.int .i64 8, .int .i64 i, .int .i64 o, .bool b, .int .i64 c, .string d, sv] 24)) w.heap.size 8 i o b c d sv := by
    have l := Lies.new w [.int .i64 8, .int .i64 i, .int .i64 o, .bool b, .int .i64 c, .string d, sv] 24
    exact ⟨l.cell 0 rfl, l.cell 1 rfl, l.cell 2 rfl, l.cell 3 rfl, l.cell 4 rfl, l.cell 5 rfl, l.cell 6 rfl⟩
  have PK : Hid (Calls Tryd.prog 40 #[.int .i64 8] (w.alloc (.cells #[.int .i64 8, .int .i64 i, .int .i64 o, .bool b, .int .i64 c, .string d, sv] 24)) fun e w' => e = .returned (.string (strL (putI 8))) ∧ Below (w.alloc (.cells #[.int .i64 8, .int .i64 i, .int .i64 o, .bool b, .int .i64 c, .string d, sv] 24)).heap.size (w.alloc (.cells #[.int .i64 8, .int .i64 i, .int .i64 o, .bool b, .int .i64 c, .string d, sv] 24)) w') := rputI_ok 8 _ (by omega)
  have Pi : Hid (∀ w, Calls Tryd.prog 40 #[.int .i64 i] w fun e w' => e = .returned (.string (strL (putI i))) ∧ Below w.heap.size w w') := fun w => rputI_ok i w hi
  have ni : (strL (putI i)).size ≤ 8 := by rw [strL_size]; exact put_len _
  have Po : Hid (∀ w, Calls Tryd.prog 40 #[.int .i64 o] w fun e w' => e = .returned (.string (strL (putI o))) ∧ Below w.heap.size w w') := fun w => rputI_ok o w ho
  have no : (strL (putI o)).size ≤ 8 := by rw [strL_size]; exact put_len _
  have PT : Hid (∀ w, Calls Tryd.prog 41 #[.string d] w fun e w' => e = .returned (.string (strL (putL d.size ++ toL d))) ∧ Below w.heap.size w w') := fun w => rtxtL_ok d w (by omega)
  have nd : (strL (putL d.size ++ toL d)).size ≤ d.size + 8 := by rw [strL_size, List.length_append, toL_len]; have := put_len d.size; omega
  have nk : (strL (putI 8)).size ≤ 8 := by rw [strL_size]; exact put_len _
  replace b0 : Hid _ := b0
  replace S0 : Hid (C7b (w.alloc (.cells #[.int .i64 8, .int .i64 i, .int .i64 o, .bool b, .int .i64 c, .string d, sv] 24)) w.heap.size 8 i o b c d sv) := S0
  go_enter Tryd.func31, Tryd.ntmps31
  go_wp2_with fail
  refine PK.out.mono ?_
  rintro _ w1 ⟨rfl, b1⟩
  have HS : Hid (C7b w1 w.heap.size 8 i o b c d sv) := S0.out.keep b1
  have B1 : Hid (Below w.heap.size w w1) := b0.out.trans (b1.mono b0.out.size)
  clear b1 S0 b0 PK
  obtain ⟨z0, z1, z2, z3, z4, z5, z6⟩ := HS.out
  cases b
  · have zf : (⟨#[0]⟩ : ByteArray).size = 1 := rfl
    go_wp2_with fail
    refine wp_region_held (S := fun w' => C7b w' w.heap.size 8 i o false c d sv) (by kernel_rfl) ?_
    change wpAnyH _ .any _ _ _ 16 (Array.replicate 16 false) _ (w1).drew
    have hS : (fun w' => C7b w' w.heap.size 8 i o false c d sv) (w1).drew := HS.out.keep (drewB _ _)
    refine obTakeH (i := 0) (d := 62) (v := .string (strL (putI 8))) rfl rfl (by kernel_rfl) (by kernel_rfl) (by kernel_rfl) (fun _ _ _ h => h) rfl (fun w hS => by obtain ⟨s0, s1, s2, s3, s4, s5, s6⟩ := hS; go_simp) hS ?_
    refine obTakeH (i := 1) (d := 63) (v := .pointer (some ⟨w.heap.size, 1, none⟩)) rfl rfl (by kernel_rfl) (by kernel_rfl) (by kernel_rfl) (fun _ _ _ h => h) rfl (fun w hS => by obtain ⟨s0, s1, s2, s3, s4, s5, s6⟩ := hS; go_simp) hS ?_
    refine obTakeH (i := 2) (d := 64) (v := .int .i64 i) rfl rfl (by kernel_rfl) (by kernel_rfl) (by kernel_rfl) (fun _ _ _ h => h) rfl (fun w hS => by obtain ⟨s0, s1, s2, s3, s4, s5, s6⟩ := hS; go_simp) hS ?_
    refine obTakeH (i := 5) (d := 67) (v := .pointer (some ⟨w.heap.size, 2, none⟩)) rfl rfl (by kernel_rfl) (by kernel_rfl) (by kernel_rfl) (fun _ _ _ h => h) rfl (fun w hS => by obtain ⟨s0, s1, s2, s3, s4, s5, s6⟩ := hS; go_simp) hS ?_
    refine obTakeH (i := 6) (d := 68) (v := .int .i64 o) rfl rfl (by kernel_rfl) (by kernel_rfl) (by kernel_rfl) (fun _ _ _ h => h) rfl (fun w hS => by obtain ⟨s0, s1, s2, s3, s4, s5, s6⟩ := hS; go_simp) hS ?_
    refine obTakeH (i := 9) (d := 71) (v := .string ⟨#[0]⟩) rfl rfl (by kernel_rfl) (by kernel_rfl) (by kernel_rfl) (fun _ _ _ h => h) rfl (fun w hS => by obtain ⟨s0, s1, s2, s3, s4, s5, s6⟩ := hS; go_simp) hS ?_
    refine obTakeH (i := 11) (d := 73) (v := .pointer (some ⟨w.heap.size, 5, none⟩)) rfl rfl (by kernel_rfl) (by kernel_rfl) (by kernel_rfl) (fun _ _ _ h => h) rfl (fun w hS => by obtain ⟨s0, s1, s2, s3, s4, s5, s6⟩ := hS; go_simp) hS ?_
    refine obTakeH (i := 12) (d := 74) (v := .string d) rfl rfl (by kernel_rfl) (by kernel_rfl) (by kernel_rfl) (fun _ _ _ h => h) rfl (fun w hS => by obtain ⟨s0, s1, s2, s3, s4, s5, s6⟩ := hS; go_simp) hS ?_
    simp only [Act.put, List.setIfInBounds_toArray, List.set_cons_succ, List.set_cons_zero]
    refine wpAnyH_all (rs := [3]) (by kernel_rfl) (by simp) (fun i' hi' => ?_)
    obtain rfl : i' = 3 := by simpa using hi'
    refine wpOp_step rfl (fun K' hK => ?_)
    clear hi'
    simp only [Region.wanted]
    refine obCall1 40 _ (k1 := 64) (d := 65) rfl rfl _ _ _ _ (fun w => by simp [go_sem]) rfl (Pi.out _) ?_
    rintro _ V1 ⟨rfl, q1⟩
    have hS1 : (fun w' => C7b w' w.heap.size 8 i o false c d sv) V1 := C7b.keep hS q1
    refine ⟨_, rfl, hK _ _ ⟨hS1, ?_⟩⟩
    clear hK K'
    have Q1 : Below (w1).heap.size (w1) V1 := (drewB _ _).trans q1
    refine obTakeH (i := 4) (d := 66) (v := .string (strL (putI 8) ++ strL (putI i))) rfl rfl (by kernel_rfl) (by kernel_rfl) (by kernel_rfl) (fun _ _ _ h => h) rfl (fun w hS => by obtain ⟨s0, s1, s2, s3, s4, s5, s6⟩ := hS; go_simp; omega) hS1 ?_
    simp only [Act.put, List.setIfInBounds_toArray, List.set_cons_succ, List.set_cons_zero]
    refine wpAnyH_all (rs := [7]) (by kernel_rfl) (by simp) (fun i' hi' => ?_)
    obtain rfl : i' = 7 := by simpa using hi'
    refine wpOp_step rfl (fun K' hK => ?_)
    clear hi'
    simp only [Region.wanted]
    refine obCall1 40 _ (k1 := 68) (d := 69) rfl rfl _ _ _ _ (fun w => by simp [go_sem]) rfl (Po.out _) ?_
    rintro _ V2 ⟨rfl, q2⟩
    have hS2 : (fun w' => C7b w' w.heap.size 8 i o false c d sv) V2 := C7b.keep hS1 q2
    refine ⟨_, rfl, hK _ _ ⟨hS2, ?_⟩⟩
    clear hK K'
    have Q2 : Below (w1).heap.size (w1) V2 := Q1.trans (q2.mono Q1.size)
    refine obTakeH (i := 8) (d := 70) (v := .string (strL (putI 8) ++ strL (putI i) ++ strL (putI o))) rfl rfl (by kernel_rfl) (by kernel_rfl) (by kernel_rfl) (fun _ _ _ h => h) rfl (fun w hS => by obtain ⟨s0, s1, s2, s3, s4, s5, s6⟩ := hS; go_simp; omega) hS2 ?_
    refine obTakeH (i := 10) (d := 72) (v := .string (strL (putI 8) ++ strL (putI i) ++ strL (putI o) ++ ⟨#[0]⟩)) rfl rfl (by kernel_rfl) (by kernel_rfl) (by kernel_rfl) (fun _ _ _ h => h) rfl (fun w hS => by obtain ⟨s0, s1, s2, s3, s4, s5, s6⟩ := hS; go_simp; omega) hS2 ?_
    simp only [Act.put, List.setIfInBounds_toArray, List.set_cons_succ, List.set_cons_zero]
    refine wpAnyH_all (rs := [13]) (by kernel_rfl) (by simp) (fun i' hi' => ?_)
    obtain rfl : i' = 13 := by simpa using hi'
    refine wpOp_step rfl (fun K' hK => ?_)
    clear hi'
    simp only [Region.wanted]
    refine obCall1 41 _ (k1 := 74) (d := 75) rfl rfl _ _ _ _ (fun w => by simp [go_sem]) rfl (PT.out _) ?_
    rintro _ V3 ⟨rfl, q3⟩
    have hS3 : (fun w' => C7b w' w.heap.size 8 i o false c d sv) V3 := C7b.keep hS2 q3
    refine ⟨_, rfl, hK _ _ ⟨hS3, ?_⟩⟩
    clear hK K'
    have Q3 : Below (w1).heap.size (w1) V3 := Q2.trans (q3.mono Q2.size)
    refine obTakeH (i := 14) (d := 76) (v := .string (strL (putI 8) ++ strL (putI i) ++ strL (putI o) ++ ⟨#[0]⟩ ++ strL (putL d.size ++ toL d))) rfl rfl (by kernel_rfl) (by kernel_rfl) (by kernel_rfl) (fun _ _ _ h => h) rfl (fun w hS => by obtain ⟨s0, s1, s2, s3, s4, s5, s6⟩ := hS; go_simp; omega) hS3 ?_
    simp only [Act.put, List.setIfInBounds_toArray, List.set_cons_succ, List.set_cons_zero]
    refine wpAnyH_all (rs := [15]) (by kernel_rfl) (by simp) (fun i' hi' => ?_)
    obtain rfl : i' = 15 := by simpa using hi'
    refine wpOp_step rfl (fun K' hK => ?_)
    clear hi'
    go_simp
    refine hK _ _ ⟨hS3, ?_⟩
    clear hK K'
    refine wpAnyH_done (by kernel_rfl) ?_ 0
    have QQ : Hid (Below w.heap.size w V3) := B1.out.trans (Q3.mono B1.out.size)
    clear Q1 q1 hS1 Q2 q2 hS2 Q3 q3 hS3 hS HS
    go_wp2
    go_ret
    exact ⟨by rw [show (⟨#[0]⟩ : ByteArray) = strL [0] from rfl, strL_append, strL_append, strL_append, strL_append]; show Ending.returned (Value.string (strL (putI 8 ++ putI i ++ putI o ++ [0] ++ (putL d.size ++ toL d)))) = _; simp only [List.append_assoc, List.cons_append, List.nil_append], QQ.out⟩
  · have zf : (⟨#[1]⟩ : ByteArray).size = 1 := rfl
    go_wp2_with fail
    refine wp_region_held (S := fun w' => C7b w' w.heap.size 8 i o true c d sv) (by kernel_rfl) ?_
    change wpAnyH _ .any _ _ _ 16 (Array.replicate 16 false) _ (w1).drew
    have hS : (fun w' => C7b w' w.heap.size 8 i o true c d sv) (w1).drew := HS.out.keep (drewB _ _)
    refine obTakeH (i := 0) (d := 62) (v := .string (strL (putI 8))) rfl rfl (by kernel_rfl) (by kernel_rfl) (by kernel_rfl) (fun _ _ _ h => h) rfl (fun w hS => by obtain ⟨s0, s1, s2, s3, s4, s5, s6⟩ := hS; go_simp) hS ?_
    refine obTakeH (i := 1) (d := 63) (v := .pointer (some ⟨w.heap.size, 1, none⟩)) rfl rfl (by kernel_rfl) (by kernel_rfl) (by kernel_rfl) (fun _ _ _ h => h) rfl (fun w hS => by obtain ⟨s0, s1, s2, s3, s4, s5, s6⟩ := hS; go_simp) hS ?_
    refine obTakeH (i := 2) (d := 64) (v := .int .i64 i) rfl rfl (by kernel_rfl) (by kernel_rfl) (by kernel_rfl) (fun _ _ _ h => h) rfl (fun w hS => by obtain ⟨s0, s1, s2, s3, s4, s5, s6⟩ := hS; go_simp) hS ?_
    refine obTakeH (i := 5) (d := 67) (v := .pointer (some ⟨w.heap.size, 2, none⟩)) rfl rfl (by kernel_rfl) (by kernel_rfl) (by kernel_rfl) (fun _ _ _ h => h) rfl (fun w hS => by obtain ⟨s0, s1, s2, s3, s4, s5, s6⟩ := hS; go_simp) hS ?_
    refine obTakeH (i := 6) (d := 68) (v := .int .i64 o) rfl rfl (by kernel_rfl) (by kernel_rfl) (by kernel_rfl) (fun _ _ _ h => h) rfl (fun w hS => by obtain ⟨s0, s1, s2, s3, s4, s5, s6⟩ := hS; go_simp) hS ?_
    refine obTakeH (i := 9) (d := 71) (v := .string ⟨#[1]⟩) rfl rfl (by kernel_rfl) (by kernel_rfl) (by kernel_rfl) (fun _ _ _ h => h) rfl (fun w hS => by obtain ⟨s0, s1, s2, s3, s4, s5, s6⟩ := hS; go_simp) hS ?_
    refine obTakeH (i := 11) (d := 73) (v := .pointer (some ⟨w.heap.size, 5, none⟩)) rfl rfl (by kernel_rfl) (by kernel_rfl) (by kernel_rfl) (fun _ _ _ h => h) rfl (fun w hS => by obtain ⟨s0, s1, s2, s3, s4, s5, s6⟩ := hS; go_simp) hS ?_
    refine obTakeH (i := 12) (d := 74) (v := .string d) rfl rfl (by kernel_rfl) (by kernel_rfl) (by kernel_rfl) (fun _ _ _ h => h) rfl (fun w hS => by obtain ⟨s0, s1, s2, s3, s4, s5, s6⟩ := hS; go_simp) hS ?_
    simp only [Act.put, List.setIfInBounds_toArray, List.set_cons_succ, List.set_cons_zero]
    refine wpAnyH_all (rs := [3]) (by kernel_rfl) (by simp) (fun i' hi' => ?_)
    obtain rfl : i' = 3 := by simpa using hi'
    refine wpOp_step rfl (fun K' hK => ?_)
    clear hi'
    simp only [Region.wanted]
    refine obCall1 40 _ (k1 := 64) (d := 65) rfl rfl _ _ _ _ (fun w => by simp [go_sem]) rfl (Pi.out _) ?_
    rintro _ V1 ⟨rfl, q1⟩
    have hS1 : (fun w' => C7b w' w.heap.size 8 i o true c d sv) V1 := C7b.keep hS q1
    refine ⟨_, rfl, hK _ _ ⟨hS1, ?_⟩⟩
    clear hK K'
    have Q1 : Below (w1).heap.size (w1) V1 := (drewB _ _).trans q1
    refine obTakeH (i := 4) (d := 66) (v := .string (strL (putI 8) ++ strL (putI i))) rfl rfl (by kernel_rfl) (by kernel_rfl) (by kernel_rfl) (fun _ _ _ h => h) rfl (fun w hS => by obtain ⟨s0, s1, s2, s3, s4, s5, s6⟩ := hS; go_simp; omega) hS1 ?_
    simp only [Act.put, List.setIfInBounds_toArray, List.set_cons_succ, List.set_cons_zero]
    refine wpAnyH_all (rs := [7]) (by kernel_rfl) (by simp) (fun i' hi' => ?_)
    obtain rfl : i' = 7 := by simpa using hi'
    refine wpOp_step rfl (fun K' hK => ?_)
    clear hi'
    simp only [Region.wanted]
    refine obCall1 40 _ (k1 := 68) (d := 69) rfl rfl _ _ _ _ (fun w => by simp [go_sem]) rfl (Po.out _) ?_
    rintro _ V2 ⟨rfl, q2⟩
    have hS2 : (fun w' => C7b w' w.heap.size 8 i o true c d sv) V2 := C7b.keep hS1 q2
    refine ⟨_, rfl, hK _ _ ⟨hS2, ?_⟩⟩
    clear hK K'
    have Q2 : Below (w1).heap.size (w1) V2 := Q1.trans (q2.mono Q1.size)
    refine obTakeH (i := 8) (d := 70) (v := .string (strL (putI 8) ++ strL (putI i) ++ strL (putI o))) rfl rfl (by kernel_rfl) (by kernel_rfl) (by kernel_rfl) (fun _ _ _ h => h) rfl (fun w hS => by obtain ⟨s0, s1, s2, s3, s4, s5, s6⟩ := hS; go_simp; omega) hS2 ?_
    refine obTakeH (i := 10) (d := 72) (v := .string (strL (putI 8) ++ strL (putI i) ++ strL (putI o) ++ ⟨#[1]⟩)) rfl rfl (by kernel_rfl) (by kernel_rfl) (by kernel_rfl) (fun _ _ _ h => h) rfl (fun w hS => by obtain ⟨s0, s1, s2, s3, s4, s5, s6⟩ := hS; go_simp; omega) hS2 ?_
    simp only [Act.put, List.setIfInBounds_toArray, List.set_cons_succ, List.set_cons_zero]
    refine wpAnyH_all (rs := [13]) (by kernel_rfl) (by simp) (fun i' hi' => ?_)
    obtain rfl : i' = 13 := by simpa using hi'
    refine wpOp_step rfl (fun K' hK => ?_)
    clear hi'
    simp only [Region.wanted]
    refine obCall1 41 _ (k1 := 74) (d := 75) rfl rfl _ _ _ _ (fun w => by simp [go_sem]) rfl (PT.out _) ?_
    rintro _ V3 ⟨rfl, q3⟩
    have hS3 : (fun w' => C7b w' w.heap.size 8 i o true c d sv) V3 := C7b.keep hS2 q3
    refine ⟨_, rfl, hK _ _ ⟨hS3, ?_⟩⟩
    clear hK K'
    have Q3 : Below (w1).heap.size (w1) V3 := Q2.trans (q3.mono Q2.size)
    refine obTakeH (i := 14) (d := 76) (v := .string (strL (putI 8) ++ strL (putI i) ++ strL (putI o) ++ ⟨#[1]⟩ ++ strL (putL d.size ++ toL d))) rfl rfl (by kernel_rfl) (by kernel_rfl) (by kernel_rfl) (fun _ _ _ h => h) rfl (fun w hS => by obtain ⟨s0, s1, s2, s3, s4, s5, s6⟩ := hS; go_simp; omega) hS3 ?_
    simp only [Act.put, List.setIfInBounds_toArray, List.set_cons_succ, List.set_cons_zero]
    refine wpAnyH_all (rs := [15]) (by kernel_rfl) (by simp) (fun i' hi' => ?_)
    obtain rfl : i' = 15 := by simpa using hi'
    refine wpOp_step rfl (fun K' hK => ?_)
    clear hi'
    go_simp
    refine hK _ _ ⟨hS3, ?_⟩
    clear hK K'
    refine wpAnyH_done (by kernel_rfl) ?_ 0
    have QQ : Hid (Below w.heap.size w V3) := B1.out.trans (Q3.mono B1.out.size)
    clear Q1 q1 hS1 Q2 q2 hS2 Q3 q3 hS3 hS HS
    go_wp2
    go_ret
    exact ⟨by rw [show (⟨#[1]⟩ : ByteArray) = strL [1] from rfl, strL_append, strL_append, strL_append, strL_append]; show Ending.returned (Value.string (strL (putI 8 ++ putI i ++ putI o ++ [1] ++ (putL d.size ++ toL d)))) = _; simp only [List.append_assoc, List.cons_append, List.nil_append], QQ.out⟩
end Go.Proofs.YtmngpkkpkjnejaaDoor
