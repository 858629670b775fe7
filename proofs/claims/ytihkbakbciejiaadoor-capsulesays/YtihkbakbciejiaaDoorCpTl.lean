/-
  What the document's own Tells answers. No condition but the form's own reach.
-/
import Derived.Test.YtihkbakbciejiaaDoorCpSm
import Derived.Test.YtihkbakbciejiaaDoorShBytes
import Derived.Test.YtihkbakbciejiaaDoorObDraw
import Derived.OrdersHeld
namespace Go.Proofs.YtihkbakbciejiaaDoor
set_option maxRecDepth 100000
open Go.RowKit Go.Sort

/-- A call of a slot and a number. -/
theorem obCallTC (f : FuncId) (o : Oper) {k1 d : Nat} {tys : Array TypeId} {x1 c : Value} {R : Ending → World → Prop} (ho : o.op = .call { callee := .value (.func f), args := #[.tmp k1, .const c], argTypes := tys }) (hd : o.dst = some d) (a : Act) (w : World) (K : Act → World → Prop) (Q : Exit → Act → World → Prop)
    (hcf : ∀ w, (callFunc f #[x1, c]).run Tryd.prog w = .ok (.enter f #[x1, c]) w) (h1 : a.eval (.tmp k1) = x1) (C : Calls Tryd.prog f #[x1, c] w R) (hK : ∀ e w', R e w' → ∃ v, e = .returned v ∧ K (a.put (some d) v) w') : o.wp Tryd.prog a w K Q := by
  unfold Oper.wp
  have hr : (execOp a.eval o).run Tryd.prog w = .ok (.enter f #[x1, c]) w := by
    unfold execOp
    rw [ho]
    simp only [go_sem] at h1 ⊢
    simp [go_sem, h1, hcf]
  rw [hr]
  exact C.mono fun e w' h => by
    obtain ⟨v, rfl, hk⟩ := hK e w' h
    rw [hd]
    exact hk
/-- A call of a slot. -/
theorem obCall1g (f : FuncId) (o : Oper) {k1 d : Nat} {tys : Array TypeId} {x1 : Value} {R : Ending → World → Prop} (ho : o.op = .call { callee := .value (.func f), args := #[.tmp k1], argTypes := tys }) (hd : o.dst = some d) (a : Act) (w : World) (K : Act → World → Prop) (Q : Exit → Act → World → Prop)
    (hcf : ∀ w, (callFunc f #[x1]).run Tryd.prog w = .ok (.enter f #[x1]) w) (h1 : a.eval (.tmp k1) = x1) (C : Calls Tryd.prog f #[x1] w R) (hK : ∀ e w', R e w' → ∃ v, e = .returned v ∧ K (a.put (some d) v) w') : o.wp Tryd.prog a w K Q := by
  unfold Oper.wp
  have hr : (execOp a.eval o).run Tryd.prog w = .ok (.enter f #[x1]) w := by
    unfold execOp
    rw [ho]
    simp only [go_sem] at h1 ⊢
    simp [go_sem, h1, hcf]
  rw [hr]
  exact C.mono fun e w' h => by
    obtain ⟨v, rfl, hk⟩ := hK e w' h
    rw [hd]
    exact hk
/-- A byte that was made ahead, behind a call. -/
theorem byte_keep {u w1 : World} {x : Int} (b : Below u.heap.size u w1) (g : Nat) (h : u.cell? ⟨g, 0, none⟩ = some (.int .u8 x)) : w1.cell? ⟨g, 0, none⟩ = some (.int .u8 x) := (b.cell (World.block_lt_of_cell? u _ h)).trans h
theorem digs_b4 (n : Nat) (h : n < 4294967296) : strOfNums (digs (n : Int) 4) = strL (b4 n) := toL_inj (by
  rw [toL_nums, toL_strL]
  unfold b4 b8
  simp only [digs, List.map_cons, List.map_nil, List.nil_append, List.cons_append]
  refine List.cons_eq_cons.2 ⟨u8_eq (by omega), List.cons_eq_cons.2 ⟨u8_eq (by omega), List.cons_eq_cons.2 ⟨u8_eq (by omega), List.cons_eq_cons.2 ⟨u8_eq (by omega), rfl⟩⟩⟩⟩)
theorem one_b8 (p : Int) : strOfNums [p] = strL [b8 p.toNat] := toL_inj (by
  rw [toL_nums, toL_strL]
  rfl)
set_option maxHeartbeats 16000000 in
theorem rtel16_ok (v : Value) (l : List Ro) (w : World) (hv : RowAt 3 roC nR w v l) (hl : l.length * 16 ≤ 140737488351232) (hb : ∀ x ∈ l, x.low < 4294967296 ∧ x.high < 4294967296) :
    Calls Tryd.prog 22 #[v] w fun e w' => e = .returned (telV l) ∧ Below w.heap.size w w' := by
  have RR := Lib.hid (rright_ok v l w hv.ro (by omega))
  obtain ⟨a, cap, rfl, -, hc⟩ := hv
  obtain ⟨M, hM⟩ : ∃ M, M = l.length := ⟨_, rfl⟩
  have CC := Lib.hid hc
  have HB := Lib.hid hb
  rw [← hM] at hl CC RR ⊢
  replace hM := Lib.hid hM
  clear hc hb
  cases hr : rightR l with
  | false =>
    rw [hr] at RR
    rw [telV_no hr]
    clear CC HB hr
    go_enter Tryd.func22, Tryd.ntmps22
    go_wp2_with fail
    refine RR.out.mono ?_
    rintro e w1 ⟨rfl, b1⟩
    have Z := Lib.hid b1
    clear b1 RR
    go_wp2_with fail
    go_ret2
    exact ⟨rfl, Z.out⟩
  | true =>
    rw [hr] at RR
    rw [telV_yes hr]
    have OK : Hid (∀ i, i < l.length → 0 ≤ (l.getD i nR).pro ∧ (l.getD i nR).pro ≤ 255) := fun i hi => by
      have h1 : rightR (l.take (i + 1)) = true := by
        have := hr
        rw [← List.take_append_drop (i + 1) l] at this
        exact right_front this
      rw [take_next l nR i hi] at h1
      have := right_last h1
      unfold okR at this
      simp only [Bool.and_eq_true, decide_eq_true_eq] at this
      exact ⟨this.1.2, this.2⟩
    have hcf : ∀ (x y : Value) (w : World), (callFunc 52 #[x, y]).run Tryd.prog w = .ok (.enter 52 #[x, y]) w := fun x y w => by simp [go_sem]
    obtain ⟨OUT, hOUT⟩ : ∃ OUT, OUT = strL (l.flatMap roB) := ⟨_, rfl⟩
    rw [← hOUT]
    replace hOUT := Lib.hid hOUT
    clear hr
    go_enter Tryd.func22, Tryd.ntmps22
    go_wp2_with fail
    refine RR.out.mono ?_
    rintro e w1 ⟨rfl, b1⟩
    have Z1 := Lib.hid b1
    clear b1 RR
    go_wp2_with fail
    go_loopg [4, 5] M (fun g sv iv wr => ∃ i : Nat, i + g = M ∧ iv = .int .i64 (i : Int) ∧ sv = .string (strL ((l.take i).flatMap roB)) ∧ Hid (Below w.heap.size w wr))
    case atStart => exact ⟨0, by omega, rfl, rfl, Z1⟩
    case round =>
      obtain ⟨i, hi, rfl, rfl, ZZ⟩ := hrel
      clear Z1
      by_cases hin : i < M
      · have il : i < l.length := by have := hM.out; omega
        obtain ⟨g, o, rfl, hgw, cs⟩ := CC.out i hin
        have hadr := HB.out _ (getD_in l nR i il)
        have hpr := OK.out i il
        have tk := take_next l nR i il
        obtain ⟨x, hx⟩ : ∃ x, x = l.getD i nR := ⟨_, rfl⟩
        rw [← hx] at cs hadr hpr tk
        obtain ⟨lo, hh, pr⟩ := x
        simp only at hadr hpr
        have KS : Hid (∀ w', Below wr.heap.size wr w' → w'.cell? ⟨g, o + 3 * i, none⟩ = some (.int .u32 (lo : Int)) ∧ w'.cell? ⟨g, o + 3 * i + 1, none⟩ = some (.int .u32 (hh : Int)) ∧ w'.cell? ⟨g, o + 3 * i + 2, none⟩ = some (.int .i64 pr)) := fun w' b => by
          have bb := ZZ.out.trans (b.mono ZZ.out.size)
          exact ⟨(bb.cell hgw).trans (cs 0 (by decide)), (bb.cell hgw).trans (cs 1 (by decide)), (bb.cell hgw).trans (cs 2 (by decide))⟩
        have ia := fun w' => at_ro g o M cap i w' hin (i : Int) rfl (o + 3 * i) rfl
        have B1 : Hid (∀ w', _) := fun w' => rbytes 4 (by decide) (lo : Int) w' (by omega) (by omega)
        have B2 : Hid (∀ w', _) := fun w' => rbytes 4 (by decide) (hh : Int) w' (by omega) (by omega)
        have z1 : (strOfNums (digs (lo : Int) 4)).size = 4 := by rw [strOfNums_size, digs_length]
        have z2 : (strOfNums (digs (hh : Int) 4)).size = 4 := by rw [strOfNums_size, digs_length]
        have z3 : (strOfNums [pr]).size = 1 := strOfNums_size _
        have zX : (strL ((l.take i).flatMap roB)).size = 10 * i := by
          rw [strL_size, roF_len, List.length_take]
          omega
        have FIN : Hid (strL ((l.take i).flatMap roB) ++ ⟨#[4]⟩ ++ strOfNums (digs (lo : Int) 4) ++ strOfNums (digs (hh : Int) 4) ++ strOfNums [pr] = strL ((l.take (i + 1)).flatMap roB)) := by
          unfold Hid
          rw [digs_b4 lo hadr.1, digs_b4 hh hadr.2, one_b8 pr, tk, List.flatMap_append, show (⟨#[4]⟩ : ByteArray) = strL [4] from rfl, strL_append, strL_append, strL_append, strL_append]
          simp [roB]
        obtain ⟨X, hX⟩ : ∃ X, X = strL ((l.take i).flatMap roB) := ⟨_, rfl⟩
        rw [← hX] at zX FIN ⊢
        have w1' : IntKind.i64.wrap (lo : Int) = (lo : Int) := by rw [IntKind.wrap_i64]; omega
        have w2' : IntKind.i64.wrap (hh : Int) = (hh : Int) := by rw [IntKind.wrap_i64]; omega
        have w3' : IntKind.u8.wrap pr = pr := by rw [IntKind.wrap_u8]; omega
        have BB : Below wr.heap.size wr wr.drew := drewB _ _
        have hS := KS.out _ BB
        have NX : Hid (∀ w', Below wr.heap.size wr w' → Below w.heap.size w w') := fun w' b => ZZ.out.trans (b.mono ZZ.out.size)
        obtain ⟨S1, hS1⟩ : ∃ S1, S1 = strOfNums (digs (lo : Int) 4) := ⟨_, rfl⟩
        obtain ⟨S2, hS2⟩ : ∃ S2, S2 = strOfNums (digs (hh : Int) 4) := ⟨_, rfl⟩
        obtain ⟨Zp, hZp⟩ : ∃ Zp, Zp = strOfNums [pr] := ⟨_, rfl⟩
        rw [← hS1] at B1 z1 FIN
        rw [← hS2] at B2 z2 FIN
        have hXz : X.size ≤ 1000000000000000 := by omega
        have h1z : S1.size ≤ 4 := by omega
        have h2z : S2.size ≤ 4 := by omega
        replace hX := Lib.hid hX
        replace hS1 := Lib.hid hS1
        replace hS2 := Lib.hid hS2
        replace zX := Lib.hid zX
        replace z1 := Lib.hid z1
        replace z2 := Lib.hid z2
        clear cs hx tk CC HB OK ZZ hZp Zp
        go_upto_region 7 with fail
        refine wp_region_held (S := fun w' => w'.cell? ⟨g, o + 3 * i, none⟩ = some (.int .u32 (lo : Int)) ∧ w'.cell? ⟨g, o + 3 * i + 1, none⟩ = some (.int .u32 (hh : Int)) ∧ w'.cell? ⟨g, o + 3 * i + 2, none⟩ = some (.int .i64 pr)) (by kernel_rfl) ?_
        change wpAnyH _ .any _ _ _ 28 (Array.replicate 28 false) _ wr.drew
        generalize wr.drew = wd at *
        refine obTakeH (i := 0) (d := 15) (v := .string X) rfl rfl (by kernel_rfl) (by kernel_rfl) (by kernel_rfl) (fun _ _ _ h => h) rfl (fun w hS => by obtain ⟨s0, s1, s2⟩ := hS; go_simp) hS ?_
        refine obTakeH (i := 1) (d := 16) (v := .string (X ++ ⟨#[4]⟩)) rfl rfl (by kernel_rfl) (by kernel_rfl) (by kernel_rfl) (fun _ _ _ h => h) rfl (fun w hS => by obtain ⟨s0, s1, s2⟩ := hS; go_simp <;> omega) hS ?_
        refine obTakeH (i := 2) (d := 17) (v := .slice (some ⟨g, o, none⟩) M cap) rfl rfl (by kernel_rfl) (by kernel_rfl) (by kernel_rfl) (fun _ _ _ h => h) rfl (fun w hS => by obtain ⟨s0, s1, s2⟩ := hS; go_simp) hS ?_
        refine obTakeH (i := 3) (d := 18) (v := .int .i64 (i : Int)) rfl rfl (by kernel_rfl) (by kernel_rfl) (by kernel_rfl) (fun _ _ _ h => h) rfl (fun w hS => by obtain ⟨s0, s1, s2⟩ := hS; go_simp) hS ?_
        refine obTakeH (i := 4) (d := 19) (v := .pointer (some ⟨g, o + 3 * i, none⟩)) rfl rfl (by kernel_rfl) (by kernel_rfl) (by kernel_rfl) (fun _ _ _ h => h) rfl (fun w hS => by obtain ⟨s0, s1, s2⟩ := hS; go_simp) hS ?_
        try simp only [Act.put, List.setIfInBounds_toArray, List.set_cons_succ, List.set_cons_zero]
        refine obTakeH (i := 5) (d := 20) (v := .pointer (some ⟨g, o + 3 * i, none⟩)) rfl rfl (by kernel_rfl) (by kernel_rfl) (by kernel_rfl) (fun _ _ _ h => h) rfl (fun w hS => by obtain ⟨s0, s1, s2⟩ := hS; go_simp) hS ?_
        refine obTakeH (i := 6) (d := 21) (v := .int .u32 (lo : Int)) rfl rfl (by kernel_rfl) (by kernel_rfl) (by kernel_rfl) (fun _ _ _ h => h) rfl (fun w hS => by obtain ⟨s0, s1, s2⟩ := hS; go_simp) hS ?_
        refine obTakeH (i := 7) (d := 22) (v := .int .i64 (lo : Int)) rfl rfl (by kernel_rfl) (by kernel_rfl) (by kernel_rfl) (fun _ _ _ h => h) rfl (fun w hS => by obtain ⟨s0, s1, s2⟩ := hS; go_simp) hS ?_
        refine obTakeH (i := 10) (d := 25) (v := .slice (some ⟨g, o, none⟩) M cap) rfl rfl (by kernel_rfl) (by kernel_rfl) (by kernel_rfl) (fun _ _ _ h => h) rfl (fun w hS => by obtain ⟨s0, s1, s2⟩ := hS; go_simp) hS ?_
        refine obTakeH (i := 11) (d := 26) (v := .int .i64 (i : Int)) rfl rfl (by kernel_rfl) (by kernel_rfl) (by kernel_rfl) (fun _ _ _ h => h) rfl (fun w hS => by obtain ⟨s0, s1, s2⟩ := hS; go_simp) hS ?_
        try simp only [Act.put, List.setIfInBounds_toArray, List.set_cons_succ, List.set_cons_zero]
        refine obTakeH (i := 12) (d := 27) (v := .pointer (some ⟨g, o + 3 * i, none⟩)) rfl rfl (by kernel_rfl) (by kernel_rfl) (by kernel_rfl) (fun _ _ _ h => h) rfl (fun w hS => by obtain ⟨s0, s1, s2⟩ := hS; go_simp) hS ?_
        refine obTakeH (i := 13) (d := 28) (v := .pointer (some ⟨g, o + 3 * i + 1, none⟩)) rfl rfl (by kernel_rfl) (by kernel_rfl) (by kernel_rfl) (fun _ _ _ h => h) rfl (fun w hS => by obtain ⟨s0, s1, s2⟩ := hS; go_simp) hS ?_
        refine obTakeH (i := 14) (d := 29) (v := .int .u32 (hh : Int)) rfl rfl (by kernel_rfl) (by kernel_rfl) (by kernel_rfl) (fun _ _ _ h => h) rfl (fun w hS => by obtain ⟨s0, s1, s2⟩ := hS; go_simp) hS ?_
        refine obTakeH (i := 15) (d := 30) (v := .int .i64 (hh : Int)) rfl rfl (by kernel_rfl) (by kernel_rfl) (by kernel_rfl) (fun _ _ _ h => h) rfl (fun w hS => by obtain ⟨s0, s1, s2⟩ := hS; go_simp) hS ?_
        refine obTakeH (i := 18) (d := 33) (v := .slice (some ⟨g, o, none⟩) M cap) rfl rfl (by kernel_rfl) (by kernel_rfl) (by kernel_rfl) (fun _ _ _ h => h) rfl (fun w hS => by obtain ⟨s0, s1, s2⟩ := hS; go_simp) hS ?_
        try simp only [Act.put, List.setIfInBounds_toArray, List.set_cons_succ, List.set_cons_zero]
        refine obTakeH (i := 19) (d := 34) (v := .int .i64 (i : Int)) rfl rfl (by kernel_rfl) (by kernel_rfl) (by kernel_rfl) (fun _ _ _ h => h) rfl (fun w hS => by obtain ⟨s0, s1, s2⟩ := hS; go_simp) hS ?_
        refine obTakeH (i := 20) (d := 35) (v := .pointer (some ⟨g, o + 3 * i, none⟩)) rfl rfl (by kernel_rfl) (by kernel_rfl) (by kernel_rfl) (fun _ _ _ h => h) rfl (fun w hS => by obtain ⟨s0, s1, s2⟩ := hS; go_simp) hS ?_
        refine obTakeH (i := 21) (d := 36) (v := .pointer (some ⟨g, o + 3 * i + 2, none⟩)) rfl rfl (by kernel_rfl) (by kernel_rfl) (by kernel_rfl) (fun _ _ _ h => h) rfl (fun w hS => by obtain ⟨s0, s1, s2⟩ := hS; go_simp) hS ?_
        refine obTakeH (i := 22) (d := 37) (v := .int .i64 pr) rfl rfl (by kernel_rfl) (by kernel_rfl) (by kernel_rfl) (fun _ _ _ h => h) rfl (fun w hS => by obtain ⟨s0, s1, s2⟩ := hS; go_simp) hS ?_
        refine obTakeH (i := 23) (d := 38) (v := .int .u8 pr) rfl rfl (by kernel_rfl) (by kernel_rfl) (by kernel_rfl) (fun _ _ _ h => h) rfl (fun w hS => by obtain ⟨s0, s1, s2⟩ := hS; go_simp) hS ?_
        try simp only [Act.put, List.setIfInBounds_toArray, List.set_cons_succ, List.set_cons_zero]
        try simp only [Act.put, List.setIfInBounds_toArray, List.set_cons_succ, List.set_cons_zero]
        refine wpAnyH_all (rs := [8, 24]) (by kernel_rfl) (by simp) (fun y hy => ?_)
        have hy2 : y = 8 ∨ y = 24 := by simpa using hy
        clear hy
        rcases hy2 with rfl | rfl
        · refine wpOp_step rfl (fun K' hK => ?_)
          refine obCallTC (k1 := 22) (d := 23) (x1 := .int .i64 (lo : Int)) (c := .int .i64 4) 52 _ rfl rfl _ _ _ _ (hcf _ _) rfl (B1.out _) (fun e wc1 hR => ?_)
          obtain ⟨rfl, b1⟩ := hR
          have hS1 := KS.out wc1 (BB.trans (b1.mono BB.size))
          refine ⟨_, rfl, hK _ _ ⟨hS1, ?_⟩⟩
          replace hS := hS1
          replace BB := BB.trans (b1.mono BB.size)
          clear hK K' b1 hS1
          try simp only [Act.put, List.setIfInBounds_toArray, List.set_cons_succ, List.set_cons_zero]
          refine obTakeH (i := 9) (d := 24) (v := .string (X ++ ⟨#[4]⟩ ++ S1)) rfl rfl (by kernel_rfl) (by kernel_rfl) (by kernel_rfl) (fun _ _ _ h => h) rfl (fun w hS => by obtain ⟨s0, s1, s2⟩ := hS; go_simp <;> omega) hS ?_
          try simp only [Act.put, List.setIfInBounds_toArray, List.set_cons_succ, List.set_cons_zero]
          refine wpAnyH_all (rs := [16, 24]) (by kernel_rfl) (by simp) (fun y hy => ?_)
          have hy2 : y = 16 ∨ y = 24 := by simpa using hy
          clear hy
          rcases hy2 with rfl | rfl
          · refine wpOp_step rfl (fun K' hK => ?_)
            refine obCallTC (k1 := 30) (d := 31) (x1 := .int .i64 (hh : Int)) (c := .int .i64 4) 52 _ rfl rfl _ _ _ _ (hcf _ _) rfl (B2.out _) (fun e wc2 hR => ?_)
            obtain ⟨rfl, b2⟩ := hR
            have hS2 := KS.out wc2 (BB.trans (b2.mono BB.size))
            refine ⟨_, rfl, hK _ _ ⟨hS2, ?_⟩⟩
            replace hS := hS2
            replace BB := BB.trans (b2.mono BB.size)
            clear hK K' b2 hS2
            try simp only [Act.put, List.setIfInBounds_toArray, List.set_cons_succ, List.set_cons_zero]
            refine obTakeH (i := 17) (d := 32) (v := .string (X ++ ⟨#[4]⟩ ++ S1 ++ S2)) rfl rfl (by kernel_rfl) (by kernel_rfl) (by kernel_rfl) (fun _ _ _ h => h) rfl (fun w hS => by obtain ⟨s0, s1, s2⟩ := hS; go_simp <;> omega) hS ?_
            try simp only [Act.put, List.setIfInBounds_toArray, List.set_cons_succ, List.set_cons_zero]
            refine wpAnyH_all (rs := [24]) (by kernel_rfl) (by simp) (fun y hy => ?_)
            obtain rfl : y = 24 := by simpa using hy
            clear hy
            refine wpOp_step rfl (fun K' hK => ?_)
            have BA3 := BB.alloc BB.size (.cells #[.int .u8 pr] 5)
            have hS3 := KS.out _ BA3
            have nA : (wc2.alloc (.cells #[.int .u8 pr] 5)).cell? ⟨wc2.heap.size, 0, none⟩ = some (.int .u8 pr) := World.cell?_alloc_new _ _ _ 0
            go_simp
            refine hK _ _ ⟨hS3, ?_⟩
            clear hK K'
            replace hS := hS3
            replace BB := BA3
            clear hS3 BA3
            generalize wc2.alloc (.cells #[.int .u8 pr] 5) = wa3 at *
            generalize wc2.heap.size = KB3 at *
            try simp only [Act.put, List.setIfInBounds_toArray, List.set_cons_succ, List.set_cons_zero]
            refine wpAnyH_all (rs := [25]) (by kernel_rfl) (by simp) (fun y hy => ?_)
            obtain rfl : y = 25 := by simpa using hy
            clear hy
            refine wpOp_step rfl (fun K' hK => ?_)
            have cv := conv1_later (c := 1) nA
            go_simp
            refine hK _ _ ⟨hS, ?_⟩
            clear hK K' cv nA
            try simp only [Act.put, List.setIfInBounds_toArray, List.set_cons_succ, List.set_cons_zero]
            refine obTakeH (i := 26) (d := 41) (v := .string (X ++ ⟨#[4]⟩ ++ S1 ++ S2 ++ strOfNums [pr])) rfl rfl (by kernel_rfl) (by kernel_rfl) (by kernel_rfl) (fun _ _ _ h => h) rfl (fun w hS => by obtain ⟨s0, s1, s2⟩ := hS; go_simp <;> omega) hS ?_
            refine obTakeH (i := 27) (d := 4) (v := .string (X ++ ⟨#[4]⟩ ++ S1 ++ S2 ++ strOfNums [pr])) rfl rfl (by kernel_rfl) (by kernel_rfl) (by kernel_rfl) (fun _ _ _ h => h) rfl (fun w hS => by obtain ⟨s0, s1, s2⟩ := hS; go_simp) hS ?_
            try simp only [Act.put, List.setIfInBounds_toArray, List.set_cons_succ, List.set_cons_zero]
            refine wpAnyH_done (by kernel_rfl) ?_ 0
            have NN := Lib.hid (NX.out wa3 BB)
            clear BB hS NX KS B1 B2
            go_wp2_with fail
            go_roundg (M - (i + 1))
            case measure => omega
            case rel => exact ⟨i + 1, by omega, by simp, by rw [FIN.out], NN⟩
          · refine wpOp_step rfl (fun K' hK => ?_)
            have BA5 := BB.alloc BB.size (.cells #[.int .u8 pr] 5)
            have hS5 := KS.out _ BA5
            have nA : (wc1.alloc (.cells #[.int .u8 pr] 5)).cell? ⟨wc1.heap.size, 0, none⟩ = some (.int .u8 pr) := World.cell?_alloc_new _ _ _ 0
            go_simp
            refine hK _ _ ⟨hS5, ?_⟩
            clear hK K'
            replace hS := hS5
            replace BB := BA5
            clear hS5 BA5
            generalize wc1.alloc (.cells #[.int .u8 pr] 5) = wa5 at *
            generalize wc1.heap.size = KB5 at *
            try simp only [Act.put, List.setIfInBounds_toArray, List.set_cons_succ, List.set_cons_zero]
            refine wpAnyH_all (rs := [16, 25]) (by kernel_rfl) (by simp) (fun y hy => ?_)
            have hy2 : y = 16 ∨ y = 25 := by simpa using hy
            clear hy
            rcases hy2 with rfl | rfl
            · refine wpOp_step rfl (fun K' hK => ?_)
              refine obCallTC (k1 := 30) (d := 31) (x1 := .int .i64 (hh : Int)) (c := .int .i64 4) 52 _ rfl rfl _ _ _ _ (hcf _ _) rfl (B2.out _) (fun e wc6 hR => ?_)
              obtain ⟨rfl, b6⟩ := hR
              have hS6 := KS.out wc6 (BB.trans (b6.mono BB.size))
              refine ⟨_, rfl, hK _ _ ⟨hS6, ?_⟩⟩
              replace hS := hS6
              replace BB := BB.trans (b6.mono BB.size)
              replace nA := byte_keep b6 _ nA
              clear hK K' b6 hS6
              try simp only [Act.put, List.setIfInBounds_toArray, List.set_cons_succ, List.set_cons_zero]
              refine obTakeH (i := 17) (d := 32) (v := .string (X ++ ⟨#[4]⟩ ++ S1 ++ S2)) rfl rfl (by kernel_rfl) (by kernel_rfl) (by kernel_rfl) (fun _ _ _ h => h) rfl (fun w hS => by obtain ⟨s0, s1, s2⟩ := hS; go_simp <;> omega) hS ?_
              try simp only [Act.put, List.setIfInBounds_toArray, List.set_cons_succ, List.set_cons_zero]
              refine wpAnyH_all (rs := [25]) (by kernel_rfl) (by simp) (fun y hy => ?_)
              obtain rfl : y = 25 := by simpa using hy
              clear hy
              refine wpOp_step rfl (fun K' hK => ?_)
              have cv := conv1_later (c := 1) nA
              go_simp
              refine hK _ _ ⟨hS, ?_⟩
              clear hK K' cv nA
              try simp only [Act.put, List.setIfInBounds_toArray, List.set_cons_succ, List.set_cons_zero]
              refine obTakeH (i := 26) (d := 41) (v := .string (X ++ ⟨#[4]⟩ ++ S1 ++ S2 ++ strOfNums [pr])) rfl rfl (by kernel_rfl) (by kernel_rfl) (by kernel_rfl) (fun _ _ _ h => h) rfl (fun w hS => by obtain ⟨s0, s1, s2⟩ := hS; go_simp <;> omega) hS ?_
              refine obTakeH (i := 27) (d := 4) (v := .string (X ++ ⟨#[4]⟩ ++ S1 ++ S2 ++ strOfNums [pr])) rfl rfl (by kernel_rfl) (by kernel_rfl) (by kernel_rfl) (fun _ _ _ h => h) rfl (fun w hS => by obtain ⟨s0, s1, s2⟩ := hS; go_simp) hS ?_
              try simp only [Act.put, List.setIfInBounds_toArray, List.set_cons_succ, List.set_cons_zero]
              refine wpAnyH_done (by kernel_rfl) ?_ 0
              have NN := Lib.hid (NX.out wc6 BB)
              clear BB hS NX KS B1 B2
              go_wp2_with fail
              go_roundg (M - (i + 1))
              case measure => omega
              case rel => exact ⟨i + 1, by omega, by simp, by rw [FIN.out], NN⟩
            · refine wpOp_step rfl (fun K' hK => ?_)
              have cv := conv1_later (c := 1) nA
              go_simp
              refine hK _ _ ⟨hS, ?_⟩
              clear hK K' cv nA
              try simp only [Act.put, List.setIfInBounds_toArray, List.set_cons_succ, List.set_cons_zero]
              refine wpAnyH_all (rs := [16]) (by kernel_rfl) (by simp) (fun y hy => ?_)
              obtain rfl : y = 16 := by simpa using hy
              clear hy
              refine wpOp_step rfl (fun K' hK => ?_)
              refine obCallTC (k1 := 30) (d := 31) (x1 := .int .i64 (hh : Int)) (c := .int .i64 4) 52 _ rfl rfl _ _ _ _ (hcf _ _) rfl (B2.out _) (fun e wc9 hR => ?_)
              obtain ⟨rfl, b9⟩ := hR
              have hS9 := KS.out wc9 (BB.trans (b9.mono BB.size))
              refine ⟨_, rfl, hK _ _ ⟨hS9, ?_⟩⟩
              replace hS := hS9
              replace BB := BB.trans (b9.mono BB.size)
              clear hK K' b9 hS9
              try simp only [Act.put, List.setIfInBounds_toArray, List.set_cons_succ, List.set_cons_zero]
              refine obTakeH (i := 17) (d := 32) (v := .string (X ++ ⟨#[4]⟩ ++ S1 ++ S2)) rfl rfl (by kernel_rfl) (by kernel_rfl) (by kernel_rfl) (fun _ _ _ h => h) rfl (fun w hS => by obtain ⟨s0, s1, s2⟩ := hS; go_simp <;> omega) hS ?_
              try simp only [Act.put, List.setIfInBounds_toArray, List.set_cons_succ, List.set_cons_zero]
              refine obTakeH (i := 26) (d := 41) (v := .string (X ++ ⟨#[4]⟩ ++ S1 ++ S2 ++ strOfNums [pr])) rfl rfl (by kernel_rfl) (by kernel_rfl) (by kernel_rfl) (fun _ _ _ h => h) rfl (fun w hS => by obtain ⟨s0, s1, s2⟩ := hS; go_simp <;> omega) hS ?_
              refine obTakeH (i := 27) (d := 4) (v := .string (X ++ ⟨#[4]⟩ ++ S1 ++ S2 ++ strOfNums [pr])) rfl rfl (by kernel_rfl) (by kernel_rfl) (by kernel_rfl) (fun _ _ _ h => h) rfl (fun w hS => by obtain ⟨s0, s1, s2⟩ := hS; go_simp) hS ?_
              try simp only [Act.put, List.setIfInBounds_toArray, List.set_cons_succ, List.set_cons_zero]
              refine wpAnyH_done (by kernel_rfl) ?_ 0
              have NN := Lib.hid (NX.out wc9 BB)
              clear BB hS NX KS B1 B2
              go_wp2_with fail
              go_roundg (M - (i + 1))
              case measure => omega
              case rel => exact ⟨i + 1, by omega, by simp, by rw [FIN.out], NN⟩
        · refine wpOp_step rfl (fun K' hK => ?_)
          have BA10 := BB.alloc BB.size (.cells #[.int .u8 pr] 5)
          have hS10 := KS.out _ BA10
          have nA : (wd.alloc (.cells #[.int .u8 pr] 5)).cell? ⟨wd.heap.size, 0, none⟩ = some (.int .u8 pr) := World.cell?_alloc_new _ _ _ 0
          go_simp
          refine hK _ _ ⟨hS10, ?_⟩
          clear hK K'
          replace hS := hS10
          replace BB := BA10
          clear hS10 BA10
          generalize wd.alloc (.cells #[.int .u8 pr] 5) = wa10 at *
          generalize wd.heap.size = KB10 at *
          try simp only [Act.put, List.setIfInBounds_toArray, List.set_cons_succ, List.set_cons_zero]
          refine wpAnyH_all (rs := [8, 25]) (by kernel_rfl) (by simp) (fun y hy => ?_)
          have hy2 : y = 8 ∨ y = 25 := by simpa using hy
          clear hy
          rcases hy2 with rfl | rfl
          · refine wpOp_step rfl (fun K' hK => ?_)
            refine obCallTC (k1 := 22) (d := 23) (x1 := .int .i64 (lo : Int)) (c := .int .i64 4) 52 _ rfl rfl _ _ _ _ (hcf _ _) rfl (B1.out _) (fun e wc11 hR => ?_)
            obtain ⟨rfl, b11⟩ := hR
            have hS11 := KS.out wc11 (BB.trans (b11.mono BB.size))
            refine ⟨_, rfl, hK _ _ ⟨hS11, ?_⟩⟩
            replace hS := hS11
            replace BB := BB.trans (b11.mono BB.size)
            replace nA := byte_keep b11 _ nA
            clear hK K' b11 hS11
            try simp only [Act.put, List.setIfInBounds_toArray, List.set_cons_succ, List.set_cons_zero]
            refine obTakeH (i := 9) (d := 24) (v := .string (X ++ ⟨#[4]⟩ ++ S1)) rfl rfl (by kernel_rfl) (by kernel_rfl) (by kernel_rfl) (fun _ _ _ h => h) rfl (fun w hS => by obtain ⟨s0, s1, s2⟩ := hS; go_simp <;> omega) hS ?_
            try simp only [Act.put, List.setIfInBounds_toArray, List.set_cons_succ, List.set_cons_zero]
            refine wpAnyH_all (rs := [16, 25]) (by kernel_rfl) (by simp) (fun y hy => ?_)
            have hy2 : y = 16 ∨ y = 25 := by simpa using hy
            clear hy
            rcases hy2 with rfl | rfl
            · refine wpOp_step rfl (fun K' hK => ?_)
              refine obCallTC (k1 := 30) (d := 31) (x1 := .int .i64 (hh : Int)) (c := .int .i64 4) 52 _ rfl rfl _ _ _ _ (hcf _ _) rfl (B2.out _) (fun e wc12 hR => ?_)
              obtain ⟨rfl, b12⟩ := hR
              have hS12 := KS.out wc12 (BB.trans (b12.mono BB.size))
              refine ⟨_, rfl, hK _ _ ⟨hS12, ?_⟩⟩
              replace hS := hS12
              replace BB := BB.trans (b12.mono BB.size)
              replace nA := byte_keep b12 _ nA
              clear hK K' b12 hS12
              try simp only [Act.put, List.setIfInBounds_toArray, List.set_cons_succ, List.set_cons_zero]
              refine obTakeH (i := 17) (d := 32) (v := .string (X ++ ⟨#[4]⟩ ++ S1 ++ S2)) rfl rfl (by kernel_rfl) (by kernel_rfl) (by kernel_rfl) (fun _ _ _ h => h) rfl (fun w hS => by obtain ⟨s0, s1, s2⟩ := hS; go_simp <;> omega) hS ?_
              try simp only [Act.put, List.setIfInBounds_toArray, List.set_cons_succ, List.set_cons_zero]
              refine wpAnyH_all (rs := [25]) (by kernel_rfl) (by simp) (fun y hy => ?_)
              obtain rfl : y = 25 := by simpa using hy
              clear hy
              refine wpOp_step rfl (fun K' hK => ?_)
              have cv := conv1_later (c := 1) nA
              go_simp
              refine hK _ _ ⟨hS, ?_⟩
              clear hK K' cv nA
              try simp only [Act.put, List.setIfInBounds_toArray, List.set_cons_succ, List.set_cons_zero]
              refine obTakeH (i := 26) (d := 41) (v := .string (X ++ ⟨#[4]⟩ ++ S1 ++ S2 ++ strOfNums [pr])) rfl rfl (by kernel_rfl) (by kernel_rfl) (by kernel_rfl) (fun _ _ _ h => h) rfl (fun w hS => by obtain ⟨s0, s1, s2⟩ := hS; go_simp <;> omega) hS ?_
              refine obTakeH (i := 27) (d := 4) (v := .string (X ++ ⟨#[4]⟩ ++ S1 ++ S2 ++ strOfNums [pr])) rfl rfl (by kernel_rfl) (by kernel_rfl) (by kernel_rfl) (fun _ _ _ h => h) rfl (fun w hS => by obtain ⟨s0, s1, s2⟩ := hS; go_simp) hS ?_
              try simp only [Act.put, List.setIfInBounds_toArray, List.set_cons_succ, List.set_cons_zero]
              refine wpAnyH_done (by kernel_rfl) ?_ 0
              have NN := Lib.hid (NX.out wc12 BB)
              clear BB hS NX KS B1 B2
              go_wp2_with fail
              go_roundg (M - (i + 1))
              case measure => omega
              case rel => exact ⟨i + 1, by omega, by simp, by rw [FIN.out], NN⟩
            · refine wpOp_step rfl (fun K' hK => ?_)
              have cv := conv1_later (c := 1) nA
              go_simp
              refine hK _ _ ⟨hS, ?_⟩
              clear hK K' cv nA
              try simp only [Act.put, List.setIfInBounds_toArray, List.set_cons_succ, List.set_cons_zero]
              refine wpAnyH_all (rs := [16]) (by kernel_rfl) (by simp) (fun y hy => ?_)
              obtain rfl : y = 16 := by simpa using hy
              clear hy
              refine wpOp_step rfl (fun K' hK => ?_)
              refine obCallTC (k1 := 30) (d := 31) (x1 := .int .i64 (hh : Int)) (c := .int .i64 4) 52 _ rfl rfl _ _ _ _ (hcf _ _) rfl (B2.out _) (fun e wc15 hR => ?_)
              obtain ⟨rfl, b15⟩ := hR
              have hS15 := KS.out wc15 (BB.trans (b15.mono BB.size))
              refine ⟨_, rfl, hK _ _ ⟨hS15, ?_⟩⟩
              replace hS := hS15
              replace BB := BB.trans (b15.mono BB.size)
              clear hK K' b15 hS15
              try simp only [Act.put, List.setIfInBounds_toArray, List.set_cons_succ, List.set_cons_zero]
              refine obTakeH (i := 17) (d := 32) (v := .string (X ++ ⟨#[4]⟩ ++ S1 ++ S2)) rfl rfl (by kernel_rfl) (by kernel_rfl) (by kernel_rfl) (fun _ _ _ h => h) rfl (fun w hS => by obtain ⟨s0, s1, s2⟩ := hS; go_simp <;> omega) hS ?_
              try simp only [Act.put, List.setIfInBounds_toArray, List.set_cons_succ, List.set_cons_zero]
              refine obTakeH (i := 26) (d := 41) (v := .string (X ++ ⟨#[4]⟩ ++ S1 ++ S2 ++ strOfNums [pr])) rfl rfl (by kernel_rfl) (by kernel_rfl) (by kernel_rfl) (fun _ _ _ h => h) rfl (fun w hS => by obtain ⟨s0, s1, s2⟩ := hS; go_simp <;> omega) hS ?_
              refine obTakeH (i := 27) (d := 4) (v := .string (X ++ ⟨#[4]⟩ ++ S1 ++ S2 ++ strOfNums [pr])) rfl rfl (by kernel_rfl) (by kernel_rfl) (by kernel_rfl) (fun _ _ _ h => h) rfl (fun w hS => by obtain ⟨s0, s1, s2⟩ := hS; go_simp) hS ?_
              try simp only [Act.put, List.setIfInBounds_toArray, List.set_cons_succ, List.set_cons_zero]
              refine wpAnyH_done (by kernel_rfl) ?_ 0
              have NN := Lib.hid (NX.out wc15 BB)
              clear BB hS NX KS B1 B2
              go_wp2_with fail
              go_roundg (M - (i + 1))
              case measure => omega
              case rel => exact ⟨i + 1, by omega, by simp, by rw [FIN.out], NN⟩
          · refine wpOp_step rfl (fun K' hK => ?_)
            have cv := conv1_later (c := 1) nA
            go_simp
            refine hK _ _ ⟨hS, ?_⟩
            clear hK K' cv nA
            try simp only [Act.put, List.setIfInBounds_toArray, List.set_cons_succ, List.set_cons_zero]
            refine wpAnyH_all (rs := [8]) (by kernel_rfl) (by simp) (fun y hy => ?_)
            obtain rfl : y = 8 := by simpa using hy
            clear hy
            refine wpOp_step rfl (fun K' hK => ?_)
            refine obCallTC (k1 := 22) (d := 23) (x1 := .int .i64 (lo : Int)) (c := .int .i64 4) 52 _ rfl rfl _ _ _ _ (hcf _ _) rfl (B1.out _) (fun e wc17 hR => ?_)
            obtain ⟨rfl, b17⟩ := hR
            have hS17 := KS.out wc17 (BB.trans (b17.mono BB.size))
            refine ⟨_, rfl, hK _ _ ⟨hS17, ?_⟩⟩
            replace hS := hS17
            replace BB := BB.trans (b17.mono BB.size)
            clear hK K' b17 hS17
            try simp only [Act.put, List.setIfInBounds_toArray, List.set_cons_succ, List.set_cons_zero]
            refine obTakeH (i := 9) (d := 24) (v := .string (X ++ ⟨#[4]⟩ ++ S1)) rfl rfl (by kernel_rfl) (by kernel_rfl) (by kernel_rfl) (fun _ _ _ h => h) rfl (fun w hS => by obtain ⟨s0, s1, s2⟩ := hS; go_simp <;> omega) hS ?_
            try simp only [Act.put, List.setIfInBounds_toArray, List.set_cons_succ, List.set_cons_zero]
            refine wpAnyH_all (rs := [16]) (by kernel_rfl) (by simp) (fun y hy => ?_)
            obtain rfl : y = 16 := by simpa using hy
            clear hy
            refine wpOp_step rfl (fun K' hK => ?_)
            refine obCallTC (k1 := 30) (d := 31) (x1 := .int .i64 (hh : Int)) (c := .int .i64 4) 52 _ rfl rfl _ _ _ _ (hcf _ _) rfl (B2.out _) (fun e wc18 hR => ?_)
            obtain ⟨rfl, b18⟩ := hR
            have hS18 := KS.out wc18 (BB.trans (b18.mono BB.size))
            refine ⟨_, rfl, hK _ _ ⟨hS18, ?_⟩⟩
            replace hS := hS18
            replace BB := BB.trans (b18.mono BB.size)
            clear hK K' b18 hS18
            try simp only [Act.put, List.setIfInBounds_toArray, List.set_cons_succ, List.set_cons_zero]
            refine obTakeH (i := 17) (d := 32) (v := .string (X ++ ⟨#[4]⟩ ++ S1 ++ S2)) rfl rfl (by kernel_rfl) (by kernel_rfl) (by kernel_rfl) (fun _ _ _ h => h) rfl (fun w hS => by obtain ⟨s0, s1, s2⟩ := hS; go_simp <;> omega) hS ?_
            try simp only [Act.put, List.setIfInBounds_toArray, List.set_cons_succ, List.set_cons_zero]
            refine obTakeH (i := 26) (d := 41) (v := .string (X ++ ⟨#[4]⟩ ++ S1 ++ S2 ++ strOfNums [pr])) rfl rfl (by kernel_rfl) (by kernel_rfl) (by kernel_rfl) (fun _ _ _ h => h) rfl (fun w hS => by obtain ⟨s0, s1, s2⟩ := hS; go_simp <;> omega) hS ?_
            refine obTakeH (i := 27) (d := 4) (v := .string (X ++ ⟨#[4]⟩ ++ S1 ++ S2 ++ strOfNums [pr])) rfl rfl (by kernel_rfl) (by kernel_rfl) (by kernel_rfl) (fun _ _ _ h => h) rfl (fun w hS => by obtain ⟨s0, s1, s2⟩ := hS; go_simp) hS ?_
            try simp only [Act.put, List.setIfInBounds_toArray, List.set_cons_succ, List.set_cons_zero]
            refine wpAnyH_done (by kernel_rfl) ?_ 0
            have NN := Lib.hid (NX.out wc18 BB)
            clear BB hS NX KS B1 B2
            go_wp2_with fail
            go_roundg (M - (i + 1))
            case measure => omega
            case rel => exact ⟨i + 1, by omega, by simp, by rw [FIN.out], NN⟩
      · have e : l.take i = l := List.take_of_length_le (by have := hM.out; omega)
        have E : strL ((l.take i).flatMap roB) = OUT := by rw [e, hOUT.out]
        rw [E]
        clear CC HB OK E
        go_wp2_with fail
        go_ret2
        exact ⟨rfl, ZZ.out⟩
end Go.Proofs.YtihkbakbciejiaaDoor
