/-
  What the laws' own sameAddresses and sameRoutes answer. No condition but the form's own reach. What the document's own Tells answers. No condition but the form's own reach. What the document's own Assigns answers. No condition but the form's own reach. What the document's own Ways answers. No condition but the form's own reach. What the law CapsuleSays answers. The table of sizes lies as the row's list gives it; no condition but the form's own reach.
-/
import Derived.Test.YtihkbakbciejiaaDoorCpPgW
import Derived.BigQuiet
import Derived.Test.YtihkbakbciejiaaDoorShBytes
import Derived.Test.YtihkbakbciejiaaDoorObDraw
import Derived.OrdersHeld
import Derived.Test.YtihkbakbciejiaaDoorCpAdrB
namespace Go.Proofs.YtihkbakbciejiaaDoor
set_option maxRecDepth 100000
open Go.RowKit Go.Sort

theorem RowAt.of {X : Type} {n : Nat} {cells : X → List Value} {x0 : X} {w w' : World} {v : Value} {l : List X} (h : RowAt n cells x0 w v l) (s : w.heap.size ≤ w'.heap.size) (b : ∀ k, v.ownBlock = some k → k < w.heap.size → w'.heap[k]? = w.heap[k]?) : RowAt n cells x0 w' v l := by
  obtain ⟨a, cap, rfl, hc, h⟩ := h
  refine ⟨a, cap, rfl, hc, fun k hk => ?_⟩
  obtain ⟨g, o, rfl, hg, c⟩ := h k hk
  exact ⟨g, o, rfl, Nat.lt_of_lt_of_le hg s, fun j hj => (World.cell?_of_block (w := w) (a := ⟨g, o + n * k + j, none⟩) (b g rfl hg)).trans (c j hj)⟩
theorem RowAt.low {X : Type} {n : Nat} {cells : X → List Value} {x0 : X} {w w' : World} {v : Value} {l : List X} (h : RowAt n cells x0 w v l) (b : Below w.heap.size w w') : RowAt n cells x0 w' v l := h.of b.size fun k _ hk => b.block k hk
theorem adv_get (l : List Ad) : ∀ (k : Nat), k < l.length → ∀ j, j < 3 → (adv l)[3 * k + j]? = (adc (l.getD k nA))[j]? := by
  induction l with
  | nil => intro k hk; exact absurd hk (Nat.not_lt_zero _)
  | cons x l ih =>
    intro k hk j hj
    show (adc x ++ adv l)[3 * k + j]? = _
    cases k with
    | zero =>
      rw [List.getElem?_append_left (by show 3 * 0 + j < 3; omega), Nat.mul_zero, Nat.zero_add]
      rfl
    | succ k =>
      rw [List.getElem?_append_right (by show 3 ≤ _; omega), show 3 * (k + 1) + j - (adc x).length = 3 * k + j by show 3 * (k + 1) + j - 3 = _; omega, ih k (by simpa using hk) j hj]
      rfl
theorem adp_at {base : Nat} {w : World} {v : Value} {l : List Ad} {e : TypeId} (h : w.ownsRow base e 3 v l.length (adv l)) : RowAt 3 adc nA w v l := by
  obtain ⟨h1, h2⟩ := h
  rcases h2 with ⟨rfl, e⟩ | ⟨g, cap, cur, rfl, e2, e3, e4, e5, e6, e7⟩
  · exact ⟨none, 0, by rw [e], by omega, fun k hk => by omega⟩
  · have get : ∀ i x, (adv l)[i]? = some x → w.cell? ⟨g, i, none⟩ = some x := fun i x hx => by
      rw [← e7, List.getElem?_take] at hx
      split at hx
      · rw [Array.getElem?_toList] at hx
        simp [World.cell?, e3, hx]
      · cases hx
    have hg : g < w.heap.size := by
      rcases Nat.lt_or_ge g w.heap.size with q | q
      · exact q
      · rw [Array.getElem?_eq_none q] at e3; cases e3
    refine ⟨_, _, rfl, e4, fun k hk => ⟨g, 0, rfl, hg, fun j hj => ?_⟩⟩
    rw [Nat.zero_add]
    have h3 := adv_get l k hk j hj
    have h4 : j < (adc (l.getD k nA)).length := hj
    rw [List.getElem?_eq_getElem h4] at h3 ⊢
    exact get _ _ h3
theorem at_rad (B o N cap i : Nat) (w : World) (h : i < N) (z : Int) (hz : z = i) (p : Nat) (hp : p = o + 3 * i) :
    (Instr.indexAt 43 (.slice (some ⟨B, o, none⟩) N cap) (.int .i64 z)).run Tryd.prog w = .ok (.pointer (some ⟨B, p, none⟩)) w := by
  subst hz hp
  have e : Tryd.prog.elem 43 = 50 := by kernel_rfl
  rw [run_indexAt_slice (P := Tryd.prog) w 43 ⟨B, o, none⟩ N cap .i64 i (by rw [e]; exact Tryd.underlying43), if_pos (by omega), e]
  have s : (sizeOf 50).run Tryd.prog w = .ok 3 w := Tryd.sizeOf50 w
  rw [s]
  simp [Addr.add_mid, Nat.mul_comm]
set_option maxHeartbeats 4000000 in
theorem sameA_ok (u v : Value) (l : List Ad) (w : World) (hu : RowAt 3 adc nA w u l) (hv : RowAt 3 adc nA w v l) (hl : l.length < 100000000000000) :
    Calls Tryd.prog 23 #[u, v] w fun e w' => e = .returned (.bool true) ∧ Below w.heap.size w w' := by
  obtain ⟨a, ca, rfl, -, ha⟩ := hu
  obtain ⟨b, cb, rfl, -, hb⟩ := hv
  obtain ⟨M, hM⟩ : ∃ M, M = l.length := ⟨_, rfl⟩
  have CA := Lib.hid ha
  have CB := Lib.hid hb
  rw [← hM] at CA CB hl ⊢
  replace hM : Hid _ := hM
  clear ha hb
  go_enter Tryd.func23, Tryd.ntmps23
  go_wp2_with fail
  go_loopg [5] M (fun g iv wr => ∃ j : Nat, j + g = M ∧ iv = .int .i64 (j : Int) ∧ Hid (Below w.heap.size w wr))
  case atStart => exact ⟨0, by omega, rfl, Below.refl _ _⟩
  case round =>
    obtain ⟨j, hj, rfl, bel⟩ := hrel
    by_cases hlt : j < M
    · have g1 : decide ((j : Int) < (M : Int)) = true := decide_eq_true (by omega)
      obtain ⟨ga, oa, rfl, la, ka⟩ := CA.out j hlt
      obtain ⟨gb, ob, rfl, lb, kb⟩ := CB.out j hlt
      have ia := fun w' => at_adp ga oa M ca j w' hlt (j : Int) rfl (oa + 3 * j) rfl
      have ib := fun w' => at_rad gb ob M cb j w' hlt (j : Int) rfl (ob + 3 * j) rfl
      obtain ⟨x, hx⟩ : ∃ x, x = l.getD j nA := ⟨_, rfl⟩
      rw [← hx] at ka kb
      obtain ⟨x0, x1, x2⟩ := x
      have a0 : ∀ d os, (grow (redrawn wr d) os).cell? ⟨ga, oa + 3 * j, none⟩ = some (.int .i64 x0) := fun d os => cell_regrown ((bel.out.cell la).trans (ka 0 (by decide))) d os
      have a1 : ∀ d os, (grow (redrawn wr d) os).cell? ⟨ga, oa + 3 * j + 1, none⟩ = some (.int .u32 (x1 : Int)) := fun d os => cell_regrown ((bel.out.cell la).trans (ka 1 (by decide))) d os
      have a2 : ∀ d os, (grow (redrawn wr d) os).cell? ⟨ga, oa + 3 * j + 2, none⟩ = some (.int .i64 x2) := fun d os => cell_regrown ((bel.out.cell la).trans (ka 2 (by decide))) d os
      have b0 : ∀ d os, (grow (redrawn wr d) os).cell? ⟨gb, ob + 3 * j, none⟩ = some (.int .i64 x0) := fun d os => cell_regrown ((bel.out.cell lb).trans (kb 0 (by decide))) d os
      have b1 : ∀ d os, (grow (redrawn wr d) os).cell? ⟨gb, ob + 3 * j + 1, none⟩ = some (.int .u32 (x1 : Int)) := fun d os => cell_regrown ((bel.out.cell lb).trans (kb 1 (by decide))) d os
      have b2 : ∀ d os, (grow (redrawn wr d) os).cell? ⟨gb, ob + 3 * j + 2, none⟩ = some (.int .i64 x2) := fun d os => cell_regrown ((bel.out.cell lb).trans (kb 2 (by decide))) d os
      clear ka kb CA CB hx
      go_upto_region 6 with fail
      refine wp_region_quiet_below (by kernel_rfl) (by kernel_rfl) ?_
      repeat (go_big_quiet_step (fail))
      refine wpQuiet_nil ?_
      intro _ hw'
      obtain ⟨⟨dq, osq⟩, hw''⟩ := hw'
      subst hw''
      have Z : Hid (Below w.heap.size w (grow (redrawn wr dq) osq)) := bel.out.trans ((below_regrown wr dq osq).mono bel.out.size)
      clear a0 a1 a2 b0 b1 b2 bel
      simp only
      generalize grow (redrawn wr dq) osq = w3 at *
      go_wp2_with fail
      go_roundg (M - 1 - j)
      case measure => omega
      case rel => exact ⟨j + 1, by omega, by simp, Z⟩
    · have hE : j = M := by omega
      subst hE
      clear CA CB
      go_wp2_with fail
      go_ret
      exact ⟨rfl, bel.out⟩
set_option maxHeartbeats 4000000 in
theorem sameR_ok (u v : Value) (l : List Ro) (w : World) (hu : RowAt 3 roC nR w u l) (hv : RowAt 3 roC nR w v l) (hl : l.length < 100000000000000) :
    Calls Tryd.prog 24 #[u, v] w fun e w' => e = .returned (.bool true) ∧ Below w.heap.size w w' := by
  obtain ⟨a, ca, rfl, -, ha⟩ := hu
  obtain ⟨b, cb, rfl, -, hb⟩ := hv
  obtain ⟨M, hM⟩ : ∃ M, M = l.length := ⟨_, rfl⟩
  have CA := Lib.hid ha
  have CB := Lib.hid hb
  rw [← hM] at CA CB hl ⊢
  replace hM : Hid _ := hM
  clear ha hb
  go_enter Tryd.func24, Tryd.ntmps24
  go_wp2_with fail
  go_loopg [5] M (fun g iv wr => ∃ j : Nat, j + g = M ∧ iv = .int .i64 (j : Int) ∧ Hid (Below w.heap.size w wr))
  case atStart => exact ⟨0, by omega, rfl, Below.refl _ _⟩
  case round =>
    obtain ⟨j, hj, rfl, bel⟩ := hrel
    by_cases hlt : j < M
    · have g1 : decide ((j : Int) < (M : Int)) = true := decide_eq_true (by omega)
      obtain ⟨ga, oa, rfl, la, ka⟩ := CA.out j hlt
      obtain ⟨gb, ob, rfl, lb, kb⟩ := CB.out j hlt
      have ia := fun w' => at_rop ga oa M ca j w' hlt (j : Int) rfl (oa + 3 * j) rfl
      have ib := fun w' => at_ro gb ob M cb j w' hlt (j : Int) rfl (ob + 3 * j) rfl
      obtain ⟨x, hx⟩ : ∃ x, x = l.getD j nR := ⟨_, rfl⟩
      rw [← hx] at ka kb
      obtain ⟨x0, x1, x2⟩ := x
      have a0 : ∀ d os, (grow (redrawn wr d) os).cell? ⟨ga, oa + 3 * j, none⟩ = some (.int .u32 (x0 : Int)) := fun d os => cell_regrown ((bel.out.cell la).trans (ka 0 (by decide))) d os
      have a1 : ∀ d os, (grow (redrawn wr d) os).cell? ⟨ga, oa + 3 * j + 1, none⟩ = some (.int .u32 (x1 : Int)) := fun d os => cell_regrown ((bel.out.cell la).trans (ka 1 (by decide))) d os
      have a2 : ∀ d os, (grow (redrawn wr d) os).cell? ⟨ga, oa + 3 * j + 2, none⟩ = some (.int .i64 x2) := fun d os => cell_regrown ((bel.out.cell la).trans (ka 2 (by decide))) d os
      have b0 : ∀ d os, (grow (redrawn wr d) os).cell? ⟨gb, ob + 3 * j, none⟩ = some (.int .u32 (x0 : Int)) := fun d os => cell_regrown ((bel.out.cell lb).trans (kb 0 (by decide))) d os
      have b1 : ∀ d os, (grow (redrawn wr d) os).cell? ⟨gb, ob + 3 * j + 1, none⟩ = some (.int .u32 (x1 : Int)) := fun d os => cell_regrown ((bel.out.cell lb).trans (kb 1 (by decide))) d os
      have b2 : ∀ d os, (grow (redrawn wr d) os).cell? ⟨gb, ob + 3 * j + 2, none⟩ = some (.int .i64 x2) := fun d os => cell_regrown ((bel.out.cell lb).trans (kb 2 (by decide))) d os
      clear ka kb CA CB hx
      go_upto_region 6 with fail
      refine wp_region_quiet_below (by kernel_rfl) (by kernel_rfl) ?_
      repeat (go_big_quiet_step (fail))
      refine wpQuiet_nil ?_
      intro _ hw'
      obtain ⟨⟨dq, osq⟩, hw''⟩ := hw'
      subst hw''
      have Z : Hid (Below w.heap.size w (grow (redrawn wr dq) osq)) := bel.out.trans ((below_regrown wr dq osq).mono bel.out.size)
      clear a0 a1 a2 b0 b1 b2 bel
      simp only
      generalize grow (redrawn wr dq) osq = w3 at *
      go_wp2_with fail
      go_roundg (M - 1 - j)
      case measure => omega
      case rel => exact ⟨j + 1, by omega, by simp, Z⟩
    · have hE : j = M := by omega
      subst hE
      clear CA CB
      go_wp2_with fail
      go_ret
      exact ⟨rfl, bel.out⟩
end Go.Proofs.YtihkbakbciejiaaDoor
namespace Go.Proofs.YtihkbakbciejiaaDoor
set_option maxRecDepth 100000
open Go.RowKit Go.Sort

/-- A call of a slot and a number. -/
theorem obCallTC (f : FuncId) (o : Oper) {k1 d : Nat} {tys : Array TypeId} {x1 c : Value} {R : Ending → World → Prop} (ho : o.op = .call { callee := .value (.func f), args := #[.tmp k1, .const c], argTypes := tys }) (hd : o.dst = some d) (a : Act) (w : World) (K : Act → World → Prop) (Q : Exit → Act → World → Prop)
    (hcf : ∀ w, (callFunc f #[x1, c]).run Tryd.prog w = .ok (.enter f #[x1, c]) w) (h1 : a.eval (.tmp k1) = x1) (C : Calls Tryd.prog f #[x1, c] w R) (hK : ∀ e w', R e w' → ∃ v, e = .returned v ∧ K (a.put (some d) v) w') : o.wp Tryd.prog a w K Q := by
  unfold Oper.wp
  have hr : (execOp a.eval o).run Tryd.prog w = .ok (.enter f #[x1, c]) w := by
    unfold execOp
    rw [ho]
    simp only [go_sem] at h1 ⊢
    simp [go_sem, h1, hcf]
  rw [hr]
  exact C.mono fun e w' h => by
    obtain ⟨v, rfl, hk⟩ := hK e w' h
    rw [hd]
    exact hk
/-- A call of a slot. -/
theorem obCall1g (f : FuncId) (o : Oper) {k1 d : Nat} {tys : Array TypeId} {x1 : Value} {R : Ending → World → Prop} (ho : o.op = .call { callee := .value (.func f), args := #[.tmp k1], argTypes := tys }) (hd : o.dst = some d) (a : Act) (w : World) (K : Act → World → Prop) (Q : Exit → Act → World → Prop)
    (hcf : ∀ w, (callFunc f #[x1]).run Tryd.prog w = .ok (.enter f #[x1]) w) (h1 : a.eval (.tmp k1) = x1) (C : Calls Tryd.prog f #[x1] w R) (hK : ∀ e w', R e w' → ∃ v, e = .returned v ∧ K (a.put (some d) v) w') : o.wp Tryd.prog a w K Q := by
  unfold Oper.wp
  have hr : (execOp a.eval o).run Tryd.prog w = .ok (.enter f #[x1]) w := by
    unfold execOp
    rw [ho]
    simp only [go_sem] at h1 ⊢
    simp [go_sem, h1, hcf]
  rw [hr]
  exact C.mono fun e w' h => by
    obtain ⟨v, rfl, hk⟩ := hK e w' h
    rw [hd]
    exact hk
/-- A byte that was made ahead, behind a call. -/
theorem byte_keep {u w1 : World} {x : Int} (b : Below u.heap.size u w1) (g : Nat) (h : u.cell? ⟨g, 0, none⟩ = some (.int .u8 x)) : w1.cell? ⟨g, 0, none⟩ = some (.int .u8 x) := (b.cell (World.block_lt_of_cell? u _ h)).trans h
theorem digs_b4 (n : Nat) (h : n < 4294967296) : strOfNums (digs (n : Int) 4) = strL (b4 n) := toL_inj (by
  rw [toL_nums, toL_strL]
  unfold b4 b8
  simp only [digs, List.map_cons, List.map_nil, List.nil_append, List.cons_append]
  refine List.cons_eq_cons.2 ⟨u8_eq (by omega), List.cons_eq_cons.2 ⟨u8_eq (by omega), List.cons_eq_cons.2 ⟨u8_eq (by omega), List.cons_eq_cons.2 ⟨u8_eq (by omega), rfl⟩⟩⟩⟩)
theorem one_b8 (p : Int) : strOfNums [p] = strL [b8 p.toNat] := toL_inj (by
  rw [toL_nums, toL_strL]
  rfl)
set_option maxHeartbeats 16000000 in
theorem rtel16_ok (v : Value) (l : List Ro) (w : World) (hv : RowAt 3 roC nR w v l) (hl : l.length * 16 ≤ 140737488351232) (hb : ∀ x ∈ l, x.low < 4294967296 ∧ x.high < 4294967296) :
    Calls Tryd.prog 22 #[v] w fun e w' => e = .returned (telV l) ∧ Below w.heap.size w w' := by
  have RR := Lib.hid (rright_ok v l w hv.ro (by omega))
  obtain ⟨a, cap, rfl, -, hc⟩ := hv
  obtain ⟨M, hM⟩ : ∃ M, M = l.length := ⟨_, rfl⟩
  have CC := Lib.hid hc
  have HB := Lib.hid hb
  rw [← hM] at hl CC RR ⊢
  replace hM := Lib.hid hM
  clear hc hb
  cases hr : rightR l with
  | false =>
    rw [hr] at RR
    rw [telV_no hr]
    clear CC HB hr
    go_enter Tryd.func22, Tryd.ntmps22
    go_wp2_with fail
    refine RR.out.mono ?_
    rintro e w1 ⟨rfl, b1⟩
    have Z := Lib.hid b1
    clear b1 RR
    go_wp2_with fail
    go_ret2
    exact ⟨rfl, Z.out⟩
  | true =>
    rw [hr] at RR
    rw [telV_yes hr]
    have OK : Hid (∀ i, i < l.length → 0 ≤ (l.getD i nR).pro ∧ (l.getD i nR).pro ≤ 255) := fun i hi => by
      have h1 : rightR (l.take (i + 1)) = true := by
        have := hr
        rw [← List.take_append_drop (i + 1) l] at this
        exact right_front this
      rw [take_next l nR i hi] at h1
      have := right_last h1
      unfold okR at this
      simp only [Bool.and_eq_true, decide_eq_true_eq] at this
      exact ⟨this.1.2, this.2⟩
    have hcf : ∀ (x y : Value) (w : World), (callFunc 52 #[x, y]).run Tryd.prog w = .ok (.enter 52 #[x, y]) w := fun x y w => by simp [go_sem]
    obtain ⟨OUT, hOUT⟩ : ∃ OUT, OUT = strL (l.flatMap roB) := ⟨_, rfl⟩
    rw [← hOUT]
    replace hOUT := Lib.hid hOUT
    clear hr
    go_enter Tryd.func22, Tryd.ntmps22
    go_wp2_with fail
    refine RR.out.mono ?_
    rintro e w1 ⟨rfl, b1⟩
    have Z1 := Lib.hid b1
    clear b1 RR
    go_wp2_with fail
    go_loopg [4, 5] M (fun g sv iv wr => ∃ i : Nat, i + g = M ∧ iv = .int .i64 (i : Int) ∧ sv = .string (strL ((l.take i).flatMap roB)) ∧ Hid (Below w.heap.size w wr))
    case atStart => exact ⟨0, by omega, rfl, rfl, Z1⟩
    case round =>
      obtain ⟨i, hi, rfl, rfl, ZZ⟩ := hrel
      clear Z1
      by_cases hin : i < M
      · have il : i < l.length := by have := hM.out; omega
        obtain ⟨g, o, rfl, hgw, cs⟩ := CC.out i hin
        have hadr := HB.out _ (getD_in l nR i il)
        have hpr := OK.out i il
        have tk := take_next l nR i il
        obtain ⟨x, hx⟩ : ∃ x, x = l.getD i nR := ⟨_, rfl⟩
        rw [← hx] at cs hadr hpr tk
        obtain ⟨lo, hh, pr⟩ := x
        simp only at hadr hpr
        have KS : Hid (∀ w', Below wr.heap.size wr w' → w'.cell? ⟨g, o + 3 * i, none⟩ = some (.int .u32 (lo : Int)) ∧ w'.cell? ⟨g, o + 3 * i + 1, none⟩ = some (.int .u32 (hh : Int)) ∧ w'.cell? ⟨g, o + 3 * i + 2, none⟩ = some (.int .i64 pr)) := fun w' b => by
          have bb := ZZ.out.trans (b.mono ZZ.out.size)
          exact ⟨(bb.cell hgw).trans (cs 0 (by decide)), (bb.cell hgw).trans (cs 1 (by decide)), (bb.cell hgw).trans (cs 2 (by decide))⟩
        have ia := fun w' => at_ro g o M cap i w' hin (i : Int) rfl (o + 3 * i) rfl
        have B1 : Hid (∀ w', _) := fun w' => rbytes 4 (by decide) (lo : Int) w' (by omega) (by omega)
        have B2 : Hid (∀ w', _) := fun w' => rbytes 4 (by decide) (hh : Int) w' (by omega) (by omega)
        have z1 : (strOfNums (digs (lo : Int) 4)).size = 4 := by rw [strOfNums_size, digs_length]
        have z2 : (strOfNums (digs (hh : Int) 4)).size = 4 := by rw [strOfNums_size, digs_length]
        have z3 : (strOfNums [pr]).size = 1 := strOfNums_size _
        have zX : (strL ((l.take i).flatMap roB)).size = 10 * i := by
          rw [strL_size, roF_len, List.length_take]
          omega
        have FIN : Hid (strL ((l.take i).flatMap roB) ++ ⟨#[4]⟩ ++ strOfNums (digs (lo : Int) 4) ++ strOfNums (digs (hh : Int) 4) ++ strOfNums [pr] = strL ((l.take (i + 1)).flatMap roB)) := by
          unfold Hid
          rw [digs_b4 lo hadr.1, digs_b4 hh hadr.2, one_b8 pr, tk, List.flatMap_append, show (⟨#[4]⟩ : ByteArray) = strL [4] from rfl, strL_append, strL_append, strL_append, strL_append]
          simp [roB]
        obtain ⟨X, hX⟩ : ∃ X, X = strL ((l.take i).flatMap roB) := ⟨_, rfl⟩
        rw [← hX] at zX FIN ⊢
        have w1' : IntKind.i64.wrap (lo : Int) = (lo : Int) := by rw [IntKind.wrap_i64]; omega
        have w2' : IntKind.i64.wrap (hh : Int) = (hh : Int) := by rw [IntKind.wrap_i64]; omega
        have w3' : IntKind.u8.wrap pr = pr := by rw [IntKind.wrap_u8]; omega
        have BB : Below wr.heap.size wr wr.drew := drewB _ _
        have hS := KS.out _ BB
        have NX : Hid (∀ w', Below wr.heap.size wr w' → Below w.heap.size w w') := fun w' b => ZZ.out.trans (b.mono ZZ.out.size)
        obtain ⟨S1, hS1⟩ : ∃ S1, S1 = strOfNums (digs (lo : Int) 4) := ⟨_, rfl⟩
        obtain ⟨S2, hS2⟩ : ∃ S2, S2 = strOfNums (digs (hh : Int) 4) := ⟨_, rfl⟩
        obtain ⟨Zp, hZp⟩ : ∃ Zp, Zp = strOfNums [pr] := ⟨_, rfl⟩
        rw [← hS1] at B1 z1 FIN
        rw [← hS2] at B2 z2 FIN
        have hXz : X.size ≤ 1000000000000000 := by omega
        have h1z : S1.size ≤ 4 := by omega
        have h2z : S2.size ≤ 4 := by omega
        replace hX := Lib.hid hX
        replace hS1 := Lib.hid hS1
        replace hS2 := Lib.hid hS2
        replace zX := Lib.hid zX
        replace z1 := Lib.hid z1
        replace z2 := Lib.hid z2
        clear cs hx tk CC HB OK ZZ hZp Zp
        go_upto_region 7 with fail
        refine wp_region_held (S := fun w' => w'.cell? ⟨g, o + 3 * i, none⟩ = some (.int .u32 (lo : Int)) ∧ w'.cell? ⟨g, o + 3 * i + 1, none⟩ = some (.int .u32 (hh : Int)) ∧ w'.cell? ⟨g, o + 3 * i + 2, none⟩ = some (.int .i64 pr)) (by kernel_rfl) ?_
        change wpAnyH _ .any _ _ _ 28 (Array.replicate 28 false) _ wr.drew
        generalize wr.drew = wd at *
        refine obTakeH (i := 0) (d := 15) (v := .string X) rfl rfl (by kernel_rfl) (by kernel_rfl) (by kernel_rfl) (fun _ _ _ h => h) rfl (fun w hS => by obtain ⟨s0, s1, s2⟩ := hS; go_simp) hS ?_
        refine obTakeH (i := 1) (d := 16) (v := .string (X ++ ⟨#[4]⟩)) rfl rfl (by kernel_rfl) (by kernel_rfl) (by kernel_rfl) (fun _ _ _ h => h) rfl (fun w hS => by obtain ⟨s0, s1, s2⟩ := hS; go_simp <;> omega) hS ?_
        refine obTakeH (i := 2) (d := 17) (v := .slice (some ⟨g, o, none⟩) M cap) rfl rfl (by kernel_rfl) (by kernel_rfl) (by kernel_rfl) (fun _ _ _ h => h) rfl (fun w hS => by obtain ⟨s0, s1, s2⟩ := hS; go_simp) hS ?_
        refine obTakeH (i := 3) (d := 18) (v := .int .i64 (i : Int)) rfl rfl (by kernel_rfl) (by kernel_rfl) (by kernel_rfl) (fun _ _ _ h => h) rfl (fun w hS => by obtain ⟨s0, s1, s2⟩ := hS; go_simp) hS ?_
        refine obTakeH (i := 4) (d := 19) (v := .pointer (some ⟨g, o + 3 * i, none⟩)) rfl rfl (by kernel_rfl) (by kernel_rfl) (by kernel_rfl) (fun _ _ _ h => h) rfl (fun w hS => by obtain ⟨s0, s1, s2⟩ := hS; go_simp) hS ?_
        try simp only [Act.put, List.setIfInBounds_toArray, List.set_cons_succ, List.set_cons_zero]
        refine obTakeH (i := 5) (d := 20) (v := .pointer (some ⟨g, o + 3 * i, none⟩)) rfl rfl (by kernel_rfl) (by kernel_rfl) (by kernel_rfl) (fun _ _ _ h => h) rfl (fun w hS => by obtain ⟨s0, s1, s2⟩ := hS; go_simp) hS ?_
        refine obTakeH (i := 6) (d := 21) (v := .int .u32 (lo : Int)) rfl rfl (by kernel_rfl) (by kernel_rfl) (by kernel_rfl) (fun _ _ _ h => h) rfl (fun w hS => by obtain ⟨s0, s1, s2⟩ := hS; go_simp) hS ?_
        refine obTakeH (i := 7) (d := 22) (v := .int .i64 (lo : Int)) rfl rfl (by kernel_rfl) (by kernel_rfl) (by kernel_rfl) (fun _ _ _ h => h) rfl (fun w hS => by obtain ⟨s0, s1, s2⟩ := hS; go_simp) hS ?_
        refine obTakeH (i := 10) (d := 25) (v := .slice (some ⟨g, o, none⟩) M cap) rfl rfl (by kernel_rfl) (by kernel_rfl) (by kernel_rfl) (fun _ _ _ h => h) rfl (fun w hS => by obtain ⟨s0, s1, s2⟩ := hS; go_simp) hS ?_
        refine obTakeH (i := 11) (d := 26) (v := .int .i64 (i : Int)) rfl rfl (by kernel_rfl) (by kernel_rfl) (by kernel_rfl) (fun _ _ _ h => h) rfl (fun w hS => by obtain ⟨s0, s1, s2⟩ := hS; go_simp) hS ?_
        try simp only [Act.put, List.setIfInBounds_toArray, List.set_cons_succ, List.set_cons_zero]
        refine obTakeH (i := 12) (d := 27) (v := .pointer (some ⟨g, o + 3 * i, none⟩)) rfl rfl (by kernel_rfl) (by kernel_rfl) (by kernel_rfl) (fun _ _ _ h => h) rfl (fun w hS => by obtain ⟨s0, s1, s2⟩ := hS; go_simp) hS ?_
        refine obTakeH (i := 13) (d := 28) (v := .pointer (some ⟨g, o + 3 * i + 1, none⟩)) rfl rfl (by kernel_rfl) (by kernel_rfl) (by kernel_rfl) (fun _ _ _ h => h) rfl (fun w hS => by obtain ⟨s0, s1, s2⟩ := hS; go_simp) hS ?_
        refine obTakeH (i := 14) (d := 29) (v := .int .u32 (hh : Int)) rfl rfl (by kernel_rfl) (by kernel_rfl) (by kernel_rfl) (fun _ _ _ h => h) rfl (fun w hS => by obtain ⟨s0, s1, s2⟩ := hS; go_simp) hS ?_
        refine obTakeH (i := 15) (d := 30) (v := .int .i64 (hh : Int)) rfl rfl (by kernel_rfl) (by kernel_rfl) (by kernel_rfl) (fun _ _ _ h => h) rfl (fun w hS => by obtain ⟨s0, s1, s2⟩ := hS; go_simp) hS ?_
        refine obTakeH (i := 18) (d := 33) (v := .slice (some ⟨g, o, none⟩) M cap) rfl rfl (by kernel_rfl) (by kernel_rfl) (by kernel_rfl) (fun _ _ _ h => h) rfl (fun w hS => by obtain ⟨s0, s1, s2⟩ := hS; go_simp) hS ?_
        try simp only [Act.put, List.setIfInBounds_toArray, List.set_cons_succ, List.set_cons_zero]
        refine obTakeH (i := 19) (d := 34) (v := .int .i64 (i : Int)) rfl rfl (by kernel_rfl) (by kernel_rfl) (by kernel_rfl) (fun _ _ _ h => h) rfl (fun w hS => by obtain ⟨s0, s1, s2⟩ := hS; go_simp) hS ?_
        refine obTakeH (i := 20) (d := 35) (v := .pointer (some ⟨g, o + 3 * i, none⟩)) rfl rfl (by kernel_rfl) (by kernel_rfl) (by kernel_rfl) (fun _ _ _ h => h) rfl (fun w hS => by obtain ⟨s0, s1, s2⟩ := hS; go_simp) hS ?_
        refine obTakeH (i := 21) (d := 36) (v := .pointer (some ⟨g, o + 3 * i + 2, none⟩)) rfl rfl (by kernel_rfl) (by kernel_rfl) (by kernel_rfl) (fun _ _ _ h => h) rfl (fun w hS => by obtain ⟨s0, s1, s2⟩ := hS; go_simp) hS ?_
        refine obTakeH (i := 22) (d := 37) (v := .int .i64 pr) rfl rfl (by kernel_rfl) (by kernel_rfl) (by kernel_rfl) (fun _ _ _ h => h) rfl (fun w hS => by obtain ⟨s0, s1, s2⟩ := hS; go_simp) hS ?_
        refine obTakeH (i := 23) (d := 38) (v := .int .u8 pr) rfl rfl (by kernel_rfl) (by kernel_rfl) (by kernel_rfl) (fun _ _ _ h => h) rfl (fun w hS => by obtain ⟨s0, s1, s2⟩ := hS; go_simp) hS ?_
        try simp only [Act.put, List.setIfInBounds_toArray, List.set_cons_succ, List.set_cons_zero]
        try simp only [Act.put, List.setIfInBounds_toArray, List.set_cons_succ, List.set_cons_zero]
        refine wpAnyH_all (rs := [8, 24]) (by kernel_rfl) (by simp) (fun y hy => ?_)
        have hy2 : y = 8 ∨ y = 24 := by simpa using hy
        clear hy
        rcases hy2 with rfl | rfl
        · refine wpOp_step rfl (fun K' hK => ?_)
          refine obCallTC (k1 := 22) (d := 23) (x1 := .int .i64 (lo : Int)) (c := .int .i64 4) 52 _ rfl rfl _ _ _ _ (hcf _ _) rfl (B1.out _) (fun e wc1 hR => ?_)
          obtain ⟨rfl, b1⟩ := hR
          have hS1 := KS.out wc1 (BB.trans (b1.mono BB.size))
          refine ⟨_, rfl, hK _ _ ⟨hS1, ?_⟩⟩
          replace hS := hS1
          replace BB := BB.trans (b1.mono BB.size)
          clear hK K' b1 hS1
          try simp only [Act.put, List.setIfInBounds_toArray, List.set_cons_succ, List.set_cons_zero]
          refine obTakeH (i := 9) (d := 24) (v := .string (X ++ ⟨#[4]⟩ ++ S1)) rfl rfl (by kernel_rfl) (by kernel_rfl) (by kernel_rfl) (fun _ _ _ h => h) rfl (fun w hS => by obtain ⟨s0, s1, s2⟩ := hS; go_simp <;> omega) hS ?_
          try simp only [Act.put, List.setIfInBounds_toArray, List.set_cons_succ, List.set_cons_zero]
          refine wpAnyH_all (rs := [16, 24]) (by kernel_rfl) (by simp) (fun y hy => ?_)
          have hy2 : y = 16 ∨ y = 24 := by simpa using hy
          clear hy
          rcases hy2 with rfl | rfl
          · refine wpOp_step rfl (fun K' hK => ?_)
            refine obCallTC (k1 := 30) (d := 31) (x1 := .int .i64 (hh : Int)) (c := .int .i64 4) 52 _ rfl rfl _ _ _ _ (hcf _ _) rfl (B2.out _) (fun e wc2 hR => ?_)
            obtain ⟨rfl, b2⟩ := hR
            have hS2 := KS.out wc2 (BB.trans (b2.mono BB.size))
            refine ⟨_, rfl, hK _ _ ⟨hS2, ?_⟩⟩
            replace hS := hS2
            replace BB := BB.trans (b2.mono BB.size)
            clear hK K' b2 hS2
            try simp only [Act.put, List.setIfInBounds_toArray, List.set_cons_succ, List.set_cons_zero]
            refine obTakeH (i := 17) (d := 32) (v := .string (X ++ ⟨#[4]⟩ ++ S1 ++ S2)) rfl rfl (by kernel_rfl) (by kernel_rfl) (by kernel_rfl) (fun _ _ _ h => h) rfl (fun w hS => by obtain ⟨s0, s1, s2⟩ := hS; go_simp <;> omega) hS ?_
            try simp only [Act.put, List.setIfInBounds_toArray, List.set_cons_succ, List.set_cons_zero]
            refine wpAnyH_all (rs := [24]) (by kernel_rfl) (by simp) (fun y hy => ?_)
            obtain rfl : y = 24 := by simpa using hy
            clear hy
            refine wpOp_step rfl (fun K' hK => ?_)
            have BA3 := BB.alloc BB.size (.cells #[.int .u8 pr] 5)
            have hS3 := KS.out _ BA3
            have nA : (wc2.alloc (.cells #[.int .u8 pr] 5)).cell? ⟨wc2.heap.size, 0, none⟩ = some (.int .u8 pr) := World.cell?_alloc_new _ _ _ 0
            go_simp
            refine hK _ _ ⟨hS3, ?_⟩
            clear hK K'
            replace hS := hS3
            replace BB := BA3
            clear hS3 BA3
            generalize wc2.alloc (.cells #[.int .u8 pr] 5) = wa3 at *
            generalize wc2.heap.size = KB3 at *
            try simp only [Act.put, List.setIfInBounds_toArray, List.set_cons_succ, List.set_cons_zero]
            refine wpAnyH_all (rs := [25]) (by kernel_rfl) (by simp) (fun y hy => ?_)
            obtain rfl : y = 25 := by simpa using hy
            clear hy
            refine wpOp_step rfl (fun K' hK => ?_)
            have cv := conv1_later (c := 1) nA
            go_simp
            refine hK _ _ ⟨hS, ?_⟩
            clear hK K' cv nA
            try simp only [Act.put, List.setIfInBounds_toArray, List.set_cons_succ, List.set_cons_zero]
            refine obTakeH (i := 26) (d := 41) (v := .string (X ++ ⟨#[4]⟩ ++ S1 ++ S2 ++ strOfNums [pr])) rfl rfl (by kernel_rfl) (by kernel_rfl) (by kernel_rfl) (fun _ _ _ h => h) rfl (fun w hS => by obtain ⟨s0, s1, s2⟩ := hS; go_simp <;> omega) hS ?_
            refine obTakeH (i := 27) (d := 4) (v := .string (X ++ ⟨#[4]⟩ ++ S1 ++ S2 ++ strOfNums [pr])) rfl rfl (by kernel_rfl) (by kernel_rfl) (by kernel_rfl) (fun _ _ _ h => h) rfl (fun w hS => by obtain ⟨s0, s1, s2⟩ := hS; go_simp) hS ?_
            try simp only [Act.put, List.setIfInBounds_toArray, List.set_cons_succ, List.set_cons_zero]
            refine wpAnyH_done (by kernel_rfl) ?_ 0
            have NN := Lib.hid (NX.out wa3 BB)
            clear BB hS NX KS B1 B2
            go_wp2_with fail
            go_roundg (M - (i + 1))
            case measure => omega
            case rel => exact ⟨i + 1, by omega, by simp, by rw [FIN.out], NN⟩
          · refine wpOp_step rfl (fun K' hK => ?_)
            have BA5 := BB.alloc BB.size (.cells #[.int .u8 pr] 5)
            have hS5 := KS.out _ BA5
            have nA : (wc1.alloc (.cells #[.int .u8 pr] 5)).cell? ⟨wc1.heap.size, 0, none⟩ = some (.int .u8 pr) := World.cell?_alloc_new _ _ _ 0
            go_simp
            refine hK _ _ ⟨hS5, ?_⟩
            clear hK K'
            replace hS := hS5
            replace BB := BA5
            clear hS5 BA5
            generalize wc1.alloc (.cells #[.int .u8 pr] 5) = wa5 at *
            generalize wc1.heap.size = KB5 at *
            try simp only [Act.put, List.setIfInBounds_toArray, List.set_cons_succ, List.set_cons_zero]
            refine wpAnyH_all (rs := [16, 25]) (by kernel_rfl) (by simp) (fun y hy => ?_)
            have hy2 : y = 16 ∨ y = 25 := by simpa using hy
            clear hy
            rcases hy2 with rfl | rfl
            · refine wpOp_step rfl (fun K' hK => ?_)
              refine obCallTC (k1 := 30) (d := 31) (x1 := .int .i64 (hh : Int)) (c := .int .i64 4) 52 _ rfl rfl _ _ _ _ (hcf _ _) rfl (B2.out _) (fun e wc6 hR => ?_)
              obtain ⟨rfl, b6⟩ := hR
              have hS6 := KS.out wc6 (BB.trans (b6.mono BB.size))
              refine ⟨_, rfl, hK _ _ ⟨hS6, ?_⟩⟩
              replace hS := hS6
              replace BB := BB.trans (b6.mono BB.size)
              replace nA := byte_keep b6 _ nA
              clear hK K' b6 hS6
              try simp only [Act.put, List.setIfInBounds_toArray, List.set_cons_succ, List.set_cons_zero]
              refine obTakeH (i := 17) (d := 32) (v := .string (X ++ ⟨#[4]⟩ ++ S1 ++ S2)) rfl rfl (by kernel_rfl) (by kernel_rfl) (by kernel_rfl) (fun _ _ _ h => h) rfl (fun w hS => by obtain ⟨s0, s1, s2⟩ := hS; go_simp <;> omega) hS ?_
              try simp only [Act.put, List.setIfInBounds_toArray, List.set_cons_succ, List.set_cons_zero]
              refine wpAnyH_all (rs := [25]) (by kernel_rfl) (by simp) (fun y hy => ?_)
              obtain rfl : y = 25 := by simpa using hy
              clear hy
              refine wpOp_step rfl (fun K' hK => ?_)
              have cv := conv1_later (c := 1) nA
              go_simp
              refine hK _ _ ⟨hS, ?_⟩
              clear hK K' cv nA
              try simp only [Act.put, List.setIfInBounds_toArray, List.set_cons_succ, List.set_cons_zero]
              refine obTakeH (i := 26) (d := 41) (v := .string (X ++ ⟨#[4]⟩ ++ S1 ++ S2 ++ strOfNums [pr])) rfl rfl (by kernel_rfl) (by kernel_rfl) (by kernel_rfl) (fun _ _ _ h => h) rfl (fun w hS => by obtain ⟨s0, s1, s2⟩ := hS; go_simp <;> omega) hS ?_
              refine obTakeH (i := 27) (d := 4) (v := .string (X ++ ⟨#[4]⟩ ++ S1 ++ S2 ++ strOfNums [pr])) rfl rfl (by kernel_rfl) (by kernel_rfl) (by kernel_rfl) (fun _ _ _ h => h) rfl (fun w hS => by obtain ⟨s0, s1, s2⟩ := hS; go_simp) hS ?_
              try simp only [Act.put, List.setIfInBounds_toArray, List.set_cons_succ, List.set_cons_zero]
              refine wpAnyH_done (by kernel_rfl) ?_ 0
              have NN := Lib.hid (NX.out wc6 BB)
              clear BB hS NX KS B1 B2
              go_wp2_with fail
              go_roundg (M - (i + 1))
              case measure => omega
              case rel => exact ⟨i + 1, by omega, by simp, by rw [FIN.out], NN⟩
            · refine wpOp_step rfl (fun K' hK => ?_)
              have cv := conv1_later (c := 1) nA
              go_simp
              refine hK _ _ ⟨hS, ?_⟩
              clear hK K' cv nA
              try simp only [Act.put, List.setIfInBounds_toArray, List.set_cons_succ, List.set_cons_zero]
              refine wpAnyH_all (rs := [16]) (by kernel_rfl) (by simp) (fun y hy => ?_)
              obtain rfl : y = 16 := by simpa using hy
              clear hy
              refine wpOp_step rfl (fun K' hK => ?_)
              refine obCallTC (k1 := 30) (d := 31) (x1 := .int .i64 (hh : Int)) (c := .int .i64 4) 52 _ rfl rfl _ _ _ _ (hcf _ _) rfl (B2.out _) (fun e wc9 hR => ?_)
              obtain ⟨rfl, b9⟩ := hR
              have hS9 := KS.out wc9 (BB.trans (b9.mono BB.size))
              refine ⟨_, rfl, hK _ _ ⟨hS9, ?_⟩⟩
              replace hS := hS9
              replace BB := BB.trans (b9.mono BB.size)
              clear hK K' b9 hS9
              try simp only [Act.put, List.setIfInBounds_toArray, List.set_cons_succ, List.set_cons_zero]
              refine obTakeH (i := 17) (d := 32) (v := .string (X ++ ⟨#[4]⟩ ++ S1 ++ S2)) rfl rfl (by kernel_rfl) (by kernel_rfl) (by kernel_rfl) (fun _ _ _ h => h) rfl (fun w hS => by obtain ⟨s0, s1, s2⟩ := hS; go_simp <;> omega) hS ?_
              try simp only [Act.put, List.setIfInBounds_toArray, List.set_cons_succ, List.set_cons_zero]
              refine obTakeH (i := 26) (d := 41) (v := .string (X ++ ⟨#[4]⟩ ++ S1 ++ S2 ++ strOfNums [pr])) rfl rfl (by kernel_rfl) (by kernel_rfl) (by kernel_rfl) (fun _ _ _ h => h) rfl (fun w hS => by obtain ⟨s0, s1, s2⟩ := hS; go_simp <;> omega) hS ?_
              refine obTakeH (i := 27) (d := 4) (v := .string (X ++ ⟨#[4]⟩ ++ S1 ++ S2 ++ strOfNums [pr])) rfl rfl (by kernel_rfl) (by kernel_rfl) (by kernel_rfl) (fun _ _ _ h => h) rfl (fun w hS => by obtain ⟨s0, s1, s2⟩ := hS; go_simp) hS ?_
              try simp only [Act.put, List.setIfInBounds_toArray, List.set_cons_succ, List.set_cons_zero]
              refine wpAnyH_done (by kernel_rfl) ?_ 0
              have NN := Lib.hid (NX.out wc9 BB)
              clear BB hS NX KS B1 B2
              go_wp2_with fail
              go_roundg (M - (i + 1))
              case measure => omega
              case rel => exact ⟨i + 1, by omega, by simp, by rw [FIN.out], NN⟩
        · refine wpOp_step rfl (fun K' hK => ?_)
          have BA10 := BB.alloc BB.size (.cells #[.int .u8 pr] 5)
          have hS10 := KS.out _ BA10
          have nA : (wd.alloc (.cells #[.int .u8 pr] 5)).cell? ⟨wd.heap.size, 0, none⟩ = some (.int .u8 pr) := World.cell?_alloc_new _ _ _ 0
          go_simp
          refine hK _ _ ⟨hS10, ?_⟩
          clear hK K'
          replace hS := hS10
          replace BB := BA10
          clear hS10 BA10
          generalize wd.alloc (.cells #[.int .u8 pr] 5) = wa10 at *
          generalize wd.heap.size = KB10 at *
          try simp only [Act.put, List.setIfInBounds_toArray, List.set_cons_succ, List.set_cons_zero]
          refine wpAnyH_all (rs := [8, 25]) (by kernel_rfl) (by simp) (fun y hy => ?_)
          have hy2 : y = 8 ∨ y = 25 := by simpa using hy
          clear hy
          rcases hy2 with rfl | rfl
          · refine wpOp_step rfl (fun K' hK => ?_)
            refine obCallTC (k1 := 22) (d := 23) (x1 := .int .i64 (lo : Int)) (c := .int .i64 4) 52 _ rfl rfl _ _ _ _ (hcf _ _) rfl (B1.out _) (fun e wc11 hR => ?_)
            obtain ⟨rfl, b11⟩ := hR
            have hS11 := KS.out wc11 (BB.trans (b11.mono BB.size))
            refine ⟨_, rfl, hK _ _ ⟨hS11, ?_⟩⟩
            replace hS := hS11
            replace BB := BB.trans (b11.mono BB.size)
            replace nA := byte_keep b11 _ nA
            clear hK K' b11 hS11
            try simp only [Act.put, List.setIfInBounds_toArray, List.set_cons_succ, List.set_cons_zero]
            refine obTakeH (i := 9) (d := 24) (v := .string (X ++ ⟨#[4]⟩ ++ S1)) rfl rfl (by kernel_rfl) (by kernel_rfl) (by kernel_rfl) (fun _ _ _ h => h) rfl (fun w hS => by obtain ⟨s0, s1, s2⟩ := hS; go_simp <;> omega) hS ?_
            try simp only [Act.put, List.setIfInBounds_toArray, List.set_cons_succ, List.set_cons_zero]
            refine wpAnyH_all (rs := [16, 25]) (by kernel_rfl) (by simp) (fun y hy => ?_)
            have hy2 : y = 16 ∨ y = 25 := by simpa using hy
            clear hy
            rcases hy2 with rfl | rfl
            · refine wpOp_step rfl (fun K' hK => ?_)
              refine obCallTC (k1 := 30) (d := 31) (x1 := .int .i64 (hh : Int)) (c := .int .i64 4) 52 _ rfl rfl _ _ _ _ (hcf _ _) rfl (B2.out _) (fun e wc12 hR => ?_)
              obtain ⟨rfl, b12⟩ := hR
              have hS12 := KS.out wc12 (BB.trans (b12.mono BB.size))
              refine ⟨_, rfl, hK _ _ ⟨hS12, ?_⟩⟩
              replace hS := hS12
              replace BB := BB.trans (b12.mono BB.size)
              replace nA := byte_keep b12 _ nA
              clear hK K' b12 hS12
              try simp only [Act.put, List.setIfInBounds_toArray, List.set_cons_succ, List.set_cons_zero]
              refine obTakeH (i := 17) (d := 32) (v := .string (X ++ ⟨#[4]⟩ ++ S1 ++ S2)) rfl rfl (by kernel_rfl) (by kernel_rfl) (by kernel_rfl) (fun _ _ _ h => h) rfl (fun w hS => by obtain ⟨s0, s1, s2⟩ := hS; go_simp <;> omega) hS ?_
              try simp only [Act.put, List.setIfInBounds_toArray, List.set_cons_succ, List.set_cons_zero]
              refine wpAnyH_all (rs := [25]) (by kernel_rfl) (by simp) (fun y hy => ?_)
              obtain rfl : y = 25 := by simpa using hy
              clear hy
              refine wpOp_step rfl (fun K' hK => ?_)
              have cv := conv1_later (c := 1) nA
              go_simp
              refine hK _ _ ⟨hS, ?_⟩
              clear hK K' cv nA
              try simp only [Act.put, List.setIfInBounds_toArray, List.set_cons_succ, List.set_cons_zero]
              refine obTakeH (i := 26) (d := 41) (v := .string (X ++ ⟨#[4]⟩ ++ S1 ++ S2 ++ strOfNums [pr])) rfl rfl (by kernel_rfl) (by kernel_rfl) (by kernel_rfl) (fun _ _ _ h => h) rfl (fun w hS => by obtain ⟨s0, s1, s2⟩ := hS; go_simp <;> omega) hS ?_
              refine obTakeH (i := 27) (d := 4) (v := .string (X ++ ⟨#[4]⟩ ++ S1 ++ S2 ++ strOfNums [pr])) rfl rfl (by kernel_rfl) (by kernel_rfl) (by kernel_rfl) (fun _ _ _ h => h) rfl (fun w hS => by obtain ⟨s0, s1, s2⟩ := hS; go_simp) hS ?_
              try simp only [Act.put, List.setIfInBounds_toArray, List.set_cons_succ, List.set_cons_zero]
              refine wpAnyH_done (by kernel_rfl) ?_ 0
              have NN := Lib.hid (NX.out wc12 BB)
              clear BB hS NX KS B1 B2
              go_wp2_with fail
              go_roundg (M - (i + 1))
              case measure => omega
              case rel => exact ⟨i + 1, by omega, by simp, by rw [FIN.out], NN⟩
            · refine wpOp_step rfl (fun K' hK => ?_)
              have cv := conv1_later (c := 1) nA
              go_simp
              refine hK _ _ ⟨hS, ?_⟩
              clear hK K' cv nA
              try simp only [Act.put, List.setIfInBounds_toArray, List.set_cons_succ, List.set_cons_zero]
              refine wpAnyH_all (rs := [16]) (by kernel_rfl) (by simp) (fun y hy => ?_)
              obtain rfl : y = 16 := by simpa using hy
              clear hy
              refine wpOp_step rfl (fun K' hK => ?_)
              refine obCallTC (k1 := 30) (d := 31) (x1 := .int .i64 (hh : Int)) (c := .int .i64 4) 52 _ rfl rfl _ _ _ _ (hcf _ _) rfl (B2.out _) (fun e wc15 hR => ?_)
              obtain ⟨rfl, b15⟩ := hR
              have hS15 := KS.out wc15 (BB.trans (b15.mono BB.size))
              refine ⟨_, rfl, hK _ _ ⟨hS15, ?_⟩⟩
              replace hS := hS15
              replace BB := BB.trans (b15.mono BB.size)
              clear hK K' b15 hS15
              try simp only [Act.put, List.setIfInBounds_toArray, List.set_cons_succ, List.set_cons_zero]
              refine obTakeH (i := 17) (d := 32) (v := .string (X ++ ⟨#[4]⟩ ++ S1 ++ S2)) rfl rfl (by kernel_rfl) (by kernel_rfl) (by kernel_rfl) (fun _ _ _ h => h) rfl (fun w hS => by obtain ⟨s0, s1, s2⟩ := hS; go_simp <;> omega) hS ?_
              try simp only [Act.put, List.setIfInBounds_toArray, List.set_cons_succ, List.set_cons_zero]
              refine obTakeH (i := 26) (d := 41) (v := .string (X ++ ⟨#[4]⟩ ++ S1 ++ S2 ++ strOfNums [pr])) rfl rfl (by kernel_rfl) (by kernel_rfl) (by kernel_rfl) (fun _ _ _ h => h) rfl (fun w hS => by obtain ⟨s0, s1, s2⟩ := hS; go_simp <;> omega) hS ?_
              refine obTakeH (i := 27) (d := 4) (v := .string (X ++ ⟨#[4]⟩ ++ S1 ++ S2 ++ strOfNums [pr])) rfl rfl (by kernel_rfl) (by kernel_rfl) (by kernel_rfl) (fun _ _ _ h => h) rfl (fun w hS => by obtain ⟨s0, s1, s2⟩ := hS; go_simp) hS ?_
              try simp only [Act.put, List.setIfInBounds_toArray, List.set_cons_succ, List.set_cons_zero]
              refine wpAnyH_done (by kernel_rfl) ?_ 0
              have NN := Lib.hid (NX.out wc15 BB)
              clear BB hS NX KS B1 B2
              go_wp2_with fail
              go_roundg (M - (i + 1))
              case measure => omega
              case rel => exact ⟨i + 1, by omega, by simp, by rw [FIN.out], NN⟩
          · refine wpOp_step rfl (fun K' hK => ?_)
            have cv := conv1_later (c := 1) nA
            go_simp
            refine hK _ _ ⟨hS, ?_⟩
            clear hK K' cv nA
            try simp only [Act.put, List.setIfInBounds_toArray, List.set_cons_succ, List.set_cons_zero]
            refine wpAnyH_all (rs := [8]) (by kernel_rfl) (by simp) (fun y hy => ?_)
            obtain rfl : y = 8 := by simpa using hy
            clear hy
            refine wpOp_step rfl (fun K' hK => ?_)
            refine obCallTC (k1 := 22) (d := 23) (x1 := .int .i64 (lo : Int)) (c := .int .i64 4) 52 _ rfl rfl _ _ _ _ (hcf _ _) rfl (B1.out _) (fun e wc17 hR => ?_)
            obtain ⟨rfl, b17⟩ := hR
            have hS17 := KS.out wc17 (BB.trans (b17.mono BB.size))
            refine ⟨_, rfl, hK _ _ ⟨hS17, ?_⟩⟩
            replace hS := hS17
            replace BB := BB.trans (b17.mono BB.size)
            clear hK K' b17 hS17
            try simp only [Act.put, List.setIfInBounds_toArray, List.set_cons_succ, List.set_cons_zero]
            refine obTakeH (i := 9) (d := 24) (v := .string (X ++ ⟨#[4]⟩ ++ S1)) rfl rfl (by kernel_rfl) (by kernel_rfl) (by kernel_rfl) (fun _ _ _ h => h) rfl (fun w hS => by obtain ⟨s0, s1, s2⟩ := hS; go_simp <;> omega) hS ?_
            try simp only [Act.put, List.setIfInBounds_toArray, List.set_cons_succ, List.set_cons_zero]
            refine wpAnyH_all (rs := [16]) (by kernel_rfl) (by simp) (fun y hy => ?_)
            obtain rfl : y = 16 := by simpa using hy
            clear hy
            refine wpOp_step rfl (fun K' hK => ?_)
            refine obCallTC (k1 := 30) (d := 31) (x1 := .int .i64 (hh : Int)) (c := .int .i64 4) 52 _ rfl rfl _ _ _ _ (hcf _ _) rfl (B2.out _) (fun e wc18 hR => ?_)
            obtain ⟨rfl, b18⟩ := hR
            have hS18 := KS.out wc18 (BB.trans (b18.mono BB.size))
            refine ⟨_, rfl, hK _ _ ⟨hS18, ?_⟩⟩
            replace hS := hS18
            replace BB := BB.trans (b18.mono BB.size)
            clear hK K' b18 hS18
            try simp only [Act.put, List.setIfInBounds_toArray, List.set_cons_succ, List.set_cons_zero]
            refine obTakeH (i := 17) (d := 32) (v := .string (X ++ ⟨#[4]⟩ ++ S1 ++ S2)) rfl rfl (by kernel_rfl) (by kernel_rfl) (by kernel_rfl) (fun _ _ _ h => h) rfl (fun w hS => by obtain ⟨s0, s1, s2⟩ := hS; go_simp <;> omega) hS ?_
            try simp only [Act.put, List.setIfInBounds_toArray, List.set_cons_succ, List.set_cons_zero]
            refine obTakeH (i := 26) (d := 41) (v := .string (X ++ ⟨#[4]⟩ ++ S1 ++ S2 ++ strOfNums [pr])) rfl rfl (by kernel_rfl) (by kernel_rfl) (by kernel_rfl) (fun _ _ _ h => h) rfl (fun w hS => by obtain ⟨s0, s1, s2⟩ := hS; go_simp <;> omega) hS ?_
            refine obTakeH (i := 27) (d := 4) (v := .string (X ++ ⟨#[4]⟩ ++ S1 ++ S2 ++ strOfNums [pr])) rfl rfl (by kernel_rfl) (by kernel_rfl) (by kernel_rfl) (fun _ _ _ h => h) rfl (fun w hS => by obtain ⟨s0, s1, s2⟩ := hS; go_simp) hS ?_
            try simp only [Act.put, List.setIfInBounds_toArray, List.set_cons_succ, List.set_cons_zero]
            refine wpAnyH_done (by kernel_rfl) ?_ 0
            have NN := Lib.hid (NX.out wc18 BB)
            clear BB hS NX KS B1 B2
            go_wp2_with fail
            go_roundg (M - (i + 1))
            case measure => omega
            case rel => exact ⟨i + 1, by omega, by simp, by rw [FIN.out], NN⟩
      · have e : l.take i = l := List.take_of_length_le (by have := hM.out; omega)
        have E : strL ((l.take i).flatMap roB) = OUT := by rw [e, hOUT.out]
        rw [E]
        clear CC HB OK E
        go_wp2_with fail
        go_ret2
        exact ⟨rfl, ZZ.out⟩
end Go.Proofs.YtihkbakbciejiaaDoor
namespace Go.Proofs.YtihkbakbciejiaaDoor
set_option maxRecDepth 100000
open Go.RowKit Go.Sort

set_option maxHeartbeats 16000000 in
theorem rasg16_ok (v : Value) (l : List Ad) (w : World) (hv : RowAt 3 adc nA w v l) (hl : l.length * 24 ≤ 140737488351232) (hb : ∀ x ∈ l, x.addr < 4294967296) :
    Calls Tryd.prog 26 #[v] w fun e w' => e = .returned (.string (strL (asgL l))) ∧ Below w.heap.size w w' := by
  obtain ⟨a, cap, rfl, -, hc⟩ := hv
  obtain ⟨M, hM⟩ : ∃ M, M = l.length := ⟨_, rfl⟩
  have CC := Lib.hid hc
  have HB := Lib.hid hb
  rw [← hM] at hl CC ⊢
  replace hM := Lib.hid hM
  clear hc hb
  have hcf : ∀ (x y : Value) (w : World), (callFunc 52 #[x, y]).run Tryd.prog w = .ok (.enter 52 #[x, y]) w := fun x y w => by simp [go_sem]
  have hcp : ∀ (x : Value) (w : World), (callFunc 35 #[x]).run Tryd.prog w = .ok (.enter 35 #[x]) w := fun x w => by simp [go_sem]
  obtain ⟨OUT, hOUT⟩ : ∃ OUT, OUT = strL (asgL l) := ⟨_, rfl⟩
  rw [← hOUT]
  replace hOUT := Lib.hid hOUT
  go_enter Tryd.func26, Tryd.ntmps26
  go_wp2_with fail
  go_loopg [3, 4] M (fun g sv iv wr => ∃ i : Nat, i + g = M ∧ iv = .int .i64 (i : Int) ∧ sv = .string (strL ((l.take i).flatMap adB)) ∧ Hid ((∀ a ∈ l.take i, numI a.id ∧ adRt a = true) ∧ Below w.heap.size w wr))
  case atStart => exact ⟨0, by omega, rfl, rfl, ⟨(fun a h => by rw [List.take_zero] at h; cases h), Below.refl _ _⟩⟩
  case round =>
    obtain ⟨i, hi, rfl, rfl, ZI⟩ := hrel
    by_cases hin : i < M
    · have il : i < l.length := by have := hM.out; omega
      obtain ⟨g, o, rfl, hgw, cs⟩ := CC.out i hin
      have xin := getD_in l nA i il
      have hadr := HB.out _ xin
      have tk := take_next l nA i il
      obtain ⟨x, hx⟩ : ∃ x, x = l.getD i nA := ⟨_, rfl⟩
      rw [← hx] at cs hadr tk xin
      obtain ⟨id, ad, bi⟩ := x
      simp only at hadr
      have KW : Hid (∀ w', Below w.heap.size w w' → w'.cell? ⟨g, o + 3 * i, none⟩ = some (.int .i64 id) ∧ w'.cell? ⟨g, o + 3 * i + 1, none⟩ = some (.int .u32 (ad : Int)) ∧ w'.cell? ⟨g, o + 3 * i + 2, none⟩ = some (.int .i64 bi)) := fun w' bb => ⟨(bb.cell hgw).trans (cs 0 (by decide)), (bb.cell hgw).trans (cs 1 (by decide)), (bb.cell hgw).trans (cs 2 (by decide))⟩
      have BAD : Hid (¬ (numI id ∧ adRt ⟨id, ad, bi⟩ = true) → OUT = ⟨#[]⟩) := fun h => by rw [hOUT.out, asg_bad xin h]; rfl
      have ia := fun w' => at_rad g o M cap i w' hin (i : Int) rfl (o + 3 * i) rfl
      have ZZ := Lib.hid ZI.out.2
      have OKS := Lib.hid ZI.out.1
      obtain ⟨k0, k1, k2⟩ := KW.out wr ZZ.out
      have RN := Lib.hid (rnum_ok id wr)
      have CK := Lib.hid (rcheck_ok (ad : Int) bi wr (by omega) (by omega))
      unfold pv at CK
      have zX : (strL ((l.take i).flatMap adB)).size ≤ 14 * i := by
        rw [strL_size]
        have := adF_len (l.take i)
        rw [List.length_take] at this
        omega
      clear cs hx CC HB ZI xin
      by_cases hn : numI id
      · rw [decide_eq_true hn] at RN
        go_wp2_with fail
        refine RN.out.mono ?_
        rintro e w2 ⟨rfl, rfl⟩
        clear RN
        go_wp2_with fail
        refine CK.out.mono ?_
        rintro e w2 ⟨rfl, b2⟩
        have Z2 := Lib.hid (ZZ.out.trans (b2.mono ZZ.out.size))
        clear CK b2 ZZ k0 k1 k2
        cases hrt : rt (ad : Int) bi with
        | false =>
          have E := Lib.hid (BAD.out (fun c => by have h2 : rt (ad : Int) bi = true := c.2; rw [hrt] at h2; cases h2))
          clear BAD hrt tk OKS KW
          go_wp2_with fail
          go_ret
          exact ⟨by rw [E.out]; rfl, Z2.out⟩
        | true =>
          have hbi := rt_bits hrt
          have OK2 : Hid (∀ a ∈ l.take (i + 1), numI a.id ∧ adRt a = true) := fun a h => by
            rw [tk] at h
            rcases List.mem_append.1 h with h | h
            · exact OKS.out a h
            · rw [List.mem_singleton] at h
              rw [h]
              exact ⟨hn, hrt⟩
          have KS : Hid (∀ w', Below w2.heap.size w2 w' → w'.cell? ⟨g, o + 3 * i, none⟩ = some (.int .i64 id) ∧ w'.cell? ⟨g, o + 3 * i + 1, none⟩ = some (.int .u32 (ad : Int)) ∧ w'.cell? ⟨g, o + 3 * i + 2, none⟩ = some (.int .i64 bi)) := fun w' b => KW.out w' (Z2.out.trans (b.mono Z2.out.size))
          have B1 : Hid (∀ w', _) := fun w' => rputI_ok id w' hn
          have B2 : Hid (∀ w', _) := fun w' => rbytes 4 (by decide) (ad : Int) w' (by omega) (by omega)
          have z1 := putI_len id
          have z2 : (strOfNums (digs (ad : Int) 4)).size = 4 := by rw [strOfNums_size, digs_length]
          have z3 : (strOfNums [bi]).size = 1 := strOfNums_size _
          have FIN : Hid (strL ((l.take i).flatMap adB) ++ strL (putI id) ++ ⟨#[4]⟩ ++ strOfNums (digs (ad : Int) 4) ++ strOfNums [bi] = strL ((l.take (i + 1)).flatMap adB)) := by
            unfold Hid
            rw [digs_b4 ad hadr, one_b8 bi, tk, List.flatMap_append, show (⟨#[4]⟩ : ByteArray) = strL [4] from rfl, strL_append, strL_append, strL_append, strL_append]
            simp [adB]
          obtain ⟨X, hX⟩ : ∃ X, X = strL ((l.take i).flatMap adB) := ⟨_, rfl⟩
          rw [← hX] at zX FIN
          have w2' : IntKind.i64.wrap (ad : Int) = (ad : Int) := by rw [IntKind.wrap_i64]; omega
          have w3' : IntKind.u8.wrap bi = bi := by rw [IntKind.wrap_u8]; omega
          have BB : Below w2.heap.size w2 w2.drew := drewB _ _
          have hS := KS.out _ BB
          have NX : Hid (∀ w', Below w2.heap.size w2 w' → Below w.heap.size w w') := fun w' b => Z2.out.trans (b.mono Z2.out.size)
          obtain ⟨S1, hS1⟩ : ∃ S1, S1 = strL (putI id) := ⟨_, rfl⟩
          obtain ⟨S2, hS2⟩ : ∃ S2, S2 = strOfNums (digs (ad : Int) 4) := ⟨_, rfl⟩
          rw [← hS1] at B1 z1 FIN
          rw [← hS2] at B2 z2 FIN
          have hXz : X.size ≤ 1000000000000000 := by omega
          have h2z : S2.size ≤ 4 := by omega
          replace hS1 := Lib.hid hS1
          replace hS2 := Lib.hid hS2
          replace z2 := Lib.hid z2
          clear BAD hrt tk OKS KW Z2
          go_upto_region 7 with fail
          rw [← hX]
          replace hX := Lib.hid hX
          refine wp_region_held (S := fun w' => w'.cell? ⟨g, o + 3 * i, none⟩ = some (.int .i64 id) ∧ w'.cell? ⟨g, o + 3 * i + 1, none⟩ = some (.int .u32 (ad : Int)) ∧ w'.cell? ⟨g, o + 3 * i + 2, none⟩ = some (.int .i64 bi)) (by kernel_rfl) ?_
          change wpAnyH _ .any _ _ _ 29 (Array.replicate 29 false) _ w2.drew
          generalize w2.drew = wd at *
          refine obTakeH (i := 0) (d := 27) (v := .string X) rfl rfl (by kernel_rfl) (by kernel_rfl) (by kernel_rfl) (fun _ _ _ h => h) rfl (fun w hS => by obtain ⟨s0, s1, s2⟩ := hS; go_simp) hS ?_
          refine obTakeH (i := 1) (d := 28) (v := .slice (some ⟨g, o, none⟩) M cap) rfl rfl (by kernel_rfl) (by kernel_rfl) (by kernel_rfl) (fun _ _ _ h => h) rfl (fun w hS => by obtain ⟨s0, s1, s2⟩ := hS; go_simp) hS ?_
          refine obTakeH (i := 2) (d := 29) (v := .int .i64 (i : Int)) rfl rfl (by kernel_rfl) (by kernel_rfl) (by kernel_rfl) (fun _ _ _ h => h) rfl (fun w hS => by obtain ⟨s0, s1, s2⟩ := hS; go_simp) hS ?_
          refine obTakeH (i := 3) (d := 30) (v := .pointer (some ⟨g, o + 3 * i, none⟩)) rfl rfl (by kernel_rfl) (by kernel_rfl) (by kernel_rfl) (fun _ _ _ h => h) rfl (fun w hS => by obtain ⟨s0, s1, s2⟩ := hS; go_simp) hS ?_
          refine obTakeH (i := 4) (d := 31) (v := .pointer (some ⟨g, o + 3 * i, none⟩)) rfl rfl (by kernel_rfl) (by kernel_rfl) (by kernel_rfl) (fun _ _ _ h => h) rfl (fun w hS => by obtain ⟨s0, s1, s2⟩ := hS; go_simp) hS ?_
          try simp only [Act.put, List.setIfInBounds_toArray, List.set_cons_succ, List.set_cons_zero]
          refine obTakeH (i := 5) (d := 32) (v := .int .i64 id) rfl rfl (by kernel_rfl) (by kernel_rfl) (by kernel_rfl) (fun _ _ _ h => h) rfl (fun w hS => by obtain ⟨s0, s1, s2⟩ := hS; go_simp) hS ?_
          refine obTakeH (i := 9) (d := 36) (v := .slice (some ⟨g, o, none⟩) M cap) rfl rfl (by kernel_rfl) (by kernel_rfl) (by kernel_rfl) (fun _ _ _ h => h) rfl (fun w hS => by obtain ⟨s0, s1, s2⟩ := hS; go_simp) hS ?_
          refine obTakeH (i := 10) (d := 37) (v := .int .i64 (i : Int)) rfl rfl (by kernel_rfl) (by kernel_rfl) (by kernel_rfl) (fun _ _ _ h => h) rfl (fun w hS => by obtain ⟨s0, s1, s2⟩ := hS; go_simp) hS ?_
          refine obTakeH (i := 11) (d := 38) (v := .pointer (some ⟨g, o + 3 * i, none⟩)) rfl rfl (by kernel_rfl) (by kernel_rfl) (by kernel_rfl) (fun _ _ _ h => h) rfl (fun w hS => by obtain ⟨s0, s1, s2⟩ := hS; go_simp) hS ?_
          refine obTakeH (i := 12) (d := 39) (v := .pointer (some ⟨g, o + 3 * i + 1, none⟩)) rfl rfl (by kernel_rfl) (by kernel_rfl) (by kernel_rfl) (fun _ _ _ h => h) rfl (fun w hS => by obtain ⟨s0, s1, s2⟩ := hS; go_simp) hS ?_
          try simp only [Act.put, List.setIfInBounds_toArray, List.set_cons_succ, List.set_cons_zero]
          refine obTakeH (i := 13) (d := 40) (v := .pointer (some ⟨g, o + 3 * i + 1, none⟩)) rfl rfl (by kernel_rfl) (by kernel_rfl) (by kernel_rfl) (fun _ _ _ h => h) rfl (fun w hS => by obtain ⟨s0, s1, s2⟩ := hS; go_simp) hS ?_
          refine obTakeH (i := 14) (d := 41) (v := .int .u32 (ad : Int)) rfl rfl (by kernel_rfl) (by kernel_rfl) (by kernel_rfl) (fun _ _ _ h => h) rfl (fun w hS => by obtain ⟨s0, s1, s2⟩ := hS; go_simp) hS ?_
          refine obTakeH (i := 15) (d := 42) (v := .int .i64 (ad : Int)) rfl rfl (by kernel_rfl) (by kernel_rfl) (by kernel_rfl) (fun _ _ _ h => h) rfl (fun w hS => by obtain ⟨s0, s1, s2⟩ := hS; go_simp) hS ?_
          refine obTakeH (i := 18) (d := 45) (v := .slice (some ⟨g, o, none⟩) M cap) rfl rfl (by kernel_rfl) (by kernel_rfl) (by kernel_rfl) (fun _ _ _ h => h) rfl (fun w hS => by obtain ⟨s0, s1, s2⟩ := hS; go_simp) hS ?_
          refine obTakeH (i := 19) (d := 46) (v := .int .i64 (i : Int)) rfl rfl (by kernel_rfl) (by kernel_rfl) (by kernel_rfl) (fun _ _ _ h => h) rfl (fun w hS => by obtain ⟨s0, s1, s2⟩ := hS; go_simp) hS ?_
          try simp only [Act.put, List.setIfInBounds_toArray, List.set_cons_succ, List.set_cons_zero]
          refine obTakeH (i := 20) (d := 47) (v := .pointer (some ⟨g, o + 3 * i, none⟩)) rfl rfl (by kernel_rfl) (by kernel_rfl) (by kernel_rfl) (fun _ _ _ h => h) rfl (fun w hS => by obtain ⟨s0, s1, s2⟩ := hS; go_simp) hS ?_
          refine obTakeH (i := 21) (d := 48) (v := .pointer (some ⟨g, o + 3 * i + 1, none⟩)) rfl rfl (by kernel_rfl) (by kernel_rfl) (by kernel_rfl) (fun _ _ _ h => h) rfl (fun w hS => by obtain ⟨s0, s1, s2⟩ := hS; go_simp) hS ?_
          refine obTakeH (i := 22) (d := 49) (v := .pointer (some ⟨g, o + 3 * i + 2, none⟩)) rfl rfl (by kernel_rfl) (by kernel_rfl) (by kernel_rfl) (fun _ _ _ h => h) rfl (fun w hS => by obtain ⟨s0, s1, s2⟩ := hS; go_simp) hS ?_
          refine obTakeH (i := 23) (d := 50) (v := .int .i64 bi) rfl rfl (by kernel_rfl) (by kernel_rfl) (by kernel_rfl) (fun _ _ _ h => h) rfl (fun w hS => by obtain ⟨s0, s1, s2⟩ := hS; go_simp) hS ?_
          refine obTakeH (i := 24) (d := 51) (v := .int .u8 bi) rfl rfl (by kernel_rfl) (by kernel_rfl) (by kernel_rfl) (fun _ _ _ h => h) rfl (fun w hS => by obtain ⟨s0, s1, s2⟩ := hS; go_simp) hS ?_
          try simp only [Act.put, List.setIfInBounds_toArray, List.set_cons_succ, List.set_cons_zero]
          try simp only [Act.put, List.setIfInBounds_toArray, List.set_cons_succ, List.set_cons_zero]
          refine wpAnyH_all (rs := [6, 25]) (by kernel_rfl) (by simp) (fun y hy => ?_)
          have hy2 : y = 6 ∨ y = 25 := by simpa using hy
          clear hy
          rcases hy2 with rfl | rfl
          · refine wpOp_step rfl (fun K' hK => ?_)
            refine obCall1g (k1 := 32) (d := 33) (x1 := .int .i64 id) 35 _ rfl rfl _ _ _ _ (hcp _) rfl (B1.out _) (fun e wc1 hR => ?_)
            obtain ⟨rfl, b1⟩ := hR
            have hS1 := KS.out wc1 (BB.trans (b1.mono BB.size))
            refine ⟨_, rfl, hK _ _ ⟨hS1, ?_⟩⟩
            replace hS := hS1
            replace BB := BB.trans (b1.mono BB.size)
            clear hK K' b1 hS1
            try simp only [Act.put, List.setIfInBounds_toArray, List.set_cons_succ, List.set_cons_zero]
            refine obTakeH (i := 7) (d := 34) (v := .string (X ++ S1)) rfl rfl (by kernel_rfl) (by kernel_rfl) (by kernel_rfl) (fun _ _ _ h => h) rfl (fun w hS => by obtain ⟨s0, s1, s2⟩ := hS; go_simp <;> omega) hS ?_
            refine obTakeH (i := 8) (d := 35) (v := .string (X ++ S1 ++ ⟨#[4]⟩)) rfl rfl (by kernel_rfl) (by kernel_rfl) (by kernel_rfl) (fun _ _ _ h => h) rfl (fun w hS => by obtain ⟨s0, s1, s2⟩ := hS; go_simp <;> omega) hS ?_
            try simp only [Act.put, List.setIfInBounds_toArray, List.set_cons_succ, List.set_cons_zero]
            refine wpAnyH_all (rs := [16, 25]) (by kernel_rfl) (by simp) (fun y hy => ?_)
            have hy2 : y = 16 ∨ y = 25 := by simpa using hy
            clear hy
            rcases hy2 with rfl | rfl
            · refine wpOp_step rfl (fun K' hK => ?_)
              refine obCallTC (k1 := 42) (d := 43) (x1 := .int .i64 (ad : Int)) (c := .int .i64 4) 52 _ rfl rfl _ _ _ _ (hcf _ _) rfl (B2.out _) (fun e wc2 hR => ?_)
              obtain ⟨rfl, b2⟩ := hR
              have hS2 := KS.out wc2 (BB.trans (b2.mono BB.size))
              refine ⟨_, rfl, hK _ _ ⟨hS2, ?_⟩⟩
              replace hS := hS2
              replace BB := BB.trans (b2.mono BB.size)
              clear hK K' b2 hS2
              try simp only [Act.put, List.setIfInBounds_toArray, List.set_cons_succ, List.set_cons_zero]
              refine obTakeH (i := 17) (d := 44) (v := .string (X ++ S1 ++ ⟨#[4]⟩ ++ S2)) rfl rfl (by kernel_rfl) (by kernel_rfl) (by kernel_rfl) (fun _ _ _ h => h) rfl (fun w hS => by obtain ⟨s0, s1, s2⟩ := hS; go_simp <;> omega) hS ?_
              try simp only [Act.put, List.setIfInBounds_toArray, List.set_cons_succ, List.set_cons_zero]
              refine wpAnyH_all (rs := [25]) (by kernel_rfl) (by simp) (fun y hy => ?_)
              obtain rfl : y = 25 := by simpa using hy
              clear hy
              refine wpOp_step rfl (fun K' hK => ?_)
              have BA3 := BB.alloc BB.size (.cells #[.int .u8 bi] 5)
              have hS3 := KS.out _ BA3
              have nA : (wc2.alloc (.cells #[.int .u8 bi] 5)).cell? ⟨wc2.heap.size, 0, none⟩ = some (.int .u8 bi) := World.cell?_alloc_new _ _ _ 0
              go_simp
              refine hK _ _ ⟨hS3, ?_⟩
              clear hK K'
              replace hS := hS3
              replace BB := BA3
              clear hS3 BA3
              generalize wc2.alloc (.cells #[.int .u8 bi] 5) = wa3 at *
              generalize wc2.heap.size = KB3 at *
              try simp only [Act.put, List.setIfInBounds_toArray, List.set_cons_succ, List.set_cons_zero]
              refine wpAnyH_all (rs := [26]) (by kernel_rfl) (by simp) (fun y hy => ?_)
              obtain rfl : y = 26 := by simpa using hy
              clear hy
              refine wpOp_step rfl (fun K' hK => ?_)
              have cv := conv1_later (c := 1) nA
              go_simp
              refine hK _ _ ⟨hS, ?_⟩
              clear hK K' cv nA
              try simp only [Act.put, List.setIfInBounds_toArray, List.set_cons_succ, List.set_cons_zero]
              refine obTakeH (i := 27) (d := 54) (v := .string (X ++ S1 ++ ⟨#[4]⟩ ++ S2 ++ strOfNums [bi])) rfl rfl (by kernel_rfl) (by kernel_rfl) (by kernel_rfl) (fun _ _ _ h => h) rfl (fun w hS => by obtain ⟨s0, s1, s2⟩ := hS; go_simp <;> omega) hS ?_
              refine obTakeH (i := 28) (d := 3) (v := .string (X ++ S1 ++ ⟨#[4]⟩ ++ S2 ++ strOfNums [bi])) rfl rfl (by kernel_rfl) (by kernel_rfl) (by kernel_rfl) (fun _ _ _ h => h) rfl (fun w hS => by obtain ⟨s0, s1, s2⟩ := hS; go_simp) hS ?_
              try simp only [Act.put, List.setIfInBounds_toArray, List.set_cons_succ, List.set_cons_zero]
              refine wpAnyH_done (by kernel_rfl) ?_ 0
              have NN := Lib.hid (And.intro OK2.out (NX.out wa3 BB))
              clear BB hS NX KS B1 B2 OK2
              go_wp2_with fail
              go_roundg (M - (i + 1))
              case measure => omega
              case rel => exact ⟨i + 1, by omega, by simp, by rw [FIN.out], NN⟩
            · refine wpOp_step rfl (fun K' hK => ?_)
              have BA5 := BB.alloc BB.size (.cells #[.int .u8 bi] 5)
              have hS5 := KS.out _ BA5
              have nA : (wc1.alloc (.cells #[.int .u8 bi] 5)).cell? ⟨wc1.heap.size, 0, none⟩ = some (.int .u8 bi) := World.cell?_alloc_new _ _ _ 0
              go_simp
              refine hK _ _ ⟨hS5, ?_⟩
              clear hK K'
              replace hS := hS5
              replace BB := BA5
              clear hS5 BA5
              generalize wc1.alloc (.cells #[.int .u8 bi] 5) = wa5 at *
              generalize wc1.heap.size = KB5 at *
              try simp only [Act.put, List.setIfInBounds_toArray, List.set_cons_succ, List.set_cons_zero]
              refine wpAnyH_all (rs := [16, 26]) (by kernel_rfl) (by simp) (fun y hy => ?_)
              have hy2 : y = 16 ∨ y = 26 := by simpa using hy
              clear hy
              rcases hy2 with rfl | rfl
              · refine wpOp_step rfl (fun K' hK => ?_)
                refine obCallTC (k1 := 42) (d := 43) (x1 := .int .i64 (ad : Int)) (c := .int .i64 4) 52 _ rfl rfl _ _ _ _ (hcf _ _) rfl (B2.out _) (fun e wc6 hR => ?_)
                obtain ⟨rfl, b6⟩ := hR
                have hS6 := KS.out wc6 (BB.trans (b6.mono BB.size))
                refine ⟨_, rfl, hK _ _ ⟨hS6, ?_⟩⟩
                replace hS := hS6
                replace BB := BB.trans (b6.mono BB.size)
                replace nA := byte_keep b6 _ nA
                clear hK K' b6 hS6
                try simp only [Act.put, List.setIfInBounds_toArray, List.set_cons_succ, List.set_cons_zero]
                refine obTakeH (i := 17) (d := 44) (v := .string (X ++ S1 ++ ⟨#[4]⟩ ++ S2)) rfl rfl (by kernel_rfl) (by kernel_rfl) (by kernel_rfl) (fun _ _ _ h => h) rfl (fun w hS => by obtain ⟨s0, s1, s2⟩ := hS; go_simp <;> omega) hS ?_
                try simp only [Act.put, List.setIfInBounds_toArray, List.set_cons_succ, List.set_cons_zero]
                refine wpAnyH_all (rs := [26]) (by kernel_rfl) (by simp) (fun y hy => ?_)
                obtain rfl : y = 26 := by simpa using hy
                clear hy
                refine wpOp_step rfl (fun K' hK => ?_)
                have cv := conv1_later (c := 1) nA
                go_simp
                refine hK _ _ ⟨hS, ?_⟩
                clear hK K' cv nA
                try simp only [Act.put, List.setIfInBounds_toArray, List.set_cons_succ, List.set_cons_zero]
                refine obTakeH (i := 27) (d := 54) (v := .string (X ++ S1 ++ ⟨#[4]⟩ ++ S2 ++ strOfNums [bi])) rfl rfl (by kernel_rfl) (by kernel_rfl) (by kernel_rfl) (fun _ _ _ h => h) rfl (fun w hS => by obtain ⟨s0, s1, s2⟩ := hS; go_simp <;> omega) hS ?_
                refine obTakeH (i := 28) (d := 3) (v := .string (X ++ S1 ++ ⟨#[4]⟩ ++ S2 ++ strOfNums [bi])) rfl rfl (by kernel_rfl) (by kernel_rfl) (by kernel_rfl) (fun _ _ _ h => h) rfl (fun w hS => by obtain ⟨s0, s1, s2⟩ := hS; go_simp) hS ?_
                try simp only [Act.put, List.setIfInBounds_toArray, List.set_cons_succ, List.set_cons_zero]
                refine wpAnyH_done (by kernel_rfl) ?_ 0
                have NN := Lib.hid (And.intro OK2.out (NX.out wc6 BB))
                clear BB hS NX KS B1 B2 OK2
                go_wp2_with fail
                go_roundg (M - (i + 1))
                case measure => omega
                case rel => exact ⟨i + 1, by omega, by simp, by rw [FIN.out], NN⟩
              · refine wpOp_step rfl (fun K' hK => ?_)
                have cv := conv1_later (c := 1) nA
                go_simp
                refine hK _ _ ⟨hS, ?_⟩
                clear hK K' cv nA
                try simp only [Act.put, List.setIfInBounds_toArray, List.set_cons_succ, List.set_cons_zero]
                refine wpAnyH_all (rs := [16]) (by kernel_rfl) (by simp) (fun y hy => ?_)
                obtain rfl : y = 16 := by simpa using hy
                clear hy
                refine wpOp_step rfl (fun K' hK => ?_)
                refine obCallTC (k1 := 42) (d := 43) (x1 := .int .i64 (ad : Int)) (c := .int .i64 4) 52 _ rfl rfl _ _ _ _ (hcf _ _) rfl (B2.out _) (fun e wc9 hR => ?_)
                obtain ⟨rfl, b9⟩ := hR
                have hS9 := KS.out wc9 (BB.trans (b9.mono BB.size))
                refine ⟨_, rfl, hK _ _ ⟨hS9, ?_⟩⟩
                replace hS := hS9
                replace BB := BB.trans (b9.mono BB.size)
                clear hK K' b9 hS9
                try simp only [Act.put, List.setIfInBounds_toArray, List.set_cons_succ, List.set_cons_zero]
                refine obTakeH (i := 17) (d := 44) (v := .string (X ++ S1 ++ ⟨#[4]⟩ ++ S2)) rfl rfl (by kernel_rfl) (by kernel_rfl) (by kernel_rfl) (fun _ _ _ h => h) rfl (fun w hS => by obtain ⟨s0, s1, s2⟩ := hS; go_simp <;> omega) hS ?_
                try simp only [Act.put, List.setIfInBounds_toArray, List.set_cons_succ, List.set_cons_zero]
                refine obTakeH (i := 27) (d := 54) (v := .string (X ++ S1 ++ ⟨#[4]⟩ ++ S2 ++ strOfNums [bi])) rfl rfl (by kernel_rfl) (by kernel_rfl) (by kernel_rfl) (fun _ _ _ h => h) rfl (fun w hS => by obtain ⟨s0, s1, s2⟩ := hS; go_simp <;> omega) hS ?_
                refine obTakeH (i := 28) (d := 3) (v := .string (X ++ S1 ++ ⟨#[4]⟩ ++ S2 ++ strOfNums [bi])) rfl rfl (by kernel_rfl) (by kernel_rfl) (by kernel_rfl) (fun _ _ _ h => h) rfl (fun w hS => by obtain ⟨s0, s1, s2⟩ := hS; go_simp) hS ?_
                try simp only [Act.put, List.setIfInBounds_toArray, List.set_cons_succ, List.set_cons_zero]
                refine wpAnyH_done (by kernel_rfl) ?_ 0
                have NN := Lib.hid (And.intro OK2.out (NX.out wc9 BB))
                clear BB hS NX KS B1 B2 OK2
                go_wp2_with fail
                go_roundg (M - (i + 1))
                case measure => omega
                case rel => exact ⟨i + 1, by omega, by simp, by rw [FIN.out], NN⟩
          · refine wpOp_step rfl (fun K' hK => ?_)
            have BA10 := BB.alloc BB.size (.cells #[.int .u8 bi] 5)
            have hS10 := KS.out _ BA10
            have nA : (wd.alloc (.cells #[.int .u8 bi] 5)).cell? ⟨wd.heap.size, 0, none⟩ = some (.int .u8 bi) := World.cell?_alloc_new _ _ _ 0
            go_simp
            refine hK _ _ ⟨hS10, ?_⟩
            clear hK K'
            replace hS := hS10
            replace BB := BA10
            clear hS10 BA10
            generalize wd.alloc (.cells #[.int .u8 bi] 5) = wa10 at *
            generalize wd.heap.size = KB10 at *
            try simp only [Act.put, List.setIfInBounds_toArray, List.set_cons_succ, List.set_cons_zero]
            refine wpAnyH_all (rs := [6, 26]) (by kernel_rfl) (by simp) (fun y hy => ?_)
            have hy2 : y = 6 ∨ y = 26 := by simpa using hy
            clear hy
            rcases hy2 with rfl | rfl
            · refine wpOp_step rfl (fun K' hK => ?_)
              refine obCall1g (k1 := 32) (d := 33) (x1 := .int .i64 id) 35 _ rfl rfl _ _ _ _ (hcp _) rfl (B1.out _) (fun e wc11 hR => ?_)
              obtain ⟨rfl, b11⟩ := hR
              have hS11 := KS.out wc11 (BB.trans (b11.mono BB.size))
              refine ⟨_, rfl, hK _ _ ⟨hS11, ?_⟩⟩
              replace hS := hS11
              replace BB := BB.trans (b11.mono BB.size)
              replace nA := byte_keep b11 _ nA
              clear hK K' b11 hS11
              try simp only [Act.put, List.setIfInBounds_toArray, List.set_cons_succ, List.set_cons_zero]
              refine obTakeH (i := 7) (d := 34) (v := .string (X ++ S1)) rfl rfl (by kernel_rfl) (by kernel_rfl) (by kernel_rfl) (fun _ _ _ h => h) rfl (fun w hS => by obtain ⟨s0, s1, s2⟩ := hS; go_simp <;> omega) hS ?_
              refine obTakeH (i := 8) (d := 35) (v := .string (X ++ S1 ++ ⟨#[4]⟩)) rfl rfl (by kernel_rfl) (by kernel_rfl) (by kernel_rfl) (fun _ _ _ h => h) rfl (fun w hS => by obtain ⟨s0, s1, s2⟩ := hS; go_simp <;> omega) hS ?_
              try simp only [Act.put, List.setIfInBounds_toArray, List.set_cons_succ, List.set_cons_zero]
              refine wpAnyH_all (rs := [16, 26]) (by kernel_rfl) (by simp) (fun y hy => ?_)
              have hy2 : y = 16 ∨ y = 26 := by simpa using hy
              clear hy
              rcases hy2 with rfl | rfl
              · refine wpOp_step rfl (fun K' hK => ?_)
                refine obCallTC (k1 := 42) (d := 43) (x1 := .int .i64 (ad : Int)) (c := .int .i64 4) 52 _ rfl rfl _ _ _ _ (hcf _ _) rfl (B2.out _) (fun e wc12 hR => ?_)
                obtain ⟨rfl, b12⟩ := hR
                have hS12 := KS.out wc12 (BB.trans (b12.mono BB.size))
                refine ⟨_, rfl, hK _ _ ⟨hS12, ?_⟩⟩
                replace hS := hS12
                replace BB := BB.trans (b12.mono BB.size)
                replace nA := byte_keep b12 _ nA
                clear hK K' b12 hS12
                try simp only [Act.put, List.setIfInBounds_toArray, List.set_cons_succ, List.set_cons_zero]
                refine obTakeH (i := 17) (d := 44) (v := .string (X ++ S1 ++ ⟨#[4]⟩ ++ S2)) rfl rfl (by kernel_rfl) (by kernel_rfl) (by kernel_rfl) (fun _ _ _ h => h) rfl (fun w hS => by obtain ⟨s0, s1, s2⟩ := hS; go_simp <;> omega) hS ?_
                try simp only [Act.put, List.setIfInBounds_toArray, List.set_cons_succ, List.set_cons_zero]
                refine wpAnyH_all (rs := [26]) (by kernel_rfl) (by simp) (fun y hy => ?_)
                obtain rfl : y = 26 := by simpa using hy
                clear hy
                refine wpOp_step rfl (fun K' hK => ?_)
                have cv := conv1_later (c := 1) nA
                go_simp
                refine hK _ _ ⟨hS, ?_⟩
                clear hK K' cv nA
                try simp only [Act.put, List.setIfInBounds_toArray, List.set_cons_succ, List.set_cons_zero]
                refine obTakeH (i := 27) (d := 54) (v := .string (X ++ S1 ++ ⟨#[4]⟩ ++ S2 ++ strOfNums [bi])) rfl rfl (by kernel_rfl) (by kernel_rfl) (by kernel_rfl) (fun _ _ _ h => h) rfl (fun w hS => by obtain ⟨s0, s1, s2⟩ := hS; go_simp <;> omega) hS ?_
                refine obTakeH (i := 28) (d := 3) (v := .string (X ++ S1 ++ ⟨#[4]⟩ ++ S2 ++ strOfNums [bi])) rfl rfl (by kernel_rfl) (by kernel_rfl) (by kernel_rfl) (fun _ _ _ h => h) rfl (fun w hS => by obtain ⟨s0, s1, s2⟩ := hS; go_simp) hS ?_
                try simp only [Act.put, List.setIfInBounds_toArray, List.set_cons_succ, List.set_cons_zero]
                refine wpAnyH_done (by kernel_rfl) ?_ 0
                have NN := Lib.hid (And.intro OK2.out (NX.out wc12 BB))
                clear BB hS NX KS B1 B2 OK2
                go_wp2_with fail
                go_roundg (M - (i + 1))
                case measure => omega
                case rel => exact ⟨i + 1, by omega, by simp, by rw [FIN.out], NN⟩
              · refine wpOp_step rfl (fun K' hK => ?_)
                have cv := conv1_later (c := 1) nA
                go_simp
                refine hK _ _ ⟨hS, ?_⟩
                clear hK K' cv nA
                try simp only [Act.put, List.setIfInBounds_toArray, List.set_cons_succ, List.set_cons_zero]
                refine wpAnyH_all (rs := [16]) (by kernel_rfl) (by simp) (fun y hy => ?_)
                obtain rfl : y = 16 := by simpa using hy
                clear hy
                refine wpOp_step rfl (fun K' hK => ?_)
                refine obCallTC (k1 := 42) (d := 43) (x1 := .int .i64 (ad : Int)) (c := .int .i64 4) 52 _ rfl rfl _ _ _ _ (hcf _ _) rfl (B2.out _) (fun e wc15 hR => ?_)
                obtain ⟨rfl, b15⟩ := hR
                have hS15 := KS.out wc15 (BB.trans (b15.mono BB.size))
                refine ⟨_, rfl, hK _ _ ⟨hS15, ?_⟩⟩
                replace hS := hS15
                replace BB := BB.trans (b15.mono BB.size)
                clear hK K' b15 hS15
                try simp only [Act.put, List.setIfInBounds_toArray, List.set_cons_succ, List.set_cons_zero]
                refine obTakeH (i := 17) (d := 44) (v := .string (X ++ S1 ++ ⟨#[4]⟩ ++ S2)) rfl rfl (by kernel_rfl) (by kernel_rfl) (by kernel_rfl) (fun _ _ _ h => h) rfl (fun w hS => by obtain ⟨s0, s1, s2⟩ := hS; go_simp <;> omega) hS ?_
                try simp only [Act.put, List.setIfInBounds_toArray, List.set_cons_succ, List.set_cons_zero]
                refine obTakeH (i := 27) (d := 54) (v := .string (X ++ S1 ++ ⟨#[4]⟩ ++ S2 ++ strOfNums [bi])) rfl rfl (by kernel_rfl) (by kernel_rfl) (by kernel_rfl) (fun _ _ _ h => h) rfl (fun w hS => by obtain ⟨s0, s1, s2⟩ := hS; go_simp <;> omega) hS ?_
                refine obTakeH (i := 28) (d := 3) (v := .string (X ++ S1 ++ ⟨#[4]⟩ ++ S2 ++ strOfNums [bi])) rfl rfl (by kernel_rfl) (by kernel_rfl) (by kernel_rfl) (fun _ _ _ h => h) rfl (fun w hS => by obtain ⟨s0, s1, s2⟩ := hS; go_simp) hS ?_
                try simp only [Act.put, List.setIfInBounds_toArray, List.set_cons_succ, List.set_cons_zero]
                refine wpAnyH_done (by kernel_rfl) ?_ 0
                have NN := Lib.hid (And.intro OK2.out (NX.out wc15 BB))
                clear BB hS NX KS B1 B2 OK2
                go_wp2_with fail
                go_roundg (M - (i + 1))
                case measure => omega
                case rel => exact ⟨i + 1, by omega, by simp, by rw [FIN.out], NN⟩
            · refine wpOp_step rfl (fun K' hK => ?_)
              have cv := conv1_later (c := 1) nA
              go_simp
              refine hK _ _ ⟨hS, ?_⟩
              clear hK K' cv nA
              try simp only [Act.put, List.setIfInBounds_toArray, List.set_cons_succ, List.set_cons_zero]
              refine wpAnyH_all (rs := [6]) (by kernel_rfl) (by simp) (fun y hy => ?_)
              obtain rfl : y = 6 := by simpa using hy
              clear hy
              refine wpOp_step rfl (fun K' hK => ?_)
              refine obCall1g (k1 := 32) (d := 33) (x1 := .int .i64 id) 35 _ rfl rfl _ _ _ _ (hcp _) rfl (B1.out _) (fun e wc17 hR => ?_)
              obtain ⟨rfl, b17⟩ := hR
              have hS17 := KS.out wc17 (BB.trans (b17.mono BB.size))
              refine ⟨_, rfl, hK _ _ ⟨hS17, ?_⟩⟩
              replace hS := hS17
              replace BB := BB.trans (b17.mono BB.size)
              clear hK K' b17 hS17
              try simp only [Act.put, List.setIfInBounds_toArray, List.set_cons_succ, List.set_cons_zero]
              refine obTakeH (i := 7) (d := 34) (v := .string (X ++ S1)) rfl rfl (by kernel_rfl) (by kernel_rfl) (by kernel_rfl) (fun _ _ _ h => h) rfl (fun w hS => by obtain ⟨s0, s1, s2⟩ := hS; go_simp <;> omega) hS ?_
              refine obTakeH (i := 8) (d := 35) (v := .string (X ++ S1 ++ ⟨#[4]⟩)) rfl rfl (by kernel_rfl) (by kernel_rfl) (by kernel_rfl) (fun _ _ _ h => h) rfl (fun w hS => by obtain ⟨s0, s1, s2⟩ := hS; go_simp <;> omega) hS ?_
              try simp only [Act.put, List.setIfInBounds_toArray, List.set_cons_succ, List.set_cons_zero]
              refine wpAnyH_all (rs := [16]) (by kernel_rfl) (by simp) (fun y hy => ?_)
              obtain rfl : y = 16 := by simpa using hy
              clear hy
              refine wpOp_step rfl (fun K' hK => ?_)
              refine obCallTC (k1 := 42) (d := 43) (x1 := .int .i64 (ad : Int)) (c := .int .i64 4) 52 _ rfl rfl _ _ _ _ (hcf _ _) rfl (B2.out _) (fun e wc18 hR => ?_)
              obtain ⟨rfl, b18⟩ := hR
              have hS18 := KS.out wc18 (BB.trans (b18.mono BB.size))
              refine ⟨_, rfl, hK _ _ ⟨hS18, ?_⟩⟩
              replace hS := hS18
              replace BB := BB.trans (b18.mono BB.size)
              clear hK K' b18 hS18
              try simp only [Act.put, List.setIfInBounds_toArray, List.set_cons_succ, List.set_cons_zero]
              refine obTakeH (i := 17) (d := 44) (v := .string (X ++ S1 ++ ⟨#[4]⟩ ++ S2)) rfl rfl (by kernel_rfl) (by kernel_rfl) (by kernel_rfl) (fun _ _ _ h => h) rfl (fun w hS => by obtain ⟨s0, s1, s2⟩ := hS; go_simp <;> omega) hS ?_
              try simp only [Act.put, List.setIfInBounds_toArray, List.set_cons_succ, List.set_cons_zero]
              refine obTakeH (i := 27) (d := 54) (v := .string (X ++ S1 ++ ⟨#[4]⟩ ++ S2 ++ strOfNums [bi])) rfl rfl (by kernel_rfl) (by kernel_rfl) (by kernel_rfl) (fun _ _ _ h => h) rfl (fun w hS => by obtain ⟨s0, s1, s2⟩ := hS; go_simp <;> omega) hS ?_
              refine obTakeH (i := 28) (d := 3) (v := .string (X ++ S1 ++ ⟨#[4]⟩ ++ S2 ++ strOfNums [bi])) rfl rfl (by kernel_rfl) (by kernel_rfl) (by kernel_rfl) (fun _ _ _ h => h) rfl (fun w hS => by obtain ⟨s0, s1, s2⟩ := hS; go_simp) hS ?_
              try simp only [Act.put, List.setIfInBounds_toArray, List.set_cons_succ, List.set_cons_zero]
              refine wpAnyH_done (by kernel_rfl) ?_ 0
              have NN := Lib.hid (And.intro OK2.out (NX.out wc18 BB))
              clear BB hS NX KS B1 B2 OK2
              go_wp2_with fail
              go_roundg (M - (i + 1))
              case measure => omega
              case rel => exact ⟨i + 1, by omega, by simp, by rw [FIN.out], NN⟩
      · rw [decide_eq_false hn] at RN
        have E := Lib.hid (BAD.out (fun c => hn c.1))
        clear BAD tk OKS KW CK
        go_wp2_with fail
        refine RN.out.mono ?_
        rintro e w2 ⟨rfl, rfl⟩
        clear RN
        go_wp2_with fail
        go_ret
        exact ⟨by rw [E.out]; rfl, ZZ.out⟩
    · have e : l.take i = l := List.take_of_length_le (by have := hM.out; omega)
      have h := ZI.out.1
      rw [e] at h
      have E : strL ((l.take i).flatMap adB) = OUT := by rw [e, hOUT.out, asg_ok h]
      rw [E]
      have ZZ := Lib.hid ZI.out.2
      clear CC HB E ZI e h
      go_wp2_with fail
      go_ret
      exact ⟨rfl, ZZ.out⟩
end Go.Proofs.YtihkbakbciejiaaDoor
namespace Go.Proofs.YtihkbakbciejiaaDoor
set_option maxRecDepth 100000
open Go.RowKit Go.Sort

theorem info_ror : ∃ i, Tryd.prog.info? 54 = some i ∧ i.zero = some (.agg #[.int .u32 0, .int .u32 0, .int .i64 0]) ∧ i.size = 3 ∧ i.bytes = 16 := by
  have h : (Tryd.prog.info? 54).map (fun i => (i.zero, i.size, i.bytes)) = some (some (.agg #[.int .u32 0, .int .u32 0, .int .i64 0]), 3, 16) := by kernel_rfl
  obtain ⟨i, hi, e⟩ := Option.map_eq_some_iff.1 h
  injection e with e1 e2
  injection e2 with e2 e3
  exact ⟨i, hi, e1, e2, e3⟩
/-- Routes that the call itself has made. -/
structure RoR (base : Nat) (w : World) (v : Value) (l : List Ro) : Prop where
  row : w.ownsRow base 54 3 v l.length (rov l)
theorem RoR.nil (base : Nat) (w : World) : RoR base w (.slice none 0 0) [] := ⟨World.ownsRow_nil _ _ _ _⟩
theorem RoR.of {base : Nat} {w w' : World} {v : Value} {l : List Ro} (h : RoR base w v l) (b : ∀ k, v.ownBlock = some k → w'.heap[k]? = w.heap[k]?) : RoR base w' v l := ⟨rows_blockC h.row b⟩
theorem RoR.keep {base : Nat} {w w' : World} {v : Value} {l : List Ro} (h : RoR base w v l) (b : Below w.heap.size w w') : RoR base w' v l := h.of fun k hk => b.block k (h.row.lt k hk).2
theorem RoR.slice {base : Nat} {w : World} {v : Value} {l : List Ro} (h : RoR base w v l) : ∃ a c, v = .slice a l.length c := by
  rcases h.row.2 with ⟨rfl, e⟩ | ⟨g, cap, cur, rfl, -⟩
  · exact ⟨_, _, by rw [e]⟩
  · exact ⟨_, _, rfl⟩
theorem RoR.app {base : Nat} {w : World} {v : Value} {l : List Ro} (h : RoR base w v l) (hb : base ≤ w.heap.size) (hl : l.length < 1000000000) (a : Ro) :
    ∃ v' w', (∀ z, (builtin .append #[44, 44] 44 z #[v, .slice (some ⟨w.heap.size, 0, none⟩) 1 1]).run Tryd.prog (w.alloc (.cells #[.int .u32 (a.low : Int), .int .u32 (a.high : Int), .int .i64 a.pro] 54)) = .ok (.value v') w') ∧ RoR base w' v' (l ++ [a]) ∧ Kept (fun x => base ≤ x) w w' := by
  obtain ⟨i0, hi0, hz0, hz1, hz2⟩ := info_ror
  have bA : Below w.heap.size w (w.alloc (.cells #[.int .u32 (a.low : Int), .int .u32 (a.high : Int), .int .i64 a.pro] 54)) := (Below.refl _ _).alloc (Nat.le_refl _) _
  have h2 := h.keep bA
  obtain ⟨v', w', hr, h3, h4, -, -⟩ := run_append_own_at (P := Tryd.prog) (w.alloc (.cells #[.int .u32 (a.low : Int), .int .u32 (a.high : Int), .int .i64 a.pro] 54)) base 44 44 54 i0 (.agg #[.int .u32 0, .int .u32 0, .int .i64 0]) 3 16 Tryd.underlying44 hi0 hz0 hz1 hz2 (by decide) (by decide) v l.length (rov l) h2.row ⟨w.heap.size, 0, none⟩ 1 1 (roC a) rfl (fun j u hj => by
    rw [Addr.add_lit]
    exact (Lies.new w (roC a) 54).r j u hj) (fun x hx => by unfold roC at hx; simp only [List.mem_cons, List.not_mem_nil, or_false] at hx; rcases hx with rfl | rfl | rfl <;> rfl) (by unfold maxLen; omega) (by omega) (Nat.le_trans hb bA.size)
  have kp : Kept (fun x => base ≤ x) w w' := (Kept.of _ bA).grown h4 (fun k hk _ => (h2.row.lt k hk).1)
  exact ⟨v', w', fun z => by simp only [builtin, Sem.run_bind, Sem.run_pure, hr, Result.andThen_ok], ⟨by rw [rov_snoc, List.length_append]; exact h3⟩, kp⟩
theorem rov_app (a b : List Ro) : rov (a ++ b) = rov a ++ rov b := by simp [rov, List.flatMap_append]
theorem rov_len (l : List Ro) : (rov l).length = 3 * l.length := by
  induction l with
  | nil => rfl
  | cons e l ih =>
    show (roC e ++ rov l).length = _
    rw [List.length_append, ih]
    show 3 + _ = 3 * (l.length + 1)
    omega
theorem rov_one (l : List Ro) : ∀ u ∈ rov l, u.oneCell' = true := fun u hu => by
  unfold rov at hu
  obtain ⟨e, -, he⟩ := List.mem_flatMap.1 hu
  unfold roC at he
  simp only [List.mem_cons, List.not_mem_nil, or_false] at he
  rcases he with rfl | rfl | rfl <;> rfl
theorem rov_at {w : World} {g o : Nat} {l : List Ro} (h : ∀ k, k < l.length → ∀ j, j < 3 → w.cell? ⟨g, o + 3 * k + j, none⟩ = (roC (l.getD k nR))[j]?) (j : Nat) (u : Value) (hj : (rov l)[j]? = some u) : w.cell? ((⟨g, o, none⟩ : Addr).add j) = some u := by
  rw [Addr.add_lit]
  have hl : j < (rov l).length := (List.getElem?_eq_some_iff.1 hj).1
  rw [rov_len] at hl
  have e := rov_get l (j / 3) (by omega) (j % 3) (by omega)
  rw [show 3 * (j / 3) + j % 3 = j by omega, hj] at e
  have c := h (j / 3) (by omega) (j % 3) (by omega)
  rw [show o + 3 * (j / 3) + j % 3 = o + j by omega, ← e] at c
  exact c
theorem app_noneR {w : World} {base n cap : Nat} {v : Value} {xs : List Value} (h : w.ownsRow base 54 3 v n xs) {i : TypeInfo} (hi : Tryd.prog.info? 54 = some i) :
    (Builtin.append_ #[44, 44] 44 #[v, .slice none 0 cap]).run Tryd.prog w = .ok v w := by
  rcases h.2 with ⟨rfl, rfl⟩ | ⟨g, c, cur, rfl, _, _, hnc, _⟩
  · simp [Builtin.append_, run_underlying Tryd.underlying44, sizeOf, typeInfo, hi, Builtin.lenOf, Builtin.firstCells]
  · simp [Builtin.append_, run_underlying Tryd.underlying44, sizeOf, typeInfo, hi, Builtin.lenOf, Builtin.firstCells, hnc, storeCells]
/-- Routes put behind those of a row of one's own. -/
theorem RoR.appS {base : Nat} {w : World} {v x : Value} {l l2 : List Ro} (h : RoR base w v l) (hx : RowAt 3 roC nR w x l2) (hb : base ≤ w.heap.size) (hl : l.length + l2.length < 1000000000) :
    ∃ v' w', (∀ z, (builtin .append #[44, 44] 44 z #[v, x]).run Tryd.prog w = .ok (.value v') w') ∧ RoR base w' v' (l ++ l2) ∧ Kept (fun k => v.ownBlock = some k) w w' := by
  obtain ⟨i0, hi0, hz0, hz1, hz2⟩ := info_ror
  obtain ⟨a, cap, rfl, -, hc⟩ := hx
  have nil : l2 = [] → a = none → ∃ v' w', (∀ z, (builtin .append #[44, 44] 44 z #[v, .slice a l2.length cap]).run Tryd.prog w = .ok (.value v') w') ∧ RoR base w' v' (l ++ l2) ∧ Kept (fun k => v.ownBlock = some k) w w' := fun e ea => by
    subst e ea
    refine ⟨v, w, fun z => ?_, by rw [List.append_nil]; exact h, Kept.refl _ _⟩
    have := app_noneR (cap := cap) h.row hi0
    simp only [builtin, Sem.run_bind, Sem.run_pure]
    rw [show ([] : List Ro).length = 0 from rfl, this, Result.andThen_ok]
  have some' : ∀ (p : Addr), a = some p → (∀ j u, (rov l2)[j]? = some u → w.cell? (p.add j) = some u) → ∃ v' w', (∀ z, (builtin .append #[44, 44] 44 z #[v, .slice a l2.length cap]).run Tryd.prog w = .ok (.value v') w') ∧ RoR base w' v' (l ++ l2) ∧ Kept (fun k => v.ownBlock = some k) w w' := fun p ea hp => by
    subst ea
    obtain ⟨v', w', hr, h3, h4, -, h5⟩ := run_append_own_at (P := Tryd.prog) w base 44 44 54 i0 (.agg #[.int .u32 0, .int .u32 0, .int .i64 0]) 3 16 Tryd.underlying44 hi0 hz0 hz1 hz2 (by decide) (by decide) v l.length (rov l) h.row p l2.length cap (rov l2) (by rw [rov_len]; omega) hp (rov_one l2) (by unfold maxLen; omega) (by omega) hb
    exact ⟨v', w', fun z => by simp only [builtin, Sem.run_bind, Sem.run_pure, hr, Result.andThen_ok], ⟨by rw [rov_app, List.length_append]; exact h3⟩, ⟨h4.os, h4.tape, h4.output, h4.size, fun k hk hf => h4.block k hk (by intro e; exact hf e.symm)⟩⟩
  cases l2 with
  | nil =>
    cases a with
    | none => exact nil rfl rfl
    | some p => exact some' p rfl (fun j u hj => by cases hj)
  | cons y l2 =>
    obtain ⟨g, o, e, -, -⟩ := hc 0 (by simp)
    refine some' ⟨g, o, none⟩ e (rov_at fun k hk j hj => ?_)
    obtain ⟨g', o', e', -, c⟩ := hc k hk
    rw [e] at e'
    injection e' with e'
    injection e' with e1 e2
    subst e1 e2
    exact c j hj
/-- An empty row. -/
theorem ror_empty (w : World) : RoR w.heap.size (w.alloc (.cells #[] 54)) (.slice (some ⟨w.heap.size, 0, none⟩) 0 0) [] := by
  exact ⟨rfl, .inr ⟨w.heap.size, 0, #[], rfl, Nat.le_refl _, heap_alloc_new _ _, Nat.le_refl _, Nat.zero_le _, rfl, rfl⟩⟩
theorem row_one (w : World) (lo hi : Nat) (pr : Int) : RowAt 3 roC nR (w.alloc (.cells #[.int .u32 (lo : Int), .int .u32 (hi : Int), .int .i64 pr] 54)) (.slice (some ⟨w.heap.size, 0, none⟩) 1 1) [⟨lo, hi, pr⟩] := by
  have L := Lies.new w [.int .u32 (lo : Int), .int .u32 (hi : Int), .int .i64 pr] 54
  refine ⟨_, _, rfl, Nat.le_refl _, fun k hk => ⟨w.heap.size, 0, rfl, by simp, fun j hj => ?_⟩⟩
  obtain rfl : k = 0 := by simp at hk; exact hk
  have e : 0 + 3 * 0 + j = j := by omega
  rw [e]
  match j, hj with
  | 0, _ => exact L.cell 0 rfl
  | 1, _ => exact L.cell 1 rfl
  | 2, _ => exact L.cell 2 rfl
/-- What Ways answers. -/
def RoRA (s : ByteArray) (base : Nat) (e : Ending) (w' : World) : Prop :=
  (∃ l v, wayL (toL s) = .ok l ∧ l.length ≤ 16 ∧ e = .returned (.tuple #[v, .int .i64 0]) ∧ RoR base w' v l) ∨ (∃ x : Int, wayL (toL s) = .error x ∧ x ≠ 0 ∧ e = .returned (.tuple #[.slice none 0 0, .int .i64 x]))
structure RoK (w wr : World) (s0 : ByteArray) (g : Nat) (s : ByteArray) (acc : List Ro) (lv : Value) : Prop where
  eq : wayL (toL s0) = wayN g acc (toL s)
  len : s.size < g
  few : acc.length ≤ 16
  row : RoR w.heap.size wr lv acc
  bel : Below w.heap.size w wr
set_option maxHeartbeats 16000000 in
theorem rways16_ok (s0 : ByteArray) (w : World) (_hs : s0.size ≤ 4611686018427387903) :
    Calls Tryd.prog 20 #[.string s0] w fun e w' => RoRA s0 w.heap.size e w' ∧ Below w.heap.size w w' := by
  have P0 : Hid (RoK w w s0 (s0.size + 1) s0 [] (.slice none 0 0)) := ⟨by unfold wayL; rw [toL_len], Nat.lt_succ_self _, by simp, RoR.nil _ _, Below.refl _ _⟩
  have hcf : ∀ (x : Value) (w : World), (callFunc 43 #[x]).run Tryd.prog w = .ok (.enter 43 #[x]) w := fun x w => by simp [go_sem]
  have hcr : ∀ (x : Value) (w : World), (callFunc 48 #[x]).run Tryd.prog w = .ok (.enter 48 #[x]) w := fun x w => by simp [go_sem]
  go_enter Tryd.func20, Tryd.ntmps20
  go_wp2_with fail
  go_loopg [0, 4] (s0.size + 1) (fun g sv lv wr => ∃ (s : ByteArray) (acc : List Ro), sv = .string s ∧ g ≤ s0.size + 1 ∧ Hid (RoK w wr s0 g s acc lv))
  case atStart => exact ⟨s0, [], rfl, Nat.le_refl _, P0⟩
  case round =>
    obtain ⟨s, acc, rfl, hg, X⟩ := hrel
    clear P0
    have hlen := X.out.len
    obtain ⟨g1, rfl⟩ : ∃ g1, gk = g1 + 1 := ⟨gk - 1, by omega⟩
    obtain ⟨av, cv, hu⟩ := X.out.row.slice
    subst hu
    have EQ := X.out.eq
    have ZZ := Lib.hid X.out.bel
    have few := X.out.few
    cases h2 : toL s with
    | nil =>
      have hz : s = ⟨#[]⟩ := toL_inj (by rw [h2]; rfl)
      have AN : Hid (RoRA s0 w.heap.size (.returned (.tuple #[.slice av acc.length cv, .int .i64 0])) wr) := .inl ⟨acc, _, by rw [EQ, h2]; rfl, few, rfl, X.out.row⟩
      subst hz
      generalize acc.length = M at *
      clear X h2 EQ
      go_wp2_with fail
      go_ret2
      exact ⟨AN.out, ZZ.out⟩
    | cons c t =>
      rw [h2, wayN_cons] at EQ
      have zl : s.size = t.length + 1 := by rw [← toL_len, h2]; rfl
      have n0 : s.toList.isEmpty = false := by
        rw [toL_empC, h2]
        rfl
      have ix0 : ∀ w', (Instr.index 9 (.string s) (.int .i64 0)).run Tryd.prog w' = .ok (.int .u8 (c.toNat : Int)) w' := fun w' => by
        have := at_str0 s 0 w' (by omega) 0 rfl
        rw [h2] at this
        exact this
      by_cases hc : c = 4
      · subst hc
        rw [if_neg (by simp)] at EQ
        by_cases h9 : t.length < 9
        · rw [if_pos h9] at EQ
          have q9 : decide ((s.size : Int) < 10) = true := decide_eq_true (by omega)
          have q9n : s.size < 10 := by omega
          replace EQ := Lib.hid EQ
          replace zl := Lib.hid zl
          generalize acc.length = M at *
          clear X h2 h9
          go_wp2_with fail
          go_ret2
          exact ⟨.inr ⟨1, EQ.out, by decide, rfl⟩, ZZ.out⟩
        · rw [if_neg h9] at EQ
          have q9 : decide ((s.size : Int) < 10) = false := decide_eq_false (by omega)
          have q9n : ¬ s.size < 10 := by omega
          have e4 : w4 (toL (s.extract 1 5)) = w4 t := by
            rw [toL_cut, h2]
            unfold w4
            show fold 0 ((t.take 4).take 4) = _
            rw [List.take_take]
            rfl
          have e5 : w4 (toL (s.extract 5 9)) = w4 (t.drop 4) := by
            rw [toL_cut, h2]
            unfold w4
            show fold 0 (((t.take 8).drop 4).take 4) = _
            rw [List.drop_take, List.take_take]
            rfl
          have N1 : Hid (∀ w', _) := fun w' => rnum4 (s.extract 1 5) w' (by rw [ByteArray.size_extract]; omega)
          have N2 : Hid (∀ w', _) := fun w' => rnum4 (s.extract 5 9) w' (by rw [ByteArray.size_extract]; omega)
          rw [e4] at N1
          rw [e5] at N2
          have ix9 : ∀ w', (Instr.index 9 (.string s) (.int .i64 9)).run Tryd.prog w' = .ok (.int .u8 ((t.getD 8 0).toNat : Int)) w' := fun w' => by
            have := at_str0 s 9 w' (by omega) 9 rfl
            rw [h2] at this
            exact this
          have e6 : toL (s.extract 10 s.size) = t.drop 9 := by
            rw [toL_extract, h2]
            rfl
          have z6 : (s.extract 10 s.size).size = s.size - 10 := by rw [ByteArray.size_extract]; omega
          have a1 := w4_lt t
          have a2 := w4_lt (t.drop 4)
          have b1 : (t.getD 8 0).toNat < 256 := (t.getD 8 0).toNat_lt
          obtain ⟨A, hA⟩ : ∃ A, A = w4 t := ⟨_, rfl⟩
          obtain ⟨A2, hA2⟩ : ∃ A2, A2 = w4 (t.drop 4) := ⟨_, rfl⟩
          obtain ⟨B, hB⟩ : ∃ B, B = (t.getD 8 0).toNat := ⟨_, rfl⟩
          rw [← hA] at N1 a1 EQ
          rw [← hA2] at N2 a2 EQ
          rw [← hB] at ix9 b1 EQ
          rw [← e6] at EQ
          have wr1 : IntKind.u32.wrap (A : Int) = (A : Int) := by rw [IntKind.wrap_u32]; omega
          have wr2 : IntKind.u32.wrap (A2 : Int) = (A2 : Int) := by rw [IntKind.wrap_u32]; omega
          have wr3 : IntKind.i64.wrap (B : Int) = (B : Int) := by rw [IntKind.wrap_i64]; omega
          have g5 : (5 : Int) ≤ (s.size : Int) := by omega
          have g5n : 5 ≤ s.size := by omega
          have g9 : (9 : Int) ≤ (s.size : Int) := by omega
          have g9n : 9 ≤ s.size := by omega
          have g5m : ¬ (s.size < 5) := by omega
          have g9m : ¬ (s.size < 9) := by omega
          have R0 := X.out.row
          have L2 : Lies (wr.alloc (.cells #[.int .u32 (A : Int), .int .u32 (A2 : Int), .int .i64 (B : Int)] 54)).drew wr.heap.size [.int .u32 (A : Int), .int .u32 (A2 : Int), .int .i64 (B : Int)] := (Lies.new wr [.int .u32 (A : Int), .int .u32 (A2 : Int), .int .i64 (B : Int)] 54).of_block rfl
          have B2 : Below wr.heap.size wr (wr.alloc (.cells #[.int .u32 (A : Int), .int .u32 (A2 : Int), .int .i64 (B : Int)] 54)).drew := ((Below.refl wr.heap.size wr).alloc (Nat.le_refl wr.heap.size) _).trans (drewB _ _)
          have R2 := Lib.hid (R0.keep B2)
          have Z2 := Lib.hid (ZZ.out.trans (B2.mono ZZ.out.size))
          replace L2 := Lib.hid L2
          replace EQ := Lib.hid EQ
          replace hA := Lib.hid hA
          replace hA2 := Lib.hid hA2
          replace hB := Lib.hid hB
          replace zl := Lib.hid zl
          replace z6 := Lib.hid z6
          replace e6 := Lib.hid e6
          clear X h2 h9 e4 e5 R0 B2
          go_upto_region 7 with fail
          go_cut [5] (fun u wc => u = .pointer (some ⟨wr.heap.size, 0, none⟩) ∧ (wr.alloc (.cells #[.int .u32 (A : Int), .int .u32 (A2 : Int), .int .i64 (B : Int)] 54)).drew = wc)
          case first =>
            go_region_law (first | (refine cal1S 43 (k1 := 15) (.string (s.extract 1 5)) (.int .i64 (A : Int)) (N1.out _) (hcf _) rfl rfl (by simp [Act.eval, Act.put]) ?_) | (refine cal1S 43 (k1 := 19) (.string (s.extract 5 9)) (.int .i64 (A2 : Int)) (N2.out _) (hcf _) rfl rfl (by simp [Act.eval, Act.put]) ?_))
            all_goals
              go_wp2_with fail
              go_meet
              exact ⟨rfl, rfl⟩
          case rest =>
            obtain ⟨rfl, hwc⟩ := hcut
            clear N1 N2 ix9 ix0 wr1 wr2 wr3 g5 g5n g9 g9n g5m g9m ZZ
            rw [hwc] at R2 Z2 L2
            clear hwc
            go_upto_region 8 with fail
            generalize wc = wb at *
            generalize wr.heap.size = K at *
            have hKw := L2.out.lt (by show 0 < 3; decide)
            have KS : Hid (∀ w', Below wb.heap.size wb w' → w'.cell? ⟨K, 0, none⟩ = some (.int .u32 (A : Int)) ∧ w'.cell? ⟨K, 1, none⟩ = some (.int .u32 (A2 : Int)) ∧ w'.cell? ⟨K, 2, none⟩ = some (.int .i64 (B : Int))) := fun w' b => ⟨(b.cell hKw).trans (L2.out.cell 0 rfl), (b.cell hKw).trans (L2.out.cell 1 rfl), (b.cell hKw).trans (L2.out.cell 2 rfl)⟩
            have RL : Hid (∀ w', Below wb.heap.size wb w' → RowAt 3 roC nR w' (.slice av acc.length cv) acc) := fun w' b => (rop_at R2.out.row).low b
            have BB : Below wb.heap.size wb wb.drew := drewB _ _
            have hS := KS.out _ BB
            obtain ⟨M, hM⟩ : ∃ M, M = acc.length := ⟨_, rfl⟩
            have fewM : M ≤ 16 := by omega
            rw [← hM] at RL ⊢
            replace hM := Lib.hid hM
            refine wp_region_held (S := fun w' => w'.cell? ⟨K, 0, none⟩ = some (.int .u32 (A : Int)) ∧ w'.cell? ⟨K, 1, none⟩ = some (.int .u32 (A2 : Int)) ∧ w'.cell? ⟨K, 2, none⟩ = some (.int .i64 (B : Int))) (by kernel_rfl) ?_
            change wpAnyH _ .any _ _ _ 8 (Array.replicate 8 false) _ wb.drew
            generalize wb.drew = wd at *
            refine obTakeH (i := 1) (d := 27) (v := .slice av M cv) rfl rfl (by kernel_rfl) (by kernel_rfl) (by kernel_rfl) (fun _ _ _ h => h) rfl (fun w hS => by obtain ⟨s0, s1, s2⟩ := hS; go_simp) hS ?_
            refine obTakeH (i := 3) (d := 29) (v := .agg #[.int .u32 (A : Int), .int .u32 (A2 : Int), .int .i64 (B : Int)]) rfl rfl (by kernel_rfl) (by kernel_rfl) (by kernel_rfl) (fun _ _ _ h => h) rfl (fun w hS => by obtain ⟨s0, s1, s2⟩ := hS; go_simp) hS ?_
            try simp only [Act.put, List.setIfInBounds_toArray, List.set_cons_succ, List.set_cons_zero]
            refine wpAnyH_all (rs := [0, 4]) (by kernel_rfl) (by simp) (fun y hy => ?_)
            have hy2 : y = 0 ∨ y = 4 := by simpa using hy
            clear hy
            rcases hy2 with rfl | rfl
            · refine wpOp_step rfl (fun K' hK => ?_)
              have BA := BB.alloc BB.size (.cells #[] 54)
              have hSk := KS.out _ BA
              have RE : RoR wb.heap.size (wd.alloc (.cells #[] 54)) (.slice (some ⟨wd.heap.size, 0, none⟩) 0 0) [] := ⟨⟨(ror_empty wd).row.1, .inr ⟨wd.heap.size, 0, #[], rfl, BB.size, heap_alloc_new _ _, Nat.le_refl _, Nat.zero_le _, rfl, rfl⟩⟩⟩
              go_simp
              refine hK _ _ ⟨hSk, ?_⟩
              clear hK K'
              replace hS := hSk
              replace BB := BA
              clear hSk BA
              have hEl : wd.heap.size < (wd.alloc (.cells #[] 54)).heap.size := by simp
              generalize wd.alloc (.cells #[] 54) = wn1 at *
              generalize wd.heap.size = KE at *
              try simp only [Act.put, List.setIfInBounds_toArray, List.set_cons_succ, List.set_cons_zero]
              refine wpAnyH_all (rs := [2, 4]) (by kernel_rfl) (by simp) (fun y hy => ?_)
              have hy2 : y = 2 ∨ y = 4 := by simpa using hy
              clear hy
              rcases hy2 with rfl | rfl
              · refine wpOp_step rfl (fun K' hK => ?_)
                obtain ⟨vF, wn2, hap, RF, kp⟩ := RE.appS (RL.out wn1 BB) BB.size (by simp [← hM.out]; omega)
                rw [List.nil_append] at RF
                have BA : Below wb.heap.size wb wn2 := BB.trans (kp.below BB.size fun k hk => (RE.row.lt k hk).1)
                have hSk := KS.out _ BA
                have hFl : ∀ k, vF.ownBlock = some k → k < wn2.heap.size := fun k hk => (RF.row.lt k hk).2
                refine obB2 _ .append _ _ 44 44 rfl _ _ rfl rfl hap (hK _ _ ⟨hSk, ?_⟩)
                clear hK K' hap
                replace hS := hSk
                replace BB := BA
                clear hSk BA kp RE
                try simp only [Act.put, List.setIfInBounds_toArray]
                refine wpAnyH_all (rs := [4]) (by kernel_rfl) (by simp) (fun y hy => ?_)
                obtain rfl : y = 4 := by simpa using hy
                clear hy
                refine wpOp_step rfl (fun K' hK => ?_)
                have BA := BB.alloc BB.size (.cells #[.int .u32 (A : Int), .int .u32 (A2 : Int), .int .i64 (B : Int)] 54)
                have hSk := KS.out _ BA
                have RX := row_one wn2 A A2 (B : Int)
                have RF2 := RF.keep ((Below.refl _ _).alloc (Nat.le_refl _) (.cells #[.int .u32 (A : Int), .int .u32 (A2 : Int), .int .i64 (B : Int)] 54))
                go_simp
                refine hK _ _ ⟨hSk, ?_⟩
                clear hK K'
                replace hS := hSk
                replace BB := BA
                clear hSk BA
                replace RF := RF2
                clear RF2
                have hne : ∀ k, vF.ownBlock = some k → wn2.heap.size ≠ k := fun k hk q => by have := hFl k hk; omega
                have hXl : wn2.heap.size < (wn2.alloc (.cells #[.int .u32 (A : Int), .int .u32 (A2 : Int), .int .i64 (B : Int)] 54)).heap.size := by simp
                generalize wn2.alloc (.cells #[.int .u32 (A : Int), .int .u32 (A2 : Int), .int .i64 (B : Int)] 54) = wn3 at *
                generalize wn2.heap.size = KX at *
                try simp only [Act.put, List.setIfInBounds_toArray, List.set_cons_succ, List.set_cons_zero]
                refine wpAnyH_all (rs := [5]) (by kernel_rfl) (by simp) (fun y hy => ?_)
                obtain rfl : y = 5 := by simpa using hy
                clear hy
                refine wpOp_step rfl (fun K' hK => ?_)
                obtain ⟨vG, wn4, hap, RG, kp⟩ := RF.appS RX BB.size (by simp [← hM.out]; omega)
                have BA : Below wb.heap.size wb wn4 := BB.trans (kp.below BB.size fun k hk => (RF.row.lt k hk).1)
                have hSk := KS.out _ BA
                have RI := rright_ok vG _ wn4 (rop_at RG.row).ro (by simp [← hM.out]; omega)
                obtain ⟨aG, cG, hG⟩ := RG.slice
                subst hG
                refine obB2 _ .append _ _ 44 44 rfl _ _ rfl rfl hap (hK _ _ ⟨hSk, ?_⟩)
                clear hK K' hap
                replace hS := hSk
                replace BB := BA
                clear hSk BA kp RF RX RG
                try simp only [Act.put, List.setIfInBounds_toArray]
                refine wpAnyH_all (rs := [6]) (by kernel_rfl) (by simp) (fun y hy => ?_)
                obtain rfl : y = 6 := by simpa using hy
                clear hy
                refine wpOp_step rfl (fun K' hK => ?_)
                refine obCall1g (k1 := 31) (d := 32) 48 _ rfl rfl _ _ _ _ (hcr _) rfl RI (fun e wn5 hR => ?_)
                obtain ⟨rfl, b5⟩ := hR
                have hSk := KS.out wn5 (BB.trans (b5.mono BB.size))
                refine ⟨_, rfl, hK _ _ ⟨hSk, ?_⟩⟩
                replace hS := hSk
                replace BB := BB.trans (b5.mono BB.size)
                clear hK K' b5 hSk RI
                try simp only [Act.put]
                refine obTakeH (i := 7) (d := 33) (v := .bool (!rightR (acc ++ [⟨A, A2, (B : Int)⟩]))) rfl rfl (by kernel_rfl) (by kernel_rfl) (by kernel_rfl) (fun _ _ _ h => h) rfl (fun w hS => by obtain ⟨s0, s1, s2⟩ := hS; go_simp) hS ?_
                try simp only [Act.put]
                refine wpAnyH_done (by kernel_rfl) ?_ 0
                have BF := BB
                clear BB
                generalize hcur : wn5 = wf at *
                clear hcur
                have L3 : Hid (w.heap.size ≤ wb.heap.size) := Z2.out.size
                have Z3 := Z2.out.trans (BF.mono Z2.out.size)
                have R3 := R2.out.keep BF
                obtain ⟨d0, d1, d2⟩ := KS.out wf BF
                clear hS KS RL BF L2
                cases hrt : rightR (acc ++ [⟨A, A2, (B : Int)⟩]) with
                | false =>
                  have E : Hid (wayL (toL s0) = .error 2) := by
                    unfold Hid
                    rw [EQ.out, if_pos hrt]
                  replace Z3 := Lib.hid Z3
                  clear R3 EQ hrt
                  go_wp2_with fail
                  go_ret2
                  exact ⟨.inr ⟨2, E.out, by decide, rfl⟩, Z3.out⟩
                | true =>
                  have EQ2 := EQ.out
                  rw [if_neg (by rw [hrt]; simp)] at EQ2
                  rw [← hM.out] at EQ2
                  by_cases h16 : M = 16
                  · rw [if_pos h16] at EQ2
                    have q16 : ((M : Int) == 16) = true := by rw [h16]; rfl
                    replace EQ2 := Lib.hid EQ2
                    replace Z3 := Lib.hid Z3
                    replace h16 := Lib.hid h16
                    clear R3 EQ hrt
                    go_wp2_with fail
                    go_ret2
                    exact ⟨.inr ⟨8, EQ2.out, by decide, rfl⟩, Z3.out⟩
                  · rw [if_neg h16] at EQ2
                    have q16 : ((M : Int) == 16) = false := by
                      have : ¬ (M : Int) = 16 := by omega
                      simpa using this
                    obtain ⟨v', w4', hap, row, kp⟩ := R3.app Z3.size (by omega) ⟨A, A2, (B : Int)⟩
                    have NX : Hid (RoK w w4' s0 g1 (s.extract 10 s.size) (acc ++ [⟨A, A2, (B : Int)⟩]) v') := ⟨EQ2, by
                      have h1 := z6.out
                      have h2 := zl.out
                      omega, by have := hM.out; rw [List.length_append]; simp; omega, row, Z3.trans (kp.below Z3.size fun _ h => h)⟩
                    obtain ⟨av', cv', hu'⟩ := row.slice
                    subst hu'
                    rw [← hM.out] at hap
                    replace hap := Lib.hid hap
                    have hg1 : g1 ≤ s0.size + 1 := by omega
                    have g10 : (10 : Int) ≤ (s.size : Int) := by omega
                    have g10n : 10 ≤ s.size := by omega
                    generalize (acc ++ [(⟨A, A2, (B : Int)⟩ : Ro)]).length = N2 at *
                    replace h16 := Lib.hid h16
                    clear R3 row kp EQ EQ2 Z3 hrt
                    go_wp2_with (refine obB2L _ rfl .append _ _ 44 44 rfl _ _ rfl rfl hap.out ?_)
                    go_roundg g1
                    case measure => omega
                    case rel => exact ⟨_, _, rfl, hg1, NX⟩
              · refine wpOp_step rfl (fun K' hK => ?_)
                have BA := BB.alloc BB.size (.cells #[.int .u32 (A : Int), .int .u32 (A2 : Int), .int .i64 (B : Int)] 54)
                have hSk := KS.out _ BA
                have RX := row_one wn1 A A2 (B : Int)
                have RE2 := RE.keep ((Below.refl _ _).alloc (Nat.le_refl _) (.cells #[.int .u32 (A : Int), .int .u32 (A2 : Int), .int .i64 (B : Int)] 54))
                have hne : wn1.heap.size ≠ KE := fun q => by omega
                go_simp
                refine hK _ _ ⟨hSk, ?_⟩
                clear hK K'
                replace hS := hSk
                replace BB := BA
                clear hSk BA
                replace RE := RE2
                clear RE2
                have hXl : wn1.heap.size < (wn1.alloc (.cells #[.int .u32 (A : Int), .int .u32 (A2 : Int), .int .i64 (B : Int)] 54)).heap.size := by simp
                generalize wn1.alloc (.cells #[.int .u32 (A : Int), .int .u32 (A2 : Int), .int .i64 (B : Int)] 54) = wn6 at *
                generalize wn1.heap.size = KX at *
                try simp only [Act.put, List.setIfInBounds_toArray, List.set_cons_succ, List.set_cons_zero]
                refine wpAnyH_all (rs := [2]) (by kernel_rfl) (by simp) (fun y hy => ?_)
                obtain rfl : y = 2 := by simpa using hy
                clear hy
                refine wpOp_step rfl (fun K' hK => ?_)
                obtain ⟨vF, wn7, hap, RF, kp⟩ := RE.appS (RL.out wn6 BB) BB.size (by simp [← hM.out]; omega)
                rw [List.nil_append] at RF
                have BA : Below wb.heap.size wb wn7 := BB.trans (kp.below BB.size fun k hk => (RE.row.lt k hk).1)
                have hSk := KS.out _ BA
                have hFl : ∀ k, vF.ownBlock = some k → k < wn7.heap.size := fun k hk => (RF.row.lt k hk).2
                have RX2 := RX.of kp.size (fun k hk hl => kp.block k hl (fun q => hne (by injection hk with hk; injection q with q; exact hk.trans q.symm)))
                refine obB2 _ .append _ _ 44 44 rfl _ _ rfl rfl hap (hK _ _ ⟨hSk, ?_⟩)
                clear hK K' hap
                replace hS := hSk
                replace BB := BA
                clear hSk BA kp RE
                replace RX := RX2
                clear RX2 hne
                try simp only [Act.put, List.setIfInBounds_toArray]
                refine wpAnyH_all (rs := [5]) (by kernel_rfl) (by simp) (fun y hy => ?_)
                obtain rfl : y = 5 := by simpa using hy
                clear hy
                refine wpOp_step rfl (fun K' hK => ?_)
                obtain ⟨vG, wn8, hap, RG, kp⟩ := RF.appS RX BB.size (by simp [← hM.out]; omega)
                have BA : Below wb.heap.size wb wn8 := BB.trans (kp.below BB.size fun k hk => (RF.row.lt k hk).1)
                have hSk := KS.out _ BA
                have RI := rright_ok vG _ wn8 (rop_at RG.row).ro (by simp [← hM.out]; omega)
                obtain ⟨aG, cG, hG⟩ := RG.slice
                subst hG
                refine obB2 _ .append _ _ 44 44 rfl _ _ rfl rfl hap (hK _ _ ⟨hSk, ?_⟩)
                clear hK K' hap
                replace hS := hSk
                replace BB := BA
                clear hSk BA kp RF RX RG
                try simp only [Act.put]
                refine wpAnyH_all (rs := [6]) (by kernel_rfl) (by simp) (fun y hy => ?_)
                obtain rfl : y = 6 := by simpa using hy
                clear hy
                refine wpOp_step rfl (fun K' hK => ?_)
                refine obCall1g (k1 := 31) (d := 32) 48 _ rfl rfl _ _ _ _ (hcr _) rfl RI (fun e wn9 hR => ?_)
                obtain ⟨rfl, b9⟩ := hR
                have hSk := KS.out wn9 (BB.trans (b9.mono BB.size))
                refine ⟨_, rfl, hK _ _ ⟨hSk, ?_⟩⟩
                replace hS := hSk
                replace BB := BB.trans (b9.mono BB.size)
                clear hK K' b9 hSk RI
                try simp only [Act.put]
                refine obTakeH (i := 7) (d := 33) (v := .bool (!rightR (acc ++ [⟨A, A2, (B : Int)⟩]))) rfl rfl (by kernel_rfl) (by kernel_rfl) (by kernel_rfl) (fun _ _ _ h => h) rfl (fun w hS => by obtain ⟨s0, s1, s2⟩ := hS; go_simp) hS ?_
                try simp only [Act.put]
                refine wpAnyH_done (by kernel_rfl) ?_ 0
                have BF := BB
                clear BB
                generalize hcur : wn9 = wf at *
                clear hcur
                have L3 : Hid (w.heap.size ≤ wb.heap.size) := Z2.out.size
                have Z3 := Z2.out.trans (BF.mono Z2.out.size)
                have R3 := R2.out.keep BF
                obtain ⟨d0, d1, d2⟩ := KS.out wf BF
                clear hS KS RL BF L2
                cases hrt : rightR (acc ++ [⟨A, A2, (B : Int)⟩]) with
                | false =>
                  have E : Hid (wayL (toL s0) = .error 2) := by
                    unfold Hid
                    rw [EQ.out, if_pos hrt]
                  replace Z3 := Lib.hid Z3
                  clear R3 EQ hrt
                  go_wp2_with fail
                  go_ret2
                  exact ⟨.inr ⟨2, E.out, by decide, rfl⟩, Z3.out⟩
                | true =>
                  have EQ2 := EQ.out
                  rw [if_neg (by rw [hrt]; simp)] at EQ2
                  rw [← hM.out] at EQ2
                  by_cases h16 : M = 16
                  · rw [if_pos h16] at EQ2
                    have q16 : ((M : Int) == 16) = true := by rw [h16]; rfl
                    replace EQ2 := Lib.hid EQ2
                    replace Z3 := Lib.hid Z3
                    replace h16 := Lib.hid h16
                    clear R3 EQ hrt
                    go_wp2_with fail
                    go_ret2
                    exact ⟨.inr ⟨8, EQ2.out, by decide, rfl⟩, Z3.out⟩
                  · rw [if_neg h16] at EQ2
                    have q16 : ((M : Int) == 16) = false := by
                      have : ¬ (M : Int) = 16 := by omega
                      simpa using this
                    obtain ⟨v', w4', hap, row, kp⟩ := R3.app Z3.size (by omega) ⟨A, A2, (B : Int)⟩
                    have NX : Hid (RoK w w4' s0 g1 (s.extract 10 s.size) (acc ++ [⟨A, A2, (B : Int)⟩]) v') := ⟨EQ2, by
                      have h1 := z6.out
                      have h2 := zl.out
                      omega, by have := hM.out; rw [List.length_append]; simp; omega, row, Z3.trans (kp.below Z3.size fun _ h => h)⟩
                    obtain ⟨av', cv', hu'⟩ := row.slice
                    subst hu'
                    rw [← hM.out] at hap
                    replace hap := Lib.hid hap
                    have hg1 : g1 ≤ s0.size + 1 := by omega
                    have g10 : (10 : Int) ≤ (s.size : Int) := by omega
                    have g10n : 10 ≤ s.size := by omega
                    generalize (acc ++ [(⟨A, A2, (B : Int)⟩ : Ro)]).length = N2 at *
                    replace h16 := Lib.hid h16
                    clear R3 row kp EQ EQ2 Z3 hrt
                    go_wp2_with (refine obB2L _ rfl .append _ _ 44 44 rfl _ _ rfl rfl hap.out ?_)
                    go_roundg g1
                    case measure => omega
                    case rel => exact ⟨_, _, rfl, hg1, NX⟩
            · refine wpOp_step rfl (fun K' hK => ?_)
              have BA := BB.alloc BB.size (.cells #[.int .u32 (A : Int), .int .u32 (A2 : Int), .int .i64 (B : Int)] 54)
              have hSk := KS.out _ BA
              have RX := row_one wd A A2 (B : Int)
              go_simp
              refine hK _ _ ⟨hSk, ?_⟩
              clear hK K'
              replace hS := hSk
              replace BB := BA
              clear hSk BA
              have hXl : wd.heap.size < (wd.alloc (.cells #[.int .u32 (A : Int), .int .u32 (A2 : Int), .int .i64 (B : Int)] 54)).heap.size := by simp
              generalize wd.alloc (.cells #[.int .u32 (A : Int), .int .u32 (A2 : Int), .int .i64 (B : Int)] 54) = wn10 at *
              generalize wd.heap.size = KX at *
              try simp only [Act.put, List.setIfInBounds_toArray, List.set_cons_succ, List.set_cons_zero]
              refine wpAnyH_all (rs := [0]) (by kernel_rfl) (by simp) (fun y hy => ?_)
              obtain rfl : y = 0 := by simpa using hy
              clear hy
              refine wpOp_step rfl (fun K' hK => ?_)
              have BA := BB.alloc BB.size (.cells #[] 54)
              have hSk := KS.out _ BA
              have RE : RoR wb.heap.size (wn10.alloc (.cells #[] 54)) (.slice (some ⟨wn10.heap.size, 0, none⟩) 0 0) [] := ⟨⟨(ror_empty wn10).row.1, .inr ⟨wn10.heap.size, 0, #[], rfl, BB.size, heap_alloc_new _ _, Nat.le_refl _, Nat.zero_le _, rfl, rfl⟩⟩⟩
              have RX2 := RX.low ((Below.refl _ _).alloc (Nat.le_refl _) (.cells #[] 54))
              have hne : KX ≠ wn10.heap.size := Nat.ne_of_lt hXl
              go_simp
              refine hK _ _ ⟨hSk, ?_⟩
              clear hK K'
              replace hS := hSk
              replace BB := BA
              clear hSk BA
              replace RX := RX2
              clear RX2 hXl
              have hEl : wn10.heap.size < (wn10.alloc (.cells #[] 54)).heap.size := by simp
              generalize wn10.alloc (.cells #[] 54) = wn11 at *
              generalize wn10.heap.size = KE at *
              try simp only [Act.put, List.setIfInBounds_toArray, List.set_cons_succ, List.set_cons_zero]
              refine wpAnyH_all (rs := [2]) (by kernel_rfl) (by simp) (fun y hy => ?_)
              obtain rfl : y = 2 := by simpa using hy
              clear hy
              refine wpOp_step rfl (fun K' hK => ?_)
              obtain ⟨vF, wn12, hap, RF, kp⟩ := RE.appS (RL.out wn11 BB) BB.size (by simp [← hM.out]; omega)
              rw [List.nil_append] at RF
              have BA : Below wb.heap.size wb wn12 := BB.trans (kp.below BB.size fun k hk => (RE.row.lt k hk).1)
              have hSk := KS.out _ BA
              have hFl : ∀ k, vF.ownBlock = some k → k < wn12.heap.size := fun k hk => (RF.row.lt k hk).2
              have RX2 := RX.of kp.size (fun k hk hl => kp.block k hl (fun q => hne (by injection hk with hk; injection q with q; exact hk.trans q.symm)))
              refine obB2 _ .append _ _ 44 44 rfl _ _ rfl rfl hap (hK _ _ ⟨hSk, ?_⟩)
              clear hK K' hap
              replace hS := hSk
              replace BB := BA
              clear hSk BA kp RE
              replace RX := RX2
              clear RX2 hne
              try simp only [Act.put, List.setIfInBounds_toArray]
              refine wpAnyH_all (rs := [5]) (by kernel_rfl) (by simp) (fun y hy => ?_)
              obtain rfl : y = 5 := by simpa using hy
              clear hy
              refine wpOp_step rfl (fun K' hK => ?_)
              obtain ⟨vG, wn13, hap, RG, kp⟩ := RF.appS RX BB.size (by simp [← hM.out]; omega)
              have BA : Below wb.heap.size wb wn13 := BB.trans (kp.below BB.size fun k hk => (RF.row.lt k hk).1)
              have hSk := KS.out _ BA
              have RI := rright_ok vG _ wn13 (rop_at RG.row).ro (by simp [← hM.out]; omega)
              obtain ⟨aG, cG, hG⟩ := RG.slice
              subst hG
              refine obB2 _ .append _ _ 44 44 rfl _ _ rfl rfl hap (hK _ _ ⟨hSk, ?_⟩)
              clear hK K' hap
              replace hS := hSk
              replace BB := BA
              clear hSk BA kp RF RX RG
              try simp only [Act.put]
              refine wpAnyH_all (rs := [6]) (by kernel_rfl) (by simp) (fun y hy => ?_)
              obtain rfl : y = 6 := by simpa using hy
              clear hy
              refine wpOp_step rfl (fun K' hK => ?_)
              refine obCall1g (k1 := 31) (d := 32) 48 _ rfl rfl _ _ _ _ (hcr _) rfl RI (fun e wn14 hR => ?_)
              obtain ⟨rfl, b14⟩ := hR
              have hSk := KS.out wn14 (BB.trans (b14.mono BB.size))
              refine ⟨_, rfl, hK _ _ ⟨hSk, ?_⟩⟩
              replace hS := hSk
              replace BB := BB.trans (b14.mono BB.size)
              clear hK K' b14 hSk RI
              try simp only [Act.put]
              refine obTakeH (i := 7) (d := 33) (v := .bool (!rightR (acc ++ [⟨A, A2, (B : Int)⟩]))) rfl rfl (by kernel_rfl) (by kernel_rfl) (by kernel_rfl) (fun _ _ _ h => h) rfl (fun w hS => by obtain ⟨s0, s1, s2⟩ := hS; go_simp) hS ?_
              try simp only [Act.put]
              refine wpAnyH_done (by kernel_rfl) ?_ 0
              have BF := BB
              clear BB
              generalize hcur : wn14 = wf at *
              clear hcur
              have L3 : Hid (w.heap.size ≤ wb.heap.size) := Z2.out.size
              have Z3 := Z2.out.trans (BF.mono Z2.out.size)
              have R3 := R2.out.keep BF
              obtain ⟨d0, d1, d2⟩ := KS.out wf BF
              clear hS KS RL BF L2
              cases hrt : rightR (acc ++ [⟨A, A2, (B : Int)⟩]) with
              | false =>
                have E : Hid (wayL (toL s0) = .error 2) := by
                  unfold Hid
                  rw [EQ.out, if_pos hrt]
                replace Z3 := Lib.hid Z3
                clear R3 EQ hrt
                go_wp2_with fail
                go_ret2
                exact ⟨.inr ⟨2, E.out, by decide, rfl⟩, Z3.out⟩
              | true =>
                have EQ2 := EQ.out
                rw [if_neg (by rw [hrt]; simp)] at EQ2
                rw [← hM.out] at EQ2
                by_cases h16 : M = 16
                · rw [if_pos h16] at EQ2
                  have q16 : ((M : Int) == 16) = true := by rw [h16]; rfl
                  replace EQ2 := Lib.hid EQ2
                  replace Z3 := Lib.hid Z3
                  replace h16 := Lib.hid h16
                  clear R3 EQ hrt
                  go_wp2_with fail
                  go_ret2
                  exact ⟨.inr ⟨8, EQ2.out, by decide, rfl⟩, Z3.out⟩
                · rw [if_neg h16] at EQ2
                  have q16 : ((M : Int) == 16) = false := by
                    have : ¬ (M : Int) = 16 := by omega
                    simpa using this
                  obtain ⟨v', w4', hap, row, kp⟩ := R3.app Z3.size (by omega) ⟨A, A2, (B : Int)⟩
                  have NX : Hid (RoK w w4' s0 g1 (s.extract 10 s.size) (acc ++ [⟨A, A2, (B : Int)⟩]) v') := ⟨EQ2, by
                    have h1 := z6.out
                    have h2 := zl.out
                    omega, by have := hM.out; rw [List.length_append]; simp; omega, row, Z3.trans (kp.below Z3.size fun _ h => h)⟩
                  obtain ⟨av', cv', hu'⟩ := row.slice
                  subst hu'
                  rw [← hM.out] at hap
                  replace hap := Lib.hid hap
                  have hg1 : g1 ≤ s0.size + 1 := by omega
                  have g10 : (10 : Int) ≤ (s.size : Int) := by omega
                  have g10n : 10 ≤ s.size := by omega
                  generalize (acc ++ [(⟨A, A2, (B : Int)⟩ : Ro)]).length = N2 at *
                  replace h16 := Lib.hid h16
                  clear R3 row kp EQ EQ2 Z3 hrt
                  go_wp2_with (refine obB2L _ rfl .append _ _ 44 44 rfl _ _ rfl rfl hap.out ?_)
                  go_roundg g1
                  case measure => omega
                  case rel => exact ⟨_, _, rfl, hg1, NX⟩
      · rw [if_pos hc] at EQ
        have qc : ((c.toNat : Int) == 4) = false := by
          have h3 : c.toNat ≠ 4 := fun q => hc (UInt8.toNat_inj.1 q)
          have : ¬ (c.toNat : Int) = 4 := by omega
          simpa using this
        replace EQ := Lib.hid EQ
        replace zl := Lib.hid zl
        generalize acc.length = M at *
        clear X h2 hc
        go_wp2_with fail
        go_ret2
        exact ⟨.inr ⟨5, EQ.out, by decide, rfl⟩, ZZ.out⟩
end Go.Proofs.YtihkbakbciejiaaDoor
namespace Go.Proofs.YtihkbakbciejiaaDoor
set_option maxRecDepth 100000
open Go.RowKit Go.Sort

theorem AdP.appB {base : Nat} {w : World} {v : Value} {l : List Ad} (h : AdP base w v l) (hb : base ≤ w.heap.size) (hl : (l.length + 1) * 24 ≤ 140737488355328) (a : Ad) :
    ∃ v' w', (∀ z, (builtin .append #[45, 45] 45 z #[v, .slice (some ⟨w.heap.size, 0, none⟩) 1 1]).run Tryd.prog (w.alloc (.cells #[.int .i64 a.id, .int .u32 (a.addr : Int), .int .i64 a.bits] 51)) = .ok (.value v') w') ∧ AdP base w' v' (l ++ [a]) ∧ Kept (fun x => base ≤ x) w w' := by
  obtain ⟨i0, hi0, hz0, hz1, hz2⟩ := info_adp
  have bA : Below w.heap.size w (w.alloc (.cells #[.int .i64 a.id, .int .u32 (a.addr : Int), .int .i64 a.bits] 51)) := (Below.refl _ _).alloc (Nat.le_refl _) _
  have h2 := h.keep bA
  obtain ⟨v', w', hr, h3, h4, -, -⟩ := run_append_own_at (P := Tryd.prog) (w.alloc (.cells #[.int .i64 a.id, .int .u32 (a.addr : Int), .int .i64 a.bits] 51)) base 45 45 51 i0 (.agg #[.int .i64 0, .int .u32 0, .int .i64 0]) 3 24 Tryd.underlying45 hi0 hz0 hz1 hz2 (by decide) (by decide) v l.length (adv l) h2.row ⟨w.heap.size, 0, none⟩ 1 1 (adc a) rfl (fun j u hj => by
    rw [Addr.add_lit]
    exact (Lies.new w (adc a) 51).r j u hj) (fun x hx => by unfold adc at hx; simp only [List.mem_cons, List.not_mem_nil, or_false] at hx; rcases hx with rfl | rfl | rfl <;> rfl) (by unfold maxLen; omega) (by omega) (Nat.le_trans hb bA.size)
  have kp : Kept (fun x => base ≤ x) w w' := (Kept.of _ bA).grown h4 (fun k hk _ => (h2.row.lt k hk).1)
  exact ⟨v', w', fun z => by simp only [builtin, Sem.run_bind, Sem.run_pure, hr, Result.andThen_ok], ⟨by rw [adv_snoc, List.length_append]; exact h3⟩, kp⟩
theorem RoP.appB {base : Nat} {w : World} {v : Value} {l : List Ro} (h : RoP base w v l) (hb : base ≤ w.heap.size) (hl : (l.length + 1) * 16 ≤ 140737488355328) (a : Ro) :
    ∃ v' w', (∀ z, (builtin .append #[52, 52] 52 z #[v, .slice (some ⟨w.heap.size, 0, none⟩) 1 1]).run Tryd.prog (w.alloc (.cells #[.int .u32 (a.low : Int), .int .u32 (a.high : Int), .int .i64 a.pro] 55)) = .ok (.value v') w') ∧ RoP base w' v' (l ++ [a]) ∧ Kept (fun x => base ≤ x) w w' := by
  obtain ⟨i0, hi0, hz0, hz1, hz2⟩ := info_rop
  have bA : Below w.heap.size w (w.alloc (.cells #[.int .u32 (a.low : Int), .int .u32 (a.high : Int), .int .i64 a.pro] 55)) := (Below.refl _ _).alloc (Nat.le_refl _) _
  have h2 := h.keep bA
  obtain ⟨v', w', hr, h3, h4, -, -⟩ := run_append_own_at (P := Tryd.prog) (w.alloc (.cells #[.int .u32 (a.low : Int), .int .u32 (a.high : Int), .int .i64 a.pro] 55)) base 52 52 55 i0 (.agg #[.int .u32 0, .int .u32 0, .int .i64 0]) 3 16 Tryd.underlying52 hi0 hz0 hz1 hz2 (by decide) (by decide) v l.length (rov l) h2.row ⟨w.heap.size, 0, none⟩ 1 1 (roC a) rfl (fun j u hj => by
    rw [Addr.add_lit]
    exact (Lies.new w (roC a) 55).r j u hj) (fun x hx => by unfold roC at hx; simp only [List.mem_cons, List.not_mem_nil, or_false] at hx; rcases hx with rfl | rfl | rfl <;> rfl) (by unfold maxLen; omega) (by omega) (Nat.le_trans hb bA.size)
  have kp : Kept (fun x => base ≤ x) w w' := (Kept.of _ bA).grown h4 (fun k hk _ => (h2.row.lt k hk).1)
  exact ⟨v', w', fun z => by simp only [builtin, Sem.run_bind, Sem.run_pure, hr, Result.andThen_ok], ⟨by rw [rov_snoc, List.length_append]; exact h3⟩, kp⟩
def exE {X : Type} (r : Except Int X) : Int := match r with | .ok _ => 0 | .error x => x
def exL {X : Type} (r : Except Int (List X)) : List X := match r with | .ok l => l | .error _ => []
theorem row_nil {X : Type} {n : Nat} {cells : X → List Value} {x0 : X} (w : World) : RowAt n cells x0 w (.slice none 0 0) [] := ⟨none, 0, rfl, Nat.le_refl _, fun _ hk => absurd hk (Nat.not_lt_zero _)⟩
theorem AdPA.fix {s : ByteArray} {b : Nat} {e : Ending} {w' : World} (h : AdPA s b e w') : ∃ v, e = .returned (.tuple #[v, .int .i64 (exE (adrL (toL s)))]) ∧ RowAt 3 adc nA w' v (exL (adrL (toL s))) ∧ (exL (adrL (toL s))).length ≤ 16 := by
  rcases h with ⟨l, v, h1, h2, rfl, h3⟩ | ⟨x, h1, -, rfl⟩
  · rw [h1]
    exact ⟨v, rfl, adp_at h3.row, h2⟩
  · rw [h1]
    exact ⟨_, rfl, row_nil _, Nat.zero_le _⟩
theorem AdA.fix {s : ByteArray} {b : Nat} {e : Ending} {w' : World} (h : AdA s b e w') : ∃ v, e = .returned (.tuple #[v, .int .i64 (exE (adrL (toL s)))]) ∧ RowAt 3 adc nA w' v (exL (adrL (toL s))) := by
  rcases h with ⟨l, v, h1, h2, rfl, h3⟩ | ⟨x, h1, -, rfl⟩
  · rw [h1]
    exact ⟨v, rfl, adp_at h3.row⟩
  · rw [h1]
    exact ⟨_, rfl, row_nil _⟩
theorem RoPA.fix {s : ByteArray} {b : Nat} {e : Ending} {w' : World} (h : RoPA s b e w') : ∃ v, e = .returned (.tuple #[v, .int .i64 (exE (wayL (toL s)))]) ∧ RowAt 3 roC nR w' v (exL (wayL (toL s))) ∧ (exL (wayL (toL s))).length ≤ 16 := by
  rcases h with ⟨l, v, h1, h2, rfl, h3⟩ | ⟨x, h1, -, rfl⟩
  · rw [h1]
    exact ⟨v, rfl, rop_at h3.row, h2⟩
  · rw [h1]
    exact ⟨_, rfl, row_nil _, Nat.zero_le _⟩
theorem RoRA.fix {s : ByteArray} {b : Nat} {e : Ending} {w' : World} (h : RoRA s b e w') : ∃ v, e = .returned (.tuple #[v, .int .i64 (exE (wayL (toL s)))]) ∧ RowAt 3 roC nR w' v (exL (wayL (toL s))) := by
  rcases h with ⟨l, v, h1, h2, rfl, h3⟩ | ⟨x, h1, -, rfl⟩
  · rw [h1]
    exact ⟨v, rfl, rop_at h3.row⟩
  · rw [h1]
    exact ⟨_, rfl, row_nil _⟩
theorem RowAt.sl {X : Type} {n : Nat} {cells : X → List Value} {x0 : X} {w : World} {v : Value} {l : List X} (h : RowAt n cells x0 w v l) : ∃ a m c, v = .slice a m c := by
  obtain ⟨a, cap, rfl, -⟩ := h
  exact ⟨_, _, _, rfl⟩
theorem telV_is (l : List Ro) : ∃ (U : ByteArray) (G : Int), telV l = .tuple #[.string U, .int .i64 G] := by
  unfold telV
  split
  · exact ⟨_, _, rfl⟩
  · exact ⟨_, _, rfl⟩
theorem grmV_is (a b : Int) (d : L) : ∃ (U : ByteArray) (G : Int), grmV a b d = .tuple #[.string U, .int .i64 G] := by
  unfold grmV
  split
  · exact ⟨_, _, rfl⟩
  · exact ⟨_, _, rfl⟩
theorem opnV_is (s : L) : ∃ (a b : Int) (U : ByteArray) (G : Int), opnV s = .tuple #[.int .i64 a, .int .i64 b, .string U, .int .i64 G] := by
  unfold opnV
  split
  · exact ⟨_, _, _, _, rfl⟩
  · exact ⟨_, _, _, _, rfl⟩
structure Y1 (w wr : World) (qv : Value) (l : List Ad) (i : Nat) : Prop where
  row : AdP w.heap.size wr qv (l.take i)
  bel : Below w.heap.size w wr
/-- The routes so far, beside the addresses: these lie below the world v. -/
structure Y2 (w v wr : World) (qv : Value) (l2 : List Ro) (i : Nat) : Prop where
  row : RoP v.heap.size wr qv (l2.take i)
  bel : Below v.heap.size v wr
set_option maxHeartbeats 64000000 in
theorem says16_ok (l1 : List Ad) (l2 : List Ro) (v1 v2 : Value) (S : ByteArray) (st cx : Int) (w : World) (t : VTab w) (h1 : RowAt 3 adc nA w v1 l1) (hb1 : l1.length * 24 ≤ 140737488351232 ∧ ∀ x ∈ l1, AdB x) (h2 : RowAt 3 roC nR w v2 l2) (hb2 : l2.length * 16 ≤ 140737488351232 ∧ ∀ x ∈ l2, RoB x) (hs : S.size ≤ 140737488351232) :
    Calls Tryd.prog 4 #[v1, v2, .string S, .int .i64 st, .int .i64 cx] w fun e w' => e = .returned (.bool true) ∧ Below w.heap.size w w' := by
  have T0 := Lib.hid t
  have HA : Hid (∀ x ∈ l1, x.addr < 4294967296) := fun x hx => (hb1.2 x hx).addr
  have HR : Hid (∀ x ∈ l2, x.low < 4294967296 ∧ x.high < 4294967296) := fun x hx => ⟨(hb2.2 x hx).low, (hb2.2 x hx).high⟩
  have hl1 := hb1.1
  have hl2 := hb2.1
  have H1 := Lib.hid h1
  have H2 := Lib.hid h2
  clear hb1 hb2 t
  obtain ⟨a1, cap1, rfl, hc1, cc1⟩ := h1
  obtain ⟨a2, cap2, rfl, hc2, cc2⟩ := h2
  obtain ⟨n1, hn1⟩ : ∃ n, n = l1.length := ⟨_, rfl⟩
  obtain ⟨n2, hn2⟩ : ∃ n, n = l2.length := ⟨_, rfl⟩
  have C1 := Lib.hid cc1
  have C2 := Lib.hid cc2
  rw [← hn1] at C1 hl1 hc1 H1 ⊢
  rw [← hn2] at C2 hl2 hc2 H2 ⊢
  replace hn1 := Lib.hid hn1
  replace hn2 := Lib.hid hn2
  clear cc1 cc2
  have Q0 : Hid (Y1 w w (.slice none 0 0) l1 0) := ⟨by rw [List.take_zero]; exact AdP.nil _ _, Below.refl _ _⟩
  go_enter Tryd.func4, Tryd.ntmps4
  go_wp2_with fail
  go_loopg [11, 12] n1 (fun gg qv iv wr => ∃ j : Nat, j + gg = n1 ∧ iv = .int .i64 (j : Int) ∧ Hid (Y1 w wr qv l1 j))
  case atStart => exact ⟨0, by omega, rfl, Q0⟩
  case round =>
    clear Q0
    obtain ⟨j, hj, rfl, Y⟩ := hrel
    have jl : j ≤ l1.length := by have := hn1.out; omega
    have tl : (l1.take j).length = j := by rw [List.length_take]; omega
    obtain ⟨aq, cq, hq⟩ := Y.out.row.slice
    rw [tl] at hq
    subst hq
    by_cases hin : j < n1
    · have il : j < l1.length := by have := hn1.out; omega
      obtain ⟨g, o, rfl, hgw, cs⟩ := C1.out j hin
      have tk := take_next l1 nA j il
      obtain ⟨x, hx⟩ : ∃ x, x = l1.getD j nA := ⟨_, rfl⟩
      rw [← hx] at cs tk
      obtain ⟨id, ad, bi⟩ := x
      have ia := fun w' => at_rad g o n1 cap1 j w' hin (j : Int) rfl (o + 3 * j) rfl
      have k0 : wr.cell? ⟨g, o + 3 * j, none⟩ = some (.int .i64 id) := (Y.out.bel.cell hgw).trans (cs 0 (by decide))
      have k1 : wr.cell? ⟨g, o + 3 * j + 1, none⟩ = some (.int .u32 (ad : Int)) := (Y.out.bel.cell hgw).trans (cs 1 (by decide))
      have k2 : wr.cell? ⟨g, o + 3 * j + 2, none⟩ = some (.int .i64 bi) := (Y.out.bel.cell hgw).trans (cs 2 (by decide))
      have RD : AdP w.heap.size wr.drew (.slice aq j cq) (l1.take j) := Y.out.row.of fun _ _ => rfl
      have ZD : Below w.heap.size w wr.drew := Y.out.bel.trans (drewB _ _)
      obtain ⟨v', w4', hap, row, kp⟩ := RD.appB ZD.size (by rw [tl]; omega) ⟨id, ad, bi⟩
      rw [← tk] at row
      have NX : Hid (Y1 w w4' v' l1 (j + 1)) := ⟨row, ZD.trans (kp.below ZD.size fun _ h => h)⟩
      obtain ⟨a3, c3, hv3⟩ := row.slice
      have tl2 : (l1.take (j + 1)).length = j + 1 := by rw [List.length_take]; omega
      rw [tl2] at hv3
      subst hv3
      have hapd : Hid (∀ z, (builtin .append #[45, 45] 45 z #[.slice aq j cq, .slice (some ⟨wr.heap.size, 0, none⟩) 1 1]).run Tryd.prog (wr.alloc (.cells #[.int .i64 id, .int .u32 (ad : Int), .int .i64 bi] 51)).drew = .ok (.value (.slice a3 (j + 1) c3)) w4') := hap
      replace tl := Lib.hid tl
      replace tl2 := Lib.hid tl2
      clear cs hx Y tk row kp RD ZD hap C1 C2 HA HR H1 H2
      go_upto_region 5 with fail
      go_region_law (refine obB2S rfl .append _ _ 45 45 rfl _ _ (by simp [Act.eval]) (by simp [Act.eval]) hapd.out ?_)
      all_goals
        go_wp2_with fail
        go_roundg (n1 - (j + 1))
        case measure => omega
        case rel => exact ⟨j + 1, by omega, by simp, NX⟩
    · have eT : l1.take j = l1 := List.take_of_length_le (by have := hn1.out; omega)
      have PR0 := Y.out.row
      rw [eT] at PR0
      have PR := Lib.hid PR0
      have ZP := Lib.hid Y.out.bel
      have hjn : j = n1 := by omega
      have qn : decide ((j : Int) < (n1 : Int)) = false := decide_eq_false (by omega)
      obtain ⟨wp, hwp⟩ : ∃ wp, wp = wr := ⟨_, rfl⟩
      rw [← hwp] at PR ZP ⊢
      have Q0 : Hid (Y2 w wp wp (.slice none 0 0) l2 0) := ⟨by rw [List.take_zero]; exact RoP.nil _ _, Below.refl _ _⟩
      clear hwp
      replace hjn := Lib.hid hjn
      replace tl := Lib.hid tl
      clear C1 eT PR0 Y
      go_wp2_with fail
      go_loopg [13, 14] n2 (fun gg qv iv wr => ∃ m : Nat, m + gg = n2 ∧ iv = .int .i64 (m : Int) ∧ Hid (Y2 w wp wr qv l2 m))
      case atStart => exact ⟨0, by omega, rfl, Q0⟩
      case round =>
        clear Q0
        obtain ⟨m, hm, rfl, V⟩ := hrel
        have ml : m ≤ l2.length := by have := hn2.out; omega
        have tm : (l2.take m).length = m := by rw [List.length_take]; omega
        obtain ⟨ar, cr, hq⟩ := V.out.row.slice
        rw [tm] at hq
        subst hq
        by_cases hin : m < n2
        · have il : m < l2.length := by have := hn2.out; omega
          obtain ⟨g, o, rfl, hgw, cs⟩ := C2.out m hin
          have tk := take_next l2 nR m il
          obtain ⟨x, hx⟩ : ∃ x, x = l2.getD m nR := ⟨_, rfl⟩
          rw [← hx] at cs tk
          obtain ⟨lo, hh, pr⟩ := x
          have ia := fun w' => at_ro g o n2 cap2 m w' hin (m : Int) rfl (o + 3 * m) rfl
          have bw : Below w.heap.size w wr := ZP.out.trans (V.out.bel.mono ZP.out.size)
          have k0 : wr.cell? ⟨g, o + 3 * m, none⟩ = some (.int .u32 (lo : Int)) := (bw.cell hgw).trans (cs 0 (by decide))
          have k1 : wr.cell? ⟨g, o + 3 * m + 1, none⟩ = some (.int .u32 (hh : Int)) := (bw.cell hgw).trans (cs 1 (by decide))
          have k2 : wr.cell? ⟨g, o + 3 * m + 2, none⟩ = some (.int .i64 pr) := (bw.cell hgw).trans (cs 2 (by decide))
          have RD : RoP wp.heap.size wr.drew (.slice ar m cr) (l2.take m) := V.out.row.of fun _ _ => rfl
          have ZD : Below wp.heap.size wp wr.drew := V.out.bel.trans (drewB _ _)
          obtain ⟨v', w4', hap, row, kp⟩ := RD.appB ZD.size (by rw [tm]; omega) ⟨lo, hh, pr⟩
          rw [← tk] at row
          have NX : Hid (Y2 w wp w4' v' l2 (m + 1)) := ⟨row, ZD.trans (kp.below ZD.size fun _ h => h)⟩
          obtain ⟨a4, c4, hv4⟩ := row.slice
          have tm2 : (l2.take (m + 1)).length = m + 1 := by rw [List.length_take]; omega
          rw [tm2] at hv4
          subst hv4
          have hapd : Hid (∀ z, (builtin .append #[52, 52] 52 z #[.slice ar m cr, .slice (some ⟨wr.heap.size, 0, none⟩) 1 1]).run Tryd.prog (wr.alloc (.cells #[.int .u32 (lo : Int), .int .u32 (hh : Int), .int .i64 pr] 55)).drew = .ok (.value (.slice a4 (m + 1) c4)) w4') := hap
          replace tm := Lib.hid tm
          replace tm2 := Lib.hid tm2
          clear cs hx V tk row kp RD ZD hap C2 HR HA H1 H2 bw PR
          go_upto_region 10 with fail
          go_region_law (refine obB2S rfl .append _ _ 52 52 rfl _ _ (by simp [Act.eval]) (by simp [Act.eval]) hapd.out ?_)
          all_goals
            go_wp2_with fail
            go_roundg (n2 - (m + 1))
            case measure => omega
            case rel => exact ⟨m + 1, by omega, by simp, NX⟩
        · have eT : l2.take m = l2 := List.take_of_length_le (by have := hn2.out; omega)
          have QR0 := V.out.row
          rw [eT] at QR0
          have Z0 := Lib.hid (ZP.out.trans (V.out.bel.mono ZP.out.size))
          have PW : Hid (∀ w', Below wr.heap.size wr w' → RowAt 3 adc nA w' (.slice aq j cq) l1) := fun w' b => (adp_at PR.out.row).low (V.out.bel.trans (b.mono V.out.bel.size))
          have QW : Hid (∀ w', Below wr.heap.size wr w' → RowAt 3 roC nR w' (.slice ar m cr) l2) := fun w' b => (rop_at QR0.row).low b
          have NW : Hid (∀ w', Below wr.heap.size wr w' → Below w.heap.size w w') := fun w' b => Z0.out.trans (b.mono Z0.out.size)
          have qn : decide ((m : Int) < (n2 : Int)) = false := decide_eq_false (by omega)
          have AP : Hid (∀ w', VTab w' → _) := fun w' t' => padrs_ok S w' t' (by omega)
          have AR : Hid (∀ w', _) := fun w' => raddr_ok S w' (by omega)
          have WP : Hid (∀ w', _) := fun w' => pways_ok S w' (by omega)
          have WR : Hid (∀ w', _) := fun w' => rways16_ok S w' (by omega)
          have TP : Hid (∀ w', RowAt 3 roC nR w' (.slice ar m cr) l2 → _) := fun w' h => ptel_ok (.slice ar m cr) l2 w' h (by have := hn2.out; omega) HR.out
          have TR : Hid (∀ w', RowAt 3 roC nR w' (.slice a2 n2 cap2) l2 → _) := fun w' h => rtel16_ok (.slice a2 n2 cap2) l2 w' h (by have := hn2.out; omega) HR.out
          have GP : Hid (∀ w', VTab w' → RowAt 3 adc nA w' (.slice aq j cq) l1 → _) := fun w' t' h => pasg_ok (.slice aq j cq) l1 w' t' h (by have := hn1.out; omega) HA.out
          have GR : Hid (∀ w', RowAt 3 adc nA w' (.slice a1 n1 cap1) l1 → _) := fun w' h => rasg16_ok (.slice a1 n1 cap1) l1 w' h (by have := hn1.out; omega) HA.out
          have MP : Hid (∀ w', VTab w' → _) := fun w' t' => pgrm_ok st cx S w' t' (by omega)
          have MR : Hid (∀ w', _) := fun w' => rgrm_ok st cx S w' (by omega)
          have OP : Hid (∀ w', VTab w' → _) := fun w' t' => popn_ok S w' t' (by omega)
          have OR : Hid (∀ w', _) := fun w' => ropn_ok S w' (by omega)
          obtain ⟨U1, G1, e1⟩ := telV_is l2
          obtain ⟨U2, G2, e2⟩ := grmV_is st cx (toL S)
          obtain ⟨o1, o2, U3, G3, e3⟩ := opnV_is (toL S)
          rw [e1] at TP TR
          rw [e2] at MP MR
          rw [e3] at OP OR
          generalize strL (asgL l1) = U4 at *
          have EA : Hid (∃ E L, E = exE (adrL (toL S)) ∧ L = exL (adrL (toL S))) := ⟨_, _, rfl, rfl⟩
          replace tm := Lib.hid tm
          clear V e1 e2 e3 QR0 C2 HR HA ZP PR eT EA
          have ZB : Hid (Below wr.heap.size wr wr) := Below.refl _ _
          go_wp2_with fail
          refine (AP.out wr (T0.out.below Z0.out)).mono ?_
          rintro e w1 ⟨hA1, b1⟩
          obtain ⟨va, rfl, ra, la⟩ := hA1.fix
          have Z1 := Lib.hid (ZB.out.trans (b1.mono ZB.out.size))
          have RA1 := Lib.hid ra
          obtain ⟨xa, xm, xc, rfl⟩ := ra.sl
          replace la := Lib.hid la
          clear hA1 b1 AP ra ZB
          go_wp2_with fail
          refine (AR.out w1).mono ?_
          rintro e w2 ⟨hA2, b2⟩
          obtain ⟨vb, rfl, rb⟩ := hA2.fix
          have Z2 := Lib.hid (Z1.out.trans (b2.mono Z1.out.size))
          have RA2 := Lib.hid (RA1.out.low b2)
          have RB2 := Lib.hid rb
          obtain ⟨ya, ym, yc, rfl⟩ := rb.sl
          generalize exE (adrL (toL S)) = E1 at *
          generalize exL (adrL (toL S)) = LA at *
          clear hA2 b2 AR rb RA1 Z1
          go_wp2_with fail
          refine (WP.out w2).mono ?_
          rintro e w3 ⟨hA3, b3⟩
          obtain ⟨vc, rfl, rc, lc⟩ := hA3.fix
          have Z3 := Lib.hid (Z2.out.trans (b3.mono Z2.out.size))
          have RA3 := Lib.hid (RA2.out.low b3)
          have RB3 := Lib.hid (RB2.out.low b3)
          have RC3 := Lib.hid rc
          obtain ⟨za, zm, zc, rfl⟩ := rc.sl
          replace lc := Lib.hid lc
          clear hA3 b3 WP rc RA2 RB2 Z2
          go_wp2_with fail
          refine (WR.out w3).mono ?_
          rintro e w4 ⟨hA4, b4⟩
          obtain ⟨vd, rfl, rd⟩ := hA4.fix
          have Z4 := Lib.hid (Z3.out.trans (b4.mono Z3.out.size))
          have RA4 := Lib.hid (RA3.out.low b4)
          have RB4 := Lib.hid (RB3.out.low b4)
          have RC4 := Lib.hid (RC3.out.low b4)
          have RD4 := Lib.hid rd
          obtain ⟨ua, um, uc, rfl⟩ := rd.sl
          generalize exE (wayL (toL S)) = E2 at *
          generalize exL (wayL (toL S)) = LB at *
          clear hA4 b4 WR rd RA3 RB3 RC3 Z3
          go_wp2_with fail
          refine (TP.out w4 (QW.out w4 Z4.out)).mono ?_
          rintro e w5 ⟨rfl, b5⟩
          have Z5 := Lib.hid (Z4.out.trans (b5.mono Z4.out.size))
          have RA5 := Lib.hid (RA4.out.low b5)
          have RB5 := Lib.hid (RB4.out.low b5)
          have RC5 := Lib.hid (RC4.out.low b5)
          have RD5 := Lib.hid (RD4.out.low b5)
          clear b5 TP RA4 RB4 RC4 RD4 Z4
          go_wp2_with fail
          refine (TR.out w5 (H2.out.low (NW.out w5 Z5.out))).mono ?_
          rintro e w6 ⟨rfl, b6⟩
          have Z6 := Lib.hid (Z5.out.trans (b6.mono Z5.out.size))
          have RC6 := Lib.hid (RC5.out.low b6)
          have RD6 := Lib.hid (RD5.out.low b6)
          have SA := Lib.hid (sameA_ok _ _ LA w6 (RA5.out.low b6) (RB5.out.low b6) (by have := la.out; omega))
          clear b6 TR RA5 RB5 RC5 RD5 Z5
          go_wp2_with fail
          refine SA.out.mono ?_
          rintro e w7 ⟨rfl, b7⟩
          have Z7 := Lib.hid (Z6.out.trans (b7.mono Z6.out.size))
          have SB := Lib.hid (sameR_ok _ _ LB w7 (RC6.out.low b7) (RD6.out.low b7) (by have := lc.out; omega))
          clear b7 SA RC6 RD6 Z6
          go_wp2_with fail
          refine SB.out.mono ?_
          rintro e w8 ⟨rfl, b8⟩
          have Z8 := Lib.hid (Z7.out.trans (b8.mono Z7.out.size))
          clear b8 SB Z7
          go_wp2_with fail
          refine (GP.out w8 (T0.out.below (NW.out w8 Z8.out)) (PW.out w8 Z8.out)).mono ?_
          rintro e w9 ⟨rfl, b9⟩
          have Z9 := Lib.hid (Z8.out.trans (b9.mono Z8.out.size))
          clear b9 GP Z8
          go_wp2_with fail
          refine (GR.out w9 (H1.out.low (NW.out w9 Z9.out))).mono ?_
          rintro e w10 ⟨rfl, b10⟩
          have Z10 := Lib.hid (Z9.out.trans (b10.mono Z9.out.size))
          clear b10 GR Z9
          go_wp2_with fail
          refine (MP.out w10 (T0.out.below (NW.out w10 Z10.out))).mono ?_
          rintro e w11 ⟨rfl, b11⟩
          have Z11 := Lib.hid (Z10.out.trans (b11.mono Z10.out.size))
          clear b11 MP Z10
          go_wp2_with fail
          refine (MR.out w11).mono ?_
          rintro e w12 ⟨rfl, b12⟩
          have Z12 := Lib.hid (Z11.out.trans (b12.mono Z11.out.size))
          clear b12 MR Z11
          go_wp2_with fail
          refine (OP.out w12 (T0.out.below (NW.out w12 Z12.out))).mono ?_
          rintro e w13 ⟨rfl, b13⟩
          have Z13 := Lib.hid (Z12.out.trans (b13.mono Z12.out.size))
          clear b13 OP Z12
          go_wp2_with fail
          refine (OR.out w13).mono ?_
          rintro e w14 ⟨rfl, b14⟩
          have Z14 := Lib.hid (NW.out w14 (Z13.out.trans (b14.mono Z13.out.size)))
          clear b14 OR Z13
          go_wp2_with fail
          go_ret
          exact ⟨rfl, Z14.out⟩
end Go.Proofs.YtihkbakbciejiaaDoor
