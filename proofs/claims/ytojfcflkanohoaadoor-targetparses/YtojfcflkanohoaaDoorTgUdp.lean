/-
  What the document's own udp answers of any path: the target of payloads that has it, or none. Paths of at most 1000 bytes; no other condition.
-/
import Derived.Test.YtojfcflkanohoaaDoorTgGuess
import Derived.Test.YtojfcflkanohoaaDoorTgNum
import Derived.Test.YtojfcflkanohoaaDoorPfParse
import Derived.Test.YtojfcflkanohoaaDoorObDraw
import Derived.OrdersHeld
import Derived.Deep.LoopGhost
namespace Go.Proofs.YtojfcflkanohoaaDoor
set_option maxRecDepth 100000
open Go.RowKit Go.Sort

theorem drop_split {p : L} {i k : Nat} (hik : i ≤ k) (hk : k < p.length) (c : p.getD k 0 = 47) : p.drop i = (p.drop i).take (k - i) ++ 47 :: p.drop (k + 1) := by
  have e : p[k] = 47 := by simpa [List.getD, List.getElem?_eq_getElem hk] using c
  have h1 : (p.drop i).drop (k - i) = 47 :: p.drop (k + 1) := by
    rw [List.drop_drop, show i + (k - i) = k by omega, List.drop_eq_getElem_cons hk, e]
  rw [← h1, List.take_append_drop]
theorem no47 {p : L} {i k : Nat} (hk : k < p.length) (h : ∀ j, i ≤ j → j < k → p.getD j 0 ≠ 47) : (47 : UInt8) ∉ (p.drop i).take (k - i) := by
  intro hm
  obtain ⟨j, hj⟩ := List.mem_iff_getElem?.1 hm
  have hl := (List.getElem?_eq_some_iff.1 hj).1
  rw [List.length_take, List.length_drop] at hl
  rw [List.getElem?_take_of_lt (by omega), List.getElem?_drop] at hj
  refine h (i + j) (by omega) (by omega) ?_
  rw [List.getD, hj]
  rfl
/-- Where the first stroke is, behind the front. -/
theorem first47 {p : L} {k : Nat} {a n : Int} (h : IsU p a n) (h24 : 24 ≤ k) (hk : k < p.length) (c : p.getD k 0 = 47) (hn : ∀ j, 24 ≤ j → j < k → p.getD j 0 ≠ 47) :
    toL ((strL p).extract 24 k) = toL (txt a) ∧ p.drop (k + 1) = Lib.decDigits n.toNat ++ 47 :: [] := by
  have e := (drop_split h24 hk c).symm.trans h.drop
  have q := cut_one (no47 hk hn) (txt_no47 h.a0 h.a1) e
  rw [toL_cut, toL_strL, List.drop_take]
  exact ⟨q.1, by rw [q.2, itoa_dec n (by have := h.n0; omega)]⟩
/-- A call of a slot. -/
theorem obCall1u (f : FuncId) (o : Oper) {k1 d : Nat} {tys : Array TypeId} {x1 : Value} {R : Ending → World → Prop} (ho : o.op = .call { callee := .value (.func f), args := #[.tmp k1], argTypes := tys }) (hd : o.dst = some d) (a : Act) (w : World) (K : Act → World → Prop) (Q : Exit → Act → World → Prop)
    (hcf : ∀ w, (callFunc f #[x1]).run Tryd.prog w = .ok (.enter f #[x1]) w) (h1 : a.eval (.tmp k1) = x1) (C : Calls Tryd.prog f #[x1] w R) (hK : ∀ e w', R e w' → ∃ v, e = .returned v ∧ K (a.put (some d) v) w') : o.wp Tryd.prog a w K Q := by
  unfold Oper.wp
  have hr : (execOp a.eval o).run Tryd.prog w = .ok (.enter f #[x1]) w := by
    unfold execOp
    rw [ho]
    simp only [go_sem] at h1 ⊢
    simp [go_sem, h1, hcf]
  rw [hr]
  exact C.mono fun e w' h => by
    obtain ⟨v, rfl, hk⟩ := hK e w' h
    rw [hd]
    exact hk
/-- What udp answers. -/
def UdpE (p : L) (w w' : World) (e : Ending) : Prop := ∃ (a n : Int) (ok : Bool), e = .returned (.tuple #[tgV false a n, .bool ok]) ∧ (ok = true → IsU p a n) ∧ (ok = false → ∀ a' n', ¬ IsU p a' n') ∧ Below w.heap.size w w'
theorem rparse_all (s : ByteArray) (w : World) :
    Calls Tryd.prog 34 #[.string s] w fun e w' => ∃ (a : Int) (q : Bool), e = .returned (.tuple #[.int .u32 a, .bool q]) ∧ (0 ≤ a ∧ a < 4294967296) ∧ (∀ b, 0 ≤ b → b < 4294967296 → txt b = s → a = b ∧ q = true) ∧ Below w.heap.size w w' := by
  refine (rparse_ok s w).mono ?_
  rintro e w' ⟨rfl, b1⟩
  by_cases h : ((txt (cand s)).toList == s.toList) = true
  · refine ⟨cand s, true, by rw [if_pos h], cand_bd s, fun b b0 b1 hb => ⟨?_, rfl⟩, b1⟩
    rw [← hb]
    exact cand_txt b b0 b1
  · refine ⟨0, false, by rw [if_neg h], by decide, fun b b0 b1 hb => absurd ?_ h, b1⟩
    rw [← hb, cand_txt b b0 b1]
    simp
theorem dval_step {r : L} {j : Nat} (hj : j < r.length) : dval (r.take (j + 1)) = 10 * dval (r.take j) + ((r.getD j 0).toNat - 48) := by
  have e : r.getD j 0 = r[j] := by simp [List.getD, List.getElem?_eq_getElem hj]
  rw [List.take_succ_eq_append_getElem hj, dval_snoc, e]
set_option maxHeartbeats 16000000 in
theorem rudp_ok (p : L) (w : World) (hp : p.length ≤ 1000) :
    Calls Tryd.prog 21 #[.string (strL p)] w fun e w' => UdpE p w w' e := by
  have zs := strL_size p
  have PT : Hid (∀ (a : Int) (N : Nat) (w : World), 0 ≤ a → a < 4294967296 → Calls Tryd.prog 12 #[.agg #[.bool false, .int .u32 a, .int .i64 (N : Int)]] w fun e w' => e = .returned (.string (strL (pthT false a N))) ∧ Below w.heap.size w w') := fun a N w a0 a1 => rpath_ok false a N w a0 a1
  have lA := Lies.new w [.bool false, .int .u32 0, .int .i64 0] 25
  have bA := bx1 w (.cells #[.bool false, .int .u32 0, .int .i64 0] 25)
  obtain ⟨wa, hwa⟩ : ∃ wa, wa = w.alloc (.cells #[.bool false, .int .u32 0, .int .i64 0] 25) := ⟨_, rfl⟩
  have lA' : Lies wa w.heap.size [.bool false, .int .u32 0, .int .i64 0] := by rw [hwa]; exact lA
  rw [← hwa] at bA
  obtain ⟨J, hJ⟩ : ∃ J, J = w.heap.size := ⟨_, rfl⟩
  rw [← hJ] at lA'
  replace hJ := Lib.hid hJ
  have LA := Lib.hid lA'
  have BA := Lib.hid bA
  have d0 := lA'.cell 0 (v := .bool false) rfl
  have d1 := lA'.cell 1 (v := .int .u32 0) rfl
  have d2 := lA'.cell 2 (v := .int .i64 0) rfl
  have f0 := lA'.free 0 (by show 0 < 3; decide)
  have f1 := lA'.free 1 (by show 1 < 3; decide)
  have f2 := lA'.free 2 (by show 2 < 3; decide)
  have M := ((lA'.put 0 (by show 0 < 3; decide) (.bool false)).put 1 (by show 1 < 3; decide) (.int .u32 0)).put 2 (by show 2 < 3; decide) (.int .i64 0)
  have k0 := M.cell 0 (v := .bool false) rfl
  have k1 := M.cell 1 (v := .int .u32 0) rfl
  have k2 := M.cell 2 (v := .int .i64 0) rfl
  have jj : w.heap.size ≤ J := by rw [hJ.out]; exact Nat.le_refl _
  have BE : Hid (Below w.heap.size w (((wa.setCell ⟨J, 0, none⟩ (.bool false)).setCell ⟨J, 1, none⟩ (.int .u32 0)).setCell ⟨J, 2, none⟩ (.int .i64 0))) := ((bA.setCell (p := ⟨J, 0, none⟩) jj _).setCell (p := ⟨J, 1, none⟩) jj _).setCell (p := ⟨J, 2, none⟩) jj _
  clear lA bA lA' M
  obtain ⟨m, hm⟩ : ∃ m, m = p.length := ⟨_, rfl⟩
  rw [← hm] at hp zs
  have NO : Hid ((m < 24 ∨ ∀ j, 24 ≤ j → j < m → p.getD j 0 ≠ 47) → ∀ a' n', ¬ IsU p a' n') := fun q a' n' h => by
    have hl := h.len
    rw [← hm] at hl
    rcases q with q | q
    · omega
    · have hd := h.drop
      have t1 := txt_len a'
      refine q (24 + (toL (txt a')).length) (by omega) ?_ ?_
      · have := congrArg List.length hd
        rw [List.length_drop, List.length_append, List.length_cons, ← hm] at this
        omega
      · have e : p.getD (24 + (toL (txt a')).length) 0 = (p.drop 24).getD (toL (txt a')).length 0 := by rw [List.getD, List.getD, List.getElem?_drop]
        rw [e, hd, List.getD, List.getElem?_append_right (Nat.le_refl _), Nat.sub_self]
        rfl
  replace hm := Lib.hid hm
  by_cases q24 : m < 24
  · have z : decide ((m : Int) < 24) = true := decide_eq_true (by omega)
    have z' : decide (m < 24) = true := decide_eq_true q24
    have FIN : Hid (∀ a' n', ¬ IsU p a' n') := NO.out (.inl q24)
    clear NO q24 hp LA BA jj
    generalize strL p = SP at *
    go_enter Tryd.func21, Tryd.ntmps21
    go_upto_region 1 with fail
    rw [← hwa, ← hJ.out]
    clear hwa
    go_wp2_with fail
    refine bodyPost_ret (v := .tuple #[.agg #[.bool false, .int .u32 0, .int .i64 0], .bool false]) (by simp [results, Tryd.results21, go_sem, *]) rfl ?_
    exact ⟨0, 0, false, rfl, (fun c => by cases c), fun _ => FIN.out, BE.out⟩
  · have z : decide ((m : Int) < 24) = false := decide_eq_false (by omega)
    have z' : decide (m < 24) = false := decide_eq_false (by omega)
    go_enter Tryd.func21, Tryd.ntmps21
    go_upto_region 1 with fail
    rw [← hwa, ← hJ.out]
    clear hwa
    go_wp2_with fail
    clear z z'
    go_loopg [4] m (fun g iv wr => ∃ k : Nat, Hid (k + g = m + 24) ∧ 24 ≤ k ∧ k ≤ m ∧ iv = .int .i64 k ∧ Hid (∀ j, 24 ≤ j → j < k → p.getD j 0 ≠ 47) ∧ wa = wr)
    case atStart => exact ⟨24, Lib.hid (by omega), Nat.le_refl _, by omega, rfl, fun j h1 h2 => by omega, rfl⟩
    case round =>
      obtain ⟨k, hk, hk24, hkm, rfl, hno, rfl⟩ := hrel
      have hk0 := hk.out
      by_cases hlt : k < m
      · have g1 : decide ((k : Int) < (m : Int)) = true := decide_eq_true (by omega)
        have g1' : decide (k < m) = true := decide_eq_true (by omega)
        have hkp : Hid (k < p.length) := by unfold Hid; rw [← hm.out]; exact hlt
        have ix := fun w => at_strL p k w hkp.out (k : Int) rfl
        have hms : Hid (m + 24 - (k + 1) < gk) := by unfold Hid; omega
        have hk1 : Hid (k + 1 + (m + 24 - (k + 1)) = m + 24) := by unfold Hid; omega
        by_cases qc : p.getD k 0 = 47
        · rw [qc] at ix
          have ix' : ∀ w, (Instr.index 9 (.string (strL p)) (.int .i64 (k : Int))).run Tryd.prog w = .ok (.int .u8 47) w := ix
          have K1 : Hid (∀ a n, IsU p a n → toL ((strL p).extract 24 k) = toL (txt a) ∧ p.drop (k + 1) = Lib.decDigits n.toNat ++ 47 :: []) := fun a n h => first47 h hk24 hkp.out qc hno.out
          have PR : Hid (∀ w, _) := fun w => rparse_all ((strL p).extract 24 k) w
          have s1 : (24 : Int) ≤ (k : Int) := by omega
          have s2 : (k : Int) ≤ (m : Int) := by omega
          have hpne : Hid (p ≠ []) := fun c => by have := hkp.out; rw [c] at this; cases this
          clear ix hk hk0 hno qc BE k0 k1 k2 NO hms hk1
          obtain ⟨r, hr⟩ : ∃ r, r = p.drop (k + 1) := ⟨_, rfl⟩
          have hrl : r.length + (k + 1) = m := by rw [hr, List.length_drop, ← hm.out]; omega
          have rget : Hid (∀ j, r.getD j 0 = p.getD (k + 1 + j) 0) := fun j => by rw [hr, List.getD, List.getD, List.getElem?_drop]
          rw [← hr] at K1
          replace hr := Lib.hid hr
          generalize hsx : (strL p).extract 24 k = SX at *
          go_wp2_with fail
          skip
          clear hsx
          refine (PR.out wa).mono ?_
          rintro e w1 ⟨a, ok, rfl, ha, hb, b1⟩
          have B1 := Lib.hid (BA.out.trans (b1.mono BA.out.size))
          have L1 := Lib.hid (LA.out.keep (by show 0 < 3; decide) b1)
          replace hb := Lib.hid hb
          clear b1 BA LA PR ix' d0 d1 d2 f0 f1 f2 g1 g1' s1 s2
          have kz : (k : Int) < 1000 := by omega
          go_wp2_with fail
          go_loopg [7, 8] 5 (fun g nv kv wr => ∃ (j : Nat) (N : Nat), Hid (j + g = 5 ∧ j ≤ r.length ∧ N = dval (r.take j) ∧ ∀ i, i < j → isD (r.getD i 0) = true) ∧ N < 10 ^ j ∧ j ≤ 5 ∧ kv = .int .i64 ((k + 1 + j : Nat) : Int) ∧ nv = .int .i64 (N : Int) ∧ w1 = wr)
          case atStart => exact ⟨0, 0, ⟨rfl, Nat.zero_le _, rfl, fun i hi => by omega⟩, by decide, by decide, by go_num, rfl, rfl⟩
          case round =>
            obtain ⟨j, N, hj, hN, hj5, rfl, rfl, rfl⟩ := hrel
            obtain ⟨j1, j2, j3, j4⟩ := hj.out
            have hN5 : N < 100000 := Nat.lt_of_lt_of_le hN (Nat.pow_le_pow_right (by decide) hj5)
            obtain ⟨x, hx⟩ : ∃ x, x = k + 1 + j := ⟨_, rfl⟩
            have hx6 : x < 1007 := by omega
            have xb := Lib.hid hx
            rw [← hx]
            by_cases qq : j < 5 ∧ j < r.length ∧ isD (r.getD j 0) = true
            · obtain ⟨q1, q2, q3⟩ := qq
              have e1 : decide ((x : Int) < (m : Int)) = true := decide_eq_true (by omega)
              have e1' : decide (x < m) = true := decide_eq_true (by omega)
              have e2 : decide ((x : Int) < (k : Int) + 6) = true := decide_eq_true (by omega)
              have e2' : decide (x < k + 6) = true := decide_eq_true (by omega)
              have ix := fun w => at_strL p x w (by rw [← hm.out]; omega) (x : Int) rfl
              have gx := rget.out j
              rw [← hx] at gx
              rw [← gx] at ix
              have ds := dval_step (r := r) (j := j) q2
              rw [← j3] at ds
              have nxt : Hid (j + 1 + (5 - (j + 1)) = 5 ∧ j + 1 ≤ r.length ∧ 10 * N + ((r.getD j 0).toNat - 48) = dval (r.take (j + 1)) ∧ ∀ i, i < j + 1 → isD (r.getD i 0) = true) := ⟨by omega, q2, ds.symm, fun i hi => by
                rcases Nat.lt_or_ge i j with s | s
                · exact j4 i s
                · obtain rfl : i = j := by omega
                  exact q3⟩
              unfold isD at q3
              simp only [Bool.and_eq_true, decide_eq_true_eq] at q3
              generalize r.getD j 0 = c at *
              obtain ⟨y, hy⟩ : ∃ y, y = c.toNat := ⟨_, rfl⟩
              rw [← hy] at q3 ix nxt
              have e3 : decide ((48 : Int) ≤ (y : Int)) = true := decide_eq_true (by omega)
              have e4 : decide ((y : Int) ≤ 57) = true := decide_eq_true (by omega)
              have y1 : (48 : Int) ≤ (y : Int) := by omega
              have y2 : (y : Int) ≤ 57 := by omega
              have N2 : Hid (10 * N + (y - 48) < 10 ^ (j + 1)) := by unfold Hid; rw [Nat.pow_succ]; omega
              have cst : Hid ((10 : Int) * (N : Int) + ((y : Int) - 48) = ((10 * N + (y - 48) : Nat) : Int)) := by unfold Hid; omega
              have cx : Hid ((x : Int) + 1 = ((k + 1 + (j + 1) : Nat) : Int)) := by unfold Hid; omega
              have hms : Hid (5 - (j + 1) < gk) := by unfold Hid; omega
              have j6 : Hid (j + 1 ≤ 5) := q1
              clear hy hx j1 j2 j3 j4 hj ds q1 q2 q3 hN gx
              go_wp2_with fail
              go_roundg (5 - (j + 1))
              case measure => exact hms.out
              case rel => exact ⟨j + 1, 10 * N + (y - 48), nxt, N2.out, j6.out, by rw [← cx.out], by rw [← cst.out], rfl⟩
            · have END : Hid (∀ a' n', IsU p a' n' → (N : Int) = n' ∧ a = a' ∧ ok = true) := fun a' n' h => by
                obtain ⟨u1, u2⟩ := K1.out a' n' h
                have n0 := h.n0
                have n1 := h.n1
                have := dg_end u2 (by omega) (j := j) ⟨hj5, j2, j4⟩ (by
                  rcases Nat.lt_or_ge j 5 with s | s
                  · rcases Nat.lt_or_ge j r.length with t | t
                    · refine .inr (.inr ?_)
                      cases e : isD (r.getD j 0) with
                      | false => rfl
                      | true => exact absurd ⟨s, t, e⟩ qq
                    · exact .inr (.inl (by omega))
                  · exact .inl (by omega))
                have hb2 := hb.out a' h.a0 h.a1 (toL_inj u1).symm
                exact ⟨by rw [j3, this]; omega, hb2.1, hb2.2⟩
              by_cases w1q : x < m
              · have e1 : decide ((x : Int) < (m : Int)) = true := decide_eq_true (by omega)
                have e1' : decide (x < m) = true := decide_eq_true (by omega)
                by_cases w2q : x < k + 6
                · have e2 : decide ((x : Int) < (k : Int) + 6) = true := decide_eq_true (by omega)
                  have e2' : decide (x < k + 6) = true := decide_eq_true (by omega)
                  have ix := fun w => at_strL p x w (by rw [← hm.out]; omega) (x : Int) rfl
                  have gx := rget.out j
                  rw [← hx] at gx
                  rw [← gx] at ix
                  have nd : isD (r.getD j 0) = false := by
                    cases e : isD (r.getD j 0) with
                    | false => rfl
                    | true => exact absurd ⟨by omega, by omega, e⟩ qq
                  generalize r.getD j 0 = c at *
                  obtain ⟨y, hy⟩ : ∃ y, y = c.toNat := ⟨_, rfl⟩
                  unfold isD at nd
                  rw [← hy] at nd ix
                  rw [Bool.and_eq_false_iff, decide_eq_false_iff_not, decide_eq_false_iff_not] at nd
                  by_cases w3q : 48 ≤ y
                  · have e3 : decide ((48 : Int) ≤ (y : Int)) = true := decide_eq_true (by omega)
                    have e4 : decide ((y : Int) ≤ 57) = false := decide_eq_false (by omega)
                    clear nd hy gx hx

                    clear qq hj j1 j2 j3 j4 K1 hb rget hN
                    have lK := Lies.new w1 [.bool false, .int .u32 a, .int .i64 (N : Int)] 25
                    have bK := bx1 w1 (.cells #[.bool false, .int .u32 a, .int .i64 (N : Int)] 25)
                    obtain ⟨w2, hw2⟩ : ∃ w2, w2 = w1.alloc (.cells #[.bool false, .int .u32 a, .int .i64 (N : Int)] 25) := ⟨_, rfl⟩
                    have lK' : Lies w2 w1.heap.size [.bool false, .int .u32 a, .int .i64 (N : Int)] := by rw [hw2]; exact lK
                    rw [← hw2] at bK
                    obtain ⟨KK, hKK⟩ : ∃ KK, KK = w1.heap.size := ⟨_, rfl⟩
                    have hKJ : KK ≠ J := by have := L1.out.lt (by show 0 < 3; decide); omega
                    have hJK : ¬ J = KK := fun c => hKJ c.symm
                    have hKJ2 : ¬ KK = J := hKJ
                    rw [← hKK] at lK'
                    have JL2 := Lib.hid (L1.out.keep (by show 0 < 3; decide) bK)
                    have BD2 := Lib.hid (B1.out.trans (bK.mono B1.out.size))
                    replace lK' := Lib.hid lK'
                    clear lK bK B1 L1
                    go_upto_region 14 with fail
                    rw [← hw2, ← hKK]
                    clear hw2
                    replace hKK := Lib.hid hKK
                    refine wp_region_held (S := fun w' => w'.cell? ⟨KK, 0, none⟩ = some (.bool false) ∧ w'.cell? ⟨KK, 1, none⟩ = some (.int .u32 a) ∧ w'.cell? ⟨KK, 2, none⟩ = some (.int .i64 (N : Int))) (by kernel_rfl) ?_
                    change wpAnyH _ .any _ _ _ 10 (Array.replicate 10 false) _ w2.drew
                    have dr : Below w2.heap.size w2 w2.drew := ⟨rfl, rfl, rfl, Nat.le_refl _, fun _ _ => rfl⟩
                    have KL := lK'.out.keep (by show 0 < 3; decide) dr
                    have JL := JL2.out.keep (by show 0 < 3; decide) dr
                    have BD := BD2.out.trans (dr.mono BD2.out.size)
                    have hS : w2.drew.cell? ⟨KK, 0, none⟩ = some (.bool false) ∧ w2.drew.cell? ⟨KK, 1, none⟩ = some (.int .u32 a) ∧ w2.drew.cell? ⟨KK, 2, none⟩ = some (.int .i64 (N : Int)) := ⟨KL.cell 0 rfl, KL.cell 1 rfl, KL.cell 2 rfl⟩
                    clear dr lK' JL2 BD2
                    generalize w2.drew = wd at *
                    refine obTakeH (i := 0) (d := 68) (v := .agg #[.bool false, .int .u32 a, .int .i64 (N : Int)]) rfl rfl (by kernel_rfl) (by kernel_rfl) (by kernel_rfl) (fun _ _ _ h => h) rfl (fun w hS => by obtain ⟨s0, s1, s2⟩ := hS; go_simp) hS ?_
                    cases ok
                    · refine obTakeH (i := 1) (d := 69) (v := .bool false) rfl rfl (by kernel_rfl) (by kernel_rfl) (by kernel_rfl) (fun _ _ _ h => h) rfl (fun w hS => by obtain ⟨s0, s1, s2⟩ := hS; go_simp) hS ?_
                      refine obTakeH (i := 2) (d := 70) (v := .bool false) rfl rfl (by kernel_rfl) (by kernel_rfl) (by kernel_rfl) (fun _ _ _ h => h) rfl (fun w hS => by obtain ⟨s0, s1, s2⟩ := hS; go_simp) hS ?_
                      try simp only [Act.put, List.setIfInBounds_toArray, List.set_cons_succ, List.set_cons_zero]
                      refine obSkipH (i := 3) (d := 71) rfl rfl (by kernel_rfl) (by kernel_rfl) (by kernel_rfl) (fun _ _ _ h => h) (by kernel_rfl) hS ?_
                      refine obSkipH (i := 4) (d := 72) rfl rfl (by kernel_rfl) (by kernel_rfl) (by kernel_rfl) (fun _ _ _ h => h) (by kernel_rfl) hS ?_
                      refine obSkipH (i := 5) (d := 73) rfl rfl (by kernel_rfl) (by kernel_rfl) (by kernel_rfl) (fun _ _ _ h => h) (by kernel_rfl) hS ?_
                      refine obSkipH (i := 6) (d := 74) rfl rfl (by kernel_rfl) (by kernel_rfl) (by kernel_rfl) (fun _ _ _ h => h) (by kernel_rfl) hS ?_
                      try simp only [Act.put, List.setIfInBounds_toArray, List.set_cons_succ, List.set_cons_zero]
                      refine obTakeH (i := 7) (d := 75) (v := .bool false) rfl rfl (by kernel_rfl) (by kernel_rfl) (by kernel_rfl) (fun _ _ _ h => h) rfl (fun w hS => by obtain ⟨s0, s1, s2⟩ := hS; go_simp) hS ?_
                      try simp only [Act.put, List.setIfInBounds_toArray, List.set_cons_succ, List.set_cons_zero]
                      have d0 := JL.cell 0 (v := .bool false) rfl
                      have d1 := JL.cell 1 (v := .int .u32 0) rfl
                      have d2 := JL.cell 2 (v := .int .i64 0) rfl
                      have f0 := JL.free 0 (by show 0 < 3; decide)
                      have f1 := JL.free 1 (by show 1 < 3; decide)
                      have f2 := JL.free 2 (by show 2 < 3; decide)
                      have M := ((JL.put 0 (by show 0 < 3; decide) (.bool false)).put 1 (by show 1 < 3; decide) (.int .u32 a)).put 2 (by show 2 < 3; decide) (.int .i64 (N : Int))
                      have m0 := M.cell 0 (v := .bool false) rfl
                      have m1 := M.cell 1 (v := .int .u32 a) rfl
                      have m2 := M.cell 2 (v := .int .i64 (N : Int)) rfl
                      have jj : w.heap.size ≤ J := by rw [hJ.out]; exact Nat.le_refl _
                      have BE : Hid (Below w.heap.size w (((wd.setCell ⟨J, 0, none⟩ (.bool false)).setCell ⟨J, 1, none⟩ (.int .u32 a)).setCell ⟨J, 2, none⟩ (.int .i64 (N : Int)))) := ((BD.setCell (p := ⟨J, 0, none⟩) jj _).setCell (p := ⟨J, 1, none⟩) jj _).setCell (p := ⟨J, 2, none⟩) jj _
                      have KE := KL.of_block (w' := (((wd.setCell ⟨J, 0, none⟩ (.bool false)).setCell ⟨J, 1, none⟩ (.int .u32 a)).setCell ⟨J, 2, none⟩ (.int .i64 (N : Int)))) (((Below.heap_setCell _ _ _ _ (by show KK ≠ J; exact hKJ)).trans (Below.heap_setCell _ _ _ _ (by show KK ≠ J; exact hKJ))).trans (Below.heap_setCell _ _ _ _ (by show KK ≠ J; exact hKJ)))
                      have hSE : (((wd.setCell ⟨J, 0, none⟩ (.bool false)).setCell ⟨J, 1, none⟩ (.int .u32 a)).setCell ⟨J, 2, none⟩ (.int .i64 (N : Int))).cell? ⟨KK, 0, none⟩ = some (.bool false) ∧ (((wd.setCell ⟨J, 0, none⟩ (.bool false)).setCell ⟨J, 1, none⟩ (.int .u32 a)).setCell ⟨J, 2, none⟩ (.int .i64 (N : Int))).cell? ⟨KK, 1, none⟩ = some (.int .u32 a) ∧ (((wd.setCell ⟨J, 0, none⟩ (.bool false)).setCell ⟨J, 1, none⟩ (.int .u32 a)).setCell ⟨J, 2, none⟩ (.int .i64 (N : Int))).cell? ⟨KK, 2, none⟩ = some (.int .i64 (N : Int)) := ⟨KE.cell 0 rfl, KE.cell 1 rfl, KE.cell 2 rfl⟩
                      clear M jj KE JL KL BD
                      refine wpAnyH_all (rs := [8]) (by kernel_rfl) (by simp) (fun y hy => ?_)
                      obtain rfl : y = 8 := by simpa using hy
                      clear hy
                      refine wpOp_step rfl (fun K' hK => ?_)
                      go_simp
                      refine hK _ _ ⟨hSE, ?_⟩
                      clear hK K'
                      try simp only [Act.put]
                      replace hS := hSE
                      clear hSE
                      refine obTakeH (i := 9) (d := 3) (v := .bool false) rfl rfl (by kernel_rfl) (by kernel_rfl) (by kernel_rfl) (fun _ _ _ h => h) rfl (fun w hS => by obtain ⟨s0, s1, s2⟩ := hS; go_simp) hS ?_
                      try simp only [Act.put, List.setIfInBounds_toArray, List.set_cons_succ, List.set_cons_zero]
                      refine wpAnyH_done (by kernel_rfl) ?_ 0
                      go_wp2_with fail
                      refine bodyPost_ret (v := .tuple #[.agg #[.bool false, .int .u32 a, .int .i64 (N : Int)], .bool false]) (by simp [results, Tryd.results21, go_sem, *]) rfl ?_
                      exact ⟨a, N, false, rfl, (fun c => by cases c), (fun _ a' n' h => by have := (END.out a' n' h).2.2; cases this), BE.out⟩
                    · refine obTakeH (i := 1) (d := 69) (v := .bool true) rfl rfl (by kernel_rfl) (by kernel_rfl) (by kernel_rfl) (fun _ _ _ h => h) rfl (fun w hS => by obtain ⟨s0, s1, s2⟩ := hS; go_simp) hS ?_
                      refine obTakeH (i := 2) (d := 70) (v := .bool true) rfl rfl (by kernel_rfl) (by kernel_rfl) (by kernel_rfl) (fun _ _ _ h => h) rfl (fun w hS => by obtain ⟨s0, s1, s2⟩ := hS; go_simp) hS ?_
                      try simp only [Act.put, List.setIfInBounds_toArray, List.set_cons_succ, List.set_cons_zero]
                      refine obTakeHG (i := 3) (d := 71) (v := .agg #[.bool false, .int .u32 a, .int .i64 (N : Int)]) rfl rfl (by kernel_rfl) (by kernel_rfl) (by kernel_rfl) (fun _ _ _ h => h) (by kernel_rfl) (fun w hS => by obtain ⟨s0, s1, s2⟩ := hS; go_simp) hS ?_
                      try simp only [Act.put, List.setIfInBounds_toArray, List.set_cons_succ, List.set_cons_zero]
                      refine obTakeHG (i := 5) (d := 73) (v := .string (strL p)) rfl rfl (by kernel_rfl) (by kernel_rfl) (by kernel_rfl) (fun _ _ _ h => h) (by kernel_rfl) (fun w hS => by obtain ⟨s0, s1, s2⟩ := hS; go_simp) hS ?_
                      try simp only [Act.put, List.setIfInBounds_toArray, List.set_cons_succ, List.set_cons_zero]
                      refine wpAnyH_all (rs := [4]) (by kernel_rfl) (by simp) (fun y hy => ?_)
                      obtain rfl : y = 4 := by simpa using hy
                      clear hy
                      refine obStepG rfl (by kernel_rfl) (fun K' hK => ?_)
                      refine obCall1u (k1 := 71) (d := 72) (x1 := .agg #[.bool false, .int .u32 a, .int .i64 (N : Int)]) 12 _ rfl rfl _ _ _ _ (fun _ => rfl) rfl (PT.out a N wd ha.1 ha.2) (fun e wp hR => ?_)
                      obtain ⟨rfl, bp⟩ := hR
                      replace KL := KL.keep (by show 0 < 3; decide) bp
                      replace JL := JL.keep (by show 0 < 3; decide) bp
                      replace BD := BD.trans (bp.mono BD.size)
                      refine ⟨_, rfl, hK _ _ ⟨⟨KL.cell 0 rfl, KL.cell 1 rfl, KL.cell 2 rfl⟩, ?_⟩⟩
                      replace hS : wp.cell? ⟨KK, 0, none⟩ = some (.bool false) ∧ wp.cell? ⟨KK, 1, none⟩ = some (.int .u32 a) ∧ wp.cell? ⟨KK, 2, none⟩ = some (.int .i64 (N : Int)) := ⟨KL.cell 0 rfl, KL.cell 1 rfl, KL.cell 2 rfl⟩
                      clear hK K' bp
                      try simp only [Act.put, List.setIfInBounds_toArray, List.set_cons_succ, List.set_cons_zero]
                      have eq1 := eq_strL (pthT false a N) p
                      by_cases qe : pthT false a N = p
                      · rw [decide_eq_true qe] at eq1
                        have IU : Hid (IsU p a N) := IsU.of qe.symm hpne.out ha.1 ha.2
                        refine obTakeHG (i := 6) (d := 74) (v := .bool true) rfl rfl (by kernel_rfl) (by kernel_rfl) (by kernel_rfl) (fun _ _ _ h => h) (by kernel_rfl) (fun w hS => by obtain ⟨s0, s1, s2⟩ := hS; go_simp) hS ?_
                        try simp only [Act.put, List.setIfInBounds_toArray, List.set_cons_succ, List.set_cons_zero]
                        refine obTakeH (i := 7) (d := 75) (v := .bool true) rfl rfl (by kernel_rfl) (by kernel_rfl) (by kernel_rfl) (fun _ _ _ h => h) rfl (fun w hS => by obtain ⟨s0, s1, s2⟩ := hS; go_simp) hS ?_
                        try simp only [Act.put, List.setIfInBounds_toArray, List.set_cons_succ, List.set_cons_zero]
                        have d0 := JL.cell 0 (v := .bool false) rfl
                        have d1 := JL.cell 1 (v := .int .u32 0) rfl
                        have d2 := JL.cell 2 (v := .int .i64 0) rfl
                        have f0 := JL.free 0 (by show 0 < 3; decide)
                        have f1 := JL.free 1 (by show 1 < 3; decide)
                        have f2 := JL.free 2 (by show 2 < 3; decide)
                        have M := ((JL.put 0 (by show 0 < 3; decide) (.bool false)).put 1 (by show 1 < 3; decide) (.int .u32 a)).put 2 (by show 2 < 3; decide) (.int .i64 (N : Int))
                        have m0 := M.cell 0 (v := .bool false) rfl
                        have m1 := M.cell 1 (v := .int .u32 a) rfl
                        have m2 := M.cell 2 (v := .int .i64 (N : Int)) rfl
                        have jj : w.heap.size ≤ J := by rw [hJ.out]; exact Nat.le_refl _
                        have BE : Hid (Below w.heap.size w (((wp.setCell ⟨J, 0, none⟩ (.bool false)).setCell ⟨J, 1, none⟩ (.int .u32 a)).setCell ⟨J, 2, none⟩ (.int .i64 (N : Int)))) := ((BD.setCell (p := ⟨J, 0, none⟩) jj _).setCell (p := ⟨J, 1, none⟩) jj _).setCell (p := ⟨J, 2, none⟩) jj _
                        have KE := KL.of_block (w' := (((wp.setCell ⟨J, 0, none⟩ (.bool false)).setCell ⟨J, 1, none⟩ (.int .u32 a)).setCell ⟨J, 2, none⟩ (.int .i64 (N : Int)))) (((Below.heap_setCell _ _ _ _ (by show KK ≠ J; exact hKJ)).trans (Below.heap_setCell _ _ _ _ (by show KK ≠ J; exact hKJ))).trans (Below.heap_setCell _ _ _ _ (by show KK ≠ J; exact hKJ)))
                        have hSE : (((wp.setCell ⟨J, 0, none⟩ (.bool false)).setCell ⟨J, 1, none⟩ (.int .u32 a)).setCell ⟨J, 2, none⟩ (.int .i64 (N : Int))).cell? ⟨KK, 0, none⟩ = some (.bool false) ∧ (((wp.setCell ⟨J, 0, none⟩ (.bool false)).setCell ⟨J, 1, none⟩ (.int .u32 a)).setCell ⟨J, 2, none⟩ (.int .i64 (N : Int))).cell? ⟨KK, 1, none⟩ = some (.int .u32 a) ∧ (((wp.setCell ⟨J, 0, none⟩ (.bool false)).setCell ⟨J, 1, none⟩ (.int .u32 a)).setCell ⟨J, 2, none⟩ (.int .i64 (N : Int))).cell? ⟨KK, 2, none⟩ = some (.int .i64 (N : Int)) := ⟨KE.cell 0 rfl, KE.cell 1 rfl, KE.cell 2 rfl⟩
                        clear M jj KE JL KL BD
                        refine wpAnyH_all (rs := [8]) (by kernel_rfl) (by simp) (fun y hy => ?_)
                        obtain rfl : y = 8 := by simpa using hy
                        clear hy
                        refine wpOp_step rfl (fun K' hK => ?_)
                        go_simp
                        refine hK _ _ ⟨hSE, ?_⟩
                        clear hK K'
                        try simp only [Act.put]
                        replace hS := hSE
                        clear hSE
                        refine obTakeH (i := 9) (d := 3) (v := .bool true) rfl rfl (by kernel_rfl) (by kernel_rfl) (by kernel_rfl) (fun _ _ _ h => h) rfl (fun w hS => by obtain ⟨s0, s1, s2⟩ := hS; go_simp) hS ?_
                        try simp only [Act.put, List.setIfInBounds_toArray, List.set_cons_succ, List.set_cons_zero]
                        refine wpAnyH_done (by kernel_rfl) ?_ 0
                        go_wp2_with fail
                        refine bodyPost_ret (v := .tuple #[.agg #[.bool false, .int .u32 a, .int .i64 (N : Int)], .bool true]) (by simp [results, Tryd.results21, go_sem, *]) rfl ?_
                        exact ⟨a, N, true, rfl, (fun _ => IU.out), (fun c => by cases c), BE.out⟩
                      · rw [decide_eq_false qe] at eq1
                        have NU : Hid (∀ a' n', ¬ IsU p a' n') := fun a' n' h => qe (by obtain ⟨e1, e2, _⟩ := END.out a' n' h; rw [e1, e2]; exact h.pth.symm)
                        refine obTakeHG (i := 6) (d := 74) (v := .bool false) rfl rfl (by kernel_rfl) (by kernel_rfl) (by kernel_rfl) (fun _ _ _ h => h) (by kernel_rfl) (fun w hS => by obtain ⟨s0, s1, s2⟩ := hS; go_simp) hS ?_
                        try simp only [Act.put, List.setIfInBounds_toArray, List.set_cons_succ, List.set_cons_zero]
                        refine obTakeH (i := 7) (d := 75) (v := .bool false) rfl rfl (by kernel_rfl) (by kernel_rfl) (by kernel_rfl) (fun _ _ _ h => h) rfl (fun w hS => by obtain ⟨s0, s1, s2⟩ := hS; go_simp) hS ?_
                        try simp only [Act.put, List.setIfInBounds_toArray, List.set_cons_succ, List.set_cons_zero]
                        have d0 := JL.cell 0 (v := .bool false) rfl
                        have d1 := JL.cell 1 (v := .int .u32 0) rfl
                        have d2 := JL.cell 2 (v := .int .i64 0) rfl
                        have f0 := JL.free 0 (by show 0 < 3; decide)
                        have f1 := JL.free 1 (by show 1 < 3; decide)
                        have f2 := JL.free 2 (by show 2 < 3; decide)
                        have M := ((JL.put 0 (by show 0 < 3; decide) (.bool false)).put 1 (by show 1 < 3; decide) (.int .u32 a)).put 2 (by show 2 < 3; decide) (.int .i64 (N : Int))
                        have m0 := M.cell 0 (v := .bool false) rfl
                        have m1 := M.cell 1 (v := .int .u32 a) rfl
                        have m2 := M.cell 2 (v := .int .i64 (N : Int)) rfl
                        have jj : w.heap.size ≤ J := by rw [hJ.out]; exact Nat.le_refl _
                        have BE : Hid (Below w.heap.size w (((wp.setCell ⟨J, 0, none⟩ (.bool false)).setCell ⟨J, 1, none⟩ (.int .u32 a)).setCell ⟨J, 2, none⟩ (.int .i64 (N : Int)))) := ((BD.setCell (p := ⟨J, 0, none⟩) jj _).setCell (p := ⟨J, 1, none⟩) jj _).setCell (p := ⟨J, 2, none⟩) jj _
                        have KE := KL.of_block (w' := (((wp.setCell ⟨J, 0, none⟩ (.bool false)).setCell ⟨J, 1, none⟩ (.int .u32 a)).setCell ⟨J, 2, none⟩ (.int .i64 (N : Int)))) (((Below.heap_setCell _ _ _ _ (by show KK ≠ J; exact hKJ)).trans (Below.heap_setCell _ _ _ _ (by show KK ≠ J; exact hKJ))).trans (Below.heap_setCell _ _ _ _ (by show KK ≠ J; exact hKJ)))
                        have hSE : (((wp.setCell ⟨J, 0, none⟩ (.bool false)).setCell ⟨J, 1, none⟩ (.int .u32 a)).setCell ⟨J, 2, none⟩ (.int .i64 (N : Int))).cell? ⟨KK, 0, none⟩ = some (.bool false) ∧ (((wp.setCell ⟨J, 0, none⟩ (.bool false)).setCell ⟨J, 1, none⟩ (.int .u32 a)).setCell ⟨J, 2, none⟩ (.int .i64 (N : Int))).cell? ⟨KK, 1, none⟩ = some (.int .u32 a) ∧ (((wp.setCell ⟨J, 0, none⟩ (.bool false)).setCell ⟨J, 1, none⟩ (.int .u32 a)).setCell ⟨J, 2, none⟩ (.int .i64 (N : Int))).cell? ⟨KK, 2, none⟩ = some (.int .i64 (N : Int)) := ⟨KE.cell 0 rfl, KE.cell 1 rfl, KE.cell 2 rfl⟩
                        clear M jj KE JL KL BD
                        refine wpAnyH_all (rs := [8]) (by kernel_rfl) (by simp) (fun y hy => ?_)
                        obtain rfl : y = 8 := by simpa using hy
                        clear hy
                        refine wpOp_step rfl (fun K' hK => ?_)
                        go_simp
                        refine hK _ _ ⟨hSE, ?_⟩
                        clear hK K'
                        try simp only [Act.put]
                        replace hS := hSE
                        clear hSE
                        refine obTakeH (i := 9) (d := 3) (v := .bool false) rfl rfl (by kernel_rfl) (by kernel_rfl) (by kernel_rfl) (fun _ _ _ h => h) rfl (fun w hS => by obtain ⟨s0, s1, s2⟩ := hS; go_simp) hS ?_
                        try simp only [Act.put, List.setIfInBounds_toArray, List.set_cons_succ, List.set_cons_zero]
                        refine wpAnyH_done (by kernel_rfl) ?_ 0
                        go_wp2_with fail
                        refine bodyPost_ret (v := .tuple #[.agg #[.bool false, .int .u32 a, .int .i64 (N : Int)], .bool false]) (by simp [results, Tryd.results21, go_sem, *]) rfl ?_
                        exact ⟨a, N, false, rfl, (fun c => by cases c), (fun _ => NU.out), BE.out⟩
                  · have e3 : decide ((48 : Int) ≤ (y : Int)) = false := decide_eq_false (by omega)
                    clear nd hy gx hx

                    clear qq hj j1 j2 j3 j4 K1 hb rget hN
                    have lK := Lies.new w1 [.bool false, .int .u32 a, .int .i64 (N : Int)] 25
                    have bK := bx1 w1 (.cells #[.bool false, .int .u32 a, .int .i64 (N : Int)] 25)
                    obtain ⟨w2, hw2⟩ : ∃ w2, w2 = w1.alloc (.cells #[.bool false, .int .u32 a, .int .i64 (N : Int)] 25) := ⟨_, rfl⟩
                    have lK' : Lies w2 w1.heap.size [.bool false, .int .u32 a, .int .i64 (N : Int)] := by rw [hw2]; exact lK
                    rw [← hw2] at bK
                    obtain ⟨KK, hKK⟩ : ∃ KK, KK = w1.heap.size := ⟨_, rfl⟩
                    have hKJ : KK ≠ J := by have := L1.out.lt (by show 0 < 3; decide); omega
                    have hJK : ¬ J = KK := fun c => hKJ c.symm
                    have hKJ2 : ¬ KK = J := hKJ
                    rw [← hKK] at lK'
                    have JL2 := Lib.hid (L1.out.keep (by show 0 < 3; decide) bK)
                    have BD2 := Lib.hid (B1.out.trans (bK.mono B1.out.size))
                    replace lK' := Lib.hid lK'
                    clear lK bK B1 L1
                    go_upto_region 14 with fail
                    rw [← hw2, ← hKK]
                    clear hw2
                    replace hKK := Lib.hid hKK
                    refine wp_region_held (S := fun w' => w'.cell? ⟨KK, 0, none⟩ = some (.bool false) ∧ w'.cell? ⟨KK, 1, none⟩ = some (.int .u32 a) ∧ w'.cell? ⟨KK, 2, none⟩ = some (.int .i64 (N : Int))) (by kernel_rfl) ?_
                    change wpAnyH _ .any _ _ _ 10 (Array.replicate 10 false) _ w2.drew
                    have dr : Below w2.heap.size w2 w2.drew := ⟨rfl, rfl, rfl, Nat.le_refl _, fun _ _ => rfl⟩
                    have KL := lK'.out.keep (by show 0 < 3; decide) dr
                    have JL := JL2.out.keep (by show 0 < 3; decide) dr
                    have BD := BD2.out.trans (dr.mono BD2.out.size)
                    have hS : w2.drew.cell? ⟨KK, 0, none⟩ = some (.bool false) ∧ w2.drew.cell? ⟨KK, 1, none⟩ = some (.int .u32 a) ∧ w2.drew.cell? ⟨KK, 2, none⟩ = some (.int .i64 (N : Int)) := ⟨KL.cell 0 rfl, KL.cell 1 rfl, KL.cell 2 rfl⟩
                    clear dr lK' JL2 BD2
                    generalize w2.drew = wd at *
                    refine obTakeH (i := 0) (d := 68) (v := .agg #[.bool false, .int .u32 a, .int .i64 (N : Int)]) rfl rfl (by kernel_rfl) (by kernel_rfl) (by kernel_rfl) (fun _ _ _ h => h) rfl (fun w hS => by obtain ⟨s0, s1, s2⟩ := hS; go_simp) hS ?_
                    cases ok
                    · refine obTakeH (i := 1) (d := 69) (v := .bool false) rfl rfl (by kernel_rfl) (by kernel_rfl) (by kernel_rfl) (fun _ _ _ h => h) rfl (fun w hS => by obtain ⟨s0, s1, s2⟩ := hS; go_simp) hS ?_
                      refine obTakeH (i := 2) (d := 70) (v := .bool false) rfl rfl (by kernel_rfl) (by kernel_rfl) (by kernel_rfl) (fun _ _ _ h => h) rfl (fun w hS => by obtain ⟨s0, s1, s2⟩ := hS; go_simp) hS ?_
                      try simp only [Act.put, List.setIfInBounds_toArray, List.set_cons_succ, List.set_cons_zero]
                      refine obSkipH (i := 3) (d := 71) rfl rfl (by kernel_rfl) (by kernel_rfl) (by kernel_rfl) (fun _ _ _ h => h) (by kernel_rfl) hS ?_
                      refine obSkipH (i := 4) (d := 72) rfl rfl (by kernel_rfl) (by kernel_rfl) (by kernel_rfl) (fun _ _ _ h => h) (by kernel_rfl) hS ?_
                      refine obSkipH (i := 5) (d := 73) rfl rfl (by kernel_rfl) (by kernel_rfl) (by kernel_rfl) (fun _ _ _ h => h) (by kernel_rfl) hS ?_
                      refine obSkipH (i := 6) (d := 74) rfl rfl (by kernel_rfl) (by kernel_rfl) (by kernel_rfl) (fun _ _ _ h => h) (by kernel_rfl) hS ?_
                      try simp only [Act.put, List.setIfInBounds_toArray, List.set_cons_succ, List.set_cons_zero]
                      refine obTakeH (i := 7) (d := 75) (v := .bool false) rfl rfl (by kernel_rfl) (by kernel_rfl) (by kernel_rfl) (fun _ _ _ h => h) rfl (fun w hS => by obtain ⟨s0, s1, s2⟩ := hS; go_simp) hS ?_
                      try simp only [Act.put, List.setIfInBounds_toArray, List.set_cons_succ, List.set_cons_zero]
                      have d0 := JL.cell 0 (v := .bool false) rfl
                      have d1 := JL.cell 1 (v := .int .u32 0) rfl
                      have d2 := JL.cell 2 (v := .int .i64 0) rfl
                      have f0 := JL.free 0 (by show 0 < 3; decide)
                      have f1 := JL.free 1 (by show 1 < 3; decide)
                      have f2 := JL.free 2 (by show 2 < 3; decide)
                      have M := ((JL.put 0 (by show 0 < 3; decide) (.bool false)).put 1 (by show 1 < 3; decide) (.int .u32 a)).put 2 (by show 2 < 3; decide) (.int .i64 (N : Int))
                      have m0 := M.cell 0 (v := .bool false) rfl
                      have m1 := M.cell 1 (v := .int .u32 a) rfl
                      have m2 := M.cell 2 (v := .int .i64 (N : Int)) rfl
                      have jj : w.heap.size ≤ J := by rw [hJ.out]; exact Nat.le_refl _
                      have BE : Hid (Below w.heap.size w (((wd.setCell ⟨J, 0, none⟩ (.bool false)).setCell ⟨J, 1, none⟩ (.int .u32 a)).setCell ⟨J, 2, none⟩ (.int .i64 (N : Int)))) := ((BD.setCell (p := ⟨J, 0, none⟩) jj _).setCell (p := ⟨J, 1, none⟩) jj _).setCell (p := ⟨J, 2, none⟩) jj _
                      have KE := KL.of_block (w' := (((wd.setCell ⟨J, 0, none⟩ (.bool false)).setCell ⟨J, 1, none⟩ (.int .u32 a)).setCell ⟨J, 2, none⟩ (.int .i64 (N : Int)))) (((Below.heap_setCell _ _ _ _ (by show KK ≠ J; exact hKJ)).trans (Below.heap_setCell _ _ _ _ (by show KK ≠ J; exact hKJ))).trans (Below.heap_setCell _ _ _ _ (by show KK ≠ J; exact hKJ)))
                      have hSE : (((wd.setCell ⟨J, 0, none⟩ (.bool false)).setCell ⟨J, 1, none⟩ (.int .u32 a)).setCell ⟨J, 2, none⟩ (.int .i64 (N : Int))).cell? ⟨KK, 0, none⟩ = some (.bool false) ∧ (((wd.setCell ⟨J, 0, none⟩ (.bool false)).setCell ⟨J, 1, none⟩ (.int .u32 a)).setCell ⟨J, 2, none⟩ (.int .i64 (N : Int))).cell? ⟨KK, 1, none⟩ = some (.int .u32 a) ∧ (((wd.setCell ⟨J, 0, none⟩ (.bool false)).setCell ⟨J, 1, none⟩ (.int .u32 a)).setCell ⟨J, 2, none⟩ (.int .i64 (N : Int))).cell? ⟨KK, 2, none⟩ = some (.int .i64 (N : Int)) := ⟨KE.cell 0 rfl, KE.cell 1 rfl, KE.cell 2 rfl⟩
                      clear M jj KE JL KL BD
                      refine wpAnyH_all (rs := [8]) (by kernel_rfl) (by simp) (fun y hy => ?_)
                      obtain rfl : y = 8 := by simpa using hy
                      clear hy
                      refine wpOp_step rfl (fun K' hK => ?_)
                      go_simp
                      refine hK _ _ ⟨hSE, ?_⟩
                      clear hK K'
                      try simp only [Act.put]
                      replace hS := hSE
                      clear hSE
                      refine obTakeH (i := 9) (d := 3) (v := .bool false) rfl rfl (by kernel_rfl) (by kernel_rfl) (by kernel_rfl) (fun _ _ _ h => h) rfl (fun w hS => by obtain ⟨s0, s1, s2⟩ := hS; go_simp) hS ?_
                      try simp only [Act.put, List.setIfInBounds_toArray, List.set_cons_succ, List.set_cons_zero]
                      refine wpAnyH_done (by kernel_rfl) ?_ 0
                      go_wp2_with fail
                      refine bodyPost_ret (v := .tuple #[.agg #[.bool false, .int .u32 a, .int .i64 (N : Int)], .bool false]) (by simp [results, Tryd.results21, go_sem, *]) rfl ?_
                      exact ⟨a, N, false, rfl, (fun c => by cases c), (fun _ a' n' h => by have := (END.out a' n' h).2.2; cases this), BE.out⟩
                    · refine obTakeH (i := 1) (d := 69) (v := .bool true) rfl rfl (by kernel_rfl) (by kernel_rfl) (by kernel_rfl) (fun _ _ _ h => h) rfl (fun w hS => by obtain ⟨s0, s1, s2⟩ := hS; go_simp) hS ?_
                      refine obTakeH (i := 2) (d := 70) (v := .bool true) rfl rfl (by kernel_rfl) (by kernel_rfl) (by kernel_rfl) (fun _ _ _ h => h) rfl (fun w hS => by obtain ⟨s0, s1, s2⟩ := hS; go_simp) hS ?_
                      try simp only [Act.put, List.setIfInBounds_toArray, List.set_cons_succ, List.set_cons_zero]
                      refine obTakeHG (i := 3) (d := 71) (v := .agg #[.bool false, .int .u32 a, .int .i64 (N : Int)]) rfl rfl (by kernel_rfl) (by kernel_rfl) (by kernel_rfl) (fun _ _ _ h => h) (by kernel_rfl) (fun w hS => by obtain ⟨s0, s1, s2⟩ := hS; go_simp) hS ?_
                      try simp only [Act.put, List.setIfInBounds_toArray, List.set_cons_succ, List.set_cons_zero]
                      refine obTakeHG (i := 5) (d := 73) (v := .string (strL p)) rfl rfl (by kernel_rfl) (by kernel_rfl) (by kernel_rfl) (fun _ _ _ h => h) (by kernel_rfl) (fun w hS => by obtain ⟨s0, s1, s2⟩ := hS; go_simp) hS ?_
                      try simp only [Act.put, List.setIfInBounds_toArray, List.set_cons_succ, List.set_cons_zero]
                      refine wpAnyH_all (rs := [4]) (by kernel_rfl) (by simp) (fun y hy => ?_)
                      obtain rfl : y = 4 := by simpa using hy
                      clear hy
                      refine obStepG rfl (by kernel_rfl) (fun K' hK => ?_)
                      refine obCall1u (k1 := 71) (d := 72) (x1 := .agg #[.bool false, .int .u32 a, .int .i64 (N : Int)]) 12 _ rfl rfl _ _ _ _ (fun _ => rfl) rfl (PT.out a N wd ha.1 ha.2) (fun e wp hR => ?_)
                      obtain ⟨rfl, bp⟩ := hR
                      replace KL := KL.keep (by show 0 < 3; decide) bp
                      replace JL := JL.keep (by show 0 < 3; decide) bp
                      replace BD := BD.trans (bp.mono BD.size)
                      refine ⟨_, rfl, hK _ _ ⟨⟨KL.cell 0 rfl, KL.cell 1 rfl, KL.cell 2 rfl⟩, ?_⟩⟩
                      replace hS : wp.cell? ⟨KK, 0, none⟩ = some (.bool false) ∧ wp.cell? ⟨KK, 1, none⟩ = some (.int .u32 a) ∧ wp.cell? ⟨KK, 2, none⟩ = some (.int .i64 (N : Int)) := ⟨KL.cell 0 rfl, KL.cell 1 rfl, KL.cell 2 rfl⟩
                      clear hK K' bp
                      try simp only [Act.put, List.setIfInBounds_toArray, List.set_cons_succ, List.set_cons_zero]
                      have eq1 := eq_strL (pthT false a N) p
                      by_cases qe : pthT false a N = p
                      · rw [decide_eq_true qe] at eq1
                        have IU : Hid (IsU p a N) := IsU.of qe.symm hpne.out ha.1 ha.2
                        refine obTakeHG (i := 6) (d := 74) (v := .bool true) rfl rfl (by kernel_rfl) (by kernel_rfl) (by kernel_rfl) (fun _ _ _ h => h) (by kernel_rfl) (fun w hS => by obtain ⟨s0, s1, s2⟩ := hS; go_simp) hS ?_
                        try simp only [Act.put, List.setIfInBounds_toArray, List.set_cons_succ, List.set_cons_zero]
                        refine obTakeH (i := 7) (d := 75) (v := .bool true) rfl rfl (by kernel_rfl) (by kernel_rfl) (by kernel_rfl) (fun _ _ _ h => h) rfl (fun w hS => by obtain ⟨s0, s1, s2⟩ := hS; go_simp) hS ?_
                        try simp only [Act.put, List.setIfInBounds_toArray, List.set_cons_succ, List.set_cons_zero]
                        have d0 := JL.cell 0 (v := .bool false) rfl
                        have d1 := JL.cell 1 (v := .int .u32 0) rfl
                        have d2 := JL.cell 2 (v := .int .i64 0) rfl
                        have f0 := JL.free 0 (by show 0 < 3; decide)
                        have f1 := JL.free 1 (by show 1 < 3; decide)
                        have f2 := JL.free 2 (by show 2 < 3; decide)
                        have M := ((JL.put 0 (by show 0 < 3; decide) (.bool false)).put 1 (by show 1 < 3; decide) (.int .u32 a)).put 2 (by show 2 < 3; decide) (.int .i64 (N : Int))
                        have m0 := M.cell 0 (v := .bool false) rfl
                        have m1 := M.cell 1 (v := .int .u32 a) rfl
                        have m2 := M.cell 2 (v := .int .i64 (N : Int)) rfl
                        have jj : w.heap.size ≤ J := by rw [hJ.out]; exact Nat.le_refl _
                        have BE : Hid (Below w.heap.size w (((wp.setCell ⟨J, 0, none⟩ (.bool false)).setCell ⟨J, 1, none⟩ (.int .u32 a)).setCell ⟨J, 2, none⟩ (.int .i64 (N : Int)))) := ((BD.setCell (p := ⟨J, 0, none⟩) jj _).setCell (p := ⟨J, 1, none⟩) jj _).setCell (p := ⟨J, 2, none⟩) jj _
                        have KE := KL.of_block (w' := (((wp.setCell ⟨J, 0, none⟩ (.bool false)).setCell ⟨J, 1, none⟩ (.int .u32 a)).setCell ⟨J, 2, none⟩ (.int .i64 (N : Int)))) (((Below.heap_setCell _ _ _ _ (by show KK ≠ J; exact hKJ)).trans (Below.heap_setCell _ _ _ _ (by show KK ≠ J; exact hKJ))).trans (Below.heap_setCell _ _ _ _ (by show KK ≠ J; exact hKJ)))
                        have hSE : (((wp.setCell ⟨J, 0, none⟩ (.bool false)).setCell ⟨J, 1, none⟩ (.int .u32 a)).setCell ⟨J, 2, none⟩ (.int .i64 (N : Int))).cell? ⟨KK, 0, none⟩ = some (.bool false) ∧ (((wp.setCell ⟨J, 0, none⟩ (.bool false)).setCell ⟨J, 1, none⟩ (.int .u32 a)).setCell ⟨J, 2, none⟩ (.int .i64 (N : Int))).cell? ⟨KK, 1, none⟩ = some (.int .u32 a) ∧ (((wp.setCell ⟨J, 0, none⟩ (.bool false)).setCell ⟨J, 1, none⟩ (.int .u32 a)).setCell ⟨J, 2, none⟩ (.int .i64 (N : Int))).cell? ⟨KK, 2, none⟩ = some (.int .i64 (N : Int)) := ⟨KE.cell 0 rfl, KE.cell 1 rfl, KE.cell 2 rfl⟩
                        clear M jj KE JL KL BD
                        refine wpAnyH_all (rs := [8]) (by kernel_rfl) (by simp) (fun y hy => ?_)
                        obtain rfl : y = 8 := by simpa using hy
                        clear hy
                        refine wpOp_step rfl (fun K' hK => ?_)
                        go_simp
                        refine hK _ _ ⟨hSE, ?_⟩
                        clear hK K'
                        try simp only [Act.put]
                        replace hS := hSE
                        clear hSE
                        refine obTakeH (i := 9) (d := 3) (v := .bool true) rfl rfl (by kernel_rfl) (by kernel_rfl) (by kernel_rfl) (fun _ _ _ h => h) rfl (fun w hS => by obtain ⟨s0, s1, s2⟩ := hS; go_simp) hS ?_
                        try simp only [Act.put, List.setIfInBounds_toArray, List.set_cons_succ, List.set_cons_zero]
                        refine wpAnyH_done (by kernel_rfl) ?_ 0
                        go_wp2_with fail
                        refine bodyPost_ret (v := .tuple #[.agg #[.bool false, .int .u32 a, .int .i64 (N : Int)], .bool true]) (by simp [results, Tryd.results21, go_sem, *]) rfl ?_
                        exact ⟨a, N, true, rfl, (fun _ => IU.out), (fun c => by cases c), BE.out⟩
                      · rw [decide_eq_false qe] at eq1
                        have NU : Hid (∀ a' n', ¬ IsU p a' n') := fun a' n' h => qe (by obtain ⟨e1, e2, _⟩ := END.out a' n' h; rw [e1, e2]; exact h.pth.symm)
                        refine obTakeHG (i := 6) (d := 74) (v := .bool false) rfl rfl (by kernel_rfl) (by kernel_rfl) (by kernel_rfl) (fun _ _ _ h => h) (by kernel_rfl) (fun w hS => by obtain ⟨s0, s1, s2⟩ := hS; go_simp) hS ?_
                        try simp only [Act.put, List.setIfInBounds_toArray, List.set_cons_succ, List.set_cons_zero]
                        refine obTakeH (i := 7) (d := 75) (v := .bool false) rfl rfl (by kernel_rfl) (by kernel_rfl) (by kernel_rfl) (fun _ _ _ h => h) rfl (fun w hS => by obtain ⟨s0, s1, s2⟩ := hS; go_simp) hS ?_
                        try simp only [Act.put, List.setIfInBounds_toArray, List.set_cons_succ, List.set_cons_zero]
                        have d0 := JL.cell 0 (v := .bool false) rfl
                        have d1 := JL.cell 1 (v := .int .u32 0) rfl
                        have d2 := JL.cell 2 (v := .int .i64 0) rfl
                        have f0 := JL.free 0 (by show 0 < 3; decide)
                        have f1 := JL.free 1 (by show 1 < 3; decide)
                        have f2 := JL.free 2 (by show 2 < 3; decide)
                        have M := ((JL.put 0 (by show 0 < 3; decide) (.bool false)).put 1 (by show 1 < 3; decide) (.int .u32 a)).put 2 (by show 2 < 3; decide) (.int .i64 (N : Int))
                        have m0 := M.cell 0 (v := .bool false) rfl
                        have m1 := M.cell 1 (v := .int .u32 a) rfl
                        have m2 := M.cell 2 (v := .int .i64 (N : Int)) rfl
                        have jj : w.heap.size ≤ J := by rw [hJ.out]; exact Nat.le_refl _
                        have BE : Hid (Below w.heap.size w (((wp.setCell ⟨J, 0, none⟩ (.bool false)).setCell ⟨J, 1, none⟩ (.int .u32 a)).setCell ⟨J, 2, none⟩ (.int .i64 (N : Int)))) := ((BD.setCell (p := ⟨J, 0, none⟩) jj _).setCell (p := ⟨J, 1, none⟩) jj _).setCell (p := ⟨J, 2, none⟩) jj _
                        have KE := KL.of_block (w' := (((wp.setCell ⟨J, 0, none⟩ (.bool false)).setCell ⟨J, 1, none⟩ (.int .u32 a)).setCell ⟨J, 2, none⟩ (.int .i64 (N : Int)))) (((Below.heap_setCell _ _ _ _ (by show KK ≠ J; exact hKJ)).trans (Below.heap_setCell _ _ _ _ (by show KK ≠ J; exact hKJ))).trans (Below.heap_setCell _ _ _ _ (by show KK ≠ J; exact hKJ)))
                        have hSE : (((wp.setCell ⟨J, 0, none⟩ (.bool false)).setCell ⟨J, 1, none⟩ (.int .u32 a)).setCell ⟨J, 2, none⟩ (.int .i64 (N : Int))).cell? ⟨KK, 0, none⟩ = some (.bool false) ∧ (((wp.setCell ⟨J, 0, none⟩ (.bool false)).setCell ⟨J, 1, none⟩ (.int .u32 a)).setCell ⟨J, 2, none⟩ (.int .i64 (N : Int))).cell? ⟨KK, 1, none⟩ = some (.int .u32 a) ∧ (((wp.setCell ⟨J, 0, none⟩ (.bool false)).setCell ⟨J, 1, none⟩ (.int .u32 a)).setCell ⟨J, 2, none⟩ (.int .i64 (N : Int))).cell? ⟨KK, 2, none⟩ = some (.int .i64 (N : Int)) := ⟨KE.cell 0 rfl, KE.cell 1 rfl, KE.cell 2 rfl⟩
                        clear M jj KE JL KL BD
                        refine wpAnyH_all (rs := [8]) (by kernel_rfl) (by simp) (fun y hy => ?_)
                        obtain rfl : y = 8 := by simpa using hy
                        clear hy
                        refine wpOp_step rfl (fun K' hK => ?_)
                        go_simp
                        refine hK _ _ ⟨hSE, ?_⟩
                        clear hK K'
                        try simp only [Act.put]
                        replace hS := hSE
                        clear hSE
                        refine obTakeH (i := 9) (d := 3) (v := .bool false) rfl rfl (by kernel_rfl) (by kernel_rfl) (by kernel_rfl) (fun _ _ _ h => h) rfl (fun w hS => by obtain ⟨s0, s1, s2⟩ := hS; go_simp) hS ?_
                        try simp only [Act.put, List.setIfInBounds_toArray, List.set_cons_succ, List.set_cons_zero]
                        refine wpAnyH_done (by kernel_rfl) ?_ 0
                        go_wp2_with fail
                        refine bodyPost_ret (v := .tuple #[.agg #[.bool false, .int .u32 a, .int .i64 (N : Int)], .bool false]) (by simp [results, Tryd.results21, go_sem, *]) rfl ?_
                        exact ⟨a, N, false, rfl, (fun c => by cases c), (fun _ => NU.out), BE.out⟩
                · have e2 : decide ((x : Int) < (k : Int) + 6) = false := decide_eq_false (by omega)
                  have e2' : decide (x < k + 6) = false := decide_eq_false (by omega)
                  clear hx

                  clear qq hj j1 j2 j3 j4 K1 hb rget hN
                  have lK := Lies.new w1 [.bool false, .int .u32 a, .int .i64 (N : Int)] 25
                  have bK := bx1 w1 (.cells #[.bool false, .int .u32 a, .int .i64 (N : Int)] 25)
                  obtain ⟨w2, hw2⟩ : ∃ w2, w2 = w1.alloc (.cells #[.bool false, .int .u32 a, .int .i64 (N : Int)] 25) := ⟨_, rfl⟩
                  have lK' : Lies w2 w1.heap.size [.bool false, .int .u32 a, .int .i64 (N : Int)] := by rw [hw2]; exact lK
                  rw [← hw2] at bK
                  obtain ⟨KK, hKK⟩ : ∃ KK, KK = w1.heap.size := ⟨_, rfl⟩
                  have hKJ : KK ≠ J := by have := L1.out.lt (by show 0 < 3; decide); omega
                  have hJK : ¬ J = KK := fun c => hKJ c.symm
                  have hKJ2 : ¬ KK = J := hKJ
                  rw [← hKK] at lK'
                  have JL2 := Lib.hid (L1.out.keep (by show 0 < 3; decide) bK)
                  have BD2 := Lib.hid (B1.out.trans (bK.mono B1.out.size))
                  replace lK' := Lib.hid lK'
                  clear lK bK B1 L1
                  go_upto_region 14 with fail
                  rw [← hw2, ← hKK]
                  clear hw2
                  replace hKK := Lib.hid hKK
                  refine wp_region_held (S := fun w' => w'.cell? ⟨KK, 0, none⟩ = some (.bool false) ∧ w'.cell? ⟨KK, 1, none⟩ = some (.int .u32 a) ∧ w'.cell? ⟨KK, 2, none⟩ = some (.int .i64 (N : Int))) (by kernel_rfl) ?_
                  change wpAnyH _ .any _ _ _ 10 (Array.replicate 10 false) _ w2.drew
                  have dr : Below w2.heap.size w2 w2.drew := ⟨rfl, rfl, rfl, Nat.le_refl _, fun _ _ => rfl⟩
                  have KL := lK'.out.keep (by show 0 < 3; decide) dr
                  have JL := JL2.out.keep (by show 0 < 3; decide) dr
                  have BD := BD2.out.trans (dr.mono BD2.out.size)
                  have hS : w2.drew.cell? ⟨KK, 0, none⟩ = some (.bool false) ∧ w2.drew.cell? ⟨KK, 1, none⟩ = some (.int .u32 a) ∧ w2.drew.cell? ⟨KK, 2, none⟩ = some (.int .i64 (N : Int)) := ⟨KL.cell 0 rfl, KL.cell 1 rfl, KL.cell 2 rfl⟩
                  clear dr lK' JL2 BD2
                  generalize w2.drew = wd at *
                  refine obTakeH (i := 0) (d := 68) (v := .agg #[.bool false, .int .u32 a, .int .i64 (N : Int)]) rfl rfl (by kernel_rfl) (by kernel_rfl) (by kernel_rfl) (fun _ _ _ h => h) rfl (fun w hS => by obtain ⟨s0, s1, s2⟩ := hS; go_simp) hS ?_
                  cases ok
                  · refine obTakeH (i := 1) (d := 69) (v := .bool false) rfl rfl (by kernel_rfl) (by kernel_rfl) (by kernel_rfl) (fun _ _ _ h => h) rfl (fun w hS => by obtain ⟨s0, s1, s2⟩ := hS; go_simp) hS ?_
                    refine obTakeH (i := 2) (d := 70) (v := .bool false) rfl rfl (by kernel_rfl) (by kernel_rfl) (by kernel_rfl) (fun _ _ _ h => h) rfl (fun w hS => by obtain ⟨s0, s1, s2⟩ := hS; go_simp) hS ?_
                    try simp only [Act.put, List.setIfInBounds_toArray, List.set_cons_succ, List.set_cons_zero]
                    refine obSkipH (i := 3) (d := 71) rfl rfl (by kernel_rfl) (by kernel_rfl) (by kernel_rfl) (fun _ _ _ h => h) (by kernel_rfl) hS ?_
                    refine obSkipH (i := 4) (d := 72) rfl rfl (by kernel_rfl) (by kernel_rfl) (by kernel_rfl) (fun _ _ _ h => h) (by kernel_rfl) hS ?_
                    refine obSkipH (i := 5) (d := 73) rfl rfl (by kernel_rfl) (by kernel_rfl) (by kernel_rfl) (fun _ _ _ h => h) (by kernel_rfl) hS ?_
                    refine obSkipH (i := 6) (d := 74) rfl rfl (by kernel_rfl) (by kernel_rfl) (by kernel_rfl) (fun _ _ _ h => h) (by kernel_rfl) hS ?_
                    try simp only [Act.put, List.setIfInBounds_toArray, List.set_cons_succ, List.set_cons_zero]
                    refine obTakeH (i := 7) (d := 75) (v := .bool false) rfl rfl (by kernel_rfl) (by kernel_rfl) (by kernel_rfl) (fun _ _ _ h => h) rfl (fun w hS => by obtain ⟨s0, s1, s2⟩ := hS; go_simp) hS ?_
                    try simp only [Act.put, List.setIfInBounds_toArray, List.set_cons_succ, List.set_cons_zero]
                    have d0 := JL.cell 0 (v := .bool false) rfl
                    have d1 := JL.cell 1 (v := .int .u32 0) rfl
                    have d2 := JL.cell 2 (v := .int .i64 0) rfl
                    have f0 := JL.free 0 (by show 0 < 3; decide)
                    have f1 := JL.free 1 (by show 1 < 3; decide)
                    have f2 := JL.free 2 (by show 2 < 3; decide)
                    have M := ((JL.put 0 (by show 0 < 3; decide) (.bool false)).put 1 (by show 1 < 3; decide) (.int .u32 a)).put 2 (by show 2 < 3; decide) (.int .i64 (N : Int))
                    have m0 := M.cell 0 (v := .bool false) rfl
                    have m1 := M.cell 1 (v := .int .u32 a) rfl
                    have m2 := M.cell 2 (v := .int .i64 (N : Int)) rfl
                    have jj : w.heap.size ≤ J := by rw [hJ.out]; exact Nat.le_refl _
                    have BE : Hid (Below w.heap.size w (((wd.setCell ⟨J, 0, none⟩ (.bool false)).setCell ⟨J, 1, none⟩ (.int .u32 a)).setCell ⟨J, 2, none⟩ (.int .i64 (N : Int)))) := ((BD.setCell (p := ⟨J, 0, none⟩) jj _).setCell (p := ⟨J, 1, none⟩) jj _).setCell (p := ⟨J, 2, none⟩) jj _
                    have KE := KL.of_block (w' := (((wd.setCell ⟨J, 0, none⟩ (.bool false)).setCell ⟨J, 1, none⟩ (.int .u32 a)).setCell ⟨J, 2, none⟩ (.int .i64 (N : Int)))) (((Below.heap_setCell _ _ _ _ (by show KK ≠ J; exact hKJ)).trans (Below.heap_setCell _ _ _ _ (by show KK ≠ J; exact hKJ))).trans (Below.heap_setCell _ _ _ _ (by show KK ≠ J; exact hKJ)))
                    have hSE : (((wd.setCell ⟨J, 0, none⟩ (.bool false)).setCell ⟨J, 1, none⟩ (.int .u32 a)).setCell ⟨J, 2, none⟩ (.int .i64 (N : Int))).cell? ⟨KK, 0, none⟩ = some (.bool false) ∧ (((wd.setCell ⟨J, 0, none⟩ (.bool false)).setCell ⟨J, 1, none⟩ (.int .u32 a)).setCell ⟨J, 2, none⟩ (.int .i64 (N : Int))).cell? ⟨KK, 1, none⟩ = some (.int .u32 a) ∧ (((wd.setCell ⟨J, 0, none⟩ (.bool false)).setCell ⟨J, 1, none⟩ (.int .u32 a)).setCell ⟨J, 2, none⟩ (.int .i64 (N : Int))).cell? ⟨KK, 2, none⟩ = some (.int .i64 (N : Int)) := ⟨KE.cell 0 rfl, KE.cell 1 rfl, KE.cell 2 rfl⟩
                    clear M jj KE JL KL BD
                    refine wpAnyH_all (rs := [8]) (by kernel_rfl) (by simp) (fun y hy => ?_)
                    obtain rfl : y = 8 := by simpa using hy
                    clear hy
                    refine wpOp_step rfl (fun K' hK => ?_)
                    go_simp
                    refine hK _ _ ⟨hSE, ?_⟩
                    clear hK K'
                    try simp only [Act.put]
                    replace hS := hSE
                    clear hSE
                    refine obTakeH (i := 9) (d := 3) (v := .bool false) rfl rfl (by kernel_rfl) (by kernel_rfl) (by kernel_rfl) (fun _ _ _ h => h) rfl (fun w hS => by obtain ⟨s0, s1, s2⟩ := hS; go_simp) hS ?_
                    try simp only [Act.put, List.setIfInBounds_toArray, List.set_cons_succ, List.set_cons_zero]
                    refine wpAnyH_done (by kernel_rfl) ?_ 0
                    go_wp2_with fail
                    refine bodyPost_ret (v := .tuple #[.agg #[.bool false, .int .u32 a, .int .i64 (N : Int)], .bool false]) (by simp [results, Tryd.results21, go_sem, *]) rfl ?_
                    exact ⟨a, N, false, rfl, (fun c => by cases c), (fun _ a' n' h => by have := (END.out a' n' h).2.2; cases this), BE.out⟩
                  · refine obTakeH (i := 1) (d := 69) (v := .bool true) rfl rfl (by kernel_rfl) (by kernel_rfl) (by kernel_rfl) (fun _ _ _ h => h) rfl (fun w hS => by obtain ⟨s0, s1, s2⟩ := hS; go_simp) hS ?_
                    refine obTakeH (i := 2) (d := 70) (v := .bool true) rfl rfl (by kernel_rfl) (by kernel_rfl) (by kernel_rfl) (fun _ _ _ h => h) rfl (fun w hS => by obtain ⟨s0, s1, s2⟩ := hS; go_simp) hS ?_
                    try simp only [Act.put, List.setIfInBounds_toArray, List.set_cons_succ, List.set_cons_zero]
                    refine obTakeHG (i := 3) (d := 71) (v := .agg #[.bool false, .int .u32 a, .int .i64 (N : Int)]) rfl rfl (by kernel_rfl) (by kernel_rfl) (by kernel_rfl) (fun _ _ _ h => h) (by kernel_rfl) (fun w hS => by obtain ⟨s0, s1, s2⟩ := hS; go_simp) hS ?_
                    try simp only [Act.put, List.setIfInBounds_toArray, List.set_cons_succ, List.set_cons_zero]
                    refine obTakeHG (i := 5) (d := 73) (v := .string (strL p)) rfl rfl (by kernel_rfl) (by kernel_rfl) (by kernel_rfl) (fun _ _ _ h => h) (by kernel_rfl) (fun w hS => by obtain ⟨s0, s1, s2⟩ := hS; go_simp) hS ?_
                    try simp only [Act.put, List.setIfInBounds_toArray, List.set_cons_succ, List.set_cons_zero]
                    refine wpAnyH_all (rs := [4]) (by kernel_rfl) (by simp) (fun y hy => ?_)
                    obtain rfl : y = 4 := by simpa using hy
                    clear hy
                    refine obStepG rfl (by kernel_rfl) (fun K' hK => ?_)
                    refine obCall1u (k1 := 71) (d := 72) (x1 := .agg #[.bool false, .int .u32 a, .int .i64 (N : Int)]) 12 _ rfl rfl _ _ _ _ (fun _ => rfl) rfl (PT.out a N wd ha.1 ha.2) (fun e wp hR => ?_)
                    obtain ⟨rfl, bp⟩ := hR
                    replace KL := KL.keep (by show 0 < 3; decide) bp
                    replace JL := JL.keep (by show 0 < 3; decide) bp
                    replace BD := BD.trans (bp.mono BD.size)
                    refine ⟨_, rfl, hK _ _ ⟨⟨KL.cell 0 rfl, KL.cell 1 rfl, KL.cell 2 rfl⟩, ?_⟩⟩
                    replace hS : wp.cell? ⟨KK, 0, none⟩ = some (.bool false) ∧ wp.cell? ⟨KK, 1, none⟩ = some (.int .u32 a) ∧ wp.cell? ⟨KK, 2, none⟩ = some (.int .i64 (N : Int)) := ⟨KL.cell 0 rfl, KL.cell 1 rfl, KL.cell 2 rfl⟩
                    clear hK K' bp
                    try simp only [Act.put, List.setIfInBounds_toArray, List.set_cons_succ, List.set_cons_zero]
                    have eq1 := eq_strL (pthT false a N) p
                    by_cases qe : pthT false a N = p
                    · rw [decide_eq_true qe] at eq1
                      have IU : Hid (IsU p a N) := IsU.of qe.symm hpne.out ha.1 ha.2
                      refine obTakeHG (i := 6) (d := 74) (v := .bool true) rfl rfl (by kernel_rfl) (by kernel_rfl) (by kernel_rfl) (fun _ _ _ h => h) (by kernel_rfl) (fun w hS => by obtain ⟨s0, s1, s2⟩ := hS; go_simp) hS ?_
                      try simp only [Act.put, List.setIfInBounds_toArray, List.set_cons_succ, List.set_cons_zero]
                      refine obTakeH (i := 7) (d := 75) (v := .bool true) rfl rfl (by kernel_rfl) (by kernel_rfl) (by kernel_rfl) (fun _ _ _ h => h) rfl (fun w hS => by obtain ⟨s0, s1, s2⟩ := hS; go_simp) hS ?_
                      try simp only [Act.put, List.setIfInBounds_toArray, List.set_cons_succ, List.set_cons_zero]
                      have d0 := JL.cell 0 (v := .bool false) rfl
                      have d1 := JL.cell 1 (v := .int .u32 0) rfl
                      have d2 := JL.cell 2 (v := .int .i64 0) rfl
                      have f0 := JL.free 0 (by show 0 < 3; decide)
                      have f1 := JL.free 1 (by show 1 < 3; decide)
                      have f2 := JL.free 2 (by show 2 < 3; decide)
                      have M := ((JL.put 0 (by show 0 < 3; decide) (.bool false)).put 1 (by show 1 < 3; decide) (.int .u32 a)).put 2 (by show 2 < 3; decide) (.int .i64 (N : Int))
                      have m0 := M.cell 0 (v := .bool false) rfl
                      have m1 := M.cell 1 (v := .int .u32 a) rfl
                      have m2 := M.cell 2 (v := .int .i64 (N : Int)) rfl
                      have jj : w.heap.size ≤ J := by rw [hJ.out]; exact Nat.le_refl _
                      have BE : Hid (Below w.heap.size w (((wp.setCell ⟨J, 0, none⟩ (.bool false)).setCell ⟨J, 1, none⟩ (.int .u32 a)).setCell ⟨J, 2, none⟩ (.int .i64 (N : Int)))) := ((BD.setCell (p := ⟨J, 0, none⟩) jj _).setCell (p := ⟨J, 1, none⟩) jj _).setCell (p := ⟨J, 2, none⟩) jj _
                      have KE := KL.of_block (w' := (((wp.setCell ⟨J, 0, none⟩ (.bool false)).setCell ⟨J, 1, none⟩ (.int .u32 a)).setCell ⟨J, 2, none⟩ (.int .i64 (N : Int)))) (((Below.heap_setCell _ _ _ _ (by show KK ≠ J; exact hKJ)).trans (Below.heap_setCell _ _ _ _ (by show KK ≠ J; exact hKJ))).trans (Below.heap_setCell _ _ _ _ (by show KK ≠ J; exact hKJ)))
                      have hSE : (((wp.setCell ⟨J, 0, none⟩ (.bool false)).setCell ⟨J, 1, none⟩ (.int .u32 a)).setCell ⟨J, 2, none⟩ (.int .i64 (N : Int))).cell? ⟨KK, 0, none⟩ = some (.bool false) ∧ (((wp.setCell ⟨J, 0, none⟩ (.bool false)).setCell ⟨J, 1, none⟩ (.int .u32 a)).setCell ⟨J, 2, none⟩ (.int .i64 (N : Int))).cell? ⟨KK, 1, none⟩ = some (.int .u32 a) ∧ (((wp.setCell ⟨J, 0, none⟩ (.bool false)).setCell ⟨J, 1, none⟩ (.int .u32 a)).setCell ⟨J, 2, none⟩ (.int .i64 (N : Int))).cell? ⟨KK, 2, none⟩ = some (.int .i64 (N : Int)) := ⟨KE.cell 0 rfl, KE.cell 1 rfl, KE.cell 2 rfl⟩
                      clear M jj KE JL KL BD
                      refine wpAnyH_all (rs := [8]) (by kernel_rfl) (by simp) (fun y hy => ?_)
                      obtain rfl : y = 8 := by simpa using hy
                      clear hy
                      refine wpOp_step rfl (fun K' hK => ?_)
                      go_simp
                      refine hK _ _ ⟨hSE, ?_⟩
                      clear hK K'
                      try simp only [Act.put]
                      replace hS := hSE
                      clear hSE
                      refine obTakeH (i := 9) (d := 3) (v := .bool true) rfl rfl (by kernel_rfl) (by kernel_rfl) (by kernel_rfl) (fun _ _ _ h => h) rfl (fun w hS => by obtain ⟨s0, s1, s2⟩ := hS; go_simp) hS ?_
                      try simp only [Act.put, List.setIfInBounds_toArray, List.set_cons_succ, List.set_cons_zero]
                      refine wpAnyH_done (by kernel_rfl) ?_ 0
                      go_wp2_with fail
                      refine bodyPost_ret (v := .tuple #[.agg #[.bool false, .int .u32 a, .int .i64 (N : Int)], .bool true]) (by simp [results, Tryd.results21, go_sem, *]) rfl ?_
                      exact ⟨a, N, true, rfl, (fun _ => IU.out), (fun c => by cases c), BE.out⟩
                    · rw [decide_eq_false qe] at eq1
                      have NU : Hid (∀ a' n', ¬ IsU p a' n') := fun a' n' h => qe (by obtain ⟨e1, e2, _⟩ := END.out a' n' h; rw [e1, e2]; exact h.pth.symm)
                      refine obTakeHG (i := 6) (d := 74) (v := .bool false) rfl rfl (by kernel_rfl) (by kernel_rfl) (by kernel_rfl) (fun _ _ _ h => h) (by kernel_rfl) (fun w hS => by obtain ⟨s0, s1, s2⟩ := hS; go_simp) hS ?_
                      try simp only [Act.put, List.setIfInBounds_toArray, List.set_cons_succ, List.set_cons_zero]
                      refine obTakeH (i := 7) (d := 75) (v := .bool false) rfl rfl (by kernel_rfl) (by kernel_rfl) (by kernel_rfl) (fun _ _ _ h => h) rfl (fun w hS => by obtain ⟨s0, s1, s2⟩ := hS; go_simp) hS ?_
                      try simp only [Act.put, List.setIfInBounds_toArray, List.set_cons_succ, List.set_cons_zero]
                      have d0 := JL.cell 0 (v := .bool false) rfl
                      have d1 := JL.cell 1 (v := .int .u32 0) rfl
                      have d2 := JL.cell 2 (v := .int .i64 0) rfl
                      have f0 := JL.free 0 (by show 0 < 3; decide)
                      have f1 := JL.free 1 (by show 1 < 3; decide)
                      have f2 := JL.free 2 (by show 2 < 3; decide)
                      have M := ((JL.put 0 (by show 0 < 3; decide) (.bool false)).put 1 (by show 1 < 3; decide) (.int .u32 a)).put 2 (by show 2 < 3; decide) (.int .i64 (N : Int))
                      have m0 := M.cell 0 (v := .bool false) rfl
                      have m1 := M.cell 1 (v := .int .u32 a) rfl
                      have m2 := M.cell 2 (v := .int .i64 (N : Int)) rfl
                      have jj : w.heap.size ≤ J := by rw [hJ.out]; exact Nat.le_refl _
                      have BE : Hid (Below w.heap.size w (((wp.setCell ⟨J, 0, none⟩ (.bool false)).setCell ⟨J, 1, none⟩ (.int .u32 a)).setCell ⟨J, 2, none⟩ (.int .i64 (N : Int)))) := ((BD.setCell (p := ⟨J, 0, none⟩) jj _).setCell (p := ⟨J, 1, none⟩) jj _).setCell (p := ⟨J, 2, none⟩) jj _
                      have KE := KL.of_block (w' := (((wp.setCell ⟨J, 0, none⟩ (.bool false)).setCell ⟨J, 1, none⟩ (.int .u32 a)).setCell ⟨J, 2, none⟩ (.int .i64 (N : Int)))) (((Below.heap_setCell _ _ _ _ (by show KK ≠ J; exact hKJ)).trans (Below.heap_setCell _ _ _ _ (by show KK ≠ J; exact hKJ))).trans (Below.heap_setCell _ _ _ _ (by show KK ≠ J; exact hKJ)))
                      have hSE : (((wp.setCell ⟨J, 0, none⟩ (.bool false)).setCell ⟨J, 1, none⟩ (.int .u32 a)).setCell ⟨J, 2, none⟩ (.int .i64 (N : Int))).cell? ⟨KK, 0, none⟩ = some (.bool false) ∧ (((wp.setCell ⟨J, 0, none⟩ (.bool false)).setCell ⟨J, 1, none⟩ (.int .u32 a)).setCell ⟨J, 2, none⟩ (.int .i64 (N : Int))).cell? ⟨KK, 1, none⟩ = some (.int .u32 a) ∧ (((wp.setCell ⟨J, 0, none⟩ (.bool false)).setCell ⟨J, 1, none⟩ (.int .u32 a)).setCell ⟨J, 2, none⟩ (.int .i64 (N : Int))).cell? ⟨KK, 2, none⟩ = some (.int .i64 (N : Int)) := ⟨KE.cell 0 rfl, KE.cell 1 rfl, KE.cell 2 rfl⟩
                      clear M jj KE JL KL BD
                      refine wpAnyH_all (rs := [8]) (by kernel_rfl) (by simp) (fun y hy => ?_)
                      obtain rfl : y = 8 := by simpa using hy
                      clear hy
                      refine wpOp_step rfl (fun K' hK => ?_)
                      go_simp
                      refine hK _ _ ⟨hSE, ?_⟩
                      clear hK K'
                      try simp only [Act.put]
                      replace hS := hSE
                      clear hSE
                      refine obTakeH (i := 9) (d := 3) (v := .bool false) rfl rfl (by kernel_rfl) (by kernel_rfl) (by kernel_rfl) (fun _ _ _ h => h) rfl (fun w hS => by obtain ⟨s0, s1, s2⟩ := hS; go_simp) hS ?_
                      try simp only [Act.put, List.setIfInBounds_toArray, List.set_cons_succ, List.set_cons_zero]
                      refine wpAnyH_done (by kernel_rfl) ?_ 0
                      go_wp2_with fail
                      refine bodyPost_ret (v := .tuple #[.agg #[.bool false, .int .u32 a, .int .i64 (N : Int)], .bool false]) (by simp [results, Tryd.results21, go_sem, *]) rfl ?_
                      exact ⟨a, N, false, rfl, (fun c => by cases c), (fun _ => NU.out), BE.out⟩
              · have e1 : decide ((x : Int) < (m : Int)) = false := decide_eq_false (by omega)
                have e1' : decide (x < m) = false := decide_eq_false (by omega)
                clear hx

                clear qq hj j1 j2 j3 j4 K1 hb rget hN
                have lK := Lies.new w1 [.bool false, .int .u32 a, .int .i64 (N : Int)] 25
                have bK := bx1 w1 (.cells #[.bool false, .int .u32 a, .int .i64 (N : Int)] 25)
                obtain ⟨w2, hw2⟩ : ∃ w2, w2 = w1.alloc (.cells #[.bool false, .int .u32 a, .int .i64 (N : Int)] 25) := ⟨_, rfl⟩
                have lK' : Lies w2 w1.heap.size [.bool false, .int .u32 a, .int .i64 (N : Int)] := by rw [hw2]; exact lK
                rw [← hw2] at bK
                obtain ⟨KK, hKK⟩ : ∃ KK, KK = w1.heap.size := ⟨_, rfl⟩
                have hKJ : KK ≠ J := by have := L1.out.lt (by show 0 < 3; decide); omega
                have hJK : ¬ J = KK := fun c => hKJ c.symm
                have hKJ2 : ¬ KK = J := hKJ
                rw [← hKK] at lK'
                have JL2 := Lib.hid (L1.out.keep (by show 0 < 3; decide) bK)
                have BD2 := Lib.hid (B1.out.trans (bK.mono B1.out.size))
                replace lK' := Lib.hid lK'
                clear lK bK B1 L1
                go_upto_region 14 with fail
                rw [← hw2, ← hKK]
                clear hw2
                replace hKK := Lib.hid hKK
                refine wp_region_held (S := fun w' => w'.cell? ⟨KK, 0, none⟩ = some (.bool false) ∧ w'.cell? ⟨KK, 1, none⟩ = some (.int .u32 a) ∧ w'.cell? ⟨KK, 2, none⟩ = some (.int .i64 (N : Int))) (by kernel_rfl) ?_
                change wpAnyH _ .any _ _ _ 10 (Array.replicate 10 false) _ w2.drew
                have dr : Below w2.heap.size w2 w2.drew := ⟨rfl, rfl, rfl, Nat.le_refl _, fun _ _ => rfl⟩
                have KL := lK'.out.keep (by show 0 < 3; decide) dr
                have JL := JL2.out.keep (by show 0 < 3; decide) dr
                have BD := BD2.out.trans (dr.mono BD2.out.size)
                have hS : w2.drew.cell? ⟨KK, 0, none⟩ = some (.bool false) ∧ w2.drew.cell? ⟨KK, 1, none⟩ = some (.int .u32 a) ∧ w2.drew.cell? ⟨KK, 2, none⟩ = some (.int .i64 (N : Int)) := ⟨KL.cell 0 rfl, KL.cell 1 rfl, KL.cell 2 rfl⟩
                clear dr lK' JL2 BD2
                generalize w2.drew = wd at *
                refine obTakeH (i := 0) (d := 68) (v := .agg #[.bool false, .int .u32 a, .int .i64 (N : Int)]) rfl rfl (by kernel_rfl) (by kernel_rfl) (by kernel_rfl) (fun _ _ _ h => h) rfl (fun w hS => by obtain ⟨s0, s1, s2⟩ := hS; go_simp) hS ?_
                cases ok
                · refine obTakeH (i := 1) (d := 69) (v := .bool false) rfl rfl (by kernel_rfl) (by kernel_rfl) (by kernel_rfl) (fun _ _ _ h => h) rfl (fun w hS => by obtain ⟨s0, s1, s2⟩ := hS; go_simp) hS ?_
                  refine obTakeH (i := 2) (d := 70) (v := .bool false) rfl rfl (by kernel_rfl) (by kernel_rfl) (by kernel_rfl) (fun _ _ _ h => h) rfl (fun w hS => by obtain ⟨s0, s1, s2⟩ := hS; go_simp) hS ?_
                  try simp only [Act.put, List.setIfInBounds_toArray, List.set_cons_succ, List.set_cons_zero]
                  refine obSkipH (i := 3) (d := 71) rfl rfl (by kernel_rfl) (by kernel_rfl) (by kernel_rfl) (fun _ _ _ h => h) (by kernel_rfl) hS ?_
                  refine obSkipH (i := 4) (d := 72) rfl rfl (by kernel_rfl) (by kernel_rfl) (by kernel_rfl) (fun _ _ _ h => h) (by kernel_rfl) hS ?_
                  refine obSkipH (i := 5) (d := 73) rfl rfl (by kernel_rfl) (by kernel_rfl) (by kernel_rfl) (fun _ _ _ h => h) (by kernel_rfl) hS ?_
                  refine obSkipH (i := 6) (d := 74) rfl rfl (by kernel_rfl) (by kernel_rfl) (by kernel_rfl) (fun _ _ _ h => h) (by kernel_rfl) hS ?_
                  try simp only [Act.put, List.setIfInBounds_toArray, List.set_cons_succ, List.set_cons_zero]
                  refine obTakeH (i := 7) (d := 75) (v := .bool false) rfl rfl (by kernel_rfl) (by kernel_rfl) (by kernel_rfl) (fun _ _ _ h => h) rfl (fun w hS => by obtain ⟨s0, s1, s2⟩ := hS; go_simp) hS ?_
                  try simp only [Act.put, List.setIfInBounds_toArray, List.set_cons_succ, List.set_cons_zero]
                  have d0 := JL.cell 0 (v := .bool false) rfl
                  have d1 := JL.cell 1 (v := .int .u32 0) rfl
                  have d2 := JL.cell 2 (v := .int .i64 0) rfl
                  have f0 := JL.free 0 (by show 0 < 3; decide)
                  have f1 := JL.free 1 (by show 1 < 3; decide)
                  have f2 := JL.free 2 (by show 2 < 3; decide)
                  have M := ((JL.put 0 (by show 0 < 3; decide) (.bool false)).put 1 (by show 1 < 3; decide) (.int .u32 a)).put 2 (by show 2 < 3; decide) (.int .i64 (N : Int))
                  have m0 := M.cell 0 (v := .bool false) rfl
                  have m1 := M.cell 1 (v := .int .u32 a) rfl
                  have m2 := M.cell 2 (v := .int .i64 (N : Int)) rfl
                  have jj : w.heap.size ≤ J := by rw [hJ.out]; exact Nat.le_refl _
                  have BE : Hid (Below w.heap.size w (((wd.setCell ⟨J, 0, none⟩ (.bool false)).setCell ⟨J, 1, none⟩ (.int .u32 a)).setCell ⟨J, 2, none⟩ (.int .i64 (N : Int)))) := ((BD.setCell (p := ⟨J, 0, none⟩) jj _).setCell (p := ⟨J, 1, none⟩) jj _).setCell (p := ⟨J, 2, none⟩) jj _
                  have KE := KL.of_block (w' := (((wd.setCell ⟨J, 0, none⟩ (.bool false)).setCell ⟨J, 1, none⟩ (.int .u32 a)).setCell ⟨J, 2, none⟩ (.int .i64 (N : Int)))) (((Below.heap_setCell _ _ _ _ (by show KK ≠ J; exact hKJ)).trans (Below.heap_setCell _ _ _ _ (by show KK ≠ J; exact hKJ))).trans (Below.heap_setCell _ _ _ _ (by show KK ≠ J; exact hKJ)))
                  have hSE : (((wd.setCell ⟨J, 0, none⟩ (.bool false)).setCell ⟨J, 1, none⟩ (.int .u32 a)).setCell ⟨J, 2, none⟩ (.int .i64 (N : Int))).cell? ⟨KK, 0, none⟩ = some (.bool false) ∧ (((wd.setCell ⟨J, 0, none⟩ (.bool false)).setCell ⟨J, 1, none⟩ (.int .u32 a)).setCell ⟨J, 2, none⟩ (.int .i64 (N : Int))).cell? ⟨KK, 1, none⟩ = some (.int .u32 a) ∧ (((wd.setCell ⟨J, 0, none⟩ (.bool false)).setCell ⟨J, 1, none⟩ (.int .u32 a)).setCell ⟨J, 2, none⟩ (.int .i64 (N : Int))).cell? ⟨KK, 2, none⟩ = some (.int .i64 (N : Int)) := ⟨KE.cell 0 rfl, KE.cell 1 rfl, KE.cell 2 rfl⟩
                  clear M jj KE JL KL BD
                  refine wpAnyH_all (rs := [8]) (by kernel_rfl) (by simp) (fun y hy => ?_)
                  obtain rfl : y = 8 := by simpa using hy
                  clear hy
                  refine wpOp_step rfl (fun K' hK => ?_)
                  go_simp
                  refine hK _ _ ⟨hSE, ?_⟩
                  clear hK K'
                  try simp only [Act.put]
                  replace hS := hSE
                  clear hSE
                  refine obTakeH (i := 9) (d := 3) (v := .bool false) rfl rfl (by kernel_rfl) (by kernel_rfl) (by kernel_rfl) (fun _ _ _ h => h) rfl (fun w hS => by obtain ⟨s0, s1, s2⟩ := hS; go_simp) hS ?_
                  try simp only [Act.put, List.setIfInBounds_toArray, List.set_cons_succ, List.set_cons_zero]
                  refine wpAnyH_done (by kernel_rfl) ?_ 0
                  go_wp2_with fail
                  refine bodyPost_ret (v := .tuple #[.agg #[.bool false, .int .u32 a, .int .i64 (N : Int)], .bool false]) (by simp [results, Tryd.results21, go_sem, *]) rfl ?_
                  exact ⟨a, N, false, rfl, (fun c => by cases c), (fun _ a' n' h => by have := (END.out a' n' h).2.2; cases this), BE.out⟩
                · refine obTakeH (i := 1) (d := 69) (v := .bool true) rfl rfl (by kernel_rfl) (by kernel_rfl) (by kernel_rfl) (fun _ _ _ h => h) rfl (fun w hS => by obtain ⟨s0, s1, s2⟩ := hS; go_simp) hS ?_
                  refine obTakeH (i := 2) (d := 70) (v := .bool true) rfl rfl (by kernel_rfl) (by kernel_rfl) (by kernel_rfl) (fun _ _ _ h => h) rfl (fun w hS => by obtain ⟨s0, s1, s2⟩ := hS; go_simp) hS ?_
                  try simp only [Act.put, List.setIfInBounds_toArray, List.set_cons_succ, List.set_cons_zero]
                  refine obTakeHG (i := 3) (d := 71) (v := .agg #[.bool false, .int .u32 a, .int .i64 (N : Int)]) rfl rfl (by kernel_rfl) (by kernel_rfl) (by kernel_rfl) (fun _ _ _ h => h) (by kernel_rfl) (fun w hS => by obtain ⟨s0, s1, s2⟩ := hS; go_simp) hS ?_
                  try simp only [Act.put, List.setIfInBounds_toArray, List.set_cons_succ, List.set_cons_zero]
                  refine obTakeHG (i := 5) (d := 73) (v := .string (strL p)) rfl rfl (by kernel_rfl) (by kernel_rfl) (by kernel_rfl) (fun _ _ _ h => h) (by kernel_rfl) (fun w hS => by obtain ⟨s0, s1, s2⟩ := hS; go_simp) hS ?_
                  try simp only [Act.put, List.setIfInBounds_toArray, List.set_cons_succ, List.set_cons_zero]
                  refine wpAnyH_all (rs := [4]) (by kernel_rfl) (by simp) (fun y hy => ?_)
                  obtain rfl : y = 4 := by simpa using hy
                  clear hy
                  refine obStepG rfl (by kernel_rfl) (fun K' hK => ?_)
                  refine obCall1u (k1 := 71) (d := 72) (x1 := .agg #[.bool false, .int .u32 a, .int .i64 (N : Int)]) 12 _ rfl rfl _ _ _ _ (fun _ => rfl) rfl (PT.out a N wd ha.1 ha.2) (fun e wp hR => ?_)
                  obtain ⟨rfl, bp⟩ := hR
                  replace KL := KL.keep (by show 0 < 3; decide) bp
                  replace JL := JL.keep (by show 0 < 3; decide) bp
                  replace BD := BD.trans (bp.mono BD.size)
                  refine ⟨_, rfl, hK _ _ ⟨⟨KL.cell 0 rfl, KL.cell 1 rfl, KL.cell 2 rfl⟩, ?_⟩⟩
                  replace hS : wp.cell? ⟨KK, 0, none⟩ = some (.bool false) ∧ wp.cell? ⟨KK, 1, none⟩ = some (.int .u32 a) ∧ wp.cell? ⟨KK, 2, none⟩ = some (.int .i64 (N : Int)) := ⟨KL.cell 0 rfl, KL.cell 1 rfl, KL.cell 2 rfl⟩
                  clear hK K' bp
                  try simp only [Act.put, List.setIfInBounds_toArray, List.set_cons_succ, List.set_cons_zero]
                  have eq1 := eq_strL (pthT false a N) p
                  by_cases qe : pthT false a N = p
                  · rw [decide_eq_true qe] at eq1
                    have IU : Hid (IsU p a N) := IsU.of qe.symm hpne.out ha.1 ha.2
                    refine obTakeHG (i := 6) (d := 74) (v := .bool true) rfl rfl (by kernel_rfl) (by kernel_rfl) (by kernel_rfl) (fun _ _ _ h => h) (by kernel_rfl) (fun w hS => by obtain ⟨s0, s1, s2⟩ := hS; go_simp) hS ?_
                    try simp only [Act.put, List.setIfInBounds_toArray, List.set_cons_succ, List.set_cons_zero]
                    refine obTakeH (i := 7) (d := 75) (v := .bool true) rfl rfl (by kernel_rfl) (by kernel_rfl) (by kernel_rfl) (fun _ _ _ h => h) rfl (fun w hS => by obtain ⟨s0, s1, s2⟩ := hS; go_simp) hS ?_
                    try simp only [Act.put, List.setIfInBounds_toArray, List.set_cons_succ, List.set_cons_zero]
                    have d0 := JL.cell 0 (v := .bool false) rfl
                    have d1 := JL.cell 1 (v := .int .u32 0) rfl
                    have d2 := JL.cell 2 (v := .int .i64 0) rfl
                    have f0 := JL.free 0 (by show 0 < 3; decide)
                    have f1 := JL.free 1 (by show 1 < 3; decide)
                    have f2 := JL.free 2 (by show 2 < 3; decide)
                    have M := ((JL.put 0 (by show 0 < 3; decide) (.bool false)).put 1 (by show 1 < 3; decide) (.int .u32 a)).put 2 (by show 2 < 3; decide) (.int .i64 (N : Int))
                    have m0 := M.cell 0 (v := .bool false) rfl
                    have m1 := M.cell 1 (v := .int .u32 a) rfl
                    have m2 := M.cell 2 (v := .int .i64 (N : Int)) rfl
                    have jj : w.heap.size ≤ J := by rw [hJ.out]; exact Nat.le_refl _
                    have BE : Hid (Below w.heap.size w (((wp.setCell ⟨J, 0, none⟩ (.bool false)).setCell ⟨J, 1, none⟩ (.int .u32 a)).setCell ⟨J, 2, none⟩ (.int .i64 (N : Int)))) := ((BD.setCell (p := ⟨J, 0, none⟩) jj _).setCell (p := ⟨J, 1, none⟩) jj _).setCell (p := ⟨J, 2, none⟩) jj _
                    have KE := KL.of_block (w' := (((wp.setCell ⟨J, 0, none⟩ (.bool false)).setCell ⟨J, 1, none⟩ (.int .u32 a)).setCell ⟨J, 2, none⟩ (.int .i64 (N : Int)))) (((Below.heap_setCell _ _ _ _ (by show KK ≠ J; exact hKJ)).trans (Below.heap_setCell _ _ _ _ (by show KK ≠ J; exact hKJ))).trans (Below.heap_setCell _ _ _ _ (by show KK ≠ J; exact hKJ)))
                    have hSE : (((wp.setCell ⟨J, 0, none⟩ (.bool false)).setCell ⟨J, 1, none⟩ (.int .u32 a)).setCell ⟨J, 2, none⟩ (.int .i64 (N : Int))).cell? ⟨KK, 0, none⟩ = some (.bool false) ∧ (((wp.setCell ⟨J, 0, none⟩ (.bool false)).setCell ⟨J, 1, none⟩ (.int .u32 a)).setCell ⟨J, 2, none⟩ (.int .i64 (N : Int))).cell? ⟨KK, 1, none⟩ = some (.int .u32 a) ∧ (((wp.setCell ⟨J, 0, none⟩ (.bool false)).setCell ⟨J, 1, none⟩ (.int .u32 a)).setCell ⟨J, 2, none⟩ (.int .i64 (N : Int))).cell? ⟨KK, 2, none⟩ = some (.int .i64 (N : Int)) := ⟨KE.cell 0 rfl, KE.cell 1 rfl, KE.cell 2 rfl⟩
                    clear M jj KE JL KL BD
                    refine wpAnyH_all (rs := [8]) (by kernel_rfl) (by simp) (fun y hy => ?_)
                    obtain rfl : y = 8 := by simpa using hy
                    clear hy
                    refine wpOp_step rfl (fun K' hK => ?_)
                    go_simp
                    refine hK _ _ ⟨hSE, ?_⟩
                    clear hK K'
                    try simp only [Act.put]
                    replace hS := hSE
                    clear hSE
                    refine obTakeH (i := 9) (d := 3) (v := .bool true) rfl rfl (by kernel_rfl) (by kernel_rfl) (by kernel_rfl) (fun _ _ _ h => h) rfl (fun w hS => by obtain ⟨s0, s1, s2⟩ := hS; go_simp) hS ?_
                    try simp only [Act.put, List.setIfInBounds_toArray, List.set_cons_succ, List.set_cons_zero]
                    refine wpAnyH_done (by kernel_rfl) ?_ 0
                    go_wp2_with fail
                    refine bodyPost_ret (v := .tuple #[.agg #[.bool false, .int .u32 a, .int .i64 (N : Int)], .bool true]) (by simp [results, Tryd.results21, go_sem, *]) rfl ?_
                    exact ⟨a, N, true, rfl, (fun _ => IU.out), (fun c => by cases c), BE.out⟩
                  · rw [decide_eq_false qe] at eq1
                    have NU : Hid (∀ a' n', ¬ IsU p a' n') := fun a' n' h => qe (by obtain ⟨e1, e2, _⟩ := END.out a' n' h; rw [e1, e2]; exact h.pth.symm)
                    refine obTakeHG (i := 6) (d := 74) (v := .bool false) rfl rfl (by kernel_rfl) (by kernel_rfl) (by kernel_rfl) (fun _ _ _ h => h) (by kernel_rfl) (fun w hS => by obtain ⟨s0, s1, s2⟩ := hS; go_simp) hS ?_
                    try simp only [Act.put, List.setIfInBounds_toArray, List.set_cons_succ, List.set_cons_zero]
                    refine obTakeH (i := 7) (d := 75) (v := .bool false) rfl rfl (by kernel_rfl) (by kernel_rfl) (by kernel_rfl) (fun _ _ _ h => h) rfl (fun w hS => by obtain ⟨s0, s1, s2⟩ := hS; go_simp) hS ?_
                    try simp only [Act.put, List.setIfInBounds_toArray, List.set_cons_succ, List.set_cons_zero]
                    have d0 := JL.cell 0 (v := .bool false) rfl
                    have d1 := JL.cell 1 (v := .int .u32 0) rfl
                    have d2 := JL.cell 2 (v := .int .i64 0) rfl
                    have f0 := JL.free 0 (by show 0 < 3; decide)
                    have f1 := JL.free 1 (by show 1 < 3; decide)
                    have f2 := JL.free 2 (by show 2 < 3; decide)
                    have M := ((JL.put 0 (by show 0 < 3; decide) (.bool false)).put 1 (by show 1 < 3; decide) (.int .u32 a)).put 2 (by show 2 < 3; decide) (.int .i64 (N : Int))
                    have m0 := M.cell 0 (v := .bool false) rfl
                    have m1 := M.cell 1 (v := .int .u32 a) rfl
                    have m2 := M.cell 2 (v := .int .i64 (N : Int)) rfl
                    have jj : w.heap.size ≤ J := by rw [hJ.out]; exact Nat.le_refl _
                    have BE : Hid (Below w.heap.size w (((wp.setCell ⟨J, 0, none⟩ (.bool false)).setCell ⟨J, 1, none⟩ (.int .u32 a)).setCell ⟨J, 2, none⟩ (.int .i64 (N : Int)))) := ((BD.setCell (p := ⟨J, 0, none⟩) jj _).setCell (p := ⟨J, 1, none⟩) jj _).setCell (p := ⟨J, 2, none⟩) jj _
                    have KE := KL.of_block (w' := (((wp.setCell ⟨J, 0, none⟩ (.bool false)).setCell ⟨J, 1, none⟩ (.int .u32 a)).setCell ⟨J, 2, none⟩ (.int .i64 (N : Int)))) (((Below.heap_setCell _ _ _ _ (by show KK ≠ J; exact hKJ)).trans (Below.heap_setCell _ _ _ _ (by show KK ≠ J; exact hKJ))).trans (Below.heap_setCell _ _ _ _ (by show KK ≠ J; exact hKJ)))
                    have hSE : (((wp.setCell ⟨J, 0, none⟩ (.bool false)).setCell ⟨J, 1, none⟩ (.int .u32 a)).setCell ⟨J, 2, none⟩ (.int .i64 (N : Int))).cell? ⟨KK, 0, none⟩ = some (.bool false) ∧ (((wp.setCell ⟨J, 0, none⟩ (.bool false)).setCell ⟨J, 1, none⟩ (.int .u32 a)).setCell ⟨J, 2, none⟩ (.int .i64 (N : Int))).cell? ⟨KK, 1, none⟩ = some (.int .u32 a) ∧ (((wp.setCell ⟨J, 0, none⟩ (.bool false)).setCell ⟨J, 1, none⟩ (.int .u32 a)).setCell ⟨J, 2, none⟩ (.int .i64 (N : Int))).cell? ⟨KK, 2, none⟩ = some (.int .i64 (N : Int)) := ⟨KE.cell 0 rfl, KE.cell 1 rfl, KE.cell 2 rfl⟩
                    clear M jj KE JL KL BD
                    refine wpAnyH_all (rs := [8]) (by kernel_rfl) (by simp) (fun y hy => ?_)
                    obtain rfl : y = 8 := by simpa using hy
                    clear hy
                    refine wpOp_step rfl (fun K' hK => ?_)
                    go_simp
                    refine hK _ _ ⟨hSE, ?_⟩
                    clear hK K'
                    try simp only [Act.put]
                    replace hS := hSE
                    clear hSE
                    refine obTakeH (i := 9) (d := 3) (v := .bool false) rfl rfl (by kernel_rfl) (by kernel_rfl) (by kernel_rfl) (fun _ _ _ h => h) rfl (fun w hS => by obtain ⟨s0, s1, s2⟩ := hS; go_simp) hS ?_
                    try simp only [Act.put, List.setIfInBounds_toArray, List.set_cons_succ, List.set_cons_zero]
                    refine wpAnyH_done (by kernel_rfl) ?_ 0
                    go_wp2_with fail
                    refine bodyPost_ret (v := .tuple #[.agg #[.bool false, .int .u32 a, .int .i64 (N : Int)], .bool false]) (by simp [results, Tryd.results21, go_sem, *]) rfl ?_
                    exact ⟨a, N, false, rfl, (fun c => by cases c), (fun _ => NU.out), BE.out⟩
        · have z47 : (((p.getD k 0).toNat : Int) != 47) = true := by
            rw [bne_iff_ne]
            intro c
            refine qc (UInt8.toNat_inj.1 ?_)
            show (p.getD k 0).toNat = 47
            omega
          have hno2 : Hid (∀ j, 24 ≤ j → j < k + 1 → p.getD j 0 ≠ 47) := fun j h1 h2 => by
            rcases Nat.lt_or_ge j k with r | r
            · exact hno.out j h1 r
            · obtain rfl : j = k := by omega
              exact qc
          generalize (p.getD k 0).toNat = y at *
          clear hno qc hk hk0
          go_wp2_with fail
          go_roundg (m + 24 - (k + 1))
          case measure => exact hms.out
          case rel => exact ⟨k + 1, hk1, by omega, by omega, by go_num, hno2, rfl⟩
      · have g1 : decide ((k : Int) < (m : Int)) = false := decide_eq_false (by omega)
        have g1' : decide (k < m) = false := decide_eq_false (by omega)
        have FIN : Hid (∀ a' n', ¬ IsU p a' n') := NO.out (.inr fun j h1 h2 => hno.out j h1 (by omega))
        clear NO hno hk hk0
        go_wp2_with fail
        refine bodyPost_ret (v := .tuple #[.agg #[.bool false, .int .u32 0, .int .i64 0], .bool false]) (by simp [results, Tryd.results21, go_sem, *]) rfl ?_
        exact ⟨0, 0, false, rfl, (fun c => by cases c), fun _ => FIN.out, BE.out⟩
end Go.Proofs.YtojfcflkanohoaaDoor
