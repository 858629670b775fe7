/-
  What the law H3Back answers. It leans on what the laws ask of the program's calls (H3Face). No other condition.
-/
import Derived.Test.YtnngdlleicjegaaDoorH3Two
import Derived.Deep.RegionLaw
namespace Go.Proofs.YtnngdlleicjegaaDoor
set_option maxRecDepth 100000
open Go.RowKit

theorem place15 (a : Int) (c : Int) (hc : 0 < c) (hc2 : c < 4611686018427387904) : ∃ x : Nat, wrap64 ((IntKind.u64.wrap a).tmod c) = x ∧ IntKind.i64.wrap ((IntKind.u64.wrap a).tmod c) = x ∧ (x : Int) < c := by
  have h : 0 ≤ IntKind.u64.wrap a := by rw [IntKind.wrap_u64]; omega
  rw [Int.tmod_eq_emod_of_nonneg h]
  have h1 := Int.emod_nonneg (IntKind.u64.wrap a) (by omega : c ≠ 0)
  have h2 := Int.emod_lt_of_pos (IntKind.u64.wrap a) hc
  refine ⟨(IntKind.u64.wrap a % c).toNat, ?_, ?_, by omega⟩
  · unfold wrap64
    omega
  · rw [IntKind.wrap_i64]
    omega
section
variable {ops : Array Oper} {o : Oper} {a : Act} {w : World} {K : Act → World → Prop} {Q : Exit → Act → World → Prop} {E : Prop}
/-- A call of two arguments that lays only new blocks, in a region that draws its order. -/
theorem cal2S (f : FuncId) {k1 k2 : Nat} {tys : Array TypeId} (v1 v2 r : Value) (C : Calls Tryd.prog f #[v1, v2] w fun e w' => e = .returned r ∧ Below w.heap.size w w') (hcf : ∀ w, (callFunc f #[v1, v2]).run Tryd.prog w = .ok (.enter f #[v1, v2]) w) (hg : o.guard = none) (ho : o.op = .call { callee := .value (.func f), args := #[.tmp k1, .tmp k2], argTypes := tys })
    (h1 : a.eval (.tmp k1) = v1) (h2 : a.eval (.tmp k2) = v2) (h : ∀ w', Below w.heap.size w w' → K (a.put o.dst r) w') : if Region.wanted o (yielded ops a.tmps) = true then Oper.wp Tryd.prog o a w K Q else E := by
  rw [if_pos (by simp [Region.wanted, hg])]
  unfold Oper.wp
  have hr : (execOp a.eval o).run Tryd.prog w = .ok (.enter f #[v1, v2]) w := by
    unfold execOp
    rw [ho]
    simp only [go_sem] at h1 h2 ⊢
    simp [go_sem, h1, h2, hcf]
  rw [hr]
  exact C.mono fun e w' ⟨he, b⟩ => by
    subst he
    exact h w' b
/-- A call of two arguments that lays only new blocks, in a region that draws its order. -/
theorem calcS (f : FuncId) {k2 : Nat} {tys : Array TypeId} (c v2 r : Value) (C : Calls Tryd.prog f #[c, v2] w fun e w' => e = .returned r ∧ Below w.heap.size w w') (hcf : ∀ w, (callFunc f #[c, v2]).run Tryd.prog w = .ok (.enter f #[c, v2]) w) (hg : o.guard = none) (ho : o.op = .call { callee := .value (.func f), args := #[.const c, .tmp k2], argTypes := tys })
    (h2 : a.eval (.tmp k2) = v2) (h : ∀ w', Below w.heap.size w w' → K (a.put o.dst r) w') : if Region.wanted o (yielded ops a.tmps) = true then Oper.wp Tryd.prog o a w K Q else E := by
  rw [if_pos (by simp [Region.wanted, hg])]
  unfold Oper.wp
  have hr : (execOp a.eval o).run Tryd.prog w = .ok (.enter f #[c, v2]) w := by
    unfold execOp
    rw [ho]
    simp only [go_sem] at h2 ⊢
    simp [go_sem, h2, hcf]
  rw [hr]
  exact C.mono fun e w' ⟨he, b⟩ => by
    subst he
    exact h w' b
end
theorem frm_len15 (k : Nat) (d : L) : (frm k d).length ≤ 16 + d.length := by
  unfold frm
  have h1 := put_len k
  have h2 := put_len d.length
  simp only [List.length_append]
  omega
theorem frI_nat (k : Nat) (hk : Lim k) (d : L) : frI (k : Int) d = frm k d := by
  unfold frI
  unfold Lim at hk
  rw [if_pos ⟨by omega, by omega⟩]
  rfl
/-- The first texts. -/
def lsN (g : Nat → ByteArray) (i : Nat) : List L := (List.range i).map fun j => toL (g j)
theorem lsN_succ (g : Nat → ByteArray) (i : Nat) : lsN g (i + 1) = lsN g i ++ [toL (g i)] := by simp [lsN, List.range_succ]
theorem lsN_len (g : Nat → ByteArray) (i : Nat) : (lsN g i).length = i := by simp [lsN]
theorem lsN_bd {g : Nat → ByteArray} {i m : Nat} (h : ∀ j, j < i → (g j).size ≤ m) : ∀ d ∈ lsN g i, d.length ≤ m := fun d hd => by
  unfold lsN at hd
  obtain ⟨j, hj, rfl⟩ := List.mem_map.1 hd
  rw [toL_len]
  exact h j (List.mem_range.1 hj)
theorem reqB_snoc (k : Nat) (ls : List L) (d : L) : reqB k (ls ++ [d]) = reqB k ls ++ (frm 0 d ++ frm k d) := by simp [reqB, List.flatMap_append]
theorem dats_len (ls : List L) : (dats ls).length ≤ ls.length := by
  induction ls with
  | nil => exact Nat.le_refl _
  | cons d ls ih =>
    show ((if d = [] then [] else [((0 : Nat), d)]) ++ dats ls).length ≤ _
    rw [List.length_append, List.length_cons]
    split
    · show 0 + _ ≤ _
      omega
    · show 1 + _ ≤ _
      omega
theorem flat_take (l : List Ev) (m : Nat) : ((l.take m).flatMap fun e : Ev => e.2).length ≤ (l.flatMap fun e : Ev => e.2).length := by
  have e := congrArg (fun x : List Ev => (x.flatMap fun e : Ev => e.2).length) (List.take_append_drop m l)
  simp only [List.flatMap_append, List.length_append] at e
  omega
theorem take_next (l : List Ev) (m : Nat) (h : m < l.length) : (l.take (m + 1)).flatMap (fun e : Ev => e.2) = (l.take m).flatMap (fun e : Ev => e.2) ++ (l.getD m (0, [])).2 := by
  rw [List.take_add_one, List.flatMap_append, List.getElem?_eq_getElem h]
  simp [List.getD, List.getElem?_eq_getElem h]
/-- The bytes so far. -/
structure BkI (w wr : World) (k : Nat) (h : L) (g : Nat → ByteArray) (i : Nat) (S W : ByteArray) : Prop where
  s : toL S = frm k [63] ++ (frm 1 h ++ reqB k (lsN g i))
  v : toL W = (lsN g i).flatten
  z : S.size ≤ 5000 + 2040 * i
  zw : W.size ≤ 1000 * i
  le : ∀ j, j < i → (g j).size ≤ 1000
  bel : Below w.heap.size w wr
section
variable {T : World → Prop} {PR : (Nat → Prop) → World → Value → Bool → List L → Prop}
set_option maxHeartbeats 16000000 in
theorem back15_ok (f : H3Face T PR) (hd : ByteArray) (a : Option Addr) (n cap : Nat) (g : Nat → ByteArray) (z : Int) (w : World) (t : T w) (hS : ∀ i, i < n → ∃ b off, a = some ⟨b, off, none⟩ ∧ w.cell? ⟨b, off + i, none⟩ = some (.string (g i))) :
    Calls Tryd.prog 6 #[.string hd, .slice a n cap, .int .i64 z] w fun e w' => e = .returned (.bool true) ∧ Below w.heap.size w w' := by
  have WO : Hid (∀ _ : Unit, _) := fun _ => works15_ok f w t
  by_cases h1 : hd.size ≤ 4096
  · have q1 : decide ((4096 : Int) < (hd.size : Int)) = false := decide_eq_false (by omega)
    obtain ⟨x, hx1, hx2, hx3⟩ := place15 z 1000 (by decide) (by decide)
    obtain ⟨k, hk⟩ : ∃ k : Nat, k = 33 + x := ⟨_, rfl⟩
    have hk2 : (33 : Int) + (x : Int) = (k : Int) := by omega
    have lk : Lim k := by unfold Lim; omega
    have nk : k ≠ 0 ∧ k ≠ 1 ∧ k ≠ 4 ∧ k ≠ 7 := by omega
    have FK : Hid (∀ w' (d : ByteArray), Below w.heap.size w w' → d.size ≤ 5000 → Calls Tryd.prog 17 #[.int .i64 (k : Int), .string d] w' fun e w'' => e = .returned (.string (strL (frm k (toL d)))) ∧ Below w'.heap.size w' w'') := fun w' d b hz => by
      have := f.frame (k : Int) d w' (f.keep t b) (by omega)
      rw [frI_nat k lk] at this
      exact this
    have F1 : Hid (∀ w' (d : ByteArray), Below w.heap.size w w' → d.size ≤ 5000 → Calls Tryd.prog 17 #[.int .i64 1, .string d] w' fun e w'' => e = .returned (.string (strL (frm 1 (toL d)))) ∧ Below w'.heap.size w' w'') := fun w' d b hz => by
      have := f.frame ((1 : Nat) : Int) d w' (f.keep t b) (by omega)
      rw [frI_nat 1 (by unfold Lim; decide)] at this
      exact this
    have F0 : Hid (∀ w' (d : ByteArray), Below w.heap.size w w' → d.size ≤ 5000 → Calls Tryd.prog 17 #[.int .i64 0, .string d] w' fun e w'' => e = .returned (.string (strL (frm 0 (toL d)))) ∧ Below w'.heap.size w' w'') := fun w' d b hz => by
      have := f.frame ((0 : Nat) : Int) d w' (f.keep t b) (by omega)
      rw [frI_nat 0 (by unfold Lim; decide)] at this
      exact this
    have z1 : (strL (frm k (toL ⟨#[63]⟩))).size ≤ 17 := by
      rw [strL_size]
      exact frm_len15 k [63]
    have z2 : (strL (frm 1 (toL hd))).size ≤ 4112 := by
      rw [strL_size]
      have := frm_len15 1 (toL hd)
      rw [toL_len] at this
      omega
    have X0 : Hid (∀ wr, Below w.heap.size w wr → BkI w wr k (toL hd) g 0 (strL (frm k (toL ⟨#[63]⟩)) ++ strL (frm 1 (toL hd))) ⟨#[]⟩) := fun wr b => by
      refine ⟨?_, rfl, ?_, Nat.le_refl _, fun j hj => absurd hj (Nat.not_lt_zero _), b⟩
      · rw [strL_append, toL_strL]
        show frm k [63] ++ frm 1 (toL hd) = frm k [63] ++ (frm 1 (toL hd) ++ [])
        rw [List.append_nil]
      · rw [ByteArray.size_append]
        omega
    have T0 := Lib.hid t
    have SS := Lib.hid hS
    have QQ := Lib.hid (fun ls hl => go_request lk nk [63] (toL hd) ls (by unfold Lim; decide) (by rw [toL_len]; exact h1) hl)
    replace lk := Lib.hid lk
    replace nk := Lib.hid nk
    replace hk := Lib.hid hk
    clear t hS
    go_enter Tryd.func6, Tryd.ntmps6
    go_wp2_with fail
    refine (WO.out ()).mono ?_
    rintro e w1 ⟨rfl, b1⟩
    have K1 := Lib.hid (FK.out w1 ⟨#[63]⟩ b1 (by decide))
    have B1 := Lib.hid b1
    clear b1 WO
    go_wp2_with fail
    refine K1.out.mono ?_
    rintro e w2 ⟨rfl, b2⟩
    have B2 := B1.out.trans (b2.mono B1.out.size)
    have K2 := Lib.hid (F1.out w2 hd B2 (by omega))
    replace B2 := Lib.hid B2
    clear b2 B1 K1 F1
    go_wp2_with fail
    refine K2.out.mono ?_
    rintro e w3 ⟨rfl, b3⟩
    have XX := Lib.hid (X0.out w3 (B2.out.trans (b3.mono B2.out.size)))
    clear b3 B2 K2 X0
    generalize strL (frm k (toL ⟨#[63]⟩)) = A1 at *
    generalize strL (frm 1 (toL hd)) = A2 at *
    go_wp2_with fail
    go_loopg [7, 8, 9] 20 (fun gg sv wv iv wr => ∃ (i : Nat) (S W : ByteArray), i + gg = 20 ∧ sv = .string S ∧ wv = .string W ∧ iv = .int .i64 (i : Int) ∧ Hid (BkI w wr k (toL hd) g i S W))
    case atStart => exact ⟨0, _, _, by omega, rfl, rfl, rfl, XX⟩
    case round =>
      obtain ⟨i, S, W, hi, rfl, rfl, rfl, X⟩ := hrel
      clear XX z1 z2
      generalize A1 ++ A2 = A3 at *
      have zS : S.size ≤ 50000 := by have := X.out.z; omega
      have zW : W.size ≤ 50000 := by have := X.out.zw; omega
      by_cases h2 : i < n ∧ i < 20
      · have g1 : decide ((i : Int) < (n : Int)) = true := decide_eq_true (by omega)
        have g2 : decide ((i : Int) < 20) = true := decide_eq_true (by omega)
        obtain ⟨b, off, rfl, ci⟩ := SS.out i h2.1
        have hbw := World.block_lt_of_cell? w _ ci
        have ci' := (X.out.bel.cell hbw).trans ci
        have KC : Hid (∀ w', Below wr.heap.size wr w' → w'.cell? ⟨b, off + i, none⟩ = some (.string (g i))) := fun w' b' => (b'.cell (World.block_lt_of_cell? wr _ ci')).trans ci'
        have ia := fun w' => at_strs15 b off n cap i w' h2.1
        by_cases h3 : (g i).size ≤ 1000
        · have q3 : decide ((1000 : Int) < ((g i).size : Int)) = false := decide_eq_false (by omega)
          have NX : Hid (∀ w', Below wr.heap.size wr w' → BkI w w' k (toL hd) g (i + 1) (S ++ strL (frm 0 (toL (g i))) ++ strL (frm k (toL (g i)))) (W ++ g i)) := fun w' b' => by
            have f0 := frm_len15 0 (toL (g i))
            have f1 := frm_len15 k (toL (g i))
            rw [toL_len] at f0 f1
            have zS := X.out.z
            have zW := X.out.zw
            refine ⟨?_, ?_, ?_, ?_, fun j hj => ?_, X.out.bel.trans (b'.mono X.out.bel.size)⟩
            · rw [toL_append, toL_append, toL_strL, toL_strL, X.out.s, lsN_succ, reqB_snoc]
              simp only [List.append_assoc]
            · rw [toL_append, X.out.v, lsN_succ]
              simp
            · rw [ByteArray.size_append, ByteArray.size_append, strL_size, strL_size]
              omega
            · rw [ByteArray.size_append]
              omega
            · by_cases e : j = i
              · rw [e]; exact h3
              · exact X.out.le j (by omega)
          have zA : (strL (frm 0 (toL (g i)))).size ≤ 1016 := by
            have f0 := frm_len15 0 (toL (g i))
            rw [toL_len] at f0
            rw [strL_size]
            omega
          have zB : (strL (frm k (toL (g i)))).size ≤ 1016 := by
            have f0 := frm_len15 k (toL (g i))
            rw [toL_len] at f0
            rw [strL_size]
            omega
          have C0 : Hid (∀ w', Below wr.heap.size wr w' → _) := fun w' b' => F0.out w' (g i) (X.out.bel.trans (b'.mono X.out.bel.size)) (by omega)
          have CK : Hid (∀ w', Below wr.heap.size wr w' → _) := fun w' b' => FK.out w' (g i) (X.out.bel.trans (b'.mono X.out.bel.size)) (by omega)
          have hcf : ∀ (x y : Value) (w : World), (callFunc 17 #[x, y]).run Tryd.prog w = .ok (.enter 17 #[x, y]) w := fun x y w => by simp [go_sem]
          have hi20 := h2.2
          have hin := h2.1
          clear X SS QQ T0 F0 FK h2 ci hbw
          generalize strL (frm 0 (toL (g i))) = A at *
          generalize strL (frm k (toL (g i))) = B at *
          generalize g i = D at *
          have BB : Below wr.heap.size wr wr.drew := drewB _ _
          have m3 : ¬ (9223372036854775807 < W.size + D.size) := by omega
          have m1 : ¬ (9223372036854775807 < S.size + A.size) := by omega
          have m2 : ¬ (9223372036854775807 < S.size + A.size + B.size) := by omega
          have cc := KC.out _ BB
          go_upto_region 13 with fail
          go_region_law (first | (refine calcS 17 (.int .i64 0) (.string D) (.string A) (C0.out _ BB) (hcf _ _) rfl rfl (by simp [Act.eval, Act.put]) ?_; intro w1 b1; have BB := BB.trans (b1.mono BB.size); have cc := KC.out _ BB) | (refine cal2S 17 (.int .i64 (k : Int)) (.string D) (.string B) (CK.out _ BB) (hcf _ _) rfl rfl (by simp [Act.eval, Act.put]) (by simp [Act.eval, Act.put]) ?_; intro w1 b1; have BB := BB.trans (b1.mono BB.size); have cc := KC.out _ BB))
          all_goals
            have N2 := Lib.hid (NX.out _ BB)
            clear NX C0 CK KC BB
            go_wp2_with fail
            go_roundg (20 - (i + 1))
            case measure => omega
            case rel => exact ⟨i + 1, _, _, by omega, rfl, rfl, by simp, N2⟩
        · have q3 : decide ((1000 : Int) < ((g i).size : Int)) = true := decide_eq_true (by omega)
          have hi20 := h2.2
          have hin := h2.1
          have ZZ := Lib.hid X.out.bel
          clear X SS QQ F0 FK KC
          go_wp2_with fail
          go_ret
          exact ⟨rfl, ZZ.out⟩
      · have NO : Hid (¬ i < n ∨ (i < n ∧ ¬ i < 20)) := by
          unfold Hid
          omega
        clear h2 SS F0 FK
        go_upto_region 9 with fail
        go_cut [37] (fun s wc => s = .bool false ∧ wr = wc)
        case first =>
          rcases NO.out with y1 | ⟨y1, y2⟩
          · go_wp2_with fail
            go_meet
            exact ⟨rfl, rfl⟩
          · go_wp2_with fail
            go_meet
            exact ⟨by rw [decide_eq_false (by omega)], rfl⟩
        case rest =>
          obtain ⟨rfl, rfl⟩ := hcut
          clear NO
          obtain ⟨p', FE⟩ := QQ.out (lsN g i) fun d hd => by
            have := lsN_bd X.out.le d hd
            unfold Lim
            omega
          rw [← X.out.s] at FE
          have NW := Lib.hid (r1_new f false w wr X.out.bel (f.keep T0.out X.out.bel))
          have FD : Hid (∀ w' v, R1 T PR w w' v false [] (fun _ => False) → _) := fun w' v h => r1_feed f h S (by show 0 + S.size < 1000000; omega)
          have FN : Hid (∀ w' v Y, R1 T PR w w' v false ([] ++ [toL S]) Y → _) := fun w' v Y h => r1_fin f h
          have e0 : fed false [] = Hr.new false := rfl
          rw [e0, FE] at FD
          have eF : fed false ([] ++ [toL S]) = Hr.mk false [] false true 0 p' 0 := by rw [fed_snoc, e0, FE]
          rw [eF] at FN
          have e1 : (Hr.mk false [] false true 0 p' 0).fin = 0 := rfl
          rw [e1] at FN
          simp only at FD
          have VV := Lib.hid X.out.v
          have LE := Lib.hid X.out.le
          obtain ⟨ls, hls⟩ : ∃ ls, ls = lsN g i := ⟨_, rfl⟩
          rw [← hls] at FD VV
          have hlen : (dats ls).length ≤ 20 := by
            have := dats_len ls
            rw [hls, lsN_len, ← hls] at this
            omega
          have KD := Lib.hid (dats_kind ls)
          have DA := dats_all ls
          rw [← VV.out] at DA
          replace DA := Lib.hid DA
          obtain ⟨ds, hds⟩ : ∃ ds, ds = dats ls := ⟨_, rfl⟩
          rw [← hds] at FD KD DA hlen
          clear QQ T0 FE eF X e0 e1 hls hds VV LE
          go_wp2_with fail
          refine NW.out.mono ?_
          rintro e w4 ⟨pa, rfl, r4⟩
          have F4 := Lib.hid (FD.out w4 _ r4)
          clear r4 NW FD
          go_wp2_with fail
          refine F4.out.mono ?_
          rintro e w5 ⟨ev, rfl, r5, v5, -⟩
          have E5 := Lib.hid (FN.out w5 _ _ r5)
          replace v5 := Lib.hid v5
          clear r5 F4 FN
          go_wp2_with fail
          refine E5.out.mono ?_
          rintro e w6 ⟨rfl, r6, s6⟩
          have ZZ := Lib.hid r6.below
          have v6 := v5.out.of fun k hk => s6 k (.inr hk)
          clear E5 v5 r6 s6
          obtain ⟨aa, cp, rfl, hv⟩ := v6
          rcases hv with hv | ⟨gg, oo, rfl, hv⟩
          · cases hv
          obtain ⟨N, hN⟩ : ∃ N, N = ((1, toL hd) :: ds : List Ev).length := ⟨_, rfl⟩
          have hN2 : N = ds.length + 1 := by rw [hN, List.length_cons]
          rw [← hN] at hv ⊢
          have h0 := hv 0 (by omega)
          have c0 : w6.cell? ⟨gg, oo, none⟩ = some (.int .i64 1) := h0.1
          have c1 : w6.cell? ⟨gg, oo + 1, none⟩ = some (.string hd) := by
            have := h0.2
            rw [show (((1, toL hd) :: ds : List Ev).getD 0 (0, [])).2 = toL hd from rfl, strL_toL] at this
            exact this
          have hvs : Hid (∀ M, 1 ≤ M → M < N → w6.cell? ⟨gg, oo + 2 * M, none⟩ = some (.int .i64 0) ∧ w6.cell? ⟨gg, oo + 2 * M + 1, none⟩ = some (.string (strL (ds.getD (M - 1) (0, [])).2))) := fun M h1 hm => by
            obtain ⟨m, rfl⟩ : ∃ m, M = m + 1 := ⟨M - 1, by omega⟩
            have h1 := hv (m + 1) hm
            have e1 : ((1, toL hd) :: ds : List Ev).getD (m + 1) (0, []) = ds.getD m (0, []) := rfl
            rw [e1] at h1
            have hmd : m < ds.length := by omega
            have e2 : (ds.getD m (0, [])).1 = 0 := KD.out _ (by
              rw [List.getD, List.getElem?_eq_getElem hmd]
              exact List.getElem_mem hmd)
            rw [e2] at h1
            exact h1
          have ia := fun w' => at_ev gg oo N cp 0 w' (by omega) 0 rfl oo rfl
          have ib := Lib.hid (fun (m : Nat) (hm : m < N) (w' : World) => at_ev gg oo N cp m w' hm (m : Int) rfl (oo + 2 * m) rfl)
          have hN1 : 1 ≤ N := by omega
          have qN : decide ((N : Int) < 1) = false := decide_eq_false (by omega)
          have hN21 : N ≤ 21 := by omega
          replace hN := Lib.hid hN
          replace hN2 := Lib.hid hN2
          clear hv h0 KD hlen
          go_wp2_with fail
          go_loopg [13, 14] N (fun g2 gv iv wx => ∃ (M : Nat) (G : ByteArray), M + g2 = N + 1 ∧ iv = .int .i64 (M : Int) ∧ 1 ≤ M ∧ M ≤ N ∧ gv = .string G ∧ w6 = wx ∧ Hid (toL G = (ds.take (M - 1)).flatMap fun e : Ev => e.2))
          case atStart => exact ⟨1, ⟨#[]⟩, by omega, rfl, by omega, by omega, rfl, rfl, rfl⟩
          case round =>
            obtain ⟨M, G, hm, rfl, hm0, hm1, rfl, rfl, hG⟩ := hrel
            have zG : G.size ≤ 50000 := by
              rw [← toL_len, hG.out]
              have := flat_take ds (M - 1)
              rw [DA.out, toL_len] at this
              omega
            clear ia c0 c1
            by_cases hmn : M < N
            · have gm : decide ((M : Int) < (N : Int)) = true := decide_eq_true (by omega)
              obtain ⟨d0, d1⟩ := hvs.out M hm0 hmn
              have ic := ib.out M hmn
              have NX : Hid (toL (G ++ strL (ds.getD (M - 1) (0, [])).2) = (ds.take (M + 1 - 1)).flatMap fun e : Ev => e.2) := by
                unfold Hid
                have := take_next ds (M - 1) (by have := hN2.out; omega)
                rw [show M + 1 - 1 = M - 1 + 1 by omega, this, toL_append, toL_strL, hG.out]
              have zD : (strL (ds.getD (M - 1) (0, [])).2).size ≤ 50000 := by
                have h1 := flat_take ds (M + 1 - 1)
                rw [← NX.out, DA.out, toL_len, toL_len, ByteArray.size_append] at h1
                omega
              have m3 : ¬ (9223372036854775807 < G.size + (strL (ds.getD (M - 1) (0, [])).2).size) := by omega
              clear hG DA hvs ib
              generalize strL (ds.getD (M - 1) (0, [])).2 = D at *
              go_wp2_with fail
              go_roundg (N - M)
              case measure => omega
              case rel => exact ⟨M + 1, _, by omega, by simp, by omega, by omega, rfl, rfl, NX⟩
            · have gm : decide ((M : Int) < (N : Int)) = false := decide_eq_false (by omega)
              have e : G = W := toL_inj (by
                rw [hG.out, ← DA.out, List.take_of_length_le (by have := hN2.out; omega)])
              subst e
              clear hG DA hvs ib
              go_wp2_with fail
              go_ret
              exact ⟨rfl, ZZ.out⟩
  · have q1 : decide ((4096 : Int) < (hd.size : Int)) = true := decide_eq_true (by omega)
    go_enter Tryd.func6, Tryd.ntmps6
    go_wp2_with fail
    refine (WO.out ()).mono ?_
    rintro e w1 ⟨rfl, b1⟩
    have Z1 := Lib.hid b1
    clear b1 WO
    go_wp2_with fail
    go_ret
    exact ⟨rfl, Z1.out⟩
end
end Go.Proofs.YtnngdlleicjegaaDoor
