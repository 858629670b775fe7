/-
  What the law H3Back answers. It leans on what the laws ask of the program's calls (H3Face). No other condition. What the law H3Strange answers. It leans on what the laws ask of the program's calls (H3Face). No other condition.
-/
import Derived.Test.YtnngdlleicjegaaDoorH3Two
import Derived.Deep.RegionLaw
namespace Go.Proofs.YtnngdlleicjegaaDoor
set_option maxRecDepth 100000
open Go.RowKit

theorem place15 (a : Int) (c : Int) (hc : 0 < c) (hc2 : c < 4611686018427387904) : ∃ x : Nat, wrap64 ((IntKind.u64.wrap a).tmod c) = x ∧ IntKind.i64.wrap ((IntKind.u64.wrap a).tmod c) = x ∧ (x : Int) < c := by
  have h : 0 ≤ IntKind.u64.wrap a := by rw [IntKind.wrap_u64]; omega
  rw [Int.tmod_eq_emod_of_nonneg h]
  have h1 := Int.emod_nonneg (IntKind.u64.wrap a) (by omega : c ≠ 0)
  have h2 := Int.emod_lt_of_pos (IntKind.u64.wrap a) hc
  refine ⟨(IntKind.u64.wrap a % c).toNat, ?_, ?_, by omega⟩
  · unfold wrap64
    omega
  · rw [IntKind.wrap_i64]
    omega
section
variable {ops : Array Oper} {o : Oper} {a : Act} {w : World} {K : Act → World → Prop} {Q : Exit → Act → World → Prop} {E : Prop}
/-- A call of two arguments that lays only new blocks, in a region that draws its order. -/
theorem cal2S (f : FuncId) {k1 k2 : Nat} {tys : Array TypeId} (v1 v2 r : Value) (C : Calls Tryd.prog f #[v1, v2] w fun e w' => e = .returned r ∧ Below w.heap.size w w') (hcf : ∀ w, (callFunc f #[v1, v2]).run Tryd.prog w = .ok (.enter f #[v1, v2]) w) (hg : o.guard = none) (ho : o.op = .call { callee := .value (.func f), args := #[.tmp k1, .tmp k2], argTypes := tys })
    (h1 : a.eval (.tmp k1) = v1) (h2 : a.eval (.tmp k2) = v2) (h : ∀ w', Below w.heap.size w w' → K (a.put o.dst r) w') : if Region.wanted o (yielded ops a.tmps) = true then Oper.wp Tryd.prog o a w K Q else E := by
  rw [if_pos (by simp [Region.wanted, hg])]
  unfold Oper.wp
  have hr : (execOp a.eval o).run Tryd.prog w = .ok (.enter f #[v1, v2]) w := by
    unfold execOp
    rw [ho]
    simp only [go_sem] at h1 h2 ⊢
    simp [go_sem, h1, h2, hcf]
  rw [hr]
  exact C.mono fun e w' ⟨he, b⟩ => by
    subst he
    exact h w' b
/-- A call of two arguments that lays only new blocks, in a region that draws its order. -/
theorem calcS (f : FuncId) {k2 : Nat} {tys : Array TypeId} (c v2 r : Value) (C : Calls Tryd.prog f #[c, v2] w fun e w' => e = .returned r ∧ Below w.heap.size w w') (hcf : ∀ w, (callFunc f #[c, v2]).run Tryd.prog w = .ok (.enter f #[c, v2]) w) (hg : o.guard = none) (ho : o.op = .call { callee := .value (.func f), args := #[.const c, .tmp k2], argTypes := tys })
    (h2 : a.eval (.tmp k2) = v2) (h : ∀ w', Below w.heap.size w w' → K (a.put o.dst r) w') : if Region.wanted o (yielded ops a.tmps) = true then Oper.wp Tryd.prog o a w K Q else E := by
  rw [if_pos (by simp [Region.wanted, hg])]
  unfold Oper.wp
  have hr : (execOp a.eval o).run Tryd.prog w = .ok (.enter f #[c, v2]) w := by
    unfold execOp
    rw [ho]
    simp only [go_sem] at h2 ⊢
    simp [go_sem, h2, hcf]
  rw [hr]
  exact C.mono fun e w' ⟨he, b⟩ => by
    subst he
    exact h w' b
end
theorem frm_len15 (k : Nat) (d : L) : (frm k d).length ≤ 16 + d.length := by
  unfold frm
  have h1 := put_len k
  have h2 := put_len d.length
  simp only [List.length_append]
  omega
theorem frI_nat (k : Nat) (hk : Lim k) (d : L) : frI (k : Int) d = frm k d := by
  unfold frI
  unfold Lim at hk
  rw [if_pos ⟨by omega, by omega⟩]
  rfl
/-- The first texts. -/
def lsN (g : Nat → ByteArray) (i : Nat) : List L := (List.range i).map fun j => toL (g j)
theorem lsN_succ (g : Nat → ByteArray) (i : Nat) : lsN g (i + 1) = lsN g i ++ [toL (g i)] := by simp [lsN, List.range_succ]
theorem lsN_len (g : Nat → ByteArray) (i : Nat) : (lsN g i).length = i := by simp [lsN]
theorem lsN_bd {g : Nat → ByteArray} {i m : Nat} (h : ∀ j, j < i → (g j).size ≤ m) : ∀ d ∈ lsN g i, d.length ≤ m := fun d hd => by
  unfold lsN at hd
  obtain ⟨j, hj, rfl⟩ := List.mem_map.1 hd
  rw [toL_len]
  exact h j (List.mem_range.1 hj)
theorem reqB_snoc (k : Nat) (ls : List L) (d : L) : reqB k (ls ++ [d]) = reqB k ls ++ (frm 0 d ++ frm k d) := by simp [reqB, List.flatMap_append]
theorem dats_len (ls : List L) : (dats ls).length ≤ ls.length := by
  induction ls with
  | nil => exact Nat.le_refl _
  | cons d ls ih =>
    show ((if d = [] then [] else [((0 : Nat), d)]) ++ dats ls).length ≤ _
    rw [List.length_append, List.length_cons]
    split
    · show 0 + _ ≤ _
      omega
    · show 1 + _ ≤ _
      omega
theorem flat_take (l : List Ev) (m : Nat) : ((l.take m).flatMap fun e : Ev => e.2).length ≤ (l.flatMap fun e : Ev => e.2).length := by
  have e := congrArg (fun x : List Ev => (x.flatMap fun e : Ev => e.2).length) (List.take_append_drop m l)
  simp only [List.flatMap_append, List.length_append] at e
  omega
theorem take_next (l : List Ev) (m : Nat) (h : m < l.length) : (l.take (m + 1)).flatMap (fun e : Ev => e.2) = (l.take m).flatMap (fun e : Ev => e.2) ++ (l.getD m (0, [])).2 := by
  rw [List.take_add_one, List.flatMap_append, List.getElem?_eq_getElem h]
  simp [List.getD, List.getElem?_eq_getElem h]
/-- The bytes so far. -/
structure BkI (w wr : World) (k : Nat) (h : L) (g : Nat → ByteArray) (i : Nat) (S W : ByteArray) : Prop where
  s : toL S = frm k [63] ++ (frm 1 h ++ reqB k (lsN g i))
  v : toL W = (lsN g i).flatten
  z : S.size ≤ 5000 + 2040 * i
  zw : W.size ≤ 1000 * i
  le : ∀ j, j < i → (g j).size ≤ 1000
  bel : Below w.heap.size w wr
section
variable {T : World → Prop} {PR : (Nat → Prop) → World → Value → Bool → List L → Prop}
set_option maxHeartbeats 16000000 in
theorem back15_ok (f : H3Face T PR) (hd : ByteArray) (a : Option Addr) (n cap : Nat) (g : Nat → ByteArray) (z : Int) (w : World) (t : T w) (hS : ∀ i, i < n → ∃ b off, a = some ⟨b, off, none⟩ ∧ w.cell? ⟨b, off + i, none⟩ = some (.string (g i))) :
    Calls Tryd.prog 6 #[.string hd, .slice a n cap, .int .i64 z] w fun e w' => e = .returned (.bool true) ∧ Below w.heap.size w w' := by
  have WO : Hid (∀ _ : Unit, _) := fun _ => works15_ok f w t
  by_cases h1 : hd.size ≤ 4096
  · have q1 : decide ((4096 : Int) < (hd.size : Int)) = false := decide_eq_false (by omega)
    obtain ⟨x, hx1, hx2, hx3⟩ := place15 z 1000 (by decide) (by decide)
    obtain ⟨k, hk⟩ : ∃ k : Nat, k = 33 + x := ⟨_, rfl⟩
    have hk2 : (33 : Int) + (x : Int) = (k : Int) := by omega
    have lk : Lim k := by unfold Lim; omega
    have nk : k ≠ 0 ∧ k ≠ 1 ∧ k ≠ 4 ∧ k ≠ 7 := by omega
    have FK : Hid (∀ w' (d : ByteArray), Below w.heap.size w w' → d.size ≤ 5000 → Calls Tryd.prog 17 #[.int .i64 (k : Int), .string d] w' fun e w'' => e = .returned (.string (strL (frm k (toL d)))) ∧ Below w'.heap.size w' w'') := fun w' d b hz => by
      have := f.frame (k : Int) d w' (f.keep t b) (by omega)
      rw [frI_nat k lk] at this
      exact this
    have F1 : Hid (∀ w' (d : ByteArray), Below w.heap.size w w' → d.size ≤ 5000 → Calls Tryd.prog 17 #[.int .i64 1, .string d] w' fun e w'' => e = .returned (.string (strL (frm 1 (toL d)))) ∧ Below w'.heap.size w' w'') := fun w' d b hz => by
      have := f.frame ((1 : Nat) : Int) d w' (f.keep t b) (by omega)
      rw [frI_nat 1 (by unfold Lim; decide)] at this
      exact this
    have F0 : Hid (∀ w' (d : ByteArray), Below w.heap.size w w' → d.size ≤ 5000 → Calls Tryd.prog 17 #[.int .i64 0, .string d] w' fun e w'' => e = .returned (.string (strL (frm 0 (toL d)))) ∧ Below w'.heap.size w' w'') := fun w' d b hz => by
      have := f.frame ((0 : Nat) : Int) d w' (f.keep t b) (by omega)
      rw [frI_nat 0 (by unfold Lim; decide)] at this
      exact this
    have z1 : (strL (frm k (toL ⟨#[63]⟩))).size ≤ 17 := by
      rw [strL_size]
      exact frm_len15 k [63]
    have z2 : (strL (frm 1 (toL hd))).size ≤ 4112 := by
      rw [strL_size]
      have := frm_len15 1 (toL hd)
      rw [toL_len] at this
      omega
    have X0 : Hid (∀ wr, Below w.heap.size w wr → BkI w wr k (toL hd) g 0 (strL (frm k (toL ⟨#[63]⟩)) ++ strL (frm 1 (toL hd))) ⟨#[]⟩) := fun wr b => by
      refine ⟨?_, rfl, ?_, Nat.le_refl _, fun j hj => absurd hj (Nat.not_lt_zero _), b⟩
      · rw [strL_append, toL_strL]
        show frm k [63] ++ frm 1 (toL hd) = frm k [63] ++ (frm 1 (toL hd) ++ [])
        rw [List.append_nil]
      · rw [ByteArray.size_append]
        omega
    have T0 := Lib.hid t
    have SS := Lib.hid hS
    have QQ := Lib.hid (fun ls hl => go_request lk nk [63] (toL hd) ls (by unfold Lim; decide) (by rw [toL_len]; exact h1) hl)
    replace lk := Lib.hid lk
    replace nk := Lib.hid nk
    replace hk := Lib.hid hk
    clear t hS
    go_enter Tryd.func6, Tryd.ntmps6
    go_wp2_with fail
    refine (WO.out ()).mono ?_
    rintro e w1 ⟨rfl, b1⟩
    have K1 := Lib.hid (FK.out w1 ⟨#[63]⟩ b1 (by decide))
    have B1 := Lib.hid b1
    clear b1 WO
    go_wp2_with fail
    refine K1.out.mono ?_
    rintro e w2 ⟨rfl, b2⟩
    have B2 := B1.out.trans (b2.mono B1.out.size)
    have K2 := Lib.hid (F1.out w2 hd B2 (by omega))
    replace B2 := Lib.hid B2
    clear b2 B1 K1 F1
    go_wp2_with fail
    refine K2.out.mono ?_
    rintro e w3 ⟨rfl, b3⟩
    have XX := Lib.hid (X0.out w3 (B2.out.trans (b3.mono B2.out.size)))
    clear b3 B2 K2 X0
    generalize strL (frm k (toL ⟨#[63]⟩)) = A1 at *
    generalize strL (frm 1 (toL hd)) = A2 at *
    go_wp2_with fail
    go_loopg [7, 8, 9] 20 (fun gg sv wv iv wr => ∃ (i : Nat) (S W : ByteArray), i + gg = 20 ∧ sv = .string S ∧ wv = .string W ∧ iv = .int .i64 (i : Int) ∧ Hid (BkI w wr k (toL hd) g i S W))
    case atStart => exact ⟨0, _, _, by omega, rfl, rfl, rfl, XX⟩
    case round =>
      obtain ⟨i, S, W, hi, rfl, rfl, rfl, X⟩ := hrel
      clear XX z1 z2
      generalize A1 ++ A2 = A3 at *
      have zS : S.size ≤ 50000 := by have := X.out.z; omega
      have zW : W.size ≤ 50000 := by have := X.out.zw; omega
      by_cases h2 : i < n ∧ i < 20
      · have g1 : decide ((i : Int) < (n : Int)) = true := decide_eq_true (by omega)
        have g2 : decide ((i : Int) < 20) = true := decide_eq_true (by omega)
        obtain ⟨b, off, rfl, ci⟩ := SS.out i h2.1
        have hbw := World.block_lt_of_cell? w _ ci
        have ci' := (X.out.bel.cell hbw).trans ci
        have KC : Hid (∀ w', Below wr.heap.size wr w' → w'.cell? ⟨b, off + i, none⟩ = some (.string (g i))) := fun w' b' => (b'.cell (World.block_lt_of_cell? wr _ ci')).trans ci'
        have ia := fun w' => at_strs15 b off n cap i w' h2.1
        by_cases h3 : (g i).size ≤ 1000
        · have q3 : decide ((1000 : Int) < ((g i).size : Int)) = false := decide_eq_false (by omega)
          have NX : Hid (∀ w', Below wr.heap.size wr w' → BkI w w' k (toL hd) g (i + 1) (S ++ strL (frm 0 (toL (g i))) ++ strL (frm k (toL (g i)))) (W ++ g i)) := fun w' b' => by
            have f0 := frm_len15 0 (toL (g i))
            have f1 := frm_len15 k (toL (g i))
            rw [toL_len] at f0 f1
            have zS := X.out.z
            have zW := X.out.zw
            refine ⟨?_, ?_, ?_, ?_, fun j hj => ?_, X.out.bel.trans (b'.mono X.out.bel.size)⟩
            · rw [toL_append, toL_append, toL_strL, toL_strL, X.out.s, lsN_succ, reqB_snoc]
              simp only [List.append_assoc]
            · rw [toL_append, X.out.v, lsN_succ]
              simp
            · rw [ByteArray.size_append, ByteArray.size_append, strL_size, strL_size]
              omega
            · rw [ByteArray.size_append]
              omega
            · by_cases e : j = i
              · rw [e]; exact h3
              · exact X.out.le j (by omega)
          have zA : (strL (frm 0 (toL (g i)))).size ≤ 1016 := by
            have f0 := frm_len15 0 (toL (g i))
            rw [toL_len] at f0
            rw [strL_size]
            omega
          have zB : (strL (frm k (toL (g i)))).size ≤ 1016 := by
            have f0 := frm_len15 k (toL (g i))
            rw [toL_len] at f0
            rw [strL_size]
            omega
          have C0 : Hid (∀ w', Below wr.heap.size wr w' → _) := fun w' b' => F0.out w' (g i) (X.out.bel.trans (b'.mono X.out.bel.size)) (by omega)
          have CK : Hid (∀ w', Below wr.heap.size wr w' → _) := fun w' b' => FK.out w' (g i) (X.out.bel.trans (b'.mono X.out.bel.size)) (by omega)
          have hcf : ∀ (x y : Value) (w : World), (callFunc 17 #[x, y]).run Tryd.prog w = .ok (.enter 17 #[x, y]) w := fun x y w => by simp [go_sem]
          have hi20 := h2.2
          have hin := h2.1
          clear X SS QQ T0 F0 FK h2 ci hbw
          generalize strL (frm 0 (toL (g i))) = A at *
          generalize strL (frm k (toL (g i))) = B at *
          generalize g i = D at *
          have BB : Below wr.heap.size wr wr.drew := drewB _ _
          have m3 : ¬ (9223372036854775807 < W.size + D.size) := by omega
          have m1 : ¬ (9223372036854775807 < S.size + A.size) := by omega
          have m2 : ¬ (9223372036854775807 < S.size + A.size + B.size) := by omega
          have cc := KC.out _ BB
          go_upto_region 13 with fail
          go_region_law (first | (refine calcS 17 (.int .i64 0) (.string D) (.string A) (C0.out _ BB) (hcf _ _) rfl rfl (by simp [Act.eval, Act.put]) ?_; intro w1 b1; have BB := BB.trans (b1.mono BB.size); have cc := KC.out _ BB) | (refine cal2S 17 (.int .i64 (k : Int)) (.string D) (.string B) (CK.out _ BB) (hcf _ _) rfl rfl (by simp [Act.eval, Act.put]) (by simp [Act.eval, Act.put]) ?_; intro w1 b1; have BB := BB.trans (b1.mono BB.size); have cc := KC.out _ BB))
          all_goals
            have N2 := Lib.hid (NX.out _ BB)
            clear NX C0 CK KC BB
            go_wp2_with fail
            go_roundg (20 - (i + 1))
            case measure => omega
            case rel => exact ⟨i + 1, _, _, by omega, rfl, rfl, by simp, N2⟩
        · have q3 : decide ((1000 : Int) < ((g i).size : Int)) = true := decide_eq_true (by omega)
          have hi20 := h2.2
          have hin := h2.1
          have ZZ := Lib.hid X.out.bel
          clear X SS QQ F0 FK KC
          go_wp2_with fail
          go_ret
          exact ⟨rfl, ZZ.out⟩
      · have NO : Hid (¬ i < n ∨ (i < n ∧ ¬ i < 20)) := by
          unfold Hid
          omega
        clear h2 SS F0 FK
        go_upto_region 9 with fail
        go_cut [37] (fun s wc => s = .bool false ∧ wr = wc)
        case first =>
          rcases NO.out with y1 | ⟨y1, y2⟩
          · go_wp2_with fail
            go_meet
            exact ⟨rfl, rfl⟩
          · go_wp2_with fail
            go_meet
            exact ⟨by rw [decide_eq_false (by omega)], rfl⟩
        case rest =>
          obtain ⟨rfl, rfl⟩ := hcut
          clear NO
          obtain ⟨p', FE⟩ := QQ.out (lsN g i) fun d hd => by
            have := lsN_bd X.out.le d hd
            unfold Lim
            omega
          rw [← X.out.s] at FE
          have NW := Lib.hid (r1_new f false w wr X.out.bel (f.keep T0.out X.out.bel))
          have FD : Hid (∀ w' v, R1 T PR w w' v false [] (fun _ => False) → _) := fun w' v h => r1_feed f h S (by show 0 + S.size < 1000000; omega)
          have FN : Hid (∀ w' v Y, R1 T PR w w' v false ([] ++ [toL S]) Y → _) := fun w' v Y h => r1_fin f h
          have e0 : fed false [] = Hr.new false := rfl
          rw [e0, FE] at FD
          have eF : fed false ([] ++ [toL S]) = Hr.mk false [] false true 0 p' 0 := by rw [fed_snoc, e0, FE]
          rw [eF] at FN
          have e1 : (Hr.mk false [] false true 0 p' 0).fin = 0 := rfl
          rw [e1] at FN
          simp only at FD
          have VV := Lib.hid X.out.v
          have LE := Lib.hid X.out.le
          obtain ⟨ls, hls⟩ : ∃ ls, ls = lsN g i := ⟨_, rfl⟩
          rw [← hls] at FD VV
          have hlen : (dats ls).length ≤ 20 := by
            have := dats_len ls
            rw [hls, lsN_len, ← hls] at this
            omega
          have KD := Lib.hid (dats_kind ls)
          have DA := dats_all ls
          rw [← VV.out] at DA
          replace DA := Lib.hid DA
          obtain ⟨ds, hds⟩ : ∃ ds, ds = dats ls := ⟨_, rfl⟩
          rw [← hds] at FD KD DA hlen
          clear QQ T0 FE eF X e0 e1 hls hds VV LE
          go_wp2_with fail
          refine NW.out.mono ?_
          rintro e w4 ⟨pa, rfl, r4⟩
          have F4 := Lib.hid (FD.out w4 _ r4)
          clear r4 NW FD
          go_wp2_with fail
          refine F4.out.mono ?_
          rintro e w5 ⟨ev, rfl, r5, v5, -⟩
          have E5 := Lib.hid (FN.out w5 _ _ r5)
          replace v5 := Lib.hid v5
          clear r5 F4 FN
          go_wp2_with fail
          refine E5.out.mono ?_
          rintro e w6 ⟨rfl, r6, s6⟩
          have ZZ := Lib.hid r6.below
          have v6 := v5.out.of fun k hk => s6 k (.inr hk)
          clear E5 v5 r6 s6
          obtain ⟨aa, cp, rfl, hv⟩ := v6
          rcases hv with hv | ⟨gg, oo, rfl, hv⟩
          · cases hv
          obtain ⟨N, hN⟩ : ∃ N, N = ((1, toL hd) :: ds : List Ev).length := ⟨_, rfl⟩
          have hN2 : N = ds.length + 1 := by rw [hN, List.length_cons]
          rw [← hN] at hv ⊢
          have h0 := hv 0 (by omega)
          have c0 : w6.cell? ⟨gg, oo, none⟩ = some (.int .i64 1) := h0.1
          have c1 : w6.cell? ⟨gg, oo + 1, none⟩ = some (.string hd) := by
            have := h0.2
            rw [show (((1, toL hd) :: ds : List Ev).getD 0 (0, [])).2 = toL hd from rfl, strL_toL] at this
            exact this
          have hvs : Hid (∀ M, 1 ≤ M → M < N → w6.cell? ⟨gg, oo + 2 * M, none⟩ = some (.int .i64 0) ∧ w6.cell? ⟨gg, oo + 2 * M + 1, none⟩ = some (.string (strL (ds.getD (M - 1) (0, [])).2))) := fun M h1 hm => by
            obtain ⟨m, rfl⟩ : ∃ m, M = m + 1 := ⟨M - 1, by omega⟩
            have h1 := hv (m + 1) hm
            have e1 : ((1, toL hd) :: ds : List Ev).getD (m + 1) (0, []) = ds.getD m (0, []) := rfl
            rw [e1] at h1
            have hmd : m < ds.length := by omega
            have e2 : (ds.getD m (0, [])).1 = 0 := KD.out _ (by
              rw [List.getD, List.getElem?_eq_getElem hmd]
              exact List.getElem_mem hmd)
            rw [e2] at h1
            exact h1
          have ia := fun w' => at_ev gg oo N cp 0 w' (by omega) 0 rfl oo rfl
          have ib := Lib.hid (fun (m : Nat) (hm : m < N) (w' : World) => at_ev gg oo N cp m w' hm (m : Int) rfl (oo + 2 * m) rfl)
          have hN1 : 1 ≤ N := by omega
          have qN : decide ((N : Int) < 1) = false := decide_eq_false (by omega)
          have hN21 : N ≤ 21 := by omega
          replace hN := Lib.hid hN
          replace hN2 := Lib.hid hN2
          clear hv h0 KD hlen
          go_wp2_with fail
          go_loopg [13, 14] N (fun g2 gv iv wx => ∃ (M : Nat) (G : ByteArray), M + g2 = N + 1 ∧ iv = .int .i64 (M : Int) ∧ 1 ≤ M ∧ M ≤ N ∧ gv = .string G ∧ w6 = wx ∧ Hid (toL G = (ds.take (M - 1)).flatMap fun e : Ev => e.2))
          case atStart => exact ⟨1, ⟨#[]⟩, by omega, rfl, by omega, by omega, rfl, rfl, rfl⟩
          case round =>
            obtain ⟨M, G, hm, rfl, hm0, hm1, rfl, rfl, hG⟩ := hrel
            have zG : G.size ≤ 50000 := by
              rw [← toL_len, hG.out]
              have := flat_take ds (M - 1)
              rw [DA.out, toL_len] at this
              omega
            clear ia c0 c1
            by_cases hmn : M < N
            · have gm : decide ((M : Int) < (N : Int)) = true := decide_eq_true (by omega)
              obtain ⟨d0, d1⟩ := hvs.out M hm0 hmn
              have ic := ib.out M hmn
              have NX : Hid (toL (G ++ strL (ds.getD (M - 1) (0, [])).2) = (ds.take (M + 1 - 1)).flatMap fun e : Ev => e.2) := by
                unfold Hid
                have := take_next ds (M - 1) (by have := hN2.out; omega)
                rw [show M + 1 - 1 = M - 1 + 1 by omega, this, toL_append, toL_strL, hG.out]
              have zD : (strL (ds.getD (M - 1) (0, [])).2).size ≤ 50000 := by
                have h1 := flat_take ds (M + 1 - 1)
                rw [← NX.out, DA.out, toL_len, toL_len, ByteArray.size_append] at h1
                omega
              have m3 : ¬ (9223372036854775807 < G.size + (strL (ds.getD (M - 1) (0, [])).2).size) := by omega
              clear hG DA hvs ib
              generalize strL (ds.getD (M - 1) (0, [])).2 = D at *
              go_wp2_with fail
              go_roundg (N - M)
              case measure => omega
              case rel => exact ⟨M + 1, _, by omega, by simp, by omega, by omega, rfl, rfl, NX⟩
            · have gm : decide ((M : Int) < (N : Int)) = false := decide_eq_false (by omega)
              have e : G = W := toL_inj (by
                rw [hG.out, ← DA.out, List.take_of_length_le (by have := hN2.out; omega)])
              subst e
              clear hG DA hvs ib
              go_wp2_with fail
              go_ret
              exact ⟨rfl, ZZ.out⟩
  · have q1 : decide ((4096 : Int) < (hd.size : Int)) = true := decide_eq_true (by omega)
    go_enter Tryd.func6, Tryd.ntmps6
    go_wp2_with fail
    refine (WO.out ()).mono ?_
    rintro e w1 ⟨rfl, b1⟩
    have Z1 := Lib.hid b1
    clear b1 WO
    go_wp2_with fail
    go_ret
    exact ⟨rfl, Z1.out⟩
end
end Go.Proofs.YtnngdlleicjegaaDoor
namespace Go.Proofs.YtnngdlleicjegaaDoor
set_option maxRecDepth 100000
open Go.RowKit

def frs (c : Bool) : L := if c = true then 0 :: frm 4 [6, 1] else frm 1 [104]
def frE (c : Bool) : Ev := if c = true then (4, [6, 1]) else (1, [104])
def oneB (c : Bool) (d : L) : L := if c = true then frm 7 [0] else frm 0 d
/-- The bytes without strange frames, and with them. -/
def sB (c : Bool) (ls : List L) : L := frs c ++ ls.flatMap (oneB c)
def tB (c : Bool) (k : Nat) (ls : List L) : L := frs c ++ ls.flatMap fun d => frm k d ++ oneB c d ++ frm k []
def evS (c : Bool) (ls : List L) : List Ev := frE c :: (if c = true then List.replicate ls.length (7, [0]) else dats ls)
theorem go_first0 {t : L} {f p : Bool} : (Hr.mk true (0 :: t) false f 0 p 0).go = (Hr.mk true t true f 0 p 0).go := by
  have st : (Hr.mk true (0 :: t) false f 0 p 0).step = some (Hr.mk true t true f 0 p 0, []) := by
    unfold Hr.step
    rw [if_pos ⟨rfl, rfl⟩]
    exact if_pos (show List.head? (0 :: t) = some 0 from rfl)
  rw [Hr.go_some (by simp) st]
  rfl
theorem away_is (ls : List L) : ls.flatMap (oneB true) = awayB ls.length := by
  induction ls with
  | nil => rfl
  | cons d ls ih =>
    show frm 7 [0] ++ ls.flatMap (oneB true) = (List.replicate (ls.length + 1) (frm 7 [0])).flatten
    rw [ih, List.replicate_succ, List.flatten_cons]
    rfl
theorem dat_is (ls : List L) : ls.flatMap (oneB false) = datB ls := rfl
theorem feed_new (c : Bool) (t : L) : (Hr.new c).feed t = (Hr.mk c t false false 0 false 0).go := by
  unfold Hr.feed Hr.new Hr.more
  rw [if_neg (by simp)]
  rfl
theorem strange_s (c : Bool) (ls : List L) (hl : ∀ d ∈ ls, Lim d.length) : ∃ p', (Hr.new c).feed (sB c ls) = (Hr.mk c [] c true 0 p' 0, evS c ls) := by
  rw [feed_new]
  unfold sB evS frs frE
  cases c
  · simp only [Bool.false_eq_true, if_false]
    rw [dat_is]
    obtain ⟨p', e⟩ := go_dat ls false false hl
    exact ⟨p', by rw [go_whole (by simp) (.inl rfl) (by decide) (by decide) (by decide), e]⟩
  · simp only [if_true]
    rw [away_is, List.cons_append, go_first0]
    obtain ⟨p', e⟩ := go_away ls.length false
    exact ⟨p', by rw [go_whole (by simp) (.inr (.inl rfl)) (by decide) (by decide) (by decide), e]⟩
theorem strange_t (c : Bool) {k : Nat} (hk : Lim k) (h : k ≠ 0 ∧ k ≠ 1 ∧ k ≠ 4 ∧ k ≠ 7) (ls : List L) (hl : ∀ d ∈ ls, Lim d.length) : ∃ p', (Hr.new c).feed (tB c k ls) = (Hr.mk c [] c true 0 p' 0, evS c ls) := by
  rw [feed_new]
  unfold tB evS frs frE
  cases c
  · simp only [Bool.false_eq_true, if_false]
    obtain ⟨p', e⟩ := go_str hk h ls false false hl
    have e2 : (ls.flatMap fun d => frm k d ++ oneB false d ++ frm k []) = strB k ls := rfl
    rw [e2]
    exact ⟨p', by rw [go_whole (by simp) (.inl rfl) (by decide) (by decide) (by decide), e]⟩
  · simp only [if_true]
    rw [List.cons_append, go_first0]
    obtain ⟨p', e⟩ := go_awayS hk h ls false hl
    have e2 : (ls.flatMap fun d => frm k d ++ oneB true d ++ frm k []) = awayS k ls := rfl
    rw [e2]
    exact ⟨p', by rw [go_whole (by simp) (.inr (.inl rfl)) (by decide) (by decide) (by decide), e]⟩
theorem evS_len (c : Bool) (ls : List L) : 1 ≤ (evS c ls).length ∧ (evS c ls).length ≤ ls.length + 1 := by
  unfold evS
  rw [List.length_cons]
  split
  · rw [List.length_replicate]
    omega
  · have := dats_len ls
    omega
theorem sB_snoc (c : Bool) (ls : List L) (d : L) : sB c (ls ++ [d]) = sB c ls ++ oneB c d := by
  unfold sB
  rw [List.flatMap_append]
  simp
theorem tB_snoc (c : Bool) (k : Nat) (ls : List L) (d : L) : tB c k (ls ++ [d]) = tB c k ls ++ (frm k d ++ oneB c d ++ frm k []) := by
  unfold tB
  rw [List.flatMap_append]
  simp
theorem frs_len15 (c : Bool) : (frs c).length ≤ 19 := by cases c <;> decide
theorem one_len (c : Bool) (d : L) : (oneB c d).length ≤ 17 + d.length := by
  unfold oneB
  split
  · have := frm_len15 7 [0]
    have e : ([0] : L).length = 1 := rfl
    omega
  · have := frm_len15 0 d
    omega
section
variable {T : World → Prop} {PR : (Nat → Prop) → World → Value → Bool → List L → Prop}
/-- The bytes so far, and both readers. -/
structure StI (T : World → Prop) (PR : (Nat → Prop) → World → Value → Bool → List L → Prop) (w wr : World) (c : Bool) (k : Nat) (g : Nat → ByteArray) (va vb : Value) (i : Nat) (S U : ByteArray) : Prop where
  s : toL S = sB c (lsN g i)
  u : toL U = tB c k (lsN g i)
  z : S.size ≤ 30 + 530 * i
  zu : U.size ≤ 30 + 1100 * i
  le : ∀ j, j < i → (g j).size ≤ 500
  r : R2 T PR w wr va c [] vb c [] (fun _ => False)
theorem StI.next (f : H3Face T PR) {w wr : World} {c : Bool} {k : Nat} {g : Nat → ByteArray} {va vb : Value} {i : Nat} {S U : ByteArray} (h : StI T PR w wr c k g va vb i S U) (hi : (g i).size ≤ 500) {w' : World} (b : Below wr.heap.size wr w') {A K E : ByteArray} (hA : A = strL (oneB c (toL (g i)))) (hK : K = strL (frm k (toL (g i)))) (hE : E = strL (frm k [])) : StI T PR w w' c k g va vb (i + 1) (S ++ A) (U ++ K ++ A ++ E) := by
  have zS := h.z
  have zU := h.zu
  have o1 := one_len c (toL (g i))
  have o2 := frm_len15 k (toL (g i))
  have o3 := frm_len15 k []
  have o4 : ([] : L).length = 0 := rfl
  rw [toL_len] at o1 o2
  refine ⟨?_, ?_, ?_, ?_, fun j hj => ?_, h.r.keep f b⟩
  · rw [toL_append, hA, toL_strL, h.s, lsN_succ, sB_snoc]
  · rw [toL_append, toL_append, toL_append, hA, hK, hE, toL_strL, toL_strL, toL_strL, h.u, lsN_succ, tB_snoc]
    simp only [List.append_assoc]
  · rw [ByteArray.size_append, hA, strL_size]
    omega
  · rw [ByteArray.size_append, ByteArray.size_append, ByteArray.size_append, hA, hK, hE, strL_size, strL_size, strL_size]
    omega
  · by_cases e : j = i
    · rw [e]; exact hi
    · exact h.le j (by omega)
set_option maxHeartbeats 32000000 in
theorem strange_req (f : H3Face T PR) (a : Option Addr) (n cap : Nat) (g : Nat → ByteArray) (z : Int) (w : World) (t : T w) (hS : ∀ i, i < n → ∃ b off, a = some ⟨b, off, none⟩ ∧ w.cell? ⟨b, off + i, none⟩ = some (.string (g i))) :
    Calls Tryd.prog 7 #[.bool false, .slice a n cap, .int .i64 z] w fun e w' => e = .returned (.bool true) ∧ Below w.heap.size w w' := by
  have WO : Hid (∀ _ : Unit, _) := fun _ => works15_ok f w t
  obtain ⟨x, hx1, hx2, hx3⟩ := place15 z 100000 (by decide) (by decide)
  obtain ⟨k, hk⟩ : ∃ k : Nat, k = 33 + x := ⟨_, rfl⟩
  have hk2 : (33 : Int) + (x : Int) = (k : Int) := by omega
  have lk : Lim k := by unfold Lim; omega
  have nk : k ≠ 0 ∧ k ≠ 1 ∧ k ≠ 4 ∧ k ≠ 7 := by omega
  have FR : ∀ (j : Nat) (w' : World) (d : ByteArray), Lim j → T w' → d.size ≤ 5000 → Calls Tryd.prog 17 #[.int .i64 (j : Int), .string d] w' fun e w'' => e = .returned (.string (strL (frm j (toL d)))) ∧ Below w'.heap.size w' w'' := fun j w' d lj t' hz => by
    have := f.frame (j : Int) d w' t' (by omega)
    rw [frI_nat j lj] at this
    exact this
  have FK : Hid (∀ (w' : World) (d : ByteArray), T w' → d.size ≤ 5000 → _) := fun w' d t' hz => FR k w' d lk t' hz
  have F0 : Hid (∀ (w' : World) (d : ByteArray), T w' → d.size ≤ 5000 → _) := fun w' d t' hz => FR 0 w' d (by unfold Lim; decide) t' hz
  have F1 : Hid (∀ (w' : World), T w' → _) := fun w' t' => FR 1 w' ⟨#[104]⟩ (by unfold Lim; decide) t' (by decide)
  have F4 : Hid (∀ (w' : World), T w' → _) := fun w' t' => FR 4 w' ⟨#[6, 1]⟩ (by unfold Lim; decide) t' (by decide)
  have F7 : Hid (∀ (w' : World), T w' → _) := fun w' t' => FR 7 w' ⟨#[0]⟩ (by unfold Lim; decide) t' (by decide)
  have QS := Lib.hid (fun ls hl => strange_s false ls hl)
  have QT := Lib.hid (fun ls hl => strange_t false lk nk ls hl)
  have X0 : Hid (∀ wr va vb (A : ByteArray), R2 T PR w wr va false [] vb false [] (fun _ => False) → A = strL (frs false) → StI T PR w wr false k g va vb 0 A A) := fun wr va vb A r hA => by
    subst hA
    have := frs_len15 false
    refine ⟨?_, ?_, by rw [strL_size]; omega, by rw [strL_size]; omega, fun j hj => absurd hj (Nat.not_lt_zero _), r⟩
    · rw [toL_strL]
      show frs false = frs false ++ []
      rw [List.append_nil]
    · rw [toL_strL]
      show frs false = frs false ++ []
      rw [List.append_nil]
  have T0 := Lib.hid t
  have SS := Lib.hid hS
  have e4 : Hid ((⟨#[0]⟩ : ByteArray) ++ strL (frm 4 (toL ⟨#[6, 1]⟩)) = strL (frs true)) := by
    unfold Hid
    exact toL_inj rfl
  have z1 : (strL (frm 4 (toL ⟨#[6, 1]⟩))).size ≤ 19 := by
    rw [strL_size]
    exact Nat.le_trans (frm_len15 4 [6, 1]) (by decide)
  have ek : Hid ((frm k (toL ⟨#[]⟩)) = frm k []) := rfl
  replace lk := Lib.hid lk
  replace nk := Lib.hid nk
  replace hk := Lib.hid hk
  clear t hS FR
  go_enter Tryd.func7, Tryd.ntmps7
  go_wp2_with fail
  refine (WO.out ()).mono ?_
  rintro e w1 ⟨rfl, b1⟩
  have N1 := Lib.hid (r1_new f false w w1 b1 (f.keep T0.out b1))
  clear b1 WO
  go_wp2_with fail
  refine N1.out.mono ?_
  rintro e w2 ⟨pa, rfl, r2⟩
  clear hx1 hx2 hx3 hk2
  generalize (IntKind.u64.wrap z).tmod 100000 = Z1 at *
  have N2 := Lib.hid (r2_new f false false r2)
  clear r2 N1
  go_wp2_with fail
  refine N2.out.mono ?_
  rintro e w3 ⟨pb, rfl, r3⟩
  have C1 := Lib.hid (F1.out w3 r3.tab)
  replace r3 := Lib.hid r3
  clear N2 F1
  go_wp2_with fail
  refine C1.out.mono ?_
  rintro e w4 ⟨rfl, b4⟩
  have r4 := Lib.hid (r3.out.keep f b4)
  have XX := Lib.hid (X0.out w4 _ _ (strL (frm 1 (toL ⟨#[104]⟩))) r4.out rfl)
  clear b4 r3 r4 C1 X0 F4 F7 e4 z1
  generalize strL (frm 1 (toL ⟨#[104]⟩)) = A1 at *
  go_wp2_with fail
  go_loopg [10, 11, 12] 12 (fun gg sv uv iv wr => ∃ (i : Nat) (S U : ByteArray), i + gg = 12 ∧ sv = .string S ∧ uv = .string U ∧ iv = .int .i64 (i : Int) ∧ Hid (StI T PR w wr false k g (.pointer (some pa)) (.pointer (some pb)) i S U))
  case atStart => exact ⟨0, _, _, by omega, rfl, rfl, rfl, XX⟩
  case round =>
    obtain ⟨i, S, U, hi, rfl, rfl, rfl, X⟩ := hrel
    clear XX
    have zS : S.size ≤ 30000 := by have := X.out.z; omega
    have zU : U.size ≤ 30000 := by have := X.out.zu; omega
    by_cases h2 : i < n ∧ i < 12
    · have hin := h2.1
      have hi12 := h2.2
      obtain ⟨b, off, rfl, ci⟩ := SS.out i h2.1
      have hbw := World.block_lt_of_cell? w _ ci
      have ci' := (X.out.r.below.cell hbw).trans ci
      have KC : Hid (∀ w', Below wr.heap.size wr w' → w'.cell? ⟨b, off + i, none⟩ = some (.string (g i))) := fun w' b' => (b'.cell (World.block_lt_of_cell? wr _ ci')).trans ci'
      have ia := fun w' => at_strs15 b off n cap i w' h2.1
      by_cases h3 : (g i).size ≤ 500
      · have q3 : decide ((500 : Int) < ((g i).size : Int)) = false := decide_eq_false (by omega)
        have NX : Hid (∀ w' (A K E : ByteArray), Below wr.heap.size wr w' → A = strL (oneB false (toL (g i))) → K = strL (frm k (toL (g i))) → E = strL (frm k []) → StI T PR w w' false k g (.pointer (some pa)) (.pointer (some pb)) (i + 1) (S ++ A) (U ++ K ++ A ++ E)) := fun w' A K E b' hA hK hE => X.out.next f h3 b' hA hK hE
        have C0 := Lib.hid (F0.out wr (g i) X.out.r.tab (by omega))
        have TT : Hid (∀ w', Below wr.heap.size wr w' → T w') := fun w' b' => f.keep X.out.r.tab b'
        have zA : (strL (frm 0 (toL (g i)))).size ≤ 516 := by
          have f0 := frm_len15 0 (toL (g i))
          rw [toL_len] at f0
          rw [strL_size]
          omega
        have zK : (strL (frm k (toL (g i)))).size ≤ 516 := by
          have f0 := frm_len15 k (toL (g i))
          rw [toL_len] at f0
          rw [strL_size]
          omega
        have zE : (strL (frm k (toL ⟨#[]⟩))).size ≤ 16 := by
          rw [strL_size]
          exact frm_len15 k []
        have hz5 : (g i).size ≤ 5000 := by omega
        clear X SS QS QT T0 F0 h2 ci hbw
        go_wp2_with fail
        refine C0.out.mono ?_
        rintro e w6 ⟨rfl, b6⟩
        have B6 := Lib.hid b6
        clear b6 C0
        have B7 := B6
        clear B6
        obtain ⟨w7, hw7⟩ : ∃ w7, w7 = w6 := ⟨_, rfl⟩
        rw [← hw7] at B7 ⊢
        clear hw7
        obtain ⟨A, hA⟩ : ∃ A, A = strL (frm 0 (toL (g i))) := ⟨_, rfl⟩
        rw [← hA] at zA ⊢
        have zA' : A.size ≤ 516 := zA
        have HA : Hid (A = strL (oneB false (toL (g i)))) := hA
        clear hA
        have cc := KC.out _ B7.out
        have CK := Lib.hid (FK.out w7 (g i) (TT.out _ B7.out) hz5)
        obtain ⟨K, hK⟩ : ∃ K, K = strL (frm k (toL (g i))) := ⟨_, rfl⟩
        obtain ⟨E, hE⟩ : ∃ E, E = strL (frm k (toL ⟨#[]⟩)) := ⟨_, rfl⟩
        rw [← hK] at zK CK
        rw [← hE] at zE
        replace hK := Lib.hid hK
        replace hE := Lib.hid hE
        have m1 : ¬ (9223372036854775807 < S.size + A.size) := by omega
        have m2 : ¬ (9223372036854775807 < U.size + K.size) := by omega
        have m3 : ¬ (9223372036854775807 < U.size + K.size + A.size) := by omega
        have m4 : ¬ (9223372036854775807 < U.size + K.size + A.size + E.size) := by omega
        generalize hD : g i = D at *
        replace hD := Lib.hid hD
        go_wp2_with fail
        refine CK.out.mono ?_
        rintro e w8 ⟨rfl, b8⟩
        have B8 := Lib.hid (B7.out.trans (b8.mono B7.out.size))
        have CE := Lib.hid (FK.out w8 ⟨#[]⟩ (TT.out _ B8.out) (by decide))
        rw [← hE.out] at CE
        clear b8 B7 CK
        go_wp2_with fail
        refine CE.out.mono ?_
        rintro e w9 ⟨rfl, b9⟩
        have N2 := Lib.hid (NX.out w9 A K E (B8.out.trans (b9.mono B8.out.size)) HA.out hK.out hE.out)
        clear b9 B8 CE NX KC FK TT
        go_wp2_with fail
        go_roundg (12 - (i + 1))
        case measure => omega
        case rel => exact ⟨i + 1, _, _, by omega, rfl, rfl, by simp, N2⟩
      · have q3 : decide ((500 : Int) < ((g i).size : Int)) = true := decide_eq_true (by omega)
        have ZZ := Lib.hid X.out.r.below
        clear X SS QS QT F0 FK KC
        go_wp2_with fail
        go_ret
        exact ⟨rfl, ZZ.out⟩
    · have NO : Hid (¬ i < n ∨ (i < n ∧ ¬ i < 12)) := by
        unfold Hid
        omega
      clear h2 SS F0 FK
      go_upto_region 10 with fail
      go_cut [43] (fun s wc => s = .bool false ∧ wr = wc)
      case first =>
        rcases NO.out with y1 | ⟨y1, y2⟩
        · go_wp2_with fail
          go_meet
          exact ⟨rfl, rfl⟩
        · go_wp2_with fail
          go_meet
          exact ⟨by rw [decide_eq_false (by omega)], rfl⟩
      case rest =>
        obtain ⟨rfl, rfl⟩ := hcut
        clear NO
        have hlim : ∀ d ∈ lsN g i, Lim d.length := fun d hd => by
          have := lsN_bd X.out.le d hd
          unfold Lim
          omega
        obtain ⟨p1, FeS⟩ := QS.out (lsN g i) hlim
        obtain ⟨p2, FT⟩ := QT.out (lsN g i) hlim
        rw [← X.out.s] at FeS
        rw [← X.out.u] at FT
        have hev := evS_len false (lsN g i)
        rw [lsN_len] at hev
        obtain ⟨ES, hES⟩ : ∃ ES, ES = evS false (lsN g i) := ⟨_, rfl⟩
        rw [← hES] at FeS FT hev
        clear hES hlim
        have e0 : fed false [] = Hr.new false := rfl
        have eF1 : fed false ([] ++ [toL S]) = Hr.mk false [] false true 0 p1 0 := by rw [fed_snoc, e0, FeS]
        have eF2 : fed false ([] ++ [toL U]) = Hr.mk false [] false true 0 p2 0 := by rw [fed_snoc, e0, FT]
        have FA : Hid (∀ wz Y, R2 T PR w wz (.pointer (some pa)) false [] (.pointer (some pb)) false [] Y → _) := fun wz Y h => r2_feed f h S (by show 0 + S.size < 1000000; omega)
        have FB : Hid (∀ wz Y ts, R2 T PR w wz (.pointer (some pb)) false [] (.pointer (some pa)) false ts Y → _) := fun wz Y ts h => r2_feed f h U (by show 0 + U.size < 1000000; omega)
        rw [e0, FeS] at FA
        rw [e0, FT] at FB
        simp only at FA FB
        have FN1 : Hid (∀ wz Y ts, R2 T PR w wz (.pointer (some pa)) false ([] ++ [toL S]) (.pointer (some pb)) false ts Y → _) := fun wz Y ts h => r2_fin f h
        have FN2 : Hid (∀ wz Y ts, R2 T PR w wz (.pointer (some pb)) false ([] ++ [toL U]) (.pointer (some pa)) false ts Y → _) := fun wz Y ts h => r2_fin f h
        rw [eF1] at FN1
        rw [eF2] at FN2
        have g1 : (Hr.mk false [] false true 0 p1 0).fin = 0 := rfl
        have g2 : (Hr.mk false [] false true 0 p2 0).fin = 0 := rfl
        rw [g1] at FN1
        rw [g2] at FN2
        have A0 := Lib.hid (FA.out wr _ X.out.r)
        clear QS QT T0 FeS FT eF1 eF2 e0 g1 g2 X FA
        go_wp2_with fail
        refine A0.out.mono ?_
        rintro e w4 ⟨ex, rfl, r4, v4, -, -⟩
        have B4 := Lib.hid (FB.out w4 _ _ r4.swap)
        replace v4 := Lib.hid v4
        clear r4 A0 FB
        go_wp2_with fail
        refine B4.out.mono ?_
        rintro e w5 ⟨ey, rfl, r5, v5, s5, -⟩
        have x5 := v4.out.of fun k hk => s5 k (.inr hk)
        have M5 := Lib.hid (FN1.out w5 _ _ r5.swap)
        obtain ⟨ax, cx, hex⟩ := x5.slice
        obtain ⟨ay, cy, hey⟩ := v5.slice
        subst hex hey
        replace x5 := Lib.hid x5
        replace v5 := Lib.hid v5
        clear r5 s5 B4 FN1 v4
        go_wp2_with fail
        refine M5.out.mono ?_
        rintro e w6 ⟨rfl, r6, s6⟩
        have x6 := Lib.hid (x5.out.of fun k hk => s6 k (.inl (.inr hk)))
        have y6 := Lib.hid (v5.out.of fun k hk => s6 k (.inr hk))
        have M6 := Lib.hid (FN2.out w6 _ _ r6.swap)
        clear r6 s6 x5 v5 M5 FN2
        go_wp2_with fail
        refine M6.out.mono ?_
        rintro e w7 ⟨rfl, r7, s7⟩
        have x7 := Lib.hid (x6.out.of fun k hk => s7 k (.inl (.inr hk)))
        have y7 := Lib.hid (y6.out.of fun k hk => s7 k (.inr hk))
        have ZZ := Lib.hid r7.below
        clear r7 s7 x6 y6 M6
        have hN1 := hev.1
        have hN2 := hev.2
        clear hev
        obtain ⟨N, hN⟩ : ∃ N, N = ES.length := ⟨_, rfl⟩
        have HX : Hid (∀ j, j < N → ∃ gx ox gy oy, ax = some ⟨gx, ox, none⟩ ∧ ay = some ⟨gy, oy, none⟩ ∧ w7.cell? ⟨gx, ox + 2 * j, none⟩ = some (.int .i64 ((ES.getD j (0, [])).1 : Int)) ∧ w7.cell? ⟨gx, ox + 2 * j + 1, none⟩ = some (.string (strL (ES.getD j (0, [])).2)) ∧ w7.cell? ⟨gy, oy + 2 * j, none⟩ = some (.int .i64 ((ES.getD j (0, [])).1 : Int)) ∧ w7.cell? ⟨gy, oy + 2 * j + 1, none⟩ = some (.string (strL (ES.getD j (0, [])).2))) := fun j hj => by
          obtain ⟨a1, c1, e1, h1⟩ := x7.out
          obtain ⟨a2, c2, e2, h2⟩ := y7.out
          injection e1 with e1 _ _
          injection e2 with e2 _ _
          subst e1 e2
          rcases h1 with h1 | ⟨gx, ox, rfl, h1⟩
          · rw [h1] at hN
            rw [hN] at hj
            exact absurd hj (Nat.not_lt_zero _)
          · rcases h2 with h2 | ⟨gy, oy, rfl, h2⟩
            · rw [h2] at hN
              rw [hN] at hj
              exact absurd hj (Nat.not_lt_zero _)
            · have hj' : j < ES.length := by omega
              exact ⟨gx, ox, gy, oy, rfl, rfl, (h1 j hj').1, (h1 j hj').2, (h2 j hj').1, (h2 j hj').2⟩
        rw [← hN] at hN1 hN2 ⊢
        clear x7 y7
        replace hN := Lib.hid hN
        go_wp2_with fail
        go_loopg [18] N (fun g2 iv wx => ∃ j : Nat, j + g2 = N ∧ iv = .int .i64 (j : Int) ∧ Hid (w7.drew.heap = wx.heap ∨ w7.heap = wx.heap) ∧ Hid (Below w.heap.size w wx))
        case atStart => exact ⟨0, by omega, rfl, .inr rfl, ZZ⟩
        case round =>
          obtain ⟨j, hj, rfl, hw, zz⟩ := hrel
          by_cases hjn : j < N
          · obtain ⟨gx, ox, gy, oy, rfl, rfl, d0, d1, d2, d3⟩ := HX.out j hjn
            have hh : wr.heap = w7.heap := by
              rcases hw.out with q | q
              · exact q.symm
              · exact q.symm
            have tr : ∀ (a : Addr) (v : Value), w7.cell? a = some v → wr.cell? a = some v := fun a v hv => by
              unfold World.cell? at hv ⊢
              rw [hh]
              exact hv
            replace d0 := tr _ _ d0
            replace d1 := tr _ _ d1
            replace d2 := tr _ _ d2
            replace d3 := tr _ _ d3
            have ix := fun w' => at_ev gx ox N cx j w' hjn (j : Int) rfl (ox + 2 * j) rfl
            have iy := fun w' => at_ev gy oy N cy j w' hjn (j : Int) rfl (oy + 2 * j) rfl
            have NW : Hid ((w7.drew.heap = wr.drew.heap ∨ w7.heap = wr.drew.heap) ∧ Below w.heap.size w wr.drew) := ⟨.inr hh.symm, zz.out.trans (drewB _ _)⟩
            generalize (ES.getD j (0, [])).1 = kk at *
            generalize strL (ES.getD j (0, [])).2 = DD at *
            clear HX hw tr ZZ zz
            go_wp2_with fail
            go_region
            all_goals
              go_wp2_with fail
              go_roundg (N - (j + 1))
              case measure => omega
              case rel => exact ⟨j + 1, by omega, by simp, NW.out.1, NW.out.2⟩
          · clear HX hw
            go_wp2_with fail
            go_ret
            exact ⟨rfl, zz.out⟩
set_option maxHeartbeats 32000000 in
theorem strange_ctl (f : H3Face T PR) (a : Option Addr) (n cap : Nat) (g : Nat → ByteArray) (z : Int) (w : World) (t : T w) (hS : ∀ i, i < n → ∃ b off, a = some ⟨b, off, none⟩ ∧ w.cell? ⟨b, off + i, none⟩ = some (.string (g i))) :
    Calls Tryd.prog 7 #[.bool true, .slice a n cap, .int .i64 z] w fun e w' => e = .returned (.bool true) ∧ Below w.heap.size w w' := by
  have WO : Hid (∀ _ : Unit, _) := fun _ => works15_ok f w t
  obtain ⟨x, hx1, hx2, hx3⟩ := place15 z 100000 (by decide) (by decide)
  obtain ⟨k, hk⟩ : ∃ k : Nat, k = 33 + x := ⟨_, rfl⟩
  have hk2 : (33 : Int) + (x : Int) = (k : Int) := by omega
  have lk : Lim k := by unfold Lim; omega
  have nk : k ≠ 0 ∧ k ≠ 1 ∧ k ≠ 4 ∧ k ≠ 7 := by omega
  have FR : ∀ (j : Nat) (w' : World) (d : ByteArray), Lim j → T w' → d.size ≤ 5000 → Calls Tryd.prog 17 #[.int .i64 (j : Int), .string d] w' fun e w'' => e = .returned (.string (strL (frm j (toL d)))) ∧ Below w'.heap.size w' w'' := fun j w' d lj t' hz => by
    have := f.frame (j : Int) d w' t' (by omega)
    rw [frI_nat j lj] at this
    exact this
  have FK : Hid (∀ (w' : World) (d : ByteArray), T w' → d.size ≤ 5000 → _) := fun w' d t' hz => FR k w' d lk t' hz
  have F0 : Hid (∀ (w' : World) (d : ByteArray), T w' → d.size ≤ 5000 → _) := fun w' d t' hz => FR 0 w' d (by unfold Lim; decide) t' hz
  have F1 : Hid (∀ (w' : World), T w' → _) := fun w' t' => FR 1 w' ⟨#[104]⟩ (by unfold Lim; decide) t' (by decide)
  have F4 : Hid (∀ (w' : World), T w' → _) := fun w' t' => FR 4 w' ⟨#[6, 1]⟩ (by unfold Lim; decide) t' (by decide)
  have F7 : Hid (∀ (w' : World), T w' → _) := fun w' t' => FR 7 w' ⟨#[0]⟩ (by unfold Lim; decide) t' (by decide)
  have QS := Lib.hid (fun ls hl => strange_s true ls hl)
  have QT := Lib.hid (fun ls hl => strange_t true lk nk ls hl)
  have X0 : Hid (∀ wr va vb (A : ByteArray), R2 T PR w wr va true [] vb true [] (fun _ => False) → A = strL (frs true) → StI T PR w wr true k g va vb 0 A A) := fun wr va vb A r hA => by
    subst hA
    have := frs_len15 true
    refine ⟨?_, ?_, by rw [strL_size]; omega, by rw [strL_size]; omega, fun j hj => absurd hj (Nat.not_lt_zero _), r⟩
    · rw [toL_strL]
      show frs true = frs true ++ []
      rw [List.append_nil]
    · rw [toL_strL]
      show frs true = frs true ++ []
      rw [List.append_nil]
  have T0 := Lib.hid t
  have SS := Lib.hid hS
  have e4 : Hid ((⟨#[0]⟩ : ByteArray) ++ strL (frm 4 (toL ⟨#[6, 1]⟩)) = strL (frs true)) := by
    unfold Hid
    exact toL_inj rfl
  have z1 : (strL (frm 4 (toL ⟨#[6, 1]⟩))).size ≤ 19 := by
    rw [strL_size]
    exact Nat.le_trans (frm_len15 4 [6, 1]) (by decide)
  have ek : Hid ((frm k (toL ⟨#[]⟩)) = frm k []) := rfl
  replace lk := Lib.hid lk
  replace nk := Lib.hid nk
  replace hk := Lib.hid hk
  clear t hS FR
  go_enter Tryd.func7, Tryd.ntmps7
  go_wp2_with fail
  refine (WO.out ()).mono ?_
  rintro e w1 ⟨rfl, b1⟩
  have N1 := Lib.hid (r1_new f true w w1 b1 (f.keep T0.out b1))
  clear b1 WO
  go_wp2_with fail
  refine N1.out.mono ?_
  rintro e w2 ⟨pa, rfl, r2⟩
  clear hx1 hx2 hx3 hk2
  generalize (IntKind.u64.wrap z).tmod 100000 = Z1 at *
  have N2 := Lib.hid (r2_new f true true r2)
  clear r2 N1
  go_wp2_with fail
  refine N2.out.mono ?_
  rintro e w3 ⟨pb, rfl, r3⟩
  have C1 := Lib.hid (F1.out w3 r3.tab)
  replace r3 := Lib.hid r3
  clear N2 F1
  go_wp2_with fail
  refine C1.out.mono ?_
  rintro e w4 ⟨rfl, b4⟩
  have r4 := Lib.hid (r3.out.keep f b4)
  have C4 := Lib.hid (F4.out w4 r4.out.tab)
  clear b4 r3 C1 F4
  generalize strL (frm 1 (toL ⟨#[104]⟩)) = A1 at *
  go_wp2_with fail
  refine C4.out.mono ?_
  rintro e w5 ⟨rfl, b5⟩
  have XX := Lib.hid (X0.out w5 _ _ _ (r4.out.keep f b5) e4.out)
  clear b5 r4 C4 X0 e4
  generalize strL (frm 4 (toL ⟨#[6, 1]⟩)) = A4 at *
  go_wp2_with fail
  go_loopg [10, 11, 12] 12 (fun gg sv uv iv wr => ∃ (i : Nat) (S U : ByteArray), i + gg = 12 ∧ sv = .string S ∧ uv = .string U ∧ iv = .int .i64 (i : Int) ∧ Hid (StI T PR w wr true k g (.pointer (some pa)) (.pointer (some pb)) i S U))
  case atStart => exact ⟨0, _, _, by omega, rfl, rfl, rfl, XX⟩
  case round =>
    obtain ⟨i, S, U, hi, rfl, rfl, rfl, X⟩ := hrel
    clear XX
    have zS : S.size ≤ 30000 := by have := X.out.z; omega
    have zU : U.size ≤ 30000 := by have := X.out.zu; omega
    by_cases h2 : i < n ∧ i < 12
    · have hin := h2.1
      have hi12 := h2.2
      obtain ⟨b, off, rfl, ci⟩ := SS.out i h2.1
      have hbw := World.block_lt_of_cell? w _ ci
      have ci' := (X.out.r.below.cell hbw).trans ci
      have KC : Hid (∀ w', Below wr.heap.size wr w' → w'.cell? ⟨b, off + i, none⟩ = some (.string (g i))) := fun w' b' => (b'.cell (World.block_lt_of_cell? wr _ ci')).trans ci'
      have ia := fun w' => at_strs15 b off n cap i w' h2.1
      by_cases h3 : (g i).size ≤ 500
      · have q3 : decide ((500 : Int) < ((g i).size : Int)) = false := decide_eq_false (by omega)
        have NX : Hid (∀ w' (A K E : ByteArray), Below wr.heap.size wr w' → A = strL (oneB true (toL (g i))) → K = strL (frm k (toL (g i))) → E = strL (frm k []) → StI T PR w w' true k g (.pointer (some pa)) (.pointer (some pb)) (i + 1) (S ++ A) (U ++ K ++ A ++ E)) := fun w' A K E b' hA hK hE => X.out.next f h3 b' hA hK hE
        have C0 := Lib.hid (F0.out wr (g i) X.out.r.tab (by omega))
        have TT : Hid (∀ w', Below wr.heap.size wr w' → T w') := fun w' b' => f.keep X.out.r.tab b'
        have zA : (strL (frm 0 (toL (g i)))).size ≤ 516 := by
          have f0 := frm_len15 0 (toL (g i))
          rw [toL_len] at f0
          rw [strL_size]
          omega
        have zK : (strL (frm k (toL (g i)))).size ≤ 516 := by
          have f0 := frm_len15 k (toL (g i))
          rw [toL_len] at f0
          rw [strL_size]
          omega
        have zE : (strL (frm k (toL ⟨#[]⟩))).size ≤ 16 := by
          rw [strL_size]
          exact frm_len15 k []
        have hz5 : (g i).size ≤ 5000 := by omega
        clear X SS QS QT T0 F0 h2 ci hbw
        go_wp2_with fail
        refine C0.out.mono ?_
        rintro e w6 ⟨rfl, b6⟩
        have B6 := Lib.hid b6
        clear b6 C0
        have C7 := Lib.hid (F7.out w6 (TT.out _ B6.out))
        have z7 : (strL (frm 7 (toL ⟨#[0]⟩))).size ≤ 17 := by
          rw [strL_size]
          exact frm_len15 7 [0]
        go_wp2_with fail
        refine C7.out.mono ?_
        rintro e w7 ⟨rfl, b7⟩
        have B7 := Lib.hid (B6.out.trans (b7.mono B6.out.size))
        clear b7 C7 B6
        obtain ⟨A, hA⟩ : ∃ A, A = strL (frm 7 (toL ⟨#[0]⟩)) := ⟨_, rfl⟩
        rw [← hA] at z7 ⊢
        have HA : Hid (A = strL (oneB true (toL (g i)))) := hA
        clear hA
        have zA' : A.size ≤ 516 := by omega
        generalize strL (frm 0 (toL (g i))) = A0 at *
        have cc := KC.out _ B7.out
        have CK := Lib.hid (FK.out w7 (g i) (TT.out _ B7.out) hz5)
        obtain ⟨K, hK⟩ : ∃ K, K = strL (frm k (toL (g i))) := ⟨_, rfl⟩
        obtain ⟨E, hE⟩ : ∃ E, E = strL (frm k (toL ⟨#[]⟩)) := ⟨_, rfl⟩
        rw [← hK] at zK CK
        rw [← hE] at zE
        replace hK := Lib.hid hK
        replace hE := Lib.hid hE
        have m1 : ¬ (9223372036854775807 < S.size + A.size) := by omega
        have m2 : ¬ (9223372036854775807 < U.size + K.size) := by omega
        have m3 : ¬ (9223372036854775807 < U.size + K.size + A.size) := by omega
        have m4 : ¬ (9223372036854775807 < U.size + K.size + A.size + E.size) := by omega
        generalize hD : g i = D at *
        replace hD := Lib.hid hD
        go_wp2_with fail
        refine CK.out.mono ?_
        rintro e w8 ⟨rfl, b8⟩
        have B8 := Lib.hid (B7.out.trans (b8.mono B7.out.size))
        have CE := Lib.hid (FK.out w8 ⟨#[]⟩ (TT.out _ B8.out) (by decide))
        rw [← hE.out] at CE
        clear b8 B7 CK
        go_wp2_with fail
        refine CE.out.mono ?_
        rintro e w9 ⟨rfl, b9⟩
        have N2 := Lib.hid (NX.out w9 A K E (B8.out.trans (b9.mono B8.out.size)) HA.out hK.out hE.out)
        clear b9 B8 CE NX KC FK TT
        go_wp2_with fail
        go_roundg (12 - (i + 1))
        case measure => omega
        case rel => exact ⟨i + 1, _, _, by omega, rfl, rfl, by simp, N2⟩
      · have q3 : decide ((500 : Int) < ((g i).size : Int)) = true := decide_eq_true (by omega)
        have ZZ := Lib.hid X.out.r.below
        clear X SS QS QT F0 FK KC
        go_wp2_with fail
        go_ret
        exact ⟨rfl, ZZ.out⟩
    · have NO : Hid (¬ i < n ∨ (i < n ∧ ¬ i < 12)) := by
        unfold Hid
        omega
      clear h2 SS F0 FK
      go_upto_region 10 with fail
      go_cut [43] (fun s wc => s = .bool false ∧ wr = wc)
      case first =>
        rcases NO.out with y1 | ⟨y1, y2⟩
        · go_wp2_with fail
          go_meet
          exact ⟨rfl, rfl⟩
        · go_wp2_with fail
          go_meet
          exact ⟨by rw [decide_eq_false (by omega)], rfl⟩
      case rest =>
        obtain ⟨rfl, rfl⟩ := hcut
        clear NO
        have hlim : ∀ d ∈ lsN g i, Lim d.length := fun d hd => by
          have := lsN_bd X.out.le d hd
          unfold Lim
          omega
        obtain ⟨p1, FeS⟩ := QS.out (lsN g i) hlim
        obtain ⟨p2, FT⟩ := QT.out (lsN g i) hlim
        rw [← X.out.s] at FeS
        rw [← X.out.u] at FT
        have hev := evS_len true (lsN g i)
        rw [lsN_len] at hev
        obtain ⟨ES, hES⟩ : ∃ ES, ES = evS true (lsN g i) := ⟨_, rfl⟩
        rw [← hES] at FeS FT hev
        clear hES hlim
        have e0 : fed true [] = Hr.new true := rfl
        have eF1 : fed true ([] ++ [toL S]) = Hr.mk true [] true true 0 p1 0 := by rw [fed_snoc, e0, FeS]
        have eF2 : fed true ([] ++ [toL U]) = Hr.mk true [] true true 0 p2 0 := by rw [fed_snoc, e0, FT]
        have FA : Hid (∀ wz Y, R2 T PR w wz (.pointer (some pa)) true [] (.pointer (some pb)) true [] Y → _) := fun wz Y h => r2_feed f h S (by show 0 + S.size < 1000000; omega)
        have FB : Hid (∀ wz Y ts, R2 T PR w wz (.pointer (some pb)) true [] (.pointer (some pa)) true ts Y → _) := fun wz Y ts h => r2_feed f h U (by show 0 + U.size < 1000000; omega)
        rw [e0, FeS] at FA
        rw [e0, FT] at FB
        simp only at FA FB
        have FN1 : Hid (∀ wz Y ts, R2 T PR w wz (.pointer (some pa)) true ([] ++ [toL S]) (.pointer (some pb)) true ts Y → _) := fun wz Y ts h => r2_fin f h
        have FN2 : Hid (∀ wz Y ts, R2 T PR w wz (.pointer (some pb)) true ([] ++ [toL U]) (.pointer (some pa)) true ts Y → _) := fun wz Y ts h => r2_fin f h
        rw [eF1] at FN1
        rw [eF2] at FN2
        have g1 : (Hr.mk true [] true true 0 p1 0).fin = 0 := rfl
        have g2 : (Hr.mk true [] true true 0 p2 0).fin = 0 := rfl
        rw [g1] at FN1
        rw [g2] at FN2
        have A0 := Lib.hid (FA.out wr _ X.out.r)
        clear QS QT T0 FeS FT eF1 eF2 e0 g1 g2 X FA
        go_wp2_with fail
        refine A0.out.mono ?_
        rintro e w4 ⟨ex, rfl, r4, v4, -, -⟩
        have B4 := Lib.hid (FB.out w4 _ _ r4.swap)
        replace v4 := Lib.hid v4
        clear r4 A0 FB
        go_wp2_with fail
        refine B4.out.mono ?_
        rintro e w5 ⟨ey, rfl, r5, v5, s5, -⟩
        have x5 := v4.out.of fun k hk => s5 k (.inr hk)
        have M5 := Lib.hid (FN1.out w5 _ _ r5.swap)
        obtain ⟨ax, cx, hex⟩ := x5.slice
        obtain ⟨ay, cy, hey⟩ := v5.slice
        subst hex hey
        replace x5 := Lib.hid x5
        replace v5 := Lib.hid v5
        clear r5 s5 B4 FN1 v4
        go_wp2_with fail
        refine M5.out.mono ?_
        rintro e w6 ⟨rfl, r6, s6⟩
        have x6 := Lib.hid (x5.out.of fun k hk => s6 k (.inl (.inr hk)))
        have y6 := Lib.hid (v5.out.of fun k hk => s6 k (.inr hk))
        have M6 := Lib.hid (FN2.out w6 _ _ r6.swap)
        clear r6 s6 x5 v5 M5 FN2
        go_wp2_with fail
        refine M6.out.mono ?_
        rintro e w7 ⟨rfl, r7, s7⟩
        have x7 := Lib.hid (x6.out.of fun k hk => s7 k (.inl (.inr hk)))
        have y7 := Lib.hid (y6.out.of fun k hk => s7 k (.inr hk))
        have ZZ := Lib.hid r7.below
        clear r7 s7 x6 y6 M6
        have hN1 := hev.1
        have hN2 := hev.2
        clear hev
        obtain ⟨N, hN⟩ : ∃ N, N = ES.length := ⟨_, rfl⟩
        have HX : Hid (∀ j, j < N → ∃ gx ox gy oy, ax = some ⟨gx, ox, none⟩ ∧ ay = some ⟨gy, oy, none⟩ ∧ w7.cell? ⟨gx, ox + 2 * j, none⟩ = some (.int .i64 ((ES.getD j (0, [])).1 : Int)) ∧ w7.cell? ⟨gx, ox + 2 * j + 1, none⟩ = some (.string (strL (ES.getD j (0, [])).2)) ∧ w7.cell? ⟨gy, oy + 2 * j, none⟩ = some (.int .i64 ((ES.getD j (0, [])).1 : Int)) ∧ w7.cell? ⟨gy, oy + 2 * j + 1, none⟩ = some (.string (strL (ES.getD j (0, [])).2))) := fun j hj => by
          obtain ⟨a1, c1, e1, h1⟩ := x7.out
          obtain ⟨a2, c2, e2, h2⟩ := y7.out
          injection e1 with e1 _ _
          injection e2 with e2 _ _
          subst e1 e2
          rcases h1 with h1 | ⟨gx, ox, rfl, h1⟩
          · rw [h1] at hN
            rw [hN] at hj
            exact absurd hj (Nat.not_lt_zero _)
          · rcases h2 with h2 | ⟨gy, oy, rfl, h2⟩
            · rw [h2] at hN
              rw [hN] at hj
              exact absurd hj (Nat.not_lt_zero _)
            · have hj' : j < ES.length := by omega
              exact ⟨gx, ox, gy, oy, rfl, rfl, (h1 j hj').1, (h1 j hj').2, (h2 j hj').1, (h2 j hj').2⟩
        rw [← hN] at hN1 hN2 ⊢
        clear x7 y7
        replace hN := Lib.hid hN
        go_wp2_with fail
        go_loopg [18] N (fun g2 iv wx => ∃ j : Nat, j + g2 = N ∧ iv = .int .i64 (j : Int) ∧ Hid (w7.drew.heap = wx.heap ∨ w7.heap = wx.heap) ∧ Hid (Below w.heap.size w wx))
        case atStart => exact ⟨0, by omega, rfl, .inr rfl, ZZ⟩
        case round =>
          obtain ⟨j, hj, rfl, hw, zz⟩ := hrel
          by_cases hjn : j < N
          · obtain ⟨gx, ox, gy, oy, rfl, rfl, d0, d1, d2, d3⟩ := HX.out j hjn
            have hh : wr.heap = w7.heap := by
              rcases hw.out with q | q
              · exact q.symm
              · exact q.symm
            have tr : ∀ (a : Addr) (v : Value), w7.cell? a = some v → wr.cell? a = some v := fun a v hv => by
              unfold World.cell? at hv ⊢
              rw [hh]
              exact hv
            replace d0 := tr _ _ d0
            replace d1 := tr _ _ d1
            replace d2 := tr _ _ d2
            replace d3 := tr _ _ d3
            have ix := fun w' => at_ev gx ox N cx j w' hjn (j : Int) rfl (ox + 2 * j) rfl
            have iy := fun w' => at_ev gy oy N cy j w' hjn (j : Int) rfl (oy + 2 * j) rfl
            have NW : Hid ((w7.drew.heap = wr.drew.heap ∨ w7.heap = wr.drew.heap) ∧ Below w.heap.size w wr.drew) := ⟨.inr hh.symm, zz.out.trans (drewB _ _)⟩
            generalize (ES.getD j (0, [])).1 = kk at *
            generalize strL (ES.getD j (0, [])).2 = DD at *
            clear HX hw tr ZZ zz
            go_wp2_with fail
            go_region
            all_goals
              go_wp2_with fail
              go_roundg (N - (j + 1))
              case measure => omega
              case rel => exact ⟨j + 1, by omega, by simp, NW.out.1, NW.out.2⟩
          · clear HX hw
            go_wp2_with fail
            go_ret
            exact ⟨rfl, zz.out⟩
theorem strange15_ok (f : H3Face T PR) (c : Bool) (a : Option Addr) (n cap : Nat) (g : Nat → ByteArray) (z : Int) (w : World) (t : T w) (hS : ∀ i, i < n → ∃ b off, a = some ⟨b, off, none⟩ ∧ w.cell? ⟨b, off + i, none⟩ = some (.string (g i))) :
    Calls Tryd.prog 7 #[.bool c, .slice a n cap, .int .i64 z] w fun e w' => e = .returned (.bool true) ∧ Below w.heap.size w w' := by
  cases c
  · exact strange_req f a n cap g z w t hS
  · exact strange_ctl f a n cap g z w t hS
end
end Go.Proofs.YtnngdlleicjegaaDoor
