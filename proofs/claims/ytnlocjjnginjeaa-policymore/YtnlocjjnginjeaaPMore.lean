/-
  The law PolicyMore returns true for every rules, every rule and every packet: a rule that allows more, behind all others, lets everything go that went; one that denies more lets nothing more go. No condition.
-/
import Derived.Test.YtnlocjjnginjeaaPoFace
import Derived.Test.YtnlocjjnginjeaaObDraw
import Derived.Test.YtnlocjjnginjeaaPoOpen
import Derived.LaidLaws
namespace Go.Proofs.Ytnlocjjnginjeaa.policyMore
set_option maxRecDepth 100000
open Go.ChangeShapes Go.WideShapes Go.ChangeAt Go.RowKit
open Go.ChangeMaps (open_string shut_string)

theorem sayL_app : ∀ (l m : List Ru) (p a q : Int), sayL (l ++ m) p a q = if l.any (fun r => fit r p a q) then sayL l p a q else sayL m p a q
  | [], m, p, a, q => by simp
  | r :: l, m, p, a, q => by
    rw [List.cons_append, sayL, sayL, sayL_app l m, List.any_cons]
    cases fit r p a q <;> simp
theorem sayL_none : ∀ {l : List Ru} {p a q : Int}, (l.any fun r => fit r p a q) = false → sayL l p a q = false
  | [], _, _, _, _ => rfl
  | r :: l, p, a, q, h => by
    rw [List.any_cons, Bool.or_eq_false_iff] at h
    rw [sayL, h.1]
    simpa using sayL_none h.2
theorem ruK_app {l m : List Ru} (h : ruK l = 0) (h' : ruK m = 0) (hl : l.length + m.length ≤ 32) : ruK (l ++ m) = 0 := by
  obtain ⟨_, h1⟩ := ruK_right.1 h
  obtain ⟨_, h2⟩ := ruK_right.1 h'
  refine ruK_right.2 ⟨by rw [List.length_append]; exact hl, fun r hr => ?_⟩
  rcases List.mem_append.1 hr with q | q
  · exact h1 r q
  · exact h2 r q
theorem alw_right {l : List Ru} (h : ruK l = 0) (p a q : Int) : alw l p a q = sayL l p a q := by unfold alw; rw [h]; rfl
theorem more_plain {l : List Ru} {x : Ru} (h : ruK l = 0) (h' : ruK [x] = 0) (hl : l.length ≤ 31) (p a q : Int) : alw l p a q = alw (l ++ [x]) p a q ∨ (alw l p a q = false ∧ alw (l ++ [x]) p a q = true ∧ x.al = true) := by
  rw [alw_right (ruK_app h h' (by simpa using hl)), alw_right h, sayL_app]
  cases hA : l.any fun r => fit r p a q with
  | true => exact .inl (by simp)
  | false =>
    rw [sayL_none hA]
    simp only [Bool.false_eq_true, if_false]
    cases hx : sayL [x] p a q with
    | false => exact .inl (by simp)
    | true =>
      refine .inr ⟨by simp, by simp, ?_⟩
      rw [sayL, sayL] at hx
      split at hx
      · exact hx
      · cases hx
/-- A call of a slot. -/
theorem obCall1g (f : FuncId) (o : Oper) {k1 d : Nat} {tys : Array TypeId} {x1 : Value} {R : Ending → World → Prop} (ho : o.op = .call { callee := .value (.func f), args := #[.tmp k1], argTypes := tys }) (hd : o.dst = some d) (a : Act) (w : World) (K : Act → World → Prop) (Q : Exit → Act → World → Prop)
    (hcf : ∀ w, (callFunc f #[x1]).run Try.prog w = .ok (.enter f #[x1]) w) (h1 : a.eval (.tmp k1) = x1) (C : Calls Try.prog f #[x1] w R) (hK : ∀ e w', R e w' → ∃ v, e = .returned v ∧ K (a.put (some d) v) w') : o.wp Try.prog a w K Q := by
  unfold Oper.wp
  have hr : (execOp a.eval o).run Try.prog w = .ok (.enter f #[x1]) w := by
    unfold execOp
    rw [ho]
    simp only [go_sem] at h1 ⊢
    simp [go_sem, h1, hcf]
  rw [hr]
  exact C.mono fun e w' h => by
    obtain ⟨v, rfl, hk⟩ := hK e w' h
    rw [hd]
    exact hk
/-- A call of four slots. -/
theorem obCall4 (f : FuncId) (o : Oper) {k1 k2 k3 k4 d : Nat} {tys : Array TypeId} {x1 x2 x3 x4 : Value} {R : Ending → World → Prop} (ho : o.op = .call { callee := .value (.func f), args := #[.tmp k1, .tmp k2, .tmp k3, .tmp k4], argTypes := tys }) (hd : o.dst = some d) (a : Act) (w : World) (K : Act → World → Prop) (Q : Exit → Act → World → Prop)
    (hcf : ∀ w, (callFunc f #[x1, x2, x3, x4]).run Try.prog w = .ok (.enter f #[x1, x2, x3, x4]) w) (h1 : a.eval (.tmp k1) = x1) (h2 : a.eval (.tmp k2) = x2) (h3 : a.eval (.tmp k3) = x3) (h4 : a.eval (.tmp k4) = x4) (C : Calls Try.prog f #[x1, x2, x3, x4] w R) (hK : ∀ e w', R e w' → ∃ v, e = .returned v ∧ K (a.put (some d) v) w') : o.wp Try.prog a w K Q := by
  unfold Oper.wp
  have hr : (execOp a.eval o).run Try.prog w = .ok (.enter f #[x1, x2, x3, x4]) w := by
    unfold execOp
    rw [ho]
    simp only [go_sem] at h1 h2 h3 h4 ⊢
    simp [go_sem, h1, h2, h3, h4, hcf]
  rw [hr]
  exact C.mono fun e w' h => by
    obtain ⟨v, rfl, hk⟩ := hK e w' h
    rw [hd]
    exact hk
set_option maxHeartbeats 16000000 in
theorem walk (v : Value) (l : List Ru) (x : Ru) (p a q : Int) (w : World) (h : RusAt w v l) (hz : l.length * 48 ≤ 140737488351232) (HB : ∀ r ∈ l, RuB r) (hx : RuB x) (b0 : 0 ≤ a) (b1 : a < 4294967296) :
    Calls Try.prog 7 #[v, ruV x, .int .i64 p, .int .u32 a, .int .i64 q] w fun e w' => e = .returned (.bool true) ∧ Below w.heap.size w w' := by
  have hl : l.length ≤ 9223372036854775807 := by omega
  obtain ⟨wx, hwx⟩ : ∃ wx, wx = w.alloc (ruO x) := ⟨_, rfl⟩
  obtain ⟨X, hX⟩ : ∃ X, X = w.heap.size := ⟨_, rfl⟩
  have bx : Below w.heap.size w wx := by rw [hwx]; exact (Below.refl _ _).alloc (Nat.le_refl _) _
  have rb : RBox wx X x := by rw [hwx, hX]; exact RBox.new w x
  have XC : Hid (∀ w', Below wx.heap.size wx w' → RBox w' X x) := fun w' b => rb.keep rb.lt b
  have WK := Lib.hid fun w' => works18_ok w'
  have O := Lib.hid fun w' (b : Below wx.heap.size wx w') => own_ok l v w' ((h.keep bx).keep b) (by omega)
  have P1 := Lib.hid fun v' w' (h1 : RusAt w' v' l) => pchk18_ok l v' w' h1 HB hl
  have P2 := Lib.hid fun v' w' (h1 : RusAt w' v' [x]) => pchk18_ok [x] v' w' h1 (fun r hr => by rw [List.mem_singleton.1 hr]; exact hx) (by simp)
  have A1 := Lib.hid fun v' w' (h1 : RusAt w' v' l) => allow_ok l v' p a q b0 b1 w' h1 HB hl
  have A3 := Lib.hid fun (hn : l.length ≤ 31) v' w' (h1 : RusAt w' v' (l ++ [x])) => allow_ok (l ++ [x]) v' p a q b0 b1 w' h1 (fun r hr => (List.mem_append.1 hr).elim (HB r) fun e => by rw [List.mem_singleton.1 e]; exact hx) (by rw [List.length_append]; simp; omega)
  have MP : Hid (ruK l = 0 → ruK [x] = 0 → l.length ≤ 31 → alw l p a q = alw (l ++ [x]) p a q ∨ (alw l p a q = false ∧ alw (l ++ [x]) p a q = true ∧ x.al = true)) := fun k1 k2 k3 => more_plain k1 k2 k3 p a q
  have R1 : Hid (∀ w1 : World, RusAt (w1.alloc (ruO x)) (.slice (some ⟨w1.heap.size, 0, none⟩) 1 1) [x]) := fun w1 => row_one (K := KR) w1 x 40
  have CL : Hid (∀ base w2 v1 u, OwnK KR w2 base v1 l → base ≤ w2.heap.size → RusAt w2 u [x] → l.length ≤ 31 → ∃ v3 w3, (∀ z, (builtin .append #[22, 22] 22 z #[v1, u]).run Try.prog w2 = .ok (.value v3) w3) ∧ OwnK KR w3 base v3 (l ++ [x]) ∧ ∀ w1, Below base w1 w2 → Below base w1 w3) := fun base w2 v1 u h1 h2 h3 h4 => by
    obtain ⟨v3, w3, e, o3, g3, -, -⟩ := h1.cat kr_ok h2 h3 (by show (_ + 1) * 48 ≤ _; omega) (by show _ + 1 ≤ _; unfold maxLen; omega) 22
    refine ⟨v3, w3, e, o3, fun w1 b => ⟨g3.os.trans b.os, g3.tape.trans b.tape, g3.output.trans b.output, Nat.le_trans b.size g3.size, fun k hk => ?_⟩⟩
    exact (g3.block k (by have := b.size; omega) (by
      intro c
      have := (h1.lt k c.symm).1
      omega)).trans (b.block k hk)
  obtain ⟨ad, cap, hv, -, -⟩ := h
  obtain ⟨N1, hN1⟩ : ∃ N1, N1 = l.length := ⟨_, rfl⟩
  rw [← hN1] at hv hz A3 MP CL
  clear HB hl hN1 hx rb
  subst hv
  obtain ⟨K1, hK1⟩ : ∃ K1, K1 = ruK l := ⟨_, rfl⟩
  obtain ⟨K2, hK2⟩ : ∃ K2, K2 = ruK [x] := ⟨_, rfl⟩
  obtain ⟨YA, hYA⟩ : ∃ YA, YA = alw l p a q := ⟨_, rfl⟩
  obtain ⟨YB, hYB⟩ : ∃ YB, YB = alw (l ++ [x]) p a q := ⟨_, rfl⟩
  rw [← hK1] at P1 MP
  rw [← hK2] at P2 MP
  rw [← hYA] at A1 MP
  rw [← hYB] at A3 MP
  clear hK1 hK2 hYA hYB
  have Z := Lib.hid bx
  clear bx
  replace hwx : Hid (wx = w.alloc (.cells #[.bool x.al, .int .i64 x.pro, .int .u32 x.ad, .int .i64 x.bits, .int .i64 x.fr, .int .i64 x.up] 40)) := hwx
  replace hX := Lib.hid hX
  unfold ruV
  go_enter Try.func7, Try.ntmps7
  go_upto_region 1 with fail
  rw [← hwx.out, ← hX.out]
  clear hwx hX
  go_wp2_with fail
  refine (WK.out wx).mono ?_
  rintro e w0 ⟨rfl, B0⟩
  replace B0 := Lib.hid B0
  clear WK
  by_cases h1 : 31 < N1
  · have d1 : decide ((31 : Int) < (N1 : Int)) = true := decide_eq_true (by omega)
    have d1' : decide (31 < N1) = true := decide_eq_true h1
    have BZ := Lib.hid (Z.out.trans (B0.out.mono Z.out.size))
    go_wp2_with fail
    go_ret
    exact ⟨rfl, BZ.out⟩
  have d1 : decide ((31 : Int) < (N1 : Int)) = false := decide_eq_false (by omega)
  have d1' : decide (31 < N1) = false := decide_eq_false h1
  have hN : Hid (N1 ≤ 31) := by show _ ≤ _; omega
  clear h1 hz
  go_wp2_with fail
  refine (O.out w0 B0.out).mono ?_
  rintro e w1 ⟨v1, rfl, o1, n1, b1'⟩
  obtain ⟨x1, c1, rfl⟩ := o1.slice
  have B1 := Lib.hid (B0.out.trans (b1'.mono B0.out.size))
  replace o1 := Lib.hid o1.rus
  clear b1' n1 B0
  go_wp2_with fail
  refine (P1.out _ w1 o1.out).mono ?_
  rintro e w2 ⟨rfl, b2⟩
  have B2 := Lib.hid (B1.out.trans (b2.mono B1.out.size))
  clear b2 B1 o1 P1
  by_cases hk1 : K1 ≠ 0
  · have z1 : (K1 != 0) = true := by simpa using hk1
    have BZ := Lib.hid (Z.out.trans (B2.out.mono Z.out.size))
    go_wp2_with fail
    go_ret
    exact ⟨rfl, BZ.out⟩
  have hk1 : K1 = 0 := by omega
  have z1 : (K1 != 0) = false := by simp [hk1]
  replace hk1 := Lib.hid hk1
  obtain ⟨l1, k0, k1, k2, k3, k4, k5⟩ := XC.out w2 B2.out
  obtain ⟨w3, hw3⟩ : ∃ w3, w3 = w2.alloc (.cells #[.bool x.al, .int .i64 x.pro, .int .u32 x.ad, .int .i64 x.bits, .int .i64 x.fr, .int .i64 x.up] 40) := ⟨_, rfl⟩
  obtain ⟨G, hG⟩ : ∃ G, G = w2.heap.size := ⟨_, rfl⟩
  have r3 : Hid (RusAt w3 (.slice (some ⟨G, 0, none⟩) 1 1) [x]) := by rw [hw3, hG]; exact R1.out w2
  have B3 : Hid (Below wx.heap.size wx w3) := by rw [hw3]; exact B2.out.alloc B2.out.size _
  replace hw3 := Lib.hid hw3
  replace hG := Lib.hid hG
  obtain ⟨al, pro, xad, bits, fr, up⟩ := x
  simp only at *
  go_wp2_with fail
  rw [← hw3.out, ← hG.out]
  clear hw3 hG B2 k0 k1 k2 k3 k4 k5 l1
  refine (P2.out _ w3 r3.out).mono ?_
  rintro e w4 ⟨rfl, b4⟩
  have B4 := Lib.hid (B3.out.trans (b4.mono B3.out.size))
  clear b4 B3 r3 P2
  by_cases hk2 : K2 ≠ 0
  · have z2 : (K2 != 0) = true := by simpa using hk2
    have BZ := Lib.hid (Z.out.trans (B4.out.mono Z.out.size))
    go_wp2_with fail
    go_ret
    exact ⟨rfl, BZ.out⟩
  have hk2 : K2 = 0 := by omega
  have z2 : (K2 != 0) = false := by simp [hk2]
  have MP2 := Lib.hid (MP.out hk1.out hk2 hN.out)
  clear hk2 hk1 MP
  go_wp2_with fail
  refine (O.out w4 B4.out).mono ?_
  rintro e w5 ⟨v5, rfl, o5, n5, b5⟩
  obtain ⟨x5, c5, rfl⟩ := o5.slice
  have B5 := Lib.hid (B4.out.trans (b5.mono B4.out.size))
  replace o5 := Lib.hid o5.rus
  clear b5 n5 B4
  go_wp2_with fail
  refine (A1.out _ w5 o5.out).mono ?_
  rintro e w6 ⟨rfl, b6⟩
  have B6 := Lib.hid (B5.out.trans (b6.mono B5.out.size))
  clear b6 o5 B5 A1
  go_upto_region 6 with fail
  have hS : Below wx.heap.size wx w6.drew := B6.out.trans ⟨rfl, rfl, rfl, Nat.le_refl _, fun _ _ => rfl⟩
  have LD : Hid (∀ w', Below wx.heap.size wx w' → w'.cell? ⟨X, 0, none⟩ = some (.bool al) ∧ w'.cell? ⟨X, 1, none⟩ = some (.int .i64 pro) ∧ w'.cell? ⟨X, 2, none⟩ = some (.int .u32 xad) ∧ w'.cell? ⟨X, 3, none⟩ = some (.int .i64 bits) ∧ w'.cell? ⟨X, 4, none⟩ = some (.int .i64 fr) ∧ w'.cell? ⟨X, 5, none⟩ = some (.int .i64 up)) := fun w' b => by
    have r := XC.out w' b
    exact ⟨r.c0, r.c1, r.c2, r.c3, r.c4, r.c5⟩
  refine wp_region_held (S := fun w' => Below wx.heap.size wx w') (by kernel_rfl) ?_
  change wpAnyH _ .any _ _ _ 10 (Array.replicate 10 false) _ w6.drew
  generalize w6.drew = wd at *
  have hSd := hS
  refine obTakeH (i := 0) (d := 36) (v := .slice ad N1 cap) rfl rfl (by kernel_rfl) (by kernel_rfl) (by kernel_rfl) (fun _ _ _ h => h) rfl (fun w hS => by have hS' := LD.out w hS; obtain ⟨s0, s1, s2, s3, s4, s5⟩ := hS'; go_simp) hS ?_
  refine obTakeH (i := 2) (d := 38) (v := .agg #[.bool al, .int .i64 pro, .int .u32 xad, .int .i64 bits, .int .i64 fr, .int .i64 up]) rfl rfl (by kernel_rfl) (by kernel_rfl) (by kernel_rfl) (fun _ _ _ h => h) rfl (fun w hS => by have hS' := LD.out w hS; obtain ⟨s0, s1, s2, s3, s4, s5⟩ := hS'; go_simp) hS ?_
  refine obTakeH (i := 5) (d := 41) (v := .int .i64 p) rfl rfl (by kernel_rfl) (by kernel_rfl) (by kernel_rfl) (fun _ _ _ h => h) rfl (fun w hS => by have hS' := LD.out w hS; obtain ⟨s0, s1, s2, s3, s4, s5⟩ := hS'; go_simp) hS ?_
  refine obTakeH (i := 6) (d := 42) (v := .int .u32 a) rfl rfl (by kernel_rfl) (by kernel_rfl) (by kernel_rfl) (fun _ _ _ h => h) rfl (fun w hS => by have hS' := LD.out w hS; obtain ⟨s0, s1, s2, s3, s4, s5⟩ := hS'; go_simp) hS ?_
  refine obTakeH (i := 7) (d := 43) (v := .int .i64 q) rfl rfl (by kernel_rfl) (by kernel_rfl) (by kernel_rfl) (fun _ _ _ h => h) rfl (fun w hS => by have hS' := LD.out w hS; obtain ⟨s0, s1, s2, s3, s4, s5⟩ := hS'; go_simp) hS ?_
  try simp only [Act.put, List.setIfInBounds_toArray, List.set_cons_succ, List.set_cons_zero]
  refine wpAnyH_all (rs := [1, 3]) (by kernel_rfl) (by simp) (fun y hy => ?_)
  have hy2 : y = 1 ∨ y = 3 := by simpa using hy
  clear hy
  rcases hy2 with rfl | rfl
  · refine wpOp_step rfl (fun K' hK => ?_)
    refine obCall1g (k1 := 36) (d := 37) (x1 := .slice ad N1 cap) 9 _ rfl rfl _ _ _ _ (fun _ => rfl) rfl (O.out _ hS) (fun e w7 hR => ?_)
    obtain ⟨v7, rfl, o7, -, b7⟩ := hR
    have hS2 := hS.trans (b7.mono hS.size)
    refine ⟨_, rfl, hK _ _ ⟨hS2, ?_⟩⟩
    replace hS := hS2
    clear hK K' hS2
    try simp only [Act.put, List.setIfInBounds_toArray, List.set_cons_succ, List.set_cons_zero]
    refine wpAnyH_all (rs := [3]) (by kernel_rfl) (by simp) (fun y hy => ?_)
    obtain rfl : y = 3 := by simpa using hy
    clear hy
    refine wpOp_step rfl (fun K' hK => ?_)
    have rb := R1.out w7
    have hb := hS.alloc hS.size (.cells #[.bool al, .int .i64 pro, .int .u32 xad, .int .i64 bits, .int .i64 fr, .int .i64 up] 40)
    have bb : Below w7.heap.size w7 (w7.alloc (.cells #[.bool al, .int .i64 pro, .int .u32 xad, .int .i64 bits, .int .i64 fr, .int .i64 up] 40)) := (Below.refl _ _).alloc (Nat.le_refl _) _
    go_simp
    refine hK _ _ ⟨hb, ?_⟩
    clear hK K'
    replace o7 := o7.keep bb
    have hz7 := Nat.le_trans b7.size bb.size
    have hzb := b7.trans (bb.mono b7.size)
    replace hS := hb
    clear hb bb
    change RusAt (w7.alloc (.cells #[.bool al, .int .i64 pro, .int .u32 xad, .int .i64 bits, .int .i64 fr, .int .i64 up] 40)) _ _ at rb
    generalize w7.alloc (.cells #[.bool al, .int .i64 pro, .int .u32 xad, .int .i64 bits, .int .i64 fr, .int .i64 up] 40) = wb at *
    generalize w7.heap.size = GB at *
    try simp only [Act.put, List.setIfInBounds_toArray, List.set_cons_succ, List.set_cons_zero]
    have hbb : ∀ {y}, Below wd.heap.size wd y → Below wx.heap.size wx y := fun b => hSd.trans (b.mono hSd.size)
    obtain ⟨x7, c7, rfl⟩ := o7.slice
    obtain ⟨v8, w8, hap8, o8, b8⟩ := CL.out _ wb _ _ o7 hz7 rb hN.out
    have hS8 := Lib.hid (b8 wd hzb)
    obtain ⟨x8, c8, rfl⟩ := o8.slice
    refine wpAnyH_all (rs := [4]) (by kernel_rfl) (by simp) (fun y hy => ?_)
    obtain rfl : y = 4 := by simpa using hy
    clear hy
    refine wpOp_step rfl (fun K' hK => ?_)
    refine obB2 _ .append _ _ _ _ rfl _ _ rfl rfl hap8 ?_
    refine hK _ _ ⟨?_, ?_⟩
    · exact hbb hS8.out
    clear hK K'
    replace hS := hbb hS8.out
    try simp only [Act.put, List.setIfInBounds_toArray]
    refine wpAnyH_all (rs := [8]) (by kernel_rfl) (by simp) (fun y hy => ?_)
    obtain rfl : y = 8 := by simpa using hy
    clear hy
    refine wpOp_step rfl (fun K' hK => ?_)
    refine obCall4 (k1 := 40) (k2 := 41) (k3 := 42) (k4 := 43) (d := 44) (x1 := _) (x2 := .int .i64 p) (x3 := .int .u32 a) (x4 := .int .i64 q) 11 _ rfl rfl _ _ _ _ (fun _ => rfl) rfl rfl rfl rfl (A3.out hN.out _ _ o8.rus) (fun e w9 hR => ?_)
    obtain ⟨rfl, b9⟩ := hR
    have hS9 := hS.trans (b9.mono hS.size)
    refine ⟨_, rfl, hK _ _ ⟨hS9, ?_⟩⟩
    replace hS := hS9
    clear hK K' hS9 b9
    try simp only [Act.put]
    refine obTakeH (i := 9) (d := 12) (v := .bool YB) rfl rfl (by kernel_rfl) (by kernel_rfl) (by kernel_rfl) (fun _ _ _ h => h) rfl (fun w hS => by have hS' := LD.out w hS; obtain ⟨s0, s1, s2, s3, s4, s5⟩ := hS'; go_simp) hS ?_
    try simp only [Act.put]
    refine wpAnyH_done (by kernel_rfl) ?_ 0
    have BZ := Lib.hid (Z.out.trans (hS.mono Z.out.size))
    have FB : Hid ((YA == YB) = true ∨ ((YA == YB) = false ∧ YA = false ∧ YB = true ∧ al = true)) := by
      rcases MP2.out with e | ⟨e1, e2, e3⟩
      · exact .inl (by simp [e])
      · exact .inr ⟨by simp [e1, e2], e1, e2, e3⟩
    obtain ⟨s0, s1, s2, s3, s4, s5⟩ := LD.out _ hS
    clear hS o8 hap8 b8 hS8
    rcases FB.out with e1 | ⟨e1, rfl, rfl, rfl⟩
    · go_wp2_with fail
      go_ret
      exact ⟨rfl, BZ.out⟩
    · go_wp2_with fail
      go_ret
      exact ⟨rfl, BZ.out⟩
  · refine wpOp_step rfl (fun K' hK => ?_)
    have rb := R1.out wd
    have hb := hS.alloc hS.size (.cells #[.bool al, .int .i64 pro, .int .u32 xad, .int .i64 bits, .int .i64 fr, .int .i64 up] 40)
    have bb : Below wd.heap.size wd (wd.alloc (.cells #[.bool al, .int .i64 pro, .int .u32 xad, .int .i64 bits, .int .i64 fr, .int .i64 up] 40)) := (Below.refl _ _).alloc (Nat.le_refl _) _
    go_simp
    refine hK _ _ ⟨hb, ?_⟩
    clear hK K'
    replace hS := hb
    clear hb bb
    change RusAt (wd.alloc (.cells #[.bool al, .int .i64 pro, .int .u32 xad, .int .i64 bits, .int .i64 fr, .int .i64 up] 40)) _ _ at rb
    generalize wd.alloc (.cells #[.bool al, .int .i64 pro, .int .u32 xad, .int .i64 bits, .int .i64 fr, .int .i64 up] 40) = wb at *
    generalize wd.heap.size = GB at *
    try simp only [Act.put, List.setIfInBounds_toArray, List.set_cons_succ, List.set_cons_zero]
    refine wpAnyH_all (rs := [1]) (by kernel_rfl) (by simp) (fun y hy => ?_)
    obtain rfl : y = 1 := by simpa using hy
    clear hy
    refine wpOp_step rfl (fun K' hK => ?_)
    refine obCall1g (k1 := 36) (d := 37) (x1 := .slice ad N1 cap) 9 _ rfl rfl _ _ _ _ (fun _ => rfl) rfl (O.out _ hS) (fun e w7 hR => ?_)
    obtain ⟨v7, rfl, o7, -, b7⟩ := hR
    have hS2 := hS.trans (b7.mono hS.size)
    refine ⟨_, rfl, hK _ _ ⟨hS2, ?_⟩⟩
    replace rb := rb.keep b7
    have hz7 := b7.size
    have hzb := b7
    have hSb := hS
    replace hS := hS2
    clear hK K' hS2
    try simp only [Act.put, List.setIfInBounds_toArray, List.set_cons_succ, List.set_cons_zero]
    have hbb : ∀ {y}, Below wb.heap.size wb y → Below wx.heap.size wx y := fun b => hSb.trans (b.mono hSb.size)
    obtain ⟨x7, c7, rfl⟩ := o7.slice
    obtain ⟨v8, w8, hap8, o8, b8⟩ := CL.out _ w7 _ _ o7 hz7 rb hN.out
    have hS8 := Lib.hid (b8 wb hzb)
    obtain ⟨x8, c8, rfl⟩ := o8.slice
    refine wpAnyH_all (rs := [4]) (by kernel_rfl) (by simp) (fun y hy => ?_)
    obtain rfl : y = 4 := by simpa using hy
    clear hy
    refine wpOp_step rfl (fun K' hK => ?_)
    refine obB2 _ .append _ _ _ _ rfl _ _ rfl rfl hap8 ?_
    refine hK _ _ ⟨?_, ?_⟩
    · exact hbb hS8.out
    clear hK K'
    replace hS := hbb hS8.out
    try simp only [Act.put, List.setIfInBounds_toArray]
    refine wpAnyH_all (rs := [8]) (by kernel_rfl) (by simp) (fun y hy => ?_)
    obtain rfl : y = 8 := by simpa using hy
    clear hy
    refine wpOp_step rfl (fun K' hK => ?_)
    refine obCall4 (k1 := 40) (k2 := 41) (k3 := 42) (k4 := 43) (d := 44) (x1 := _) (x2 := .int .i64 p) (x3 := .int .u32 a) (x4 := .int .i64 q) 11 _ rfl rfl _ _ _ _ (fun _ => rfl) rfl rfl rfl rfl (A3.out hN.out _ _ o8.rus) (fun e w9 hR => ?_)
    obtain ⟨rfl, b9⟩ := hR
    have hS9 := hS.trans (b9.mono hS.size)
    refine ⟨_, rfl, hK _ _ ⟨hS9, ?_⟩⟩
    replace hS := hS9
    clear hK K' hS9 b9
    try simp only [Act.put]
    refine obTakeH (i := 9) (d := 12) (v := .bool YB) rfl rfl (by kernel_rfl) (by kernel_rfl) (by kernel_rfl) (fun _ _ _ h => h) rfl (fun w hS => by have hS' := LD.out w hS; obtain ⟨s0, s1, s2, s3, s4, s5⟩ := hS'; go_simp) hS ?_
    try simp only [Act.put]
    refine wpAnyH_done (by kernel_rfl) ?_ 0
    have BZ := Lib.hid (Z.out.trans (hS.mono Z.out.size))
    have FB : Hid ((YA == YB) = true ∨ ((YA == YB) = false ∧ YA = false ∧ YB = true ∧ al = true)) := by
      rcases MP2.out with e | ⟨e1, e2, e3⟩
      · exact .inl (by simp [e])
      · exact .inr ⟨by simp [e1, e2], e1, e2, e3⟩
    obtain ⟨s0, s1, s2, s3, s4, s5⟩ := LD.out _ hS
    clear hS o8 hap8 b8 hS8
    rcases FB.out with e1 | ⟨e1, rfl, rfl, rfl⟩
    · go_wp2_with fail
      go_ret
      exact ⟨rfl, BZ.out⟩
    · go_wp2_with fail
      go_ret
      exact ⟨rfl, BZ.out⟩

theorem contract (H : Type) (enc : TypeId × Value → H) (W : World) (base : Nat) (args : Array Value) (ds gs : List (DataW H)) (before : List MemPlace)
    (hval : ∀ (j : Nat) t v, Try.f7.params[j]? = some t → args[j]? = some v → Value.okWide Try.prog W .any base t v)
    (hW : DataW.Whole enc Try.prog Try.f7.params.toList Rows.policyMoreSpec.vars false W args.toList ds gs before)
    (hsz : (DataW.weightsEach Try.prog (Try.f7.params.toList ++ (OpenSpec.ofChange Rows.policyMoreSpec).bare.plain.varTypes Try.prog) (ds ++ gs)).all (· ≤ reachBytes) = true) :
    Calls Try.prog 7 args W fun e W' => ∃ v, e = .returned v ∧ Rows.policyMoreSpec.post enc Try.prog Try.f7 false true false false W args v W' := by
  have hW' := hW
  obtain ⟨p, q, hA0, hV, rfl, hfz, hnd⟩ := hW
  have hA : DataW.TrodAll enc Try.prog W 0 (fun _ => true) true Try.f7.params.toList args.toList ds p := hA0
  rw [Try.params7] at hA hval hsz
  obtain ⟨v0, vs0, d0, ds0, p0, q0, hargs, rfl, rfl, h0, r0⟩ := trodAll_cons hA
  obtain ⟨v1, vs1, d1, ds1, p1, q1, rfl, rfl, rfl, h1, r1⟩ := trodAll_cons r0
  obtain ⟨v2, vs2, d2, ds2, p2, q2, rfl, rfl, rfl, h2, r2⟩ := trodAll_cons r1
  obtain ⟨v3, vs3, d3, ds3, p3, q3, rfl, rfl, rfl, h3, r3⟩ := trodAll_cons r2
  obtain ⟨v4, vs4, d4, ds4, p4, q4, rfl, rfl, rfl, h4, r4⟩ := trodAll_cons r3
  obtain ⟨rfl, rfl, rfl⟩ := trodAll_nil r4
  obtain rfl : args = #[v0, v1, v2, v3, v4] := by cases args; simp_all
  obtain ⟨rfl, rfl⟩ := trodVars_none hV
  have k0 := h0
  have lt0 : ∀ x ∈ p0, x.block < W.heap.size := by obtain ⟨m, hm⟩ := k0; exact DataW.trod_lt m _ _ _ hm
  obtain ⟨l0, hs0, hz0, hb0⟩ := open_rus (hval 0 22 v0 rfl rfl) h0 (fun n hn => by simpa using List.all_eq_true.1 hsz _ (DataW.weights_mem_each (j := 0) (t := 22) rfl rfl n hn))
  have k1 := h1
  have lt1 : ∀ x ∈ p1, x.block < W.heap.size := by obtain ⟨m, hm⟩ := k1; exact DataW.trod_lt m _ _ _ hm
  obtain ⟨x1, rfl, hb1⟩ := open_ru (hval 1 40 v1 rfl rfl) h1
  obtain ⟨a2, rfl, rfl, rfl, w2⟩ := open_int Try.underlying3 (hval 2 3 v2 rfl rfl) h2
  have b2 := bounds_i64 w2
  obtain ⟨a3, rfl, rfl, rfl, w3⟩ := open_int Try.underlying23 (hval 3 23 v3 rfl rfl) h3
  have b3 := bounds_u32 w3
  obtain ⟨a4, rfl, rfl, rfl, w4⟩ := open_int Try.underlying3 (hval 4 3 v4 rfl rfl) h4
  have b4 := bounds_i64 w4
  clear hA0
  simp only [List.append_nil] at hW'
  refine (walk v0 l0 x1 a2 a3 a4 W hs0 hz0 hb0 hb1 b3.1 (by omega)).mono fun e W' ⟨he, bel⟩ => ?_
  subst he
  exact ⟨_, rfl, _, _, _, [], _, [], hW', trodAll_mk1 (shut_bool Try.underlying4 _), (trodAll_cons_mk (Below.trod laidOut (by kernel_rfl) (of_decide_eq_true (by kernel_rfl)) k0 bel lt0) (trodAll_cons_mk (Below.trod laidOut (by kernel_rfl) (of_decide_eq_true (by kernel_rfl)) k1 bel lt1) (trodAll_cons_mk (shut_int Try.underlying3 w2) (trodAll_cons_mk (shut_int Try.underlying23 w3) (trodAll_cons_mk (shut_int Try.underlying3 w4) trodAll_mk0))))), rfl, bel.frame _, fun h => by cases h⟩

theorem laid_met (os : Os) : laidMet Try.prog Rows.policyMoreRow.laid ((startWorld Try.prog os).forCall (fun _ _ => 0) ⟨#[], #[.slice none 0 0, .agg #[.bool false, .int .i64 0, .int .u32 0, .int .i64 0, .int .i64 0, .int .i64 0], .int .i64 0, .int .u32 0, .int .i64 0], []⟩).memory :=
  laidMet_of_run' 8 (by kernel_rfl) (by kernel_rfl)
theorem reads (os : Os) {H : Type} (enc : TypeId × Value → H) : ∃ places, DataW.whole enc Try.prog ((startWorld Try.prog os).forCall (fun _ _ => 0) ⟨#[], #[.slice none 0 0, .agg #[.bool false, .int .i64 0, .int .u32 0, .int .i64 0, .int .i64 0, .int .i64 0], .int .i64 0, .int .u32 0, .int .i64 0], []⟩).memory Try.f7.params.toList Rows.policyMoreSpec.vars false #[Value.slice none 0 0, Value.agg #[.bool false, .int .i64 0, .int .u32 0, .int .i64 0, .int .i64 0, .int .i64 0], Value.int .i64 0, Value.int .u32 0, Value.int .i64 0].toList 8 = some ([.nil, .agg [.lit (.bool false), .lit (.int .i64 0), .agg [.lit (.int .u32 0), .lit (.int .i64 0)], .lit (.int .i64 0), .lit (.int .i64 0)], .lit (.int .i64 0), .lit (.int .u32 0), .lit (.int .i64 0)], [], places) :=
  ⟨[], by kernel_rfl⟩

set_option maxRecDepth 100000 in
theorem lifted (os : Os) (started : os.Started) (H : Type) (enc : TypeId × Value → H) (F : Stop.Interp) :
    ReturnsInHanded {} Try.checked os 7 .any ((OpenSpec.ofChange Rows.policyMoreSpec).preRow enc Try.prog Try.f7 Rows.policyMoreRow.domain false Rows.policyMoreRow.laid) (((OpenSpec.ofChange Rows.policyMoreSpec).at F).post enc Try.prog Try.f7 false true false false) := by
  obtain ⟨places, hx⟩ := reads os enc
  refine returnsInHanded_of_row (C := Try.checked) (s := OpenSpec.ofChange Rows.policyMoreSpec) own started (by kernel_rfl) Try.func7
    (witness_row_at (enc := enc) (C := Try.checked) false (startWorld Try.prog os) #[.slice none 0 0, .agg #[.bool false, .int .i64 0, .int .u32 0, .int .i64 0, .int .i64 0, .int .i64 0], .int .i64 0, .int .u32 0, .int .i64 0] rfl (by kernel_rfl) (by kernel_rfl) (by kernel_rfl)
      (OpenSpec.preRow_of_cond 8 hx (by kernel_rfl) (fun k hk => by cases hk) (by kernel_rfl) (laid_met os))) ?_
  intro W base args ds gs before hval hW _ _ hsz _ _ _
  exact contract H enc W base args ds gs before hval hW hsz

theorem said : Rows.PolicyMoreSaid :=
  OpenClaim.holds_of_cond 7 Try.f7 rfl rfl rfl rfl rfl rfl rfl ⟨rfl, rfl, rfl, rfl, rfl⟩ rfl rfl rfl rfl rfl (by kernel_rfl) Try.func7 (by kernel_rfl)
    (of_decide_eq_true (by kernel_rfl)) (by unfold Func.isWrapper; first | (rw [if_pos (by decide +kernel)]; kernel_rfl) | (rw [if_neg (by decide +kernel)]; exact ⟨rfl, rfl⟩))
    (fun os started H enc _ F => by rw [OpenClaim.pre_eq_preRow]; exact lifted os started H enc F)
end Go.Proofs.Ytnlocjjnginjeaa.policyMore
namespace Go.Proofs.Ytnlocjjnginjeaa
theorem policyMore_said : Rows.PolicyMoreSaid := policyMore.said
end Go.Proofs.Ytnlocjjnginjeaa
