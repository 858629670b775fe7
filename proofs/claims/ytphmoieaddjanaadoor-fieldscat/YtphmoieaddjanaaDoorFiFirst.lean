/-
  What the document's own first answers of bytes: the field of the first line, or what is wrong. Texts below 2^62 bytes, not empty; no other condition.
-/
import Derived.Test.YtphmoieaddjanaaDoorFiWr
import Derived.Deep.DeepCutAuto
namespace Go.Proofs.YtphmoieaddjanaaDoor
set_option maxRecDepth 100000
open Go.RowKit Go.Sort

/-- Two new boxes of a field each. -/
structure TwoF (w wr : World) (K F : Nat) (kv fv : List Value) : Prop where
  k : Lies wr K kv
  f : Lies wr F fv
  ne : K ≠ F
  gk : w.heap.size ≤ K
  gf : w.heap.size ≤ F
  bel : Below w.heap.size w wr
  kl : kv.length = 2
  fl : fv.length = 2
section
variable {w wr w' : World} {K F : Nat} {kv fv : List Value}
theorem TwoF.keep (h : TwoF w wr K F kv fv) (b : Below wr.heap.size wr w') : TwoF w w' K F kv fv := ⟨h.k.keep (by rw [h.kl]; decide) b, h.f.keep (by rw [h.fl]; decide) b, h.ne, h.gk, h.gf, h.bel.trans (b.mono h.bel.size), h.kl, h.fl⟩
theorem TwoF.below {a : Nat} (h : Below w.heap.size w wr) (g : w.heap.size ≤ a) (j : Nat) (x : Value) : Below w.heap.size w (wr.setCell ⟨a, j, none⟩ x) :=
  ⟨h.os, h.tape, h.output, by simpa using h.size, fun k hk => (Below.heap_setCell _ _ _ _ (fun e => by have : k = a := e; omega)).trans (h.block k hk)⟩
theorem TwoF.putK (h : TwoF w wr K F kv fv) (j : Nat) (x : Value) (hj : j < 2) : TwoF w (wr.setCell ⟨K, j, none⟩ x) K F (kv.set j x) fv :=
  ⟨h.k.put j (by rw [h.kl]; exact hj) x, h.f.of_block (Below.heap_setCell _ _ _ _ (fun c => h.ne c.symm)), h.ne, h.gk, h.gf, TwoF.below h.bel h.gk j x, by rw [List.length_set]; exact h.kl, h.fl⟩
theorem TwoF.putF (h : TwoF w wr K F kv fv) (j : Nat) (x : Value) (hj : j < 2) : TwoF w (wr.setCell ⟨F, j, none⟩ x) K F kv (fv.set j x) :=
  ⟨h.k.of_block (Below.heap_setCell _ _ _ _ (fun c => h.ne c)), h.f.put j (by rw [h.fl]; exact hj) x, h.ne, h.gk, h.gf, TwoF.below h.bel h.gf j x, h.kl, by rw [List.length_set]; exact h.fl⟩
end
/-- What first answers. -/
def FsA (s : ByteArray) (e : Ending) : Prop := (∃ (f : Fd) (n : Nat), rLine (toL s) = .ok (f, (toL s).drop n) ∧ 1 ≤ n ∧ n ≤ s.size ∧ e = .returned (.tuple #[fbV f, .int .i64 (n : Int), .int .i64 0])) ∨ (∃ (x : Int) (f : Fd) (n : Int), rLine (toL s) = .error x ∧ x ≠ 0 ∧ e = .returned (.tuple #[fbV f, .int .i64 n, .int .i64 x]))
theorem at_s0 (s : ByteArray) (c : UInt8) (t : L) (h : toL s = c :: t) (w : World) : (Instr.index 9 (.string s) (.int .i64 0)).run Tryd.prog w = .ok (.int .u8 (c.toNat : Int)) w := by
  have e : s = strL (c :: t) := toL_inj h
  subst e
  exact at_strL (c :: t) 0 w (by simp) 0 rfl
theorem cut_s (s : ByteArray) (c : UInt8) (t : L) (h : toL s = c :: t) (n : Nat) : toL (s.extract (1 + n) s.size) = t.drop n := by
  rw [toL_extract, h, Nat.add_comm, List.drop_succ_cons]
theorem emp0 : strL [] = ⟨#[]⟩ := rfl
set_option maxHeartbeats 16000000 in
theorem rfirst_ok (s : ByteArray) (w : World) (hs : s.size ≤ 4611686018427387903) (hp : 0 < s.size) : Calls Tryd.prog 26 #[.string s] w fun e w' => FsA s e ∧ Below w.heap.size w w' := by
  obtain ⟨c, t, hct⟩ : ∃ c t, toL s = c :: t := by
    cases e : toL s with
    | nil => have := toL_len s; rw [e] at this; simp at this; omega
    | cons c t => exact ⟨c, t, rfl⟩
  have hlt : t.length + 1 = s.size := by have := toL_len s; rw [hct] at this; simpa using this
  have i0 := fun w => at_s0 s c t hct w
  have hc := c.toNat_lt
  have TB : Hid (∀ w, _) := fun w => rtable_ok w
  have RL : Hid (rLine (toL s) = if 128 ≤ c.toNat ∧ c.toNat < 148 then .ok (tab.getD (c.toNat - 128) ([], []), t) else if 64 ≤ c.toNat ∧ c.toNat < 84 then (rText.bind fun v => Rd.pure ((tab.getD (c.toNat - 64) ([], [])).1, v)) t else if c.toNat = 0 then (rText.bind fun a => rText.bind fun b => Rd.pure (a, b)) t else .error 5) := by
    unfold Hid
    rw [hct]
    rfl
  have cu := Lib.hid (cut_s s c t hct)
  replace hct := Lib.hid hct
  obtain ⟨x, hx⟩ : ∃ x, x = c.toNat := ⟨_, rfl⟩
  rw [← hx] at i0 hc RL
  replace hx := Lib.hid hx
  obtain ⟨w0, hw0⟩ : ∃ w0, w0 = w.alloc (.cells #[.string ⟨#[]⟩, .string ⟨#[]⟩] 34) := ⟨_, rfl⟩
  have B0 : Below w.heap.size w w0 := by rw [hw0]; exact (Below.refl _ _).alloc (Nat.le_refl _) _
  have L0 : Lies w0 w.heap.size [.string ⟨#[]⟩, .string ⟨#[]⟩] := by rw [hw0]; exact Lies.new w _ _
  obtain ⟨K, hK⟩ : ∃ K, K = w.heap.size := ⟨_, rfl⟩
  rw [← hK] at L0
  have TT : Hid (∀ w1, Below w0.heap.size w0 w1 → TwoF w (w1.alloc (.cells #[.string ⟨#[]⟩, .string ⟨#[]⟩] 34)) K w1.heap.size [.string ⟨#[]⟩, .string ⟨#[]⟩] [.string ⟨#[]⟩, .string ⟨#[]⟩]) := fun w1 b => by
    have ba : Below w1.heap.size w1 (w1.alloc (.cells #[.string ⟨#[]⟩, .string ⟨#[]⟩] 34)) := (Below.refl _ _).alloc (Nat.le_refl _) _
    have lk := L0.keep (by decide) b
    have h1 := lk.lt (by decide)
    have h2 := B0.size
    have h3 := b.size
    exact ⟨lk.keep (by decide) ba, Lies.new w1 _ _, by omega, by omega, by omega, (B0.trans (b.mono h2)).trans (ba.mono (by omega)), rfl, rfl⟩
  have hK2 := Lib.hid hK
  go_enter Tryd.func26, Tryd.ntmps26
  go_wp2_with fail
  rw [← hw0, ← hK]
  clear hK hw0 L0 B0
  refine (TB.out w0).mono ?_
  rintro e w1 ⟨tv, rfl, ft, b1⟩
  have N1 := TT.out w1 b1
  have ba : Below w1.heap.size w1 (w1.alloc (.cells #[.string ⟨#[]⟩, .string ⟨#[]⟩] 34)) := (Below.refl _ _).alloc (Nat.le_refl _) _
  have FT := Lib.hid (ft.keep ba)
  obtain ⟨ta, tc, etv⟩ := ft.slice
  rw [tab_len] at etv
  subst etv
  obtain ⟨g, o, egt, -, -⟩ := FT.out.at (k := 0) (by rw [tab_len]; decide)
  subst egt
  have TK : Hid (∀ (s' : ByteArray) w, s'.size ≤ s.size → _) := fun s' w (h : s'.size ≤ s.size) => rtakeL_ok s' w (by omega)
  clear ft b1 TB TT ba
  replace N1 := Lib.hid N1
  obtain ⟨F, hF⟩ : ∃ F, F = w1.heap.size := ⟨_, rfl⟩
  rw [← hF] at N1
  go_upto_region 4 with fail
  rw [← hF]
  replace hF := Lib.hid hF
  generalize w1.alloc (.cells #[.string ⟨#[]⟩, .string ⟨#[]⟩] 34) = w2 at *
  by_cases x1 : 128 ≤ x
  · have z1 : decide ((128 : Int) ≤ (x : Int)) = true := decide_eq_true (by omega)
    by_cases x2 : x < 148
    · have z2 : decide ((x : Int) - 128 < 20) = true := decide_eq_true (by omega)
      obtain ⟨i, hi⟩ : ∃ i, i = x - 128 := ⟨_, rfl⟩
      obtain ⟨g', o', eg, d1, d2⟩ := FT.out.at (k := i) (by rw [tab_len]; omega)
      injection eg with eg
      injection eg with eg1 eg2
      subst eg1 eg2
      have hxi : (x : Int) - 128 = (i : Int) := by omega
      have z2i : decide ((i : Int) < 20) = true := decide_eq_true (by omega)
      have ia := fun w' => at_fds g o 20 tc i w' (by omega) (i : Int) rfl (o + 2 * i) rfl
      have ANS : Hid (FsA s (.returned (.tuple #[.agg #[.string (strL (tab.getD i nF).1), .string (strL (tab.getD i nF).2)], .int .i64 1, .int .i64 0]))) := .inl ⟨tab.getD i nF, 1, by rw [RL.out, if_pos ⟨x1, x2⟩, hct.out, hi]; rfl, by omega, by omega, rfl⟩
      generalize tab.getD i nF = f at *
      obtain ⟨f1, f2⟩ := f
      simp only at d1 d2 ANS
      have k0 := N1.out.k.cell 0 (v := .string ⟨#[]⟩) rfl
      have k1 := N1.out.k.cell 1 (v := .string ⟨#[]⟩) rfl
      have kf0 := N1.out.k.free 0 (by rw [N1.out.kl]; decide)
      have kf1 := N1.out.k.free 1 (by rw [N1.out.kl]; decide)
      have NZ : Hid (TwoF w (((w2).setCell ⟨K, 0, none⟩ (.string (strL f1))).setCell ⟨K, 1, none⟩ (.string (strL f2))) K F [.string (strL f1), .string (strL f2)] [.string ⟨#[]⟩, .string ⟨#[]⟩]) := (N1.out.putK 0 (.string (strL f1)) (by decide)).putK 1 (.string (strL f2)) (by decide)
      clear N1 hi RL x1 x2 FT TK
      go_wp2_with fail
      generalize ((w2).setCell ⟨K, 0, none⟩ (.string (strL f1))).setCell ⟨K, 1, none⟩ (.string (strL f2)) = wf at *
      have q0 := NZ.out.k.cell 0 (v := .string (strL f1)) rfl
      have q1 := NZ.out.k.cell 1 (v := .string (strL f2)) rfl
      exact bodyPost_ret (v := .tuple #[.agg #[.string (strL f1), .string (strL f2)], .int .i64 (1), .int .i64 (0)]) (by simp [results, Tryd.results26, go_sem, q0, q1]) rfl ⟨ANS.out, NZ.out.bel⟩
    · have z2 : decide ((x : Int) - 128 < 20) = false := decide_eq_false (by omega)
      have z3 : decide ((64 : Int) ≤ (x : Int)) = true := decide_eq_true (by omega)
      have z4 : decide ((x : Int) - 64 < 20) = false := decide_eq_false (by omega)
      have z5 : ((x : Int) == 0) = false := by rw [beq_eq_false_iff_ne]; omega
      have ANS : Hid (FsA s (.returned (.tuple #[.agg #[.string ⟨#[]⟩, .string ⟨#[]⟩], .int .i64 0, .int .i64 5]))) := .inr ⟨5, nF, 0, by rw [RL.out, if_neg (by omega), if_neg (by omega), if_neg (by omega)], by decide, rfl⟩
      have k0 := N1.out.k.cell 0 (v := .string ⟨#[]⟩) rfl
      have k1 := N1.out.k.cell 1 (v := .string ⟨#[]⟩) rfl
      have kf0 := N1.out.k.free 0 (by rw [N1.out.kl]; decide)
      have kf1 := N1.out.k.free 1 (by rw [N1.out.kl]; decide)
      have m0 := N1.out.f.cell 0 (v := .string (⟨#[]⟩)) rfl
      have m1 := N1.out.f.cell 1 (v := .string (⟨#[]⟩)) rfl
      have mf0 := N1.out.f.free 0 (by rw [N1.out.fl]; decide)
      have mf1 := N1.out.f.free 1 (by rw [N1.out.fl]; decide)
      have NZ : Hid (TwoF w (((w2).setCell ⟨K, 0, none⟩ (.string (⟨#[]⟩))).setCell ⟨K, 1, none⟩ (.string (⟨#[]⟩))) K F [.string (⟨#[]⟩), .string (⟨#[]⟩)] [.string ⟨#[]⟩, .string ⟨#[]⟩]) := (N1.out.putK 0 (.string (⟨#[]⟩)) (by decide)).putK 1 (.string (⟨#[]⟩)) (by decide)
      clear N1 RL FT TK
      go_wp2_with fail
      generalize ((w2).setCell ⟨K, 0, none⟩ (.string (⟨#[]⟩))).setCell ⟨K, 1, none⟩ (.string (⟨#[]⟩)) = wf at *
      have q0 := NZ.out.k.cell 0 (v := .string (⟨#[]⟩)) rfl
      have q1 := NZ.out.k.cell 1 (v := .string (⟨#[]⟩)) rfl
      exact bodyPost_ret (v := .tuple #[.agg #[.string (⟨#[]⟩), .string (⟨#[]⟩)], .int .i64 (0), .int .i64 (5)]) (by simp [results, Tryd.results26, go_sem, q0, q1]) rfl ⟨ANS.out, NZ.out.bel⟩
  · have z1 : decide ((128 : Int) ≤ (x : Int)) = false := decide_eq_false (by omega)
    by_cases x2 : 64 ≤ x
    · have z3 : decide ((64 : Int) ≤ (x : Int)) = true := decide_eq_true (by omega)
      by_cases x3 : x < 84
      · have z4 : decide ((x : Int) - 64 < 20) = true := decide_eq_true (by omega)
        obtain ⟨i, hi⟩ : ∃ i, i = x - 64 := ⟨_, rfl⟩
        obtain ⟨g', o', eg, d1, d2⟩ := FT.out.at (k := i) (by rw [tab_len]; omega)
        injection eg with eg
        injection eg with eg1 eg2
        subst eg1 eg2
        have hxi : (x : Int) - 64 = (i : Int) := by omega
        have z4i : decide ((i : Int) < 20) = true := decide_eq_true (by omega)
        have ia := fun w' => at_fds g o 20 tc i w' (by omega) (i : Int) rfl (o + 2 * i) rfl
        have RL2 : Hid (rLine (toL s) = (rText.bind fun v => Rd.pure ((tab.getD i nF).1, v)) t) := by
          unfold Hid
          rw [RL.out, if_neg (by omega), if_pos ⟨x2, x3⟩, hi]
        generalize tab.getD i nF = f at *
        obtain ⟨f1, f2⟩ := f
        simp only at d1 d2 RL2
        have k0 := N1.out.k.cell 0 (v := .string ⟨#[]⟩) rfl
        have k1 := N1.out.k.cell 1 (v := .string ⟨#[]⟩) rfl
        have kf0 := N1.out.k.free 0 (by rw [N1.out.kl]; decide)
        have kf1 := N1.out.k.free 1 (by rw [N1.out.kl]; decide)
        have m0 := N1.out.f.cell 0 (v := .string (⟨#[]⟩)) rfl
        have m1 := N1.out.f.cell 1 (v := .string (⟨#[]⟩)) rfl
        have mf0 := N1.out.f.free 0 (by rw [N1.out.fl]; decide)
        have mf1 := N1.out.f.free 1 (by rw [N1.out.fl]; decide)
        have N2 : Hid (TwoF w (w2.setCell ⟨F, 0, none⟩ (.string (strL f1))) K F [.string ⟨#[]⟩, .string ⟨#[]⟩] [.string (strL f1), .string ⟨#[]⟩]) := N1.out.putF 0 (.string (strL f1)) (by decide)
        have hp1 : (1 : Int) ≤ (s.size : Int) := by omega
        have TK1 := Lib.hid (TK.out (s.extract 1 s.size) (w2.setCell ⟨F, 0, none⟩ (.string (strL f1))) (by rw [ByteArray.size_extract]; omega))
        have c1 := cu.out 0
        rw [Nat.add_zero, List.drop_zero] at c1
        clear N1 RL FT TK hi
        go_wp2_with fail
        refine TK1.out.mono ?_
        rintro e w4 ⟨b4, hR⟩
        have N4 := Lib.hid (N2.out.keep b4)
        clear N2 b4 TK1 d1 d2 ia m0 m1 mf0 mf1 k0 k1 kf0 kf1
        have k0 := N4.out.k.cell 0 (v := .string ⟨#[]⟩) rfl
        have k1 := N4.out.k.cell 1 (v := .string ⟨#[]⟩) rfl
        have kf0 := N4.out.k.free 0 (by rw [N4.out.kl]; decide)
        have kf1 := N4.out.k.free 1 (by rw [N4.out.kl]; decide)
        have m0 := N4.out.f.cell 0 (v := .string (strL f1)) rfl
        have m1 := N4.out.f.cell 1 (v := .string (⟨#[]⟩)) rfl
        have mf0 := N4.out.f.free 0 (by rw [N4.out.fl]; decide)
        have mf1 := N4.out.f.free 1 (by rw [N4.out.fl]; decide)
        rw [c1] at hR
        rcases hR with ⟨t', n, e1, n1, n2, rfl⟩ | ⟨e1, rfl⟩
        · have n2' : n ≤ t.length := by rw [ByteArray.size_extract] at n2; omega
          have ANS : Hid (FsA s (.returned (.tuple #[.agg #[.string (strL f1), .string (strL t')], .int .i64 (1 + (n : Int)), .int .i64 0]))) := .inl ⟨(f1, t'), 1 + n, by rw [RL2.out, bind_ok e1, hct.out, Nat.add_comm, List.drop_succ_cons]; rfl, by omega, by omega, by rw [Int.natCast_add]; rfl⟩
          have N5 : Hid (TwoF w (w4.setCell ⟨F, 1, none⟩ (.string (strL t'))) K F [.string ⟨#[]⟩, .string ⟨#[]⟩] [.string (strL f1), .string (strL t')]) := N4.out.putF 1 (.string (strL t')) (by decide)
          have hnb : (n : Int) ≤ 4611686018427387903 := by omega
          replace e1 := Lib.hid e1
          clear k0 k1 kf0 kf1
          have k0 := N5.out.k.cell 0 (v := .string ⟨#[]⟩) rfl
          have k1 := N5.out.k.cell 1 (v := .string ⟨#[]⟩) rfl
          have kf0 := N5.out.k.free 0 (by rw [N5.out.kl]; decide)
          have kf1 := N5.out.k.free 1 (by rw [N5.out.kl]; decide)
          have NZ : Hid (TwoF w (((w4.setCell ⟨F, 1, none⟩ (.string (strL t'))).setCell ⟨K, 0, none⟩ (.string (strL f1))).setCell ⟨K, 1, none⟩ (.string (strL t'))) K F [.string (strL f1), .string (strL t')] [.string (strL f1), .string (strL t')]) := (N5.out.putK 0 (.string (strL f1)) (by decide)).putK 1 (.string (strL t')) (by decide)
          clear N5 N4 RL2
          go_wp2_with fail
          generalize ((w4.setCell ⟨F, 1, none⟩ (.string (strL t'))).setCell ⟨K, 0, none⟩ (.string (strL f1))).setCell ⟨K, 1, none⟩ (.string (strL t')) = wf at *
          have q0 := NZ.out.k.cell 0 (v := .string (strL f1)) rfl
          have q1 := NZ.out.k.cell 1 (v := .string (strL t')) rfl
          exact bodyPost_ret (v := .tuple #[.agg #[.string (strL f1), .string (strL t')], .int .i64 (1 + (n : Int)), .int .i64 (0)]) (by simp [results, Tryd.results26, go_sem, q0, q1]) rfl ⟨ANS.out, NZ.out.bel⟩
        · have ANS : Hid (FsA s (.returned (.tuple #[.agg #[.string (strL f1), .string ⟨#[]⟩], .int .i64 1, .int .i64 1]))) := .inr ⟨1, (f1, []), 1, by rw [RL2.out]; unfold Rd.bind; rw [e1], by decide, rfl⟩
          have N5 : Hid (TwoF w (w4.setCell ⟨F, 1, none⟩ (.string ⟨#[]⟩)) K F [.string ⟨#[]⟩, .string ⟨#[]⟩] [.string (strL f1), .string ⟨#[]⟩]) := N4.out.putF 1 (.string ⟨#[]⟩) (by decide)
          replace e1 := Lib.hid e1
          clear k0 k1 kf0 kf1
          have k0 := N5.out.k.cell 0 (v := .string ⟨#[]⟩) rfl
          have k1 := N5.out.k.cell 1 (v := .string ⟨#[]⟩) rfl
          have kf0 := N5.out.k.free 0 (by rw [N5.out.kl]; decide)
          have kf1 := N5.out.k.free 1 (by rw [N5.out.kl]; decide)
          have NZ : Hid (TwoF w (((w4.setCell ⟨F, 1, none⟩ (.string ⟨#[]⟩)).setCell ⟨K, 0, none⟩ (.string (strL f1))).setCell ⟨K, 1, none⟩ (.string (⟨#[]⟩))) K F [.string (strL f1), .string (⟨#[]⟩)] [.string (strL f1), .string ⟨#[]⟩]) := (N5.out.putK 0 (.string (strL f1)) (by decide)).putK 1 (.string (⟨#[]⟩)) (by decide)
          clear N5 N4 RL2
          go_wp2_with fail
          generalize ((w4.setCell ⟨F, 1, none⟩ (.string ⟨#[]⟩)).setCell ⟨K, 0, none⟩ (.string (strL f1))).setCell ⟨K, 1, none⟩ (.string (⟨#[]⟩)) = wf at *
          have q0 := NZ.out.k.cell 0 (v := .string (strL f1)) rfl
          have q1 := NZ.out.k.cell 1 (v := .string (⟨#[]⟩)) rfl
          exact bodyPost_ret (v := .tuple #[.agg #[.string (strL f1), .string (⟨#[]⟩)], .int .i64 (1), .int .i64 (1)]) (by simp [results, Tryd.results26, go_sem, q0, q1]) rfl ⟨ANS.out, NZ.out.bel⟩
      · have z4 : decide ((x : Int) - 64 < 20) = false := decide_eq_false (by omega)
        have z5 : ((x : Int) == 0) = false := by rw [beq_eq_false_iff_ne]; omega
        have ANS : Hid (FsA s (.returned (.tuple #[.agg #[.string ⟨#[]⟩, .string ⟨#[]⟩], .int .i64 0, .int .i64 5]))) := .inr ⟨5, nF, 0, by rw [RL.out, if_neg (by omega), if_neg (by omega), if_neg (by omega)], by decide, rfl⟩
        have k0 := N1.out.k.cell 0 (v := .string ⟨#[]⟩) rfl
        have k1 := N1.out.k.cell 1 (v := .string ⟨#[]⟩) rfl
        have kf0 := N1.out.k.free 0 (by rw [N1.out.kl]; decide)
        have kf1 := N1.out.k.free 1 (by rw [N1.out.kl]; decide)
        have m0 := N1.out.f.cell 0 (v := .string (⟨#[]⟩)) rfl
        have m1 := N1.out.f.cell 1 (v := .string (⟨#[]⟩)) rfl
        have mf0 := N1.out.f.free 0 (by rw [N1.out.fl]; decide)
        have mf1 := N1.out.f.free 1 (by rw [N1.out.fl]; decide)
        have NZ : Hid (TwoF w (((w2).setCell ⟨K, 0, none⟩ (.string (⟨#[]⟩))).setCell ⟨K, 1, none⟩ (.string (⟨#[]⟩))) K F [.string (⟨#[]⟩), .string (⟨#[]⟩)] [.string ⟨#[]⟩, .string ⟨#[]⟩]) := (N1.out.putK 0 (.string (⟨#[]⟩)) (by decide)).putK 1 (.string (⟨#[]⟩)) (by decide)
        clear N1 RL FT TK
        go_wp2_with fail
        generalize ((w2).setCell ⟨K, 0, none⟩ (.string (⟨#[]⟩))).setCell ⟨K, 1, none⟩ (.string (⟨#[]⟩)) = wf at *
        have q0 := NZ.out.k.cell 0 (v := .string (⟨#[]⟩)) rfl
        have q1 := NZ.out.k.cell 1 (v := .string (⟨#[]⟩)) rfl
        exact bodyPost_ret (v := .tuple #[.agg #[.string (⟨#[]⟩), .string (⟨#[]⟩)], .int .i64 (0), .int .i64 (5)]) (by simp [results, Tryd.results26, go_sem, q0, q1]) rfl ⟨ANS.out, NZ.out.bel⟩
    · have z3 : decide ((64 : Int) ≤ (x : Int)) = false := decide_eq_false (by omega)
      by_cases x3 : x = 0
      · have z5 : ((x : Int) == 0) = true := by rw [beq_iff_eq]; omega
        have RL2 : Hid (rLine (toL s) = (rText.bind fun a => rText.bind fun b => Rd.pure (a, b)) t) := by
          unfold Hid
          rw [RL.out, if_neg (by omega), if_neg (by omega), if_pos x3]
        have hp1 : (1 : Int) ≤ (s.size : Int) := by omega
        have TK1 := Lib.hid (TK.out (s.extract 1 s.size) w2 (by rw [ByteArray.size_extract]; omega))
        have c1 := cu.out 0
        rw [Nat.add_zero, List.drop_zero] at c1
        replace x3 := Lib.hid x3
        clear RL FT
        go_wp2_with fail
        refine TK1.out.mono ?_
        rintro e w4 ⟨b4, hR⟩
        have N4 := Lib.hid (N1.out.keep b4)
        clear N1 b4 TK1
        have k0 := N4.out.k.cell 0 (v := .string ⟨#[]⟩) rfl
        have k1 := N4.out.k.cell 1 (v := .string ⟨#[]⟩) rfl
        have kf0 := N4.out.k.free 0 (by rw [N4.out.kl]; decide)
        have kf1 := N4.out.k.free 1 (by rw [N4.out.kl]; decide)
        have m0 := N4.out.f.cell 0 (v := .string (⟨#[]⟩)) rfl
        have m1 := N4.out.f.cell 1 (v := .string (⟨#[]⟩)) rfl
        have mf0 := N4.out.f.free 0 (by rw [N4.out.fl]; decide)
        have mf1 := N4.out.f.free 1 (by rw [N4.out.fl]; decide)
        rw [c1] at hR
        rcases hR with ⟨t', n, e1, n1, n2, rfl⟩ | ⟨e1, rfl⟩
        · have n2' : n ≤ t.length := by rw [ByteArray.size_extract] at n2; omega
          have hpn : (1 : Int) + (n : Int) ≤ (s.size : Int) := by omega
          have TK2 := Lib.hid (TK.out (s.extract (1 + n) s.size) w4 (by rw [ByteArray.size_extract]; omega))
          have c2 := cu.out n
          have hnb : (n : Int) ≤ 4611686018427387903 := by omega
          have hsl : ∀ w', (Instr.sliceAt 9 (.string s) (some (.int .i64 (1 + (n : Int)))) none none).run Tryd.prog w' = .ok (.string (s.extract (1 + n) s.size)) w' := fun w' => by
            have := run_sliceAt_string (P := Tryd.prog) w' 9 (.string s) (some (.int .i64 (1 + (n : Int)))) none none Tryd.underlying9
            rw [this]
            have h0 : (0 : Int) ≤ 1 + (n : Int) := by omega
            simp [Instr.slice, run_underlying Tryd.underlying9, Instr.sliceBounds, run_sliceBound, hpn, h0, show (1 + (n : Int)).toNat = 1 + n by omega]
          clear TK
          go_wp2_with fail
          refine TK2.out.mono ?_
          rintro e w5 ⟨b5, hR⟩
          have N5 := Lib.hid (N4.out.keep b5)
          clear N4 b5 TK2 k0 k1 kf0 kf1 m0 m1 mf0 mf1 hsl
          have k0 := N5.out.k.cell 0 (v := .string ⟨#[]⟩) rfl
          have k1 := N5.out.k.cell 1 (v := .string ⟨#[]⟩) rfl
          have kf0 := N5.out.k.free 0 (by rw [N5.out.kl]; decide)
          have kf1 := N5.out.k.free 1 (by rw [N5.out.kl]; decide)
          rw [c2] at hR
          rcases hR with ⟨t2, n', e2, n3, n4, rfl⟩ | ⟨e2, rfl⟩
          · have n4' : 1 + n + n' ≤ s.size := by rw [ByteArray.size_extract] at n4; omega
            have ANS : Hid (FsA s (.returned (.tuple #[.agg #[.string (strL t'), .string (strL t2)], .int .i64 (1 + (n : Int) + (n' : Int)), .int .i64 0]))) := .inl ⟨(t', t2), 1 + n + n', by rw [RL2.out, bind_ok e1, bind_ok e2, hct.out, show 1 + n + n' = (n + n') + 1 by omega, List.drop_succ_cons, List.drop_drop]; rfl, by omega, n4', by rw [Int.natCast_add, Int.natCast_add]; rfl⟩
            have hn5 : (n' : Int) ≤ 4611686018427387903 := by omega
            replace e1 := Lib.hid e1
            replace e2 := Lib.hid e2
            have NZ : Hid (TwoF w (((w5).setCell ⟨K, 0, none⟩ (.string (strL t'))).setCell ⟨K, 1, none⟩ (.string (strL t2))) K F [.string (strL t'), .string (strL t2)] [.string ⟨#[]⟩, .string ⟨#[]⟩]) := (N5.out.putK 0 (.string (strL t')) (by decide)).putK 1 (.string (strL t2)) (by decide)
            clear N5 RL2
            go_wp2_with fail
            generalize ((w5).setCell ⟨K, 0, none⟩ (.string (strL t'))).setCell ⟨K, 1, none⟩ (.string (strL t2)) = wf at *
            have q0 := NZ.out.k.cell 0 (v := .string (strL t')) rfl
            have q1 := NZ.out.k.cell 1 (v := .string (strL t2)) rfl
            exact bodyPost_ret (v := .tuple #[.agg #[.string (strL t'), .string (strL t2)], .int .i64 (1 + (n : Int) + (n' : Int)), .int .i64 (0)]) (by simp [results, Tryd.results26, go_sem, q0, q1]) rfl ⟨ANS.out, NZ.out.bel⟩
          · have ANS : Hid (FsA s (.returned (.tuple #[.agg #[.string (strL t'), .string ⟨#[]⟩], .int .i64 (1 + (n : Int)), .int .i64 1]))) := .inr ⟨1, (t', []), 1 + (n : Int), by rw [RL2.out, bind_ok e1]; unfold Rd.bind; rw [e2], by decide, rfl⟩
            replace e1 := Lib.hid e1
            replace e2 := Lib.hid e2
            have NZ : Hid (TwoF w (((w5).setCell ⟨K, 0, none⟩ (.string (strL t'))).setCell ⟨K, 1, none⟩ (.string (⟨#[]⟩))) K F [.string (strL t'), .string (⟨#[]⟩)] [.string ⟨#[]⟩, .string ⟨#[]⟩]) := (N5.out.putK 0 (.string (strL t')) (by decide)).putK 1 (.string (⟨#[]⟩)) (by decide)
            clear N5 RL2
            go_wp2_with fail
            generalize ((w5).setCell ⟨K, 0, none⟩ (.string (strL t'))).setCell ⟨K, 1, none⟩ (.string (⟨#[]⟩)) = wf at *
            have q0 := NZ.out.k.cell 0 (v := .string (strL t')) rfl
            have q1 := NZ.out.k.cell 1 (v := .string (⟨#[]⟩)) rfl
            exact bodyPost_ret (v := .tuple #[.agg #[.string (strL t'), .string (⟨#[]⟩)], .int .i64 (1 + (n : Int)), .int .i64 (1)]) (by simp [results, Tryd.results26, go_sem, q0, q1]) rfl ⟨ANS.out, NZ.out.bel⟩
        · have ANS : Hid (FsA s (.returned (.tuple #[.agg #[.string ⟨#[]⟩, .string ⟨#[]⟩], .int .i64 0, .int .i64 1]))) := .inr ⟨1, nF, 0, by rw [RL2.out]; unfold Rd.bind; rw [e1], by decide, rfl⟩
          replace e1 := Lib.hid e1
          have NZ : Hid (TwoF w (((w4).setCell ⟨K, 0, none⟩ (.string (⟨#[]⟩))).setCell ⟨K, 1, none⟩ (.string (⟨#[]⟩))) K F [.string (⟨#[]⟩), .string (⟨#[]⟩)] [.string ⟨#[]⟩, .string ⟨#[]⟩]) := (N4.out.putK 0 (.string (⟨#[]⟩)) (by decide)).putK 1 (.string (⟨#[]⟩)) (by decide)
          clear N4 RL2 TK
          go_wp2_with fail
          generalize ((w4).setCell ⟨K, 0, none⟩ (.string (⟨#[]⟩))).setCell ⟨K, 1, none⟩ (.string (⟨#[]⟩)) = wf at *
          have q0 := NZ.out.k.cell 0 (v := .string (⟨#[]⟩)) rfl
          have q1 := NZ.out.k.cell 1 (v := .string (⟨#[]⟩)) rfl
          exact bodyPost_ret (v := .tuple #[.agg #[.string (⟨#[]⟩), .string (⟨#[]⟩)], .int .i64 (0), .int .i64 (1)]) (by simp [results, Tryd.results26, go_sem, q0, q1]) rfl ⟨ANS.out, NZ.out.bel⟩
      · have z5 : ((x : Int) == 0) = false := by rw [beq_eq_false_iff_ne]; omega
        have ANS : Hid (FsA s (.returned (.tuple #[.agg #[.string ⟨#[]⟩, .string ⟨#[]⟩], .int .i64 0, .int .i64 5]))) := .inr ⟨5, nF, 0, by rw [RL.out, if_neg (by omega), if_neg (by omega), if_neg (by omega)], by decide, rfl⟩
        have k0 := N1.out.k.cell 0 (v := .string ⟨#[]⟩) rfl
        have k1 := N1.out.k.cell 1 (v := .string ⟨#[]⟩) rfl
        have kf0 := N1.out.k.free 0 (by rw [N1.out.kl]; decide)
        have kf1 := N1.out.k.free 1 (by rw [N1.out.kl]; decide)
        have m0 := N1.out.f.cell 0 (v := .string (⟨#[]⟩)) rfl
        have m1 := N1.out.f.cell 1 (v := .string (⟨#[]⟩)) rfl
        have mf0 := N1.out.f.free 0 (by rw [N1.out.fl]; decide)
        have mf1 := N1.out.f.free 1 (by rw [N1.out.fl]; decide)
        have NZ : Hid (TwoF w (((w2).setCell ⟨K, 0, none⟩ (.string (⟨#[]⟩))).setCell ⟨K, 1, none⟩ (.string (⟨#[]⟩))) K F [.string (⟨#[]⟩), .string (⟨#[]⟩)] [.string ⟨#[]⟩, .string ⟨#[]⟩]) := (N1.out.putK 0 (.string (⟨#[]⟩)) (by decide)).putK 1 (.string (⟨#[]⟩)) (by decide)
        clear N1 RL FT TK
        go_wp2_with fail
        generalize ((w2).setCell ⟨K, 0, none⟩ (.string (⟨#[]⟩))).setCell ⟨K, 1, none⟩ (.string (⟨#[]⟩)) = wf at *
        have q0 := NZ.out.k.cell 0 (v := .string (⟨#[]⟩)) rfl
        have q1 := NZ.out.k.cell 1 (v := .string (⟨#[]⟩)) rfl
        exact bodyPost_ret (v := .tuple #[.agg #[.string (⟨#[]⟩), .string (⟨#[]⟩)], .int .i64 (0), .int .i64 (5)]) (by simp [results, Tryd.results26, go_sem, q0, q1]) rfl ⟨ANS.out, NZ.out.bel⟩
end Go.Proofs.YtphmoieaddjanaaDoor
