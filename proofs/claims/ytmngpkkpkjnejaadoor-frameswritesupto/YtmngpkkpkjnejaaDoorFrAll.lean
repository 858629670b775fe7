/-
  Frames that lie in memory as a slice tells them; what the document's own SameAll and Elicits answer. Fewer than 2^63 frames and ranges; no other condition.
-/
import Derived.Test.YtmngpkkpkjnejaaDoorFrChk
import Derived.Test.YtmngpkkpkjnejaaDoorObDraw
namespace Go.Proofs.YtmngpkkpkjnejaaDoor
set_option maxRecDepth 100000
open Go.RowKit Go.Sort

def fr0 : Fr := ⟨0, 0, 0, false, 0, [], []⟩
/-- A frame's seven cells. -/
structure C7 (w : World) (g p : Nat) (f : Fr) (d : ByteArray) (sv : Value) : Prop where
  c0 : w.cell? ⟨g, p, none⟩ = some (.int .i64 f.kind)
  c1 : w.cell? ⟨g, p + 1, none⟩ = some (.int .i64 f.id)
  c2 : w.cell? ⟨g, p + 2, none⟩ = some (.int .i64 f.off)
  c3 : w.cell? ⟨g, p + 3, none⟩ = some (.bool f.fin)
  c4 : w.cell? ⟨g, p + 4, none⟩ = some (.int .i64 f.code)
  c5 : w.cell? ⟨g, p + 5, none⟩ = some (.string d)
  c6 : w.cell? ⟨g, p + 6, none⟩ = some sv
theorem C7.keep {w w' : World} {g p : Nat} {f : Fr} {d : ByteArray} {sv : Value} (h : C7 w g p f d sv) (b : Below w.heap.size w w') : C7 w' g p f d sv :=
  ⟨(b.cell (World.block_lt_of_cell? w _ h.c0)).trans h.c0, (b.cell (World.block_lt_of_cell? w _ h.c1)).trans h.c1, (b.cell (World.block_lt_of_cell? w _ h.c2)).trans h.c2, (b.cell (World.block_lt_of_cell? w _ h.c3)).trans h.c3, (b.cell (World.block_lt_of_cell? w _ h.c4)).trans h.c4, (b.cell (World.block_lt_of_cell? w _ h.c5)).trans h.c5, (b.cell (World.block_lt_of_cell? w _ h.c6)).trans h.c6⟩
/-- One of them. -/
def FrAt (w : World) (g p : Nat) (f : Fr) : Prop := ∃ d s cp, toL d = f.data ∧ RgAt w (.slice s f.rg.length cp) f.rg ∧ C7 w g p f d (.slice s f.rg.length cp)
theorem FrAt.keep {w w' : World} {g p : Nat} {f : Fr} (h : FrAt w g p f) (b : Below w.heap.size w w') : FrAt w' g p f := by
  obtain ⟨d, s, cp, h1, h2, h3⟩ := h
  exact ⟨d, s, cp, h1, h2.keep b, h3.keep b⟩
/-- The frames fs as a slice tells them. -/
def FrsAt (w : World) (v : Value) (fs : List Fr) : Prop := ∃ a cap, v = .slice a fs.length cap ∧ (fs = [] ∨ ∃ g o, a = some ⟨g, o, none⟩ ∧ ∀ k, k < fs.length → FrAt w g (o + 7 * k) (fs.getD k fr0))
theorem FrsAt.keep {w w' : World} {v : Value} {fs : List Fr} (h : FrsAt w v fs) (b : Below w.heap.size w w') : FrsAt w' v fs := by
  obtain ⟨a, cap, rfl, hc⟩ := h
  refine ⟨a, cap, rfl, ?_⟩
  rcases hc with h | ⟨g, o, rfl, hc⟩
  · exact .inl h
  · exact .inr ⟨g, o, rfl, fun k hk => (hc k hk).keep b⟩
theorem at_frs (B o N cap i : Nat) (w : World) (h : i < N) (z : Int) (hz : z = i) (p : Nat) (hp : p = o + 7 * i) :
    (Instr.indexAt 29 (.slice (some ⟨B, o, none⟩) N cap) (.int .i64 z)).run Tryd.prog w = .ok (.pointer (some ⟨B, p, none⟩)) w := by
  subst hz hp
  have e : Tryd.prog.elem 29 = 24 := by kernel_rfl
  rw [run_indexAt_slice (P := Tryd.prog) w 29 ⟨B, o, none⟩ N cap .i64 i (by rw [e]; exact Tryd.underlying29), if_pos (by omega), e]
  have s : (sizeOf 24).run Tryd.prog w = .ok 7 w := Tryd.sizeOf24 w
  rw [s]
  simp [Addr.add_mid, Nat.mul_comm]
/-- Does it ask for an answer? -/
def elic (f : Fr) : Bool := kindB f.kind && decide (f.kind ≠ 0) && decide (f.kind ≠ 2) && decide (f.kind ≠ 28)
set_option maxHeartbeats 4000000 in
theorem relic_ok {w : World} {v : Value} {f : Fr} (hf : FrIs w v f) :
    Calls Tryd.prog 14 #[v] w fun e w' => e = .returned (.bool (elic f)) ∧ Below w.heap.size w w' := by
  obtain ⟨d, a, cp, rfl, -, -⟩ := hf
  obtain ⟨k, i, o, fn, c, dd, rg⟩ := f
  unfold elic frV
  simp only
  have b := (Below.refl w.heap.size w).alloc (Nat.le_refl _) (.cells #[.int .i64 k, .int .i64 i, .int .i64 o, .bool fn, .int .i64 c, .string d, .slice a rg.length cp] 24)
  have KN : Hid (∀ w, Calls Tryd.prog 26 #[.int .i64 k] w fun e w' => e = .returned (.bool (kindB k)) ∧ w = w') := fun w => rkind_ok k w
  replace b : Hid _ := b
  cases hk : kindB k
  · rw [hk] at KN
    simp only [Bool.false_and]
    clear hk
    go_enter Tryd.func14, Tryd.ntmps14
    go_wp2_with fail
    refine (KN.out _).mono ?_
    rintro _ _ ⟨rfl, rfl⟩
    go_wp2
    go_ret
    exact ⟨rfl, b.out⟩
  · rw [hk] at KN
    simp only [Bool.true_and]
    clear hk
    by_cases k0 : k = 0
    · subst k0
      go_enter Tryd.func14, Tryd.ntmps14
      go_wp2_with fail
      refine (KN.out _).mono ?_
      rintro _ _ ⟨rfl, rfl⟩
      go_wp2
      go_ret
      exact ⟨rfl, b.out⟩
    · by_cases k2 : k = 2
      · subst k2
        go_enter Tryd.func14, Tryd.ntmps14
        go_wp2_with fail
        refine (KN.out _).mono ?_
        rintro _ _ ⟨rfl, rfl⟩
        go_wp2
        go_ret
        exact ⟨rfl, b.out⟩
      · by_cases k28 : k = 28
        · subst k28
          go_enter Tryd.func14, Tryd.ntmps14
          go_wp2_with fail
          refine (KN.out _).mono ?_
          rintro _ _ ⟨rfl, rfl⟩
          go_wp2
          go_ret
          exact ⟨rfl, b.out⟩
        · have g0 : (k != 0) = true := by simp [k0]
          have g2 : (k != 2) = true := by simp [k2]
          have g28 : (k != 28) = true := by simp [k28]
          have e : (decide (k ≠ 0) && decide (k ≠ 2) && decide (k ≠ 28)) = true := by simp [k0, k2, k28]
          rw [e]
          clear e
          go_enter Tryd.func14, Tryd.ntmps14
          go_wp2_with fail
          refine (KN.out _).mono ?_
          rintro _ _ ⟨rfl, rfl⟩
          go_wp2
          go_ret
          exact ⟨rfl, b.out⟩
theorem fsame_take {l m : List Fr} (hl : l.length = m.length) (k : Nat) (hk : k < l.length) (h : l.take k = m.take k) (he : l.getD k fr0 = m.getD k fr0) : l.take (k + 1) = m.take (k + 1) := by
  rw [List.take_succ_eq_append_getElem hk, List.take_succ_eq_append_getElem (by omega), h]
  simp [List.getD, List.getElem?_eq_getElem hk, List.getElem?_eq_getElem (show k < m.length by omega)] at he
  rw [he]
set_option maxHeartbeats 8000000 in
theorem rsameAll_ok {w : World} {u v : Value} {l m : List Fr} (hu : FrsAt w u l) (hv : FrsAt w v m) (hl : l.length < 9223372036854775807) (hm : m.length < 9223372036854775807) (bl : ∀ f ∈ l, f.rg.length < 9223372036854775807) (bm : ∀ f ∈ m, f.rg.length < 9223372036854775807) :
    Calls Tryd.prog 18 #[u, v] w fun e w' => e = .returned (.bool (eqFs l m)) ∧ Below w.heap.size w w' := by
  obtain ⟨a, cap, rfl, hc⟩ := hu
  obtain ⟨b, cap2, rfl, hd⟩ := hv
  by_cases hlen : l.length = m.length
  · obtain ⟨M, hM⟩ : ∃ M, M = l.length := ⟨_, rfl⟩
    rw [← hlen, ← hM]
    rw [← hM] at hl
    rcases hc with rfl | ⟨g, o, rfl, hc⟩
    · have em : m = [] := List.eq_nil_of_length_eq_zero (by simpa using hlen.symm)
      subst em
      have e : eqFs [] [] = true := rfl
      rw [e]
      obtain rfl : M = 0 := hM
      clear hd hlen hl hm e bl bm
      go_enter Tryd.func18, Tryd.ntmps18
      go_wp2
      go_rounds 1
      go_ret
      exact ⟨rfl, Below.refl _ _⟩
    · rcases hd with rfl | ⟨g2, o2, rfl, hd⟩
      · have el : l = [] := List.eq_nil_of_length_eq_zero (by simpa using hlen)
        subst el
        have e : eqFs [] [] = true := rfl
        rw [e]
        obtain rfl : M = 0 := hM
        clear hc hlen hl hm e bl bm
        go_enter Tryd.func18, Tryd.ntmps18
        go_wp2
        go_rounds 1
        go_ret
        exact ⟨rfl, Below.refl _ _⟩
      · replace hc : Hid _ := hc
        replace hd : Hid _ := hd
        obtain ⟨A, hA⟩ : ∃ A, A = eqFs l m := ⟨_, rfl⟩
        rw [← hA]
        replace hA : Hid _ := hA
        replace hM : Hid _ := hM
        replace hlen : Hid _ := hlen
        replace bl : Hid _ := bl
        replace bm : Hid _ := bm
        clear hm
        go_enter Tryd.func18, Tryd.ntmps18
        go_wp2
        go_loopg [5] M (fun g iv wr => ∃ k : Nat, k + g = M ∧ iv = .int .i64 k ∧ Hid (l.take k = m.take k) ∧ Hid (Below w.heap.size w wr))
        case atStart => exact ⟨0, by omega, rfl, by unfold Hid; rfl, Below.refl _ _⟩
        case round =>
          obtain ⟨k, hk, rfl, heq, bel⟩ := hrel
          by_cases hlt : k < M
          · have g1 : decide ((k : Int) < (M : Int)) = true := decide_eq_true (by omega)
            have hkl : k < l.length := by have := hM.out; omega
            have hkm : k < m.length := by have := hlen.out; omega
            have F1 := (hc.out k hkl).keep bel.out
            have F2 := (hd.out k hkm).keep bel.out
            have ia := fun w' => at_frs g o M cap k w' hlt (k : Int) rfl (o + 7 * k) rfl
            have ib := fun w' => at_frs g2 o2 M cap2 k w' hlt (k : Int) rfl (o2 + 7 * k) rfl
            have hst := fsame_take hlen.out k hkl heq.out
            have hne : l.getD k fr0 ≠ m.getD k fr0 → A = false := fun q => by
              rw [hA.out]
              exact eqFs_false fun e => q (by rw [e])
            have m1 := bl.out (l.getD k fr0) (by simp [List.getD, List.getElem?_eq_getElem hkl])
            have m2 := bm.out (m.getD k fr0) (by simp [List.getD, List.getElem?_eq_getElem hkm])
            generalize l.getD k fr0 = f at *
            generalize m.getD k fr0 = f2 at *
            obtain ⟨d, sl, cp, d1, d2, d3⟩ := F1
            obtain ⟨d', sl', cp', e1, e2, e3⟩ := F2
            have SM : Hid (Calls Tryd.prog 27 #[frV f d (.slice sl f.rg.length cp), frV f2 d' (.slice sl' f2.rg.length cp')] wr.drew fun e w' => e = .returned (.bool (eqF f f2)) ∧ Below wr.drew.heap.size wr.drew w') :=
              rsameF_ok (w := wr.drew) ⟨d, sl, cp, rfl, d1, d2⟩ ⟨d', sl', cp', rfl, e1, e2⟩ m1 m2
            have hS0 : Hid (True ∧ ∀ w', Below wr.heap.size wr w' → C7 w' g (o + 7 * k) f d (.slice sl f.rg.length cp) ∧ C7 w' g2 (o2 + 7 * k) f2 d' (.slice sl' f2.rg.length cp')) := ⟨trivial, fun w' b => ⟨d3.keep b, e3.keep b⟩⟩
            clear d1 d2 e1 e2 d3 e3 m1 m2 hkl hkm
            generalize Value.slice sl f.rg.length cp = sv at *
            generalize Value.slice sl' f2.rg.length cp' = sv2 at *
            obtain ⟨d2, hd2⟩ : ∃ d2, d2 = d' := ⟨_, rfl⟩
            subst hd2
            replace hst : Hid _ := hst
            replace hne : Hid _ := hne
            by_cases qf : f = f2
            · rw [eqF_true qf] at SM
              have h2 : Hid (l.take (k + 1) = m.take (k + 1)) := hst.out qf
              clear hst hne qf
              go_wp2_with fail
              refine wp_region_held (S := fun w' => C7 w' g (o + 7 * k) f d sv ∧ C7 w' g2 (o2 + 7 * k) f2 d2 sv2) (by kernel_rfl) ?_
              change wpAnyH _ .any _ _ _ 10 (Array.replicate 10 false) _ wr.drew
              have hS : (fun w' => C7 w' g (o + 7 * k) f d sv ∧ C7 w' g2 (o2 + 7 * k) f2 d2 sv2) wr.drew := hS0.out.2 wr.drew (drewB _ _)
              refine obTakeH (i := 0) (d := 17) (v := .slice (some ⟨g, o, none⟩) M cap) rfl rfl (by kernel_rfl) (by kernel_rfl) (by kernel_rfl) (fun _ _ _ h => h) rfl (fun w hS => by obtain ⟨⟨s0, s1, s2, s3, s4, s5, s6⟩, ⟨t0, t1, t2, t3, t4, t5, t6⟩⟩ := hS; go_simp) hS ?_
              refine obTakeH (i := 1) (d := 18) (v := .int .i64 (k : Int)) rfl rfl (by kernel_rfl) (by kernel_rfl) (by kernel_rfl) (fun _ _ _ h => h) rfl (fun w hS => by obtain ⟨⟨s0, s1, s2, s3, s4, s5, s6⟩, ⟨t0, t1, t2, t3, t4, t5, t6⟩⟩ := hS; go_simp) hS ?_
              refine obTakeH (i := 2) (d := 19) (v := .pointer (some ⟨g, o + 7 * k, none⟩)) rfl rfl (by kernel_rfl) (by kernel_rfl) (by kernel_rfl) (fun _ _ _ h => h) rfl (fun w hS => by obtain ⟨⟨s0, s1, s2, s3, s4, s5, s6⟩, ⟨t0, t1, t2, t3, t4, t5, t6⟩⟩ := hS; go_simp) hS ?_
              refine obTakeH (i := 3) (d := 20) (v := frV f d sv) rfl rfl (by kernel_rfl) (by kernel_rfl) (by kernel_rfl) (fun _ _ _ h => h) rfl (fun w hS => by obtain ⟨⟨s0, s1, s2, s3, s4, s5, s6⟩, ⟨t0, t1, t2, t3, t4, t5, t6⟩⟩ := hS; go_simp; rfl) hS ?_
              refine obTakeH (i := 4) (d := 21) (v := .slice (some ⟨g2, o2, none⟩) M cap2) rfl rfl (by kernel_rfl) (by kernel_rfl) (by kernel_rfl) (fun _ _ _ h => h) rfl (fun w hS => by obtain ⟨⟨s0, s1, s2, s3, s4, s5, s6⟩, ⟨t0, t1, t2, t3, t4, t5, t6⟩⟩ := hS; go_simp) hS ?_
              refine obTakeH (i := 5) (d := 22) (v := .int .i64 (k : Int)) rfl rfl (by kernel_rfl) (by kernel_rfl) (by kernel_rfl) (fun _ _ _ h => h) rfl (fun w hS => by obtain ⟨⟨s0, s1, s2, s3, s4, s5, s6⟩, ⟨t0, t1, t2, t3, t4, t5, t6⟩⟩ := hS; go_simp) hS ?_
              refine obTakeH (i := 6) (d := 23) (v := .pointer (some ⟨g2, o2 + 7 * k, none⟩)) rfl rfl (by kernel_rfl) (by kernel_rfl) (by kernel_rfl) (fun _ _ _ h => h) rfl (fun w hS => by obtain ⟨⟨s0, s1, s2, s3, s4, s5, s6⟩, ⟨t0, t1, t2, t3, t4, t5, t6⟩⟩ := hS; go_simp) hS ?_
              refine obTakeH (i := 7) (d := 24) (v := frV f2 d2 sv2) rfl rfl (by kernel_rfl) (by kernel_rfl) (by kernel_rfl) (fun _ _ _ h => h) rfl (fun w hS => by obtain ⟨⟨s0, s1, s2, s3, s4, s5, s6⟩, ⟨t0, t1, t2, t3, t4, t5, t6⟩⟩ := hS; go_simp; rfl) hS ?_
              simp only [Act.put, List.setIfInBounds_toArray, List.set_cons_succ, List.set_cons_zero]
              clear ia ib
              refine wpAnyH_all (rs := [8]) (by kernel_rfl) (by simp) (fun i hi => ?_)
              obtain rfl : i = 8 := by simpa using hi
              refine wpOp_step rfl (fun K' hK => ?_)
              clear hi
              simp only [Region.wanted]
              refine obCall2 27 _ (k1 := 20) (k2 := 24) (d := 25) rfl rfl _ _ _ _ (fun w => by simp [go_sem]) rfl rfl SM.out ?_
              rintro e w1 ⟨rfl, b1⟩
              have b2 := (drewB wr.heap.size wr).trans b1
              refine ⟨_, rfl, hK _ _ ⟨hS0.out.2 w1 b2, ?_⟩⟩
              clear hK K'
              have bel2 : Hid (Below w.heap.size w w1) := bel.out.trans (b2.mono bel.out.size)
              refine wpAnyH_all (rs := [9]) (by kernel_rfl) (by simp) (fun i hi => ?_)
              obtain rfl : i = 9 := by simpa using hi
              refine wpOp_step rfl (fun K' hK => ?_)
              clear hi
              go_simp
              refine hK _ _ ⟨hS0.out.2 w1 b2, ?_⟩
              clear hK K' hS SM b1
              replace b2 : Hid _ := b2
              refine wpAnyH_done (by kernel_rfl) ?_ 0
              clear hS0
              go_wp2
              go_roundg (M - (k + 1))
              case measure => omega
              case rel => exact ⟨k + 1, by omega, by go_num, h2, bel2⟩
            · rw [eqF_false qf] at SM
              have eA : A = false := hne.out qf
              subst eA
              clear hst hne hA qf
              go_wp2_with fail
              refine wp_region_held (S := fun w' => C7 w' g (o + 7 * k) f d sv ∧ C7 w' g2 (o2 + 7 * k) f2 d2 sv2) (by kernel_rfl) ?_
              change wpAnyH _ .any _ _ _ 10 (Array.replicate 10 false) _ wr.drew
              have hS : (fun w' => C7 w' g (o + 7 * k) f d sv ∧ C7 w' g2 (o2 + 7 * k) f2 d2 sv2) wr.drew := hS0.out.2 wr.drew (drewB _ _)
              refine obTakeH (i := 0) (d := 17) (v := .slice (some ⟨g, o, none⟩) M cap) rfl rfl (by kernel_rfl) (by kernel_rfl) (by kernel_rfl) (fun _ _ _ h => h) rfl (fun w hS => by obtain ⟨⟨s0, s1, s2, s3, s4, s5, s6⟩, ⟨t0, t1, t2, t3, t4, t5, t6⟩⟩ := hS; go_simp) hS ?_
              refine obTakeH (i := 1) (d := 18) (v := .int .i64 (k : Int)) rfl rfl (by kernel_rfl) (by kernel_rfl) (by kernel_rfl) (fun _ _ _ h => h) rfl (fun w hS => by obtain ⟨⟨s0, s1, s2, s3, s4, s5, s6⟩, ⟨t0, t1, t2, t3, t4, t5, t6⟩⟩ := hS; go_simp) hS ?_
              refine obTakeH (i := 2) (d := 19) (v := .pointer (some ⟨g, o + 7 * k, none⟩)) rfl rfl (by kernel_rfl) (by kernel_rfl) (by kernel_rfl) (fun _ _ _ h => h) rfl (fun w hS => by obtain ⟨⟨s0, s1, s2, s3, s4, s5, s6⟩, ⟨t0, t1, t2, t3, t4, t5, t6⟩⟩ := hS; go_simp) hS ?_
              refine obTakeH (i := 3) (d := 20) (v := frV f d sv) rfl rfl (by kernel_rfl) (by kernel_rfl) (by kernel_rfl) (fun _ _ _ h => h) rfl (fun w hS => by obtain ⟨⟨s0, s1, s2, s3, s4, s5, s6⟩, ⟨t0, t1, t2, t3, t4, t5, t6⟩⟩ := hS; go_simp; rfl) hS ?_
              refine obTakeH (i := 4) (d := 21) (v := .slice (some ⟨g2, o2, none⟩) M cap2) rfl rfl (by kernel_rfl) (by kernel_rfl) (by kernel_rfl) (fun _ _ _ h => h) rfl (fun w hS => by obtain ⟨⟨s0, s1, s2, s3, s4, s5, s6⟩, ⟨t0, t1, t2, t3, t4, t5, t6⟩⟩ := hS; go_simp) hS ?_
              refine obTakeH (i := 5) (d := 22) (v := .int .i64 (k : Int)) rfl rfl (by kernel_rfl) (by kernel_rfl) (by kernel_rfl) (fun _ _ _ h => h) rfl (fun w hS => by obtain ⟨⟨s0, s1, s2, s3, s4, s5, s6⟩, ⟨t0, t1, t2, t3, t4, t5, t6⟩⟩ := hS; go_simp) hS ?_
              refine obTakeH (i := 6) (d := 23) (v := .pointer (some ⟨g2, o2 + 7 * k, none⟩)) rfl rfl (by kernel_rfl) (by kernel_rfl) (by kernel_rfl) (fun _ _ _ h => h) rfl (fun w hS => by obtain ⟨⟨s0, s1, s2, s3, s4, s5, s6⟩, ⟨t0, t1, t2, t3, t4, t5, t6⟩⟩ := hS; go_simp) hS ?_
              refine obTakeH (i := 7) (d := 24) (v := frV f2 d2 sv2) rfl rfl (by kernel_rfl) (by kernel_rfl) (by kernel_rfl) (fun _ _ _ h => h) rfl (fun w hS => by obtain ⟨⟨s0, s1, s2, s3, s4, s5, s6⟩, ⟨t0, t1, t2, t3, t4, t5, t6⟩⟩ := hS; go_simp; rfl) hS ?_
              simp only [Act.put, List.setIfInBounds_toArray, List.set_cons_succ, List.set_cons_zero]
              clear ia ib
              refine wpAnyH_all (rs := [8]) (by kernel_rfl) (by simp) (fun i hi => ?_)
              obtain rfl : i = 8 := by simpa using hi
              refine wpOp_step rfl (fun K' hK => ?_)
              clear hi
              simp only [Region.wanted]
              refine obCall2 27 _ (k1 := 20) (k2 := 24) (d := 25) rfl rfl _ _ _ _ (fun w => by simp [go_sem]) rfl rfl SM.out ?_
              rintro e w1 ⟨rfl, b1⟩
              have b2 := (drewB wr.heap.size wr).trans b1
              refine ⟨_, rfl, hK _ _ ⟨hS0.out.2 w1 b2, ?_⟩⟩
              clear hK K'
              have bel2 : Hid (Below w.heap.size w w1) := bel.out.trans (b2.mono bel.out.size)
              refine wpAnyH_all (rs := [9]) (by kernel_rfl) (by simp) (fun i hi => ?_)
              obtain rfl : i = 9 := by simpa using hi
              refine wpOp_step rfl (fun K' hK => ?_)
              clear hi
              go_simp
              refine hK _ _ ⟨hS0.out.2 w1 b2, ?_⟩
              clear hK K' hS SM b1
              replace b2 : Hid _ := b2
              refine wpAnyH_done (by kernel_rfl) ?_ 0
              clear hS0
              go_wp2
              go_ret
              exact ⟨rfl, bel2.out⟩
          · have g1 : decide ((k : Int) < (M : Int)) = false := decide_eq_false (by omega)
            obtain rfl : k = M := by omega
            have eA : A = true := by
              rw [hA.out]
              refine eqFs_true ?_
              have := heq.out
              rw [hM.out, List.take_length, hlen.out, List.take_length] at this
              exact this
            subst eA
            clear hA heq hc hd
            go_wp2
            go_ret
            exact ⟨rfl, bel.out⟩
  · have e : eqFs l m = false := eqFs_false fun e => hlen (by rw [e])
    rw [e]
    have g1 : ((l.length : Int) != (m.length : Int)) = true := by simp; omega
    clear hc hd e bl bm
    go_enter Tryd.func18, Tryd.ntmps18
    go_wp2
    go_ret
    exact ⟨rfl, Below.refl _ _⟩
end Go.Proofs.YtmngpkkpkjnejaaDoor
