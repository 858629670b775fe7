/-
  The law InboxDoes returns true for every row of acts, by what is asked of the program's calls (InFace). No other condition.
-/
import Derived.Test.YtpendchkalagnaaInOpen
import Derived.Deep.Cut
namespace Go.Proofs.Ytpendchkalagnaa
set_option maxRecDepth 100000
open Go.RowKit Go.Sort
theorem at_iops (B o N cap i : Nat) (w : World) (h : i < N) (z : Int) (hz : z = i) (p : Nat) (hp : p = o + 5 * i) :
    (Instr.indexAt 22 (.slice (some ⟨B, o, none⟩) N cap) (.int .i64 z)).run Try.prog w = .ok (.pointer (some ⟨B, p, none⟩)) w := by
  subst hz hp
  have e : Try.prog.elem 22 = 28 := by kernel_rfl
  rw [run_indexAt_slice (P := Try.prog) w 22 ⟨B, o, none⟩ N cap .i64 i (by rw [e]; exact Try.underlying22), if_pos (by omega), e]
  have s : (sizeOf 28).run Try.prog w = .ok 5 w := Try.sizeOf28 w
  rw [s]
  simp [Addr.add_mid, Nat.mul_comm]
theorem obCallQ (f : FuncId) (o : Oper) {k1 k2 k3 k4 d : Nat} {tys : Array TypeId} {x1 x2 x3 x4 : Value} {R : Ending → World → Prop} (ho : o.op = .call { callee := .value (.func f), args := #[.tmp k1, .tmp k2, .tmp k3, .tmp k4], argTypes := tys }) (hd : o.dst = some d) (a : Act) (w : World) (K : Act → World → Prop) (Q : Exit → Act → World → Prop)
    (hcf : ∀ w, (callFunc f #[x1, x2, x3, x4]).run Try.prog w = .ok (.enter f #[x1, x2, x3, x4]) w) (h1 : a.eval (.tmp k1) = x1) (h2 : a.eval (.tmp k2) = x2) (h3 : a.eval (.tmp k3) = x3) (h4 : a.eval (.tmp k4) = x4) (C : Calls Try.prog f #[x1, x2, x3, x4] w R) (hK : ∀ e w', R e w' → ∃ v, e = .returned v ∧ K (a.put (some d) v) w') : o.wp Try.prog a w K Q := by
  unfold Oper.wp
  have hr : (execOp a.eval o).run Try.prog w = .ok (.enter f #[x1, x2, x3, x4]) w := by
    unfold execOp
    rw [ho]
    simp only [go_sem] at h1 h2 h3 h4 ⊢
    simp [go_sem, h1, h2, h3, h4, hcf]
  rw [hr]
  exact C.mono fun e w' h => by
    obtain ⟨v, rfl, hk⟩ := hK e w' h
    rw [hd]
    exact hk
theorem enter_put (x y z u : Value) (w : World) : (callFunc 9 #[x, y, z, u]).run Try.prog w = .ok (.enter 9 #[x, y, z, u]) w := by simp [go_sem]
theorem enter_rput (x y z u : Value) (w : World) : (callFunc 10 #[x, y, z, u]).run Try.prog w = .ok (.enter 10 #[x, y, z, u]) w := by simp [go_sem]
theorem enter_reset (x y : Value) (w : World) : (callFunc 11 #[x, y]).run Try.prog w = .ok (.enter 11 #[x, y]) w := by simp [go_sem]
theorem enter_rend (x y : Value) (w : World) : (callFunc 12 #[x, y]).run Try.prog w = .ok (.enter 12 #[x, y]) w := by simp [go_sem]
theorem enter_read (x y : Value) (w : World) : (callFunc 13 #[x, y]).run Try.prog w = .ok (.enter 13 #[x, y]) w := by simp [go_sem]
theorem enter_rtake (x y : Value) (w : World) : (callFunc 14 #[x, y]).run Try.prog w = .ok (.enter 14 #[x, y]) w := by simp [go_sem]
theorem Lies.asIs {w w' : World} {g : Nat} {vs : List Value} (h : Lies w g vs) (s : SameX (fun k => k = g) w w') : Lies w' g vs := h.of_block (s g rfl)
/-- How far a stream has come by so many acts. -/
def Far (d : Bx) (i : Nat) : Prop := d.rd ≤ 4096 * i ∧ d.cnt ≤ 6000 * i
set_option maxHeartbeats 16000000 in
theorem does_some {LS : BSt} (fc : InFace LS) (f : Nat → IOp) (b off m cap M : Nat) (w : World) (hb : b < w.heap.size) (hm : m ≤ 9223372036854775807) (hM : (M = m ∧ m ≤ 100) ∨ (M = 100 ∧ 100 < m)) (hz : ∀ i, i < m → IOpB (f i))
    (hc : ∀ i, i < m → ∀ j, j < 5 → w.cell? ⟨b, off + 5 * i + j, none⟩ = (f i).cells[j]?) :
    Calls Try.prog 3 #[.slice (some ⟨b, off, none⟩) m cap] w fun e w' => e = .returned (.bool true) ∧ Below w.heap.size w w' := by
  have hMn : M ≤ m ∧ M ≤ 100 := by omega
  replace hc : Hid _ := hc
  replace hz : Hid _ := hz
  have NP : Hid (∀ w', Below w.heap.size w w' → _) := fun w' b => pi_new fc w w' b
  have NR : Hid (∀ w' B F d, PI LS w w' B F d → _) := fun w' B F d h => ki_new fc (w0 := w) (w := w') (B := B) (F := F) (d := d) h
  go_enter Try.func3, Try.ntmps3
  go_wp2_with fail
  refine (NP.out _ (Below.refl _ _)).mono ?_
  rintro e w1 ⟨B, F0, rfl, n1, -⟩
  have N1 : Hid (PI LS w w1 B F0 bx0) := n1
  clear n1 NP
  go_wp2_with fail
  refine (NR.out _ _ _ _ N1.out).mono ?_
  rintro e w2 ⟨R, m2, rfl, n2⟩
  have N2 : Hid (KI LS (fun _ => False) w w2 B F0 bx0 R m2 bx0) := n2
  clear n2 N1 NR
  go_wp2_with fail
  go_loopg [5] M (fun g iv wr => ∃ (i : Nat) (F : Nat → Prop) (d : Bx), i + g = M ∧ iv = .int .i64 i ∧ Hid (Far d i) ∧ Hid (KI LS (fun _ => False) w wr B F d R m2 d))
  case atStart => exact ⟨0, F0, bx0, by omega, rfl, ⟨by decide, by decide⟩, N2⟩
  case round =>
    clear N2
    obtain ⟨i, F, d, hi, rfl, hdl, N⟩ := hrel
    by_cases hlt : i < M
    · have q1 : decide (i < m) = true := decide_eq_true (by omega)
      have q2 : decide ((i : Int) < 100) = true := decide_eq_true (by omega)
      have q3 : decide (i < 100) = true := decide_eq_true (by omega)
      have ia := fun w' => at_iops b off m cap i w' (by omega) (i : Int) rfl (off + 5 * i) rfl
      have c0 := (N.out.p.bel.cell (p := ⟨b, off + 5 * i, none⟩) hb).trans (hc.out i (by omega) 0 (by omega))
      have c1 := (N.out.p.bel.cell (p := ⟨b, off + 5 * i + 1, none⟩) hb).trans (hc.out i (by omega) 1 (by omega))
      have c2 := (N.out.p.bel.cell (p := ⟨b, off + 5 * i + 2, none⟩) hb).trans (hc.out i (by omega) 2 (by omega))
      have c3 := (N.out.p.bel.cell (p := ⟨b, off + 5 * i + 3, none⟩) hb).trans (hc.out i (by omega) 3 (by omega))
      have c4 := (N.out.p.bel.cell (p := ⟨b, off + 5 * i + 4, none⟩) hb).trans (hc.out i (by omega) 4 (by omega))
      simp [IOp.cells] at c0 c1 c2 c3 c4
      go_upto_region 8 with fail
      have B0 : Below wr.heap.size wr (wr.alloc (.cells #[.int .i64 (f i).kind, .int .i64 (f i).off, .string (f i).data, .bool (f i).fin, .int .i64 (f i).n] 28)) := (Below.refl _ _).alloc (Nat.le_refl _) _
      have NX : Hid (KI LS (fun k => k = wr.heap.size) w (wr.alloc (.cells #[.int .i64 (f i).kind, .int .i64 (f i).off, .string (f i).data, .bool (f i).fin, .int .i64 (f i).n] 28)) B F d R m2 d) := N.out.fresh fc B0 _ ⟨Nat.le_refl _, by simp⟩
      have LX : Hid (Lies (wr.alloc (.cells #[.int .i64 (f i).kind, .int .i64 (f i).off, .string (f i).data, .bool (f i).fin, .int .i64 (f i).n] 28)) wr.heap.size (f i).cells) := Lies.new wr _ _
      clear B0 N c0 c1 c2 c3 c4 ia q1 q2 q3
      generalize wr.alloc (.cells #[.int .i64 (f i).kind, .int .i64 (f i).off, .string (f i).data, .bool (f i).fin, .int .i64 (f i).n] 28) = wa at *
      generalize wr.heap.size = g at *
      have hzi := Lib.hid (hz.out i (by omega))
      clear hz hc
      generalize f i = op at *
      have dl := hdl.out
      unfold Far at dl
      have e0 := LX.out.cell 0 (v := .int .i64 op.kind) rfl
      have e2 := LX.out.cell 2 (v := .string op.data) rfl
      have hds := hzi.out.data
      by_cases hbig : 6000 < op.data.size
      · have z1 : decide ((6000 : Int) < (op.data.size : Int)) = true := decide_eq_true (by omega)
        have z2 : decide (6000 < op.data.size) = true := decide_eq_true hbig
        have bel := Lib.hid NX.out.p.bel
        clear NX LX e0
        go_wp2_with fail
        go_ret
        exact ⟨rfl, bel.out⟩
      · have z1 : decide ((6000 : Int) < (op.data.size : Int)) = false := decide_eq_false (by omega)
        have z2 : decide (6000 < op.data.size) = false := decide_eq_false hbig
        by_cases hk0 : op.kind = 0
        · rw [hk0] at e0
          have AS : Hid (∀ w', KI LS (fun k => k = g) w w' B F d R m2 d → _) := fun w' h => ki_put fc op.off op.data op.fin h hzi.out.off (by omega) (by omega)
          have RS : Hid (∀ w' F', KI LS (fun k => k = g) w w' B F' (putB d op.off op.data op.fin) R m2 d → _) := fun w' F' h => ki_rput fc op.off op.data op.fin h (by omega) (by omega)
          go_wp2_with fail
          clear e0 e2
          refine wp_region_held (S := fun w' => w'.cell? ⟨g, 1, none⟩ = some (.int .i64 op.off) ∧ w'.cell? ⟨g, 2, none⟩ = some (.string op.data) ∧ w'.cell? ⟨g, 3, none⟩ = some (.bool op.fin)) (by kernel_rfl) ?_
          change wpAnyH _ .any _ _ _ 17 (Array.replicate 17 false) _ wa.drew
          have N1 : Hid (KI LS (fun k => k = g) w wa.drew B F d R m2 d) := NX.out.keep fc (drewB _ _)
          have L1 : Hid (Lies wa.drew g op.cells) := LX.out.of_block ((drewB wa.heap.size wa).block g (NX.out.nX g rfl).2.2.2)
          have hS : wa.drew.cell? ⟨g, 1, none⟩ = some (.int .i64 op.off) ∧ wa.drew.cell? ⟨g, 2, none⟩ = some (.string op.data) ∧ wa.drew.cell? ⟨g, 3, none⟩ = some (.bool op.fin) := ⟨L1.out.cell 1 (v := .int .i64 op.off) rfl, L1.out.cell 2 (v := .string op.data) rfl, L1.out.cell 3 (v := .bool op.fin) rfl⟩
          clear NX LX
          refine obTakeH (i := 0) (d := 36) (v := ptr B) rfl rfl (by kernel_rfl) (by kernel_rfl) (by kernel_rfl) (fun _ _ _ h => h) rfl (fun w hS => by obtain ⟨s1, s2, s3⟩ := hS; go_simp) hS ?_
          refine obTakeH (i := 1) (d := 37) (v := .pointer (some ⟨g, 1, none⟩)) rfl rfl (by kernel_rfl) (by kernel_rfl) (by kernel_rfl) (fun _ _ _ h => h) rfl (fun w hS => by obtain ⟨s1, s2, s3⟩ := hS; go_simp) hS ?_
          refine obTakeH (i := 2) (d := 38) (v := .int .i64 op.off) rfl rfl (by kernel_rfl) (by kernel_rfl) (by kernel_rfl) (fun _ _ _ h => h) rfl (fun w hS => by obtain ⟨s1, s2, s3⟩ := hS; go_simp) hS ?_
          refine obTakeH (i := 3) (d := 39) (v := .pointer (some ⟨g, 2, none⟩)) rfl rfl (by kernel_rfl) (by kernel_rfl) (by kernel_rfl) (fun _ _ _ h => h) rfl (fun w hS => by obtain ⟨s1, s2, s3⟩ := hS; go_simp) hS ?_
          refine obTakeH (i := 4) (d := 40) (v := .string op.data) rfl rfl (by kernel_rfl) (by kernel_rfl) (by kernel_rfl) (fun _ _ _ h => h) rfl (fun w hS => by obtain ⟨s1, s2, s3⟩ := hS; go_simp) hS ?_
          refine obTakeH (i := 5) (d := 41) (v := .pointer (some ⟨g, 3, none⟩)) rfl rfl (by kernel_rfl) (by kernel_rfl) (by kernel_rfl) (fun _ _ _ h => h) rfl (fun w hS => by obtain ⟨s1, s2, s3⟩ := hS; go_simp) hS ?_
          refine obTakeH (i := 6) (d := 42) (v := .bool op.fin) rfl rfl (by kernel_rfl) (by kernel_rfl) (by kernel_rfl) (fun _ _ _ h => h) rfl (fun w hS => by obtain ⟨s1, s2, s3⟩ := hS; go_simp) hS ?_
          refine obTakeH (i := 8) (d := 44) (v := ptr R) rfl rfl (by kernel_rfl) (by kernel_rfl) (by kernel_rfl) (fun _ _ _ h => h) rfl (fun w hS => by obtain ⟨s1, s2, s3⟩ := hS; go_simp) hS ?_
          refine obTakeH (i := 9) (d := 45) (v := .pointer (some ⟨g, 1, none⟩)) rfl rfl (by kernel_rfl) (by kernel_rfl) (by kernel_rfl) (fun _ _ _ h => h) rfl (fun w hS => by obtain ⟨s1, s2, s3⟩ := hS; go_simp) hS ?_
          refine obTakeH (i := 10) (d := 46) (v := .int .i64 op.off) rfl rfl (by kernel_rfl) (by kernel_rfl) (by kernel_rfl) (fun _ _ _ h => h) rfl (fun w hS => by obtain ⟨s1, s2, s3⟩ := hS; go_simp) hS ?_
          refine obTakeH (i := 11) (d := 47) (v := .pointer (some ⟨g, 2, none⟩)) rfl rfl (by kernel_rfl) (by kernel_rfl) (by kernel_rfl) (fun _ _ _ h => h) rfl (fun w hS => by obtain ⟨s1, s2, s3⟩ := hS; go_simp) hS ?_
          refine obTakeH (i := 12) (d := 48) (v := .string op.data) rfl rfl (by kernel_rfl) (by kernel_rfl) (by kernel_rfl) (fun _ _ _ h => h) rfl (fun w hS => by obtain ⟨s1, s2, s3⟩ := hS; go_simp) hS ?_
          refine obTakeH (i := 13) (d := 49) (v := .pointer (some ⟨g, 3, none⟩)) rfl rfl (by kernel_rfl) (by kernel_rfl) (by kernel_rfl) (fun _ _ _ h => h) rfl (fun w hS => by obtain ⟨s1, s2, s3⟩ := hS; go_simp) hS ?_
          refine obTakeH (i := 14) (d := 50) (v := .bool op.fin) rfl rfl (by kernel_rfl) (by kernel_rfl) (by kernel_rfl) (fun _ _ _ h => h) rfl (fun w hS => by obtain ⟨s1, s2, s3⟩ := hS; go_simp) hS ?_
          simp only [Act.put, List.setIfInBounds_toArray, List.set_cons_succ, List.set_cons_zero]
          refine wpAnyH_all (rs := [7]) (by kernel_rfl) (by simp) (fun j hj => ?_)
          obtain rfl : j = 7 := by simpa using hj
          refine wpOp_step rfl (fun K' hK => ?_)
          clear hj
          refine obCallQ (k1 := 36) (k2 := 38) (k3 := 40) (k4 := 42) (d := 43) (x1 := ptr B) (x2 := .int .i64 op.off) (x3 := .string op.data) (x4 := .bool op.fin) 9 _ rfl rfl _ _ _ _ (enter_put _ _ _ _) rfl rfl rfl rfl (AS.out _ N1.out) (fun e w2 hR => ?_)
          obtain ⟨rfl, F2, n2, s2⟩ := hR
          have L2 : Hid (Lies w2 g op.cells) := L1.out.asIs s2
          have N2 := Lib.hid n2
          refine ⟨_, rfl, hK _ _ ⟨⟨L2.out.cell 1 (v := .int .i64 op.off) rfl, L2.out.cell 2 (v := .string op.data) rfl, L2.out.cell 3 (v := .bool op.fin) rfl⟩, ?_⟩⟩
          clear hK K' n2 N1 AS hS L1 s2
          simp only [Act.put, List.setIfInBounds_toArray, List.set_cons_succ, List.set_cons_zero]
          refine wpAnyH_all (rs := [15]) (by kernel_rfl) (by simp) (fun j hj => ?_)
          obtain rfl : j = 15 := by simpa using hj
          refine wpOp_step rfl (fun K' hK => ?_)
          clear hj
          refine obCallQ (k1 := 44) (k2 := 46) (k3 := 48) (k4 := 50) (d := 51) (x1 := ptr R) (x2 := .int .i64 op.off) (x3 := .string op.data) (x4 := .bool op.fin) 10 _ rfl rfl _ _ _ _ (enter_rput _ _ _ _) rfl rfl rfl rfl (RS.out _ _ N2.out) (fun e w3 hR => ?_)
          obtain ⟨rfl, n3, s3⟩ := hR
          have L3 : Hid (Lies w3 g op.cells) := L2.out.asIs s3
          have N3 : Hid (KI LS (fun k => k = g) w w3 B F2 (putB d op.off op.data op.fin) R m2 (putB d op.off op.data op.fin)) := n3
          refine ⟨_, rfl, hK _ _ ⟨⟨L3.out.cell 1 (v := .int .i64 op.off) rfl, L3.out.cell 2 (v := .string op.data) rfl, L3.out.cell 3 (v := .bool op.fin) rfl⟩, ?_⟩⟩
          clear hK K' n3 N2 RS L2 s3
          have hS : w3.cell? ⟨g, 1, none⟩ = some (.int .i64 op.off) ∧ w3.cell? ⟨g, 2, none⟩ = some (.string op.data) ∧ w3.cell? ⟨g, 3, none⟩ = some (.bool op.fin) := ⟨L3.out.cell 1 (v := .int .i64 op.off) rfl, L3.out.cell 2 (v := .string op.data) rfl, L3.out.cell 3 (v := .bool op.fin) rfl⟩
          simp only [Act.put, List.setIfInBounds_toArray, List.set_cons_succ, List.set_cons_zero]
          have gE : (putE d op.off op.data.size op.fin != putE d op.off op.data.size op.fin) = false := by simp
          refine wpAnyH_all (rs := [16]) (by kernel_rfl) (by simp) (fun j hj => ?_)
          obtain rfl : j = 16 := by simpa using hj
          refine wpOp_step rfl (fun K' hK => ?_)
          clear hj
          go_simp
          refine hK _ _ ⟨hS, ?_⟩
          clear hK K' hS
          refine wpAnyH_done (by kernel_rfl) ?_ 0
          clear gE L3
          have hl2 : Hid (Far (putB d op.off op.data op.fin) (i + 1)) := by
            obtain ⟨h1, h2⟩ := put_rd d op.off op.data op.fin
            unfold Hid Far
            rw [h1]
            omega
          generalize putB d op.off op.data op.fin = d2 at *
          have FL : Hid (∀ _ : Unit, _) := fun _ => pi_state fc N3.out.p
          go_wp2_with fail
          refine (FL.out ()).mono ?_
          rintro e w4 ⟨rfl, b4⟩
          have N4 := Lib.hid (N3.out.keep fc b4)
          clear b4 FL N3
          have r1 := N4.out.ref.led.cell 1 (v := .int .i64 d2.rd) rfl
          have LI : Hid (∀ _ : Unit, _) := fun _ => rlimit_ok R m2 d2 w4 N4.out.ref N4.out.okm
          have EN : Hid (∀ _ : Unit, _) := fun _ => rended_ok R m2 d2 w4 N4.out.ref
          have gr : (d2.rd != d2.rd) = false := by simp
          have gl : (lim d2 != lim d2) = false := by simp
          have ge : (ended d2 != ended d2) = false := by simp
          generalize d2.rd = x1 at *
          generalize lim d2 = x2 at *
          generalize ended d2 = x3 at *
          go_wp2_with fail
          refine (LI.out ()).mono ?_
          rintro e w5 ⟨rfl, rfl⟩
          clear LI
          go_wp2_with fail
          refine (EN.out ()).mono ?_
          rintro e w6 ⟨rfl, b6⟩
          have N7 := Lib.hid (N4.out.keep fc b6).drop
          clear b6 EN N4 r1
          go_wp2_with fail
          go_roundg (M - (i + 1))
          case measure => omega
          case rel => exact ⟨i + 1, F2, d2, by omega, by go_num, hl2, N7⟩
        · by_cases hk1 : op.kind = 1
          · rw [hk1] at e0
            have AS : Hid (∀ w', KI LS (fun k => k = g) w w' B F d R m2 d → _) := fun w' h => ki_reset fc op.off h hzi.out.off
            have RS : Hid (∀ w' F', KI LS (fun k => k = g) w w' B F' (resB d op.off) R m2 d → _) := fun w' F' h => ki_rend fc op.off h
            go_wp2_with fail
            clear e0 e2
            refine wp_region_held (S := fun w' => w'.cell? ⟨g, 1, none⟩ = some (.int .i64 op.off)) (by kernel_rfl) ?_
            change wpAnyH _ .any _ _ _ 9 (Array.replicate 9 false) _ wa.drew
            have N1 : Hid (KI LS (fun k => k = g) w wa.drew B F d R m2 d) := NX.out.keep fc (drewB _ _)
            have L1 : Hid (Lies wa.drew g op.cells) := LX.out.of_block ((drewB wa.heap.size wa).block g (NX.out.nX g rfl).2.2.2)
            have hS : wa.drew.cell? ⟨g, 1, none⟩ = some (.int .i64 op.off) := L1.out.cell 1 (v := .int .i64 op.off) rfl
            clear NX LX
            refine obTakeH (i := 0) (d := 55) (v := ptr B) rfl rfl (by kernel_rfl) (by kernel_rfl) (by kernel_rfl) (fun _ _ _ h => h) rfl (fun w hS => by obtain s1 := hS; go_simp) hS ?_
            refine obTakeH (i := 1) (d := 56) (v := .pointer (some ⟨g, 1, none⟩)) rfl rfl (by kernel_rfl) (by kernel_rfl) (by kernel_rfl) (fun _ _ _ h => h) rfl (fun w hS => by obtain s1 := hS; go_simp) hS ?_
            refine obTakeH (i := 2) (d := 57) (v := .int .i64 op.off) rfl rfl (by kernel_rfl) (by kernel_rfl) (by kernel_rfl) (fun _ _ _ h => h) rfl (fun w hS => by obtain s1 := hS; go_simp) hS ?_
            refine obTakeH (i := 4) (d := 59) (v := ptr R) rfl rfl (by kernel_rfl) (by kernel_rfl) (by kernel_rfl) (fun _ _ _ h => h) rfl (fun w hS => by obtain s1 := hS; go_simp) hS ?_
            refine obTakeH (i := 5) (d := 60) (v := .pointer (some ⟨g, 1, none⟩)) rfl rfl (by kernel_rfl) (by kernel_rfl) (by kernel_rfl) (fun _ _ _ h => h) rfl (fun w hS => by obtain s1 := hS; go_simp) hS ?_
            refine obTakeH (i := 6) (d := 61) (v := .int .i64 op.off) rfl rfl (by kernel_rfl) (by kernel_rfl) (by kernel_rfl) (fun _ _ _ h => h) rfl (fun w hS => by obtain s1 := hS; go_simp) hS ?_
            simp only [Act.put, List.setIfInBounds_toArray, List.set_cons_succ, List.set_cons_zero]
            refine wpAnyH_all (rs := [3]) (by kernel_rfl) (by simp) (fun j hj => ?_)
            obtain rfl : j = 3 := by simpa using hj
            refine wpOp_step rfl (fun K' hK => ?_)
            clear hj
            refine obCall2 (k1 := 55) (k2 := 57) (d := 58) (x1 := ptr B) (x2 := .int .i64 op.off) 11 _ rfl rfl _ _ _ _ (enter_reset _ _) rfl rfl (AS.out _ N1.out) (fun e w2 hR => ?_)
            obtain ⟨rfl, F2, n2, s2⟩ := hR
            have L2 : Hid (Lies w2 g op.cells) := L1.out.asIs s2
            have N2 := Lib.hid n2
            refine ⟨_, rfl, hK _ _ ⟨L2.out.cell 1 (v := .int .i64 op.off) rfl, ?_⟩⟩
            clear hK K' n2 N1 AS hS L1 s2
            simp only [Act.put, List.setIfInBounds_toArray, List.set_cons_succ, List.set_cons_zero]
            refine wpAnyH_all (rs := [7]) (by kernel_rfl) (by simp) (fun j hj => ?_)
            obtain rfl : j = 7 := by simpa using hj
            refine wpOp_step rfl (fun K' hK => ?_)
            clear hj
            refine obCall2 (k1 := 59) (k2 := 61) (d := 62) (x1 := ptr R) (x2 := .int .i64 op.off) 12 _ rfl rfl _ _ _ _ (enter_rend _ _) rfl rfl (RS.out _ _ N2.out) (fun e w3 hR => ?_)
            obtain ⟨rfl, n3, s3⟩ := hR
            have L3 : Hid (Lies w3 g op.cells) := L2.out.asIs s3
            have N3 : Hid (KI LS (fun k => k = g) w w3 B F2 (resB d op.off) R m2 (resB d op.off)) := n3
            refine ⟨_, rfl, hK _ _ ⟨L3.out.cell 1 (v := .int .i64 op.off) rfl, ?_⟩⟩
            clear hK K' n3 N2 RS L2 s3
            have hS : w3.cell? ⟨g, 1, none⟩ = some (.int .i64 op.off) := L3.out.cell 1 (v := .int .i64 op.off) rfl
            simp only [Act.put, List.setIfInBounds_toArray, List.set_cons_succ, List.set_cons_zero]
            have gE : (resE d op.off != resE d op.off) = false := by simp
            generalize resE d op.off = xx at *
            refine wpAnyH_all (rs := [8]) (by kernel_rfl) (by simp) (fun j hj => ?_)
            obtain rfl : j = 8 := by simpa using hj
            refine wpOp_step rfl (fun K' hK => ?_)
            clear hj
            go_simp
            refine hK _ _ ⟨hS, ?_⟩
            clear hK K' hS
            refine wpAnyH_done (by kernel_rfl) ?_ 0
            clear gE L3
            have hl2 : Hid (Far (resB d op.off) (i + 1)) := by
              obtain ⟨h1, h2⟩ := res_rd d op.off
              unfold Hid Far
              rw [h1, h2]
              omega
            generalize resB d op.off = d2 at *
            have FL : Hid (∀ _ : Unit, _) := fun _ => pi_state fc N3.out.p
            go_wp2_with fail
            refine (FL.out ()).mono ?_
            rintro e w4 ⟨rfl, b4⟩
            have N4 := Lib.hid (N3.out.keep fc b4)
            clear b4 FL N3
            have r1 := N4.out.ref.led.cell 1 (v := .int .i64 d2.rd) rfl
            have LI : Hid (∀ _ : Unit, _) := fun _ => rlimit_ok R m2 d2 w4 N4.out.ref N4.out.okm
            have EN : Hid (∀ _ : Unit, _) := fun _ => rended_ok R m2 d2 w4 N4.out.ref
            have gr : (d2.rd != d2.rd) = false := by simp
            have gl : (lim d2 != lim d2) = false := by simp
            have ge : (ended d2 != ended d2) = false := by simp
            generalize d2.rd = x1 at *
            generalize lim d2 = x2 at *
            generalize ended d2 = x3 at *
            go_wp2_with fail
            refine (LI.out ()).mono ?_
            rintro e w5 ⟨rfl, rfl⟩
            clear LI
            go_wp2_with fail
            refine (EN.out ()).mono ?_
            rintro e w6 ⟨rfl, b6⟩
            have N7 := Lib.hid (N4.out.keep fc b6).drop
            clear b6 EN N4 r1
            go_wp2_with fail
            go_roundg (M - (i + 1))
            case measure => omega
            case rel => exact ⟨i + 1, F2, d2, by omega, by go_num, hl2, N7⟩
          · by_cases hk2 : op.kind = 2
            · rw [hk2] at e0
              have hbk := Lib.hid NX.out.p.ok.k
              have AS : Hid (∀ w', KI LS (fun k => k = g) w w' B F d R m2 d → _) := fun w' h => ki_read fc op.n h hzi.out.n (by omega)
              have RS : Hid (∀ w' F', KI LS (fun k => k = g) w w' B F' (takeB d op.n) R m2 d → _) := fun w' F' h => ki_rtake fc op.n h (by omega)
              go_wp2_with fail
              clear e0 e2
              refine wp_region_held (S := fun w' => w'.cell? ⟨g, 4, none⟩ = some (.int .i64 op.n)) (by kernel_rfl) ?_
              change wpAnyH _ .any _ _ _ 9 (Array.replicate 9 false) _ wa.drew
              have N1 : Hid (KI LS (fun k => k = g) w wa.drew B F d R m2 d) := NX.out.keep fc (drewB _ _)
              have L1 : Hid (Lies wa.drew g op.cells) := LX.out.of_block ((drewB wa.heap.size wa).block g (NX.out.nX g rfl).2.2.2)
              have hS : wa.drew.cell? ⟨g, 4, none⟩ = some (.int .i64 op.n) := L1.out.cell 4 (v := .int .i64 op.n) rfl
              clear NX LX
              refine obTakeH (i := 0) (d := 66) (v := ptr B) rfl rfl (by kernel_rfl) (by kernel_rfl) (by kernel_rfl) (fun _ _ _ h => h) rfl (fun w hS => by obtain s1 := hS; go_simp) hS ?_
              refine obTakeH (i := 1) (d := 67) (v := .pointer (some ⟨g, 4, none⟩)) rfl rfl (by kernel_rfl) (by kernel_rfl) (by kernel_rfl) (fun _ _ _ h => h) rfl (fun w hS => by obtain s1 := hS; go_simp) hS ?_
              refine obTakeH (i := 2) (d := 68) (v := .int .i64 op.n) rfl rfl (by kernel_rfl) (by kernel_rfl) (by kernel_rfl) (fun _ _ _ h => h) rfl (fun w hS => by obtain s1 := hS; go_simp) hS ?_
              refine obTakeH (i := 4) (d := 70) (v := ptr R) rfl rfl (by kernel_rfl) (by kernel_rfl) (by kernel_rfl) (fun _ _ _ h => h) rfl (fun w hS => by obtain s1 := hS; go_simp) hS ?_
              refine obTakeH (i := 5) (d := 71) (v := .pointer (some ⟨g, 4, none⟩)) rfl rfl (by kernel_rfl) (by kernel_rfl) (by kernel_rfl) (fun _ _ _ h => h) rfl (fun w hS => by obtain s1 := hS; go_simp) hS ?_
              refine obTakeH (i := 6) (d := 72) (v := .int .i64 op.n) rfl rfl (by kernel_rfl) (by kernel_rfl) (by kernel_rfl) (fun _ _ _ h => h) rfl (fun w hS => by obtain s1 := hS; go_simp) hS ?_
              simp only [Act.put, List.setIfInBounds_toArray, List.set_cons_succ, List.set_cons_zero]
              refine wpAnyH_all (rs := [3]) (by kernel_rfl) (by simp) (fun j hj => ?_)
              obtain rfl : j = 3 := by simpa using hj
              refine wpOp_step rfl (fun K' hK => ?_)
              clear hj
              refine obCall2 (k1 := 66) (k2 := 68) (d := 69) (x1 := ptr B) (x2 := .int .i64 op.n) 13 _ rfl rfl _ _ _ _ (enter_read _ _) rfl rfl (AS.out _ N1.out) (fun e w2 hR => ?_)
              obtain ⟨rfl, F2, n2, s2⟩ := hR
              have L2 : Hid (Lies w2 g op.cells) := L1.out.asIs s2
              have N2 := Lib.hid n2
              refine ⟨_, rfl, hK _ _ ⟨L2.out.cell 4 (v := .int .i64 op.n) rfl, ?_⟩⟩
              clear hK K' n2 N1 AS hS L1 s2
              simp only [Act.put, List.setIfInBounds_toArray, List.set_cons_succ, List.set_cons_zero]
              refine wpAnyH_all (rs := [7]) (by kernel_rfl) (by simp) (fun j hj => ?_)
              obtain rfl : j = 7 := by simpa using hj
              refine wpOp_step rfl (fun K' hK => ?_)
              clear hj
              refine obCall2 (k1 := 70) (k2 := 72) (d := 73) (x1 := ptr R) (x2 := .int .i64 op.n) 14 _ rfl rfl _ _ _ _ (enter_rtake _ _) rfl rfl (RS.out _ _ N2.out) (fun e w3 hR => ?_)
              obtain ⟨rfl, n3, s3⟩ := hR
              have L3 : Hid (Lies w3 g op.cells) := L2.out.asIs s3
              have N3 : Hid (KI LS (fun k => k = g) w w3 B F2 (takeB d op.n) R m2 (takeB d op.n)) := n3
              refine ⟨_, rfl, hK _ _ ⟨L3.out.cell 4 (v := .int .i64 op.n) rfl, ?_⟩⟩
              clear hK K' n3 N2 RS L2 s3
              have hS : w3.cell? ⟨g, 4, none⟩ = some (.int .i64 op.n) := L3.out.cell 4 (v := .int .i64 op.n) rfl
              simp only [Act.put, List.setIfInBounds_toArray, List.set_cons_succ, List.set_cons_zero]
              have gE : True := trivial
              generalize strOfNums (takeL d op.n) = xx at *
              refine wpAnyH_all (rs := [8]) (by kernel_rfl) (by simp) (fun j hj => ?_)
              obtain rfl : j = 8 := by simpa using hj
              refine wpOp_step rfl (fun K' hK => ?_)
              clear hj
              go_simp
              refine hK _ _ ⟨hS, ?_⟩
              clear hK K' hS
              refine wpAnyH_done (by kernel_rfl) ?_ 0
              clear gE L3
              have hl2 : Hid (Far (takeB d op.n) (i + 1)) := by
                obtain ⟨h1, h2, h3⟩ := take_rd hbk.out op.n
                unfold Hid Far
                rw [h3]
                omega
              generalize takeB d op.n = d2 at *
              have FL : Hid (∀ _ : Unit, _) := fun _ => pi_state fc N3.out.p
              go_wp2_with fail
              refine (FL.out ()).mono ?_
              rintro e w4 ⟨rfl, b4⟩
              have N4 := Lib.hid (N3.out.keep fc b4)
              clear b4 FL N3
              have r1 := N4.out.ref.led.cell 1 (v := .int .i64 d2.rd) rfl
              have LI : Hid (∀ _ : Unit, _) := fun _ => rlimit_ok R m2 d2 w4 N4.out.ref N4.out.okm
              have EN : Hid (∀ _ : Unit, _) := fun _ => rended_ok R m2 d2 w4 N4.out.ref
              have gr : (d2.rd != d2.rd) = false := by simp
              have gl : (lim d2 != lim d2) = false := by simp
              have ge : (ended d2 != ended d2) = false := by simp
              generalize d2.rd = x1 at *
              generalize lim d2 = x2 at *
              generalize ended d2 = x3 at *
              go_wp2_with fail
              refine (LI.out ()).mono ?_
              rintro e w5 ⟨rfl, rfl⟩
              clear LI
              go_wp2_with fail
              refine (EN.out ()).mono ?_
              rintro e w6 ⟨rfl, b6⟩
              have N7 := Lib.hid (N4.out.keep fc b6).drop
              clear b6 EN N4 r1
              go_wp2_with fail
              go_roundg (M - (i + 1))
              case measure => omega
              case rel => exact ⟨i + 1, F2, d2, by omega, by go_num, hl2, N7⟩
            · have hne1 : (op.kind == 0) = false := by simpa using hk0
              have hne2 : (op.kind == 1) = false := by simpa using hk1
              have hne3 : (op.kind == 2) = false := by simpa using hk2
              have hl2 : Hid (Far d (i + 1)) := by unfold Hid Far; omega
              obtain ⟨F2, hF2⟩ : ∃ F2, F2 = F := ⟨_, rfl⟩
              obtain ⟨d2, hd2⟩ : ∃ d2, d2 = d := ⟨_, rfl⟩
              have N3 := NX
              rw [← hF2, ← hd2] at N3
              rw [← hd2] at hl2
              clear NX LX hF2 hd2
              have FL : Hid (∀ _ : Unit, _) := fun _ => pi_state fc N3.out.p
              go_wp2_with fail
              refine (FL.out ()).mono ?_
              rintro e w4 ⟨rfl, b4⟩
              have N4 := Lib.hid (N3.out.keep fc b4)
              clear b4 FL N3
              have r1 := N4.out.ref.led.cell 1 (v := .int .i64 d2.rd) rfl
              have LI : Hid (∀ _ : Unit, _) := fun _ => rlimit_ok R m2 d2 w4 N4.out.ref N4.out.okm
              have EN : Hid (∀ _ : Unit, _) := fun _ => rended_ok R m2 d2 w4 N4.out.ref
              have gr : (d2.rd != d2.rd) = false := by simp
              have gl : (lim d2 != lim d2) = false := by simp
              have ge : (ended d2 != ended d2) = false := by simp
              generalize d2.rd = x1 at *
              generalize lim d2 = x2 at *
              generalize ended d2 = x3 at *
              go_wp2_with fail
              refine (LI.out ()).mono ?_
              rintro e w5 ⟨rfl, rfl⟩
              clear LI
              go_wp2_with fail
              refine (EN.out ()).mono ?_
              rintro e w6 ⟨rfl, b6⟩
              have N7 := Lib.hid (N4.out.keep fc b6).drop
              clear b6 EN N4 r1
              go_wp2_with fail
              go_roundg (M - (i + 1))
              case measure => omega
              case rel => exact ⟨i + 1, F2, d2, by omega, by go_num, hl2, N7⟩
    · clear hc
      by_cases hin : i < m
      · have q1 : decide (i < m) = true := decide_eq_true hin
        have q2 : decide ((i : Int) < 100) = false := decide_eq_false (by omega)
        have q3 : decide (i < 100) = false := decide_eq_false (by omega)
        go_wp2_with fail
        go_ret
        exact ⟨rfl, N.out.p.bel⟩
      · have q1 : decide (i < m) = false := decide_eq_false hin
        go_wp2_with fail
        go_ret
        exact ⟨rfl, N.out.p.bel⟩
set_option maxHeartbeats 4000000 in
theorem does_none {LS : BSt} (fc : InFace LS) (a : Option Addr) (m cap : Nat) (hm : m = 0) (w : World) :
    Calls Try.prog 3 #[.slice a m cap] w fun e w' => e = .returned (.bool true) ∧ Below w.heap.size w w' := by
  have NP : Hid (∀ w', Below w.heap.size w w' → _) := fun w' b => pi_new fc w w' b
  have NR : Hid (∀ w' B F d, PI LS w w' B F d → _) := fun w' B F d h => ki_new fc (w0 := w) (w := w') (B := B) (F := F) (d := d) h
  go_enter Try.func3, Try.ntmps3
  go_wp2_with fail
  refine (NP.out _ (Below.refl _ _)).mono ?_
  rintro e w1 ⟨B, F0, rfl, n1, -⟩
  have N1 : Hid (PI LS w w1 B F0 bx0) := n1
  clear n1 NP
  go_wp2_with fail
  refine (NR.out _ _ _ _ N1.out).mono ?_
  rintro e w2 ⟨R, m2, rfl, n2⟩
  have N2 : Hid (KI LS (fun _ => False) w w2 B F0 bx0 R m2 bx0) := n2
  clear n2 N1 NR
  go_wp2_with fail
  go_loopg [5] 0 (fun g iv wr => ∃ (i : Nat) (F : Nat → Prop) (d : Bx), i + g = 0 ∧ iv = .int .i64 i ∧ Hid (Far d i) ∧ Hid (KI LS (fun _ => False) w wr B F d R m2 d))
  case atStart => exact ⟨0, F0, bx0, by omega, rfl, ⟨by decide, by decide⟩, N2⟩
  case round =>
    clear N2
    obtain ⟨i, F, d, hi, rfl, hdl, N⟩ := hrel
    have q1 : decide (i < m) = false := decide_eq_false (by omega)
    go_wp2_with fail
    go_ret
    exact ⟨rfl, N.out.p.bel⟩
theorem does_walk {LS : BSt} (fc : InFace LS) (a : Option Addr) (m cap : Nat) (f : Nat → IOp) (w : World) (hm : m ≤ maxLen) (hz : ∀ i, i < m → IOpB (f i)) (hs : IOps w a m f) :
    Calls Try.prog 3 #[.slice a m cap] w fun e w' => e = .returned (.bool true) ∧ Below w.heap.size w w' := by
  have hm' : m ≤ 9223372036854775807 := by unfold maxLen at hm; omega
  rcases hs with h0 | ⟨b, off, rfl, hb, hc⟩
  · exact does_none fc a m cap h0 w
  · by_cases h : m ≤ 100
    · exact does_some fc f b off m cap m w hb hm' (.inl ⟨rfl, h⟩) hz hc
    · exact does_some fc f b off m cap 100 w hb hm' (.inr ⟨rfl, by omega⟩) hz hc
end Go.Proofs.Ytpendchkalagnaa
