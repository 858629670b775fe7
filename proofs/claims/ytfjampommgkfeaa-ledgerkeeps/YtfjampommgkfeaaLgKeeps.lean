/-
  The law LedgerKeeps returns true for every row of acts, by what is asked of the program's calls (Face). No other condition.
-/
import Derived.Test.YtfjampommgkfeaaLgInv
import Derived.Test.YtfjampommgkfeaaObDraw
import Derived.Lib.QuietBelow
import Derived.Deep.Cut
namespace Go.Proofs.Ytfjampommgkfeaa
set_option maxRecDepth 100000
open Go.RowKit Go.Sort
theorem at_lops (B o N cap i : Nat) (w : World) (h : i < N) (z : Int) (hz : z = i) (p : Nat) (hp : p = o + 5 * i) :
    (Instr.indexAt 22 (.slice (some ⟨B, o, none⟩) N cap) (.int .i64 z)).run Try.prog w = .ok (.pointer (some ⟨B, p, none⟩)) w := by
  subst hz hp
  have e : Try.prog.elem 22 = 29 := by kernel_rfl
  rw [run_indexAt_slice (P := Try.prog) w 22 ⟨B, o, none⟩ N cap .i64 i (by rw [e]; exact Try.underlying22), if_pos (by omega), e]
  have s : (sizeOf 29).run Try.prog w = .ok 5 w := Try.sizeOf29 w
  rw [s]
  simp [Addr.add_mid, Nat.mul_comm]
def LenB (d : Ld) (n : Nat) : Prop := d.l.length ≤ n
theorem obCall4 (f : FuncId) (o : Oper) {k1 k2 k3 k4 d : Nat} {tys : Array TypeId} {x1 x2 x3 x4 : Value} {R : Ending → World → Prop} (ho : o.op = .call { callee := .value (.func f), args := #[.tmp k1, .tmp k2, .tmp k3, .tmp k4], argTypes := tys }) (hd : o.dst = some d) (a : Act) (w : World) (K : Act → World → Prop) (Q : Exit → Act → World → Prop)
    (hcf : ∀ w, (callFunc f #[x1, x2, x3, x4]).run Try.prog w = .ok (.enter f #[x1, x2, x3, x4]) w) (h1 : a.eval (.tmp k1) = x1) (h2 : a.eval (.tmp k2) = x2) (h3 : a.eval (.tmp k3) = x3) (h4 : a.eval (.tmp k4) = x4) (C : Calls Try.prog f #[x1, x2, x3, x4] w R) (hK : ∀ e w', R e w' → ∃ v, e = .returned v ∧ K (a.put (some d) v) w') : o.wp Try.prog a w K Q := by
  unfold Oper.wp
  have hr : (execOp a.eval o).run Try.prog w = .ok (.enter f #[x1, x2, x3, x4]) w := by
    unfold execOp
    rw [ho]
    simp only [go_sem] at h1 h2 h3 h4 ⊢
    simp [go_sem, h1, h2, h3, h4, hcf]
  rw [hr]
  exact C.mono fun e w' h => by
    obtain ⟨v, rfl, hk⟩ := hK e w' h
    rw [hd]
    exact hk
theorem enter_sent (x y z u : Value) (w : World) : (callFunc 10 #[x, y, z, u]).run Try.prog w = .ok (.enter 10 #[x, y, z, u]) w := by simp [go_sem]
theorem enter_rsent (x y z u : Value) (w : World) : (callFunc 11 #[x, y, z, u]).run Try.prog w = .ok (.enter 11 #[x, y, z, u]) w := by simp [go_sem]
theorem enter_exp (x y : Value) (w : World) : (callFunc 15 #[x, y]).run Try.prog w = .ok (.enter 15 #[x, y]) w := by simp [go_sem]
theorem enter_rexp (x y : Value) (w : World) : (callFunc 16 #[x, y]).run Try.prog w = .ok (.enter 16 #[x, y]) w := by simp [go_sem]
theorem enter_same (x y : Value) (w : World) : (callFunc 14 #[x, y]).run Try.prog w = .ok (.enter 14 #[x, y]) w := by simp [go_sem]
theorem Lies.same {w w' : World} {g : Nat} {vs : List Value} (h : Lies w g vs) (s : Same (fun k => k = g) w w') : Lies w' g vs := h.of_block (s g rfl)
theorem told_len (d : Ld) (r : List Rg) : (toldN d r).length ≤ d.l.length ∧ (lostN d r).length ≤ d.l.length := by
  unfold toldN lostN
  constructor <;> split
  · rw [nos_len]; exact List.length_filter_le ..
  · simp
  · rw [nos_len]; exact Nat.le_trans (List.length_filter_le ..) (List.length_filter_le ..)
  · simp
theorem exp_len (d : Ld) (now : Int) : (expL d now).length ≤ d.l.length := by
  unfold expL
  split
  · rw [nos_len]; exact Nat.le_refl _
  · simp
theorem rgs_all {w : World} {ad : Addr} {l : List Rg} (h : ∀ k, k < l.length → w.cell? (ad.add (2 * k)) = some (.int .i64 (l.getD k (0, 0)).1) ∧ w.cell? (ad.add (2 * k + 1)) = some (.int .i64 (l.getD k (0, 0)).2)) : ∀ j u, (rgs l)[j]? = some u → w.cell? (ad.add j) = some u := fun j u hj => by
  have hl : (rgs l).length = 2 * l.length := by
    clear h hj
    induction l with
    | nil => rfl
    | cons x l ih => rw [rgs_cons]; simp [ih]; omega
  have hlt : j < 2 * l.length := by
    rcases Nat.lt_or_ge j (2 * l.length) with q | q
    · exact q
    · rw [List.getElem?_eq_none (by omega)] at hj
      cases hj
  obtain ⟨k, hk⟩ : ∃ k, j = 2 * k ∨ j = 2 * k + 1 := ⟨j / 2, by omega⟩
  obtain ⟨g1, g2⟩ := rgs_get l k (by omega)
  obtain ⟨h1, h2⟩ := h k (by omega)
  rcases hk with rfl | rfl
  · rw [g1] at hj
    injection hj with hj
    rw [← hj]
    exact h1
  · rw [g2] at hj
    injection hj with hj
    rw [← hj]
    exact h2
theorem rgs_one (l : List Rg) : ∀ u ∈ rgs l, u.oneCell' = true := fun u hu => by
  unfold rgs at hu
  obtain ⟨x, _, hx⟩ := List.mem_flatMap.1 hu
  simp at hx
  rcases hx with rfl | rfl <;> rfl
theorem rgs_len (l : List Rg) : (rgs l).length = l.length * 2 := by
  induction l with
  | nil => rfl
  | cons x l ih => rw [rgs_cons]; simp [ih]; omega
theorem empty_own (w : World) (t : TypeId) : (w.alloc (.cells #[] t)).ownsRow w.heap.size t 2 (.slice (some ⟨w.heap.size, 0, none⟩) 0 0) 0 [] :=
  ⟨rfl, .inr ⟨w.heap.size, 0, #[], rfl, Nat.le_refl _, heap_alloc_new w _, Nat.le_refl _, Nat.zero_le _, rfl, rfl⟩⟩
set_option maxHeartbeats 16000000 in
theorem keeps_some {LS : LSt} (fc : Face LS) (f : Nat → LOp) (b off m cap M : Nat) (w : World) (hb : b < w.heap.size) (hm : m ≤ 9223372036854775807) (hM : (M = m ∧ m ≤ 150) ∨ (M = 150 ∧ 150 < m)) (hz : ∀ i, i < m → LOpB (f i))
    (hc : ∀ i, i < m → (∀ j, j < 5 → w.cell? ⟨b, off + 5 * i + j, none⟩ = (f i).cells[j]?) ∧ RgAt w (f i).rv (f i).rg) :
    Calls Try.prog 3 #[.slice (some ⟨b, off, none⟩) m cap] w fun e w' => e = .returned (.bool true) ∧ Below w.heap.size w w' := by
  have hMn : M ≤ m ∧ M ≤ 150 := by omega
  replace hc : Hid _ := hc
  replace hz : Hid _ := hz
  have NP : Hid (∀ w', Below w.heap.size w w' → _) := fun w' b => pl_new fc w w' b
  have NR : Hid (∀ w' B F d, PL LS w w' B F d → _) := fun w' B F d h => kl_new fc (w0 := w) (w := w') (B := B) (F := F) (d := d) h
  go_enter Try.func3, Try.ntmps3
  go_wp2_with fail
  refine (NP.out _ (Below.refl _ _)).mono ?_
  rintro e w1 ⟨B, F0, rfl, n1, -⟩
  have N1 : Hid (PL LS w w1 B F0 ld0) := n1
  clear n1 NP
  go_wp2_with fail
  refine (NR.out _ _ _ _ N1.out).mono ?_
  rintro e w2 ⟨R, rfl, n2⟩
  have N2 : Hid (KL LS (fun _ => False) w w2 B F0 ld0 R ld0) := n2
  clear n2 N1 NR
  go_wp2_with fail
  go_loopg [5] M (fun g iv wr => ∃ (i : Nat) (F : Nat → Prop) (d : Ld), i + g = M ∧ iv = .int .i64 i ∧ Hid (d.l.length ≤ i) ∧ Hid (KL LS (fun _ => False) w wr B F d R d))
  case atStart => exact ⟨0, F0, ld0, by omega, rfl, Nat.le_refl 0, N2⟩
  case round =>
    clear N2
    obtain ⟨i, F, d, hi, rfl, hdl, N⟩ := hrel
    by_cases hlt : i < M
    · have q1 : decide (i < m) = true := decide_eq_true (by omega)
      have q2 : decide ((i : Int) < 150) = true := decide_eq_true (by omega)
      have q3 : decide (i < 150) = true := decide_eq_true (by omega)
      have ia := fun w' => at_lops b off m cap i w' (by omega) (i : Int) rfl (off + 5 * i) rfl
      have c0 := (N.out.bel.cell (p := ⟨b, off + 5 * i, none⟩) hb).trans ((hc.out i (by omega)).1 0 (by omega))
      have c1 := (N.out.bel.cell (p := ⟨b, off + 5 * i + 1, none⟩) hb).trans ((hc.out i (by omega)).1 1 (by omega))
      have c2 := (N.out.bel.cell (p := ⟨b, off + 5 * i + 2, none⟩) hb).trans ((hc.out i (by omega)).1 2 (by omega))
      have c3 := (N.out.bel.cell (p := ⟨b, off + 5 * i + 3, none⟩) hb).trans ((hc.out i (by omega)).1 3 (by omega))
      have c4 := (N.out.bel.cell (p := ⟨b, off + 5 * i + 4, none⟩) hb).trans ((hc.out i (by omega)).1 4 (by omega))
      simp [LOp.cells] at c0 c1 c2 c3 c4
      go_upto_region 8 with fail
      have B0 : Below wr.heap.size wr (wr.alloc (.cells #[.int .i64 (f i).kind, .int .i64 (f i).n, .int .i64 (f i).now, .int .i64 (f i).size, (f i).rv] 29)) := (Below.refl _ _).alloc (Nat.le_refl _) _
      have NX : Hid (KL LS (fun k => k = wr.heap.size) w (wr.alloc (.cells #[.int .i64 (f i).kind, .int .i64 (f i).n, .int .i64 (f i).now, .int .i64 (f i).size, (f i).rv] 29)) B F d R d) := N.out.fresh fc B0 _ ⟨Nat.le_refl _, by simp⟩
      have LX : Hid (Lies (wr.alloc (.cells #[.int .i64 (f i).kind, .int .i64 (f i).n, .int .i64 (f i).now, .int .i64 (f i).size, (f i).rv] 29)) wr.heap.size (f i).cells) := Lies.new wr _ _
      clear B0 N c0 c1 c2 c3 c4 ia q1 q2 q3
      generalize wr.alloc (.cells #[.int .i64 (f i).kind, .int .i64 (f i).n, .int .i64 (f i).now, .int .i64 (f i).size, (f i).rv] 29) = wa at *
      generalize wr.heap.size = g at *
      have hzi := Lib.hid (hz.out i (by omega))
      have hci := Lib.hid (hc.out i (by omega)).2
      clear hz hc
      generalize f i = op at *
      have dl := hdl.out
      by_cases hk0 : op.kind = 0
      · have e0 : wa.cell? ⟨g, 0, none⟩ = some (.int .i64 0) := hk0 ▸ LX.out.cell 0 (v := .int .i64 op.kind) rfl
        have AS : Hid (∀ w', KL LS (fun k => k = g) w w' B F d R d → _) := fun w' h => kl_sent fc op.n op.now op.size h (by omega) hzi.out.n hzi.out.now hzi.out.size
        have RS : Hid (∀ w' F', KL LS (fun k => k = g) w w' B F' (sent d op.n op.now op.size) R d → _) := fun w' F' h => kl_rsent fc op.n op.now op.size h (by omega) hzi.out.now
        go_wp2_with fail
        clear e0
        refine wp_region_held (S := fun w' => w'.cell? ⟨g, 1, none⟩ = some (.int .i64 op.n) ∧ w'.cell? ⟨g, 2, none⟩ = some (.int .i64 op.now) ∧ w'.cell? ⟨g, 3, none⟩ = some (.int .i64 op.size)) (by kernel_rfl) ?_
        change wpAnyH _ .any _ _ _ 17 (Array.replicate 17 false) _ wa.drew
        have N1 : Hid (KL LS (fun k => k = g) w wa.drew B F d R d) := NX.out.keep fc (drewB _ _)
        have L1 : Hid (Lies wa.drew g op.cells) := LX.out.of_block ((drewB wa.heap.size wa).block g (NX.out.nX g rfl).2.2)
        have hS : wa.drew.cell? ⟨g, 1, none⟩ = some (.int .i64 op.n) ∧ wa.drew.cell? ⟨g, 2, none⟩ = some (.int .i64 op.now) ∧ wa.drew.cell? ⟨g, 3, none⟩ = some (.int .i64 op.size) := ⟨L1.out.cell 1 (v := .int .i64 op.n) rfl, L1.out.cell 2 (v := .int .i64 op.now) rfl, L1.out.cell 3 (v := .int .i64 op.size) rfl⟩
        clear NX LX
        refine obTakeH (i := 0) (d := 40) (v := ptr B) rfl rfl (by kernel_rfl) (by kernel_rfl) (by kernel_rfl) (fun _ _ _ h => h) rfl (fun w hS => by obtain ⟨s1, s2, s3⟩ := hS; go_simp) hS ?_
        refine obTakeH (i := 1) (d := 41) (v := .pointer (some ⟨g, 1, none⟩)) rfl rfl (by kernel_rfl) (by kernel_rfl) (by kernel_rfl) (fun _ _ _ h => h) rfl (fun w hS => by obtain ⟨s1, s2, s3⟩ := hS; go_simp) hS ?_
        refine obTakeH (i := 2) (d := 42) (v := .int .i64 op.n) rfl rfl (by kernel_rfl) (by kernel_rfl) (by kernel_rfl) (fun _ _ _ h => h) rfl (fun w hS => by obtain ⟨s1, s2, s3⟩ := hS; go_simp) hS ?_
        refine obTakeH (i := 3) (d := 43) (v := .pointer (some ⟨g, 2, none⟩)) rfl rfl (by kernel_rfl) (by kernel_rfl) (by kernel_rfl) (fun _ _ _ h => h) rfl (fun w hS => by obtain ⟨s1, s2, s3⟩ := hS; go_simp) hS ?_
        refine obTakeH (i := 4) (d := 44) (v := .int .i64 op.now) rfl rfl (by kernel_rfl) (by kernel_rfl) (by kernel_rfl) (fun _ _ _ h => h) rfl (fun w hS => by obtain ⟨s1, s2, s3⟩ := hS; go_simp) hS ?_
        refine obTakeH (i := 5) (d := 45) (v := .pointer (some ⟨g, 3, none⟩)) rfl rfl (by kernel_rfl) (by kernel_rfl) (by kernel_rfl) (fun _ _ _ h => h) rfl (fun w hS => by obtain ⟨s1, s2, s3⟩ := hS; go_simp) hS ?_
        refine obTakeH (i := 6) (d := 46) (v := .int .i64 op.size) rfl rfl (by kernel_rfl) (by kernel_rfl) (by kernel_rfl) (fun _ _ _ h => h) rfl (fun w hS => by obtain ⟨s1, s2, s3⟩ := hS; go_simp) hS ?_
        refine obTakeH (i := 8) (d := 48) (v := ptr R) rfl rfl (by kernel_rfl) (by kernel_rfl) (by kernel_rfl) (fun _ _ _ h => h) rfl (fun w hS => by obtain ⟨s1, s2, s3⟩ := hS; go_simp) hS ?_
        refine obTakeH (i := 9) (d := 49) (v := .pointer (some ⟨g, 1, none⟩)) rfl rfl (by kernel_rfl) (by kernel_rfl) (by kernel_rfl) (fun _ _ _ h => h) rfl (fun w hS => by obtain ⟨s1, s2, s3⟩ := hS; go_simp) hS ?_
        refine obTakeH (i := 10) (d := 50) (v := .int .i64 op.n) rfl rfl (by kernel_rfl) (by kernel_rfl) (by kernel_rfl) (fun _ _ _ h => h) rfl (fun w hS => by obtain ⟨s1, s2, s3⟩ := hS; go_simp) hS ?_
        refine obTakeH (i := 11) (d := 51) (v := .pointer (some ⟨g, 2, none⟩)) rfl rfl (by kernel_rfl) (by kernel_rfl) (by kernel_rfl) (fun _ _ _ h => h) rfl (fun w hS => by obtain ⟨s1, s2, s3⟩ := hS; go_simp) hS ?_
        refine obTakeH (i := 12) (d := 52) (v := .int .i64 op.now) rfl rfl (by kernel_rfl) (by kernel_rfl) (by kernel_rfl) (fun _ _ _ h => h) rfl (fun w hS => by obtain ⟨s1, s2, s3⟩ := hS; go_simp) hS ?_
        refine obTakeH (i := 13) (d := 53) (v := .pointer (some ⟨g, 3, none⟩)) rfl rfl (by kernel_rfl) (by kernel_rfl) (by kernel_rfl) (fun _ _ _ h => h) rfl (fun w hS => by obtain ⟨s1, s2, s3⟩ := hS; go_simp) hS ?_
        refine obTakeH (i := 14) (d := 54) (v := .int .i64 op.size) rfl rfl (by kernel_rfl) (by kernel_rfl) (by kernel_rfl) (fun _ _ _ h => h) rfl (fun w hS => by obtain ⟨s1, s2, s3⟩ := hS; go_simp) hS ?_
        simp only [Act.put, List.setIfInBounds_toArray, List.set_cons_succ, List.set_cons_zero]
        refine wpAnyH_all (rs := [7]) (by kernel_rfl) (by simp) (fun j hj => ?_)
        obtain rfl : j = 7 := by simpa using hj
        refine wpOp_step rfl (fun K' hK => ?_)
        clear hj
        refine obCall4 (k1 := 40) (k2 := 42) (k3 := 44) (k4 := 46) (d := 47) (x1 := ptr B) (x2 := .int .i64 op.n) (x3 := .int .i64 op.now) (x4 := .int .i64 op.size) 10 _ rfl rfl _ _ _ _ (enter_sent _ _ _ _) rfl rfl rfl rfl (AS.out _ N1.out) (fun e w2 hR => ?_)
        obtain ⟨rfl, F2, n2, s2⟩ := hR
        have L2 : Hid (Lies w2 g op.cells) := L1.out.same s2
        have N2 := Lib.hid n2
        refine ⟨_, rfl, hK _ _ ⟨⟨L2.out.cell 1 (v := .int .i64 op.n) rfl, L2.out.cell 2 (v := .int .i64 op.now) rfl, L2.out.cell 3 (v := .int .i64 op.size) rfl⟩, ?_⟩⟩
        clear hK K' n2 N1 AS hS L1 s2
        simp only [Act.put, List.setIfInBounds_toArray, List.set_cons_succ, List.set_cons_zero]
        refine wpAnyH_all (rs := [15]) (by kernel_rfl) (by simp) (fun j hj => ?_)
        obtain rfl : j = 15 := by simpa using hj
        refine wpOp_step rfl (fun K' hK => ?_)
        clear hj
        refine obCall4 (k1 := 48) (k2 := 50) (k3 := 52) (k4 := 54) (d := 55) (x1 := ptr R) (x2 := .int .i64 op.n) (x3 := .int .i64 op.now) (x4 := .int .i64 op.size) 11 _ rfl rfl _ _ _ _ (enter_rsent _ _ _ _) rfl rfl rfl rfl (RS.out _ _ N2.out) (fun e w3 hR => ?_)
        obtain ⟨rfl, n3, s3⟩ := hR
        have L3 : Hid (Lies w3 g op.cells) := L2.out.same s3
        have N3 : Hid (KL LS (fun k => k = g) w w3 B F2 (sent d op.n op.now op.size) R (sent d op.n op.now op.size)) := n3
        refine ⟨_, rfl, hK _ _ ⟨⟨L3.out.cell 1 (v := .int .i64 op.n) rfl, L3.out.cell 2 (v := .int .i64 op.now) rfl, L3.out.cell 3 (v := .int .i64 op.size) rfl⟩, ?_⟩⟩
        clear hK K' n3 N2 RS L2 s3
        have hS : w3.cell? ⟨g, 1, none⟩ = some (.int .i64 op.n) ∧ w3.cell? ⟨g, 2, none⟩ = some (.int .i64 op.now) ∧ w3.cell? ⟨g, 3, none⟩ = some (.int .i64 op.size) := ⟨L3.out.cell 1 (v := .int .i64 op.n) rfl, L3.out.cell 2 (v := .int .i64 op.now) rfl, L3.out.cell 3 (v := .int .i64 op.size) rfl⟩
        simp only [Act.put, List.setIfInBounds_toArray, List.set_cons_succ, List.set_cons_zero]
        have gE : (sentE d op.n op.size != sentE d op.n op.size) = false := by simp
        refine wpAnyH_all (rs := [16]) (by kernel_rfl) (by simp) (fun j hj => ?_)
        obtain rfl : j = 16 := by simpa using hj
        refine wpOp_step rfl (fun K' hK => ?_)
        clear hj
        go_simp
        refine hK _ _ ⟨hS, ?_⟩
        clear hK K' hS
        refine wpAnyH_done (by kernel_rfl) ?_ 0
        clear gE L3
        have hl2 : Hid (LenB (sent d op.n op.now op.size) (i + 1)) := Nat.le_trans (sent_len ..) (by omega)
        generalize sent d op.n op.now op.size = d2 at *
        have FL : Hid (∀ _ : Unit, _) := fun _ => pl_flight fc N3.out.p
        have RF : Hid (∀ w', KL LS (fun k => k = g) w w' B F2 d2 R d2 → _) := fun w' h => kl_rflight h
        go_wp2_with fail
        refine (FL.out ()).mono ?_
        rintro e w4 ⟨rfl, b4⟩
        have N4 := Lib.hid (N3.out.keep fc b4)
        clear b4 FL N3
        go_wp2_with fail
        refine (RF.out _ N4.out).mono ?_
        rintro e w5 ⟨rfl, b5⟩
        have N5 := Lib.hid (N4.out.keep fc b5)
        clear b5 RF N4
        have gl : ((d2.l.length : Int) != (d2.l.length : Int)) = false := by simp
        have gb : (bytesP d2.l != bytesP d2.l) = false := by simp
        have gw : (d2.win != d2.win) = false := by simp
        have gt : (wait d2 != wait d2) = false := by simp
        have CW : Hid (∀ dq os, _) := fun dq os => Calls.regrown_of (P := Try.prog) (w := w5) (d := dq) (os := os) (pl_window fc (N5.out.keep fc (below_regrown w5 dq os)).p)
        have CT : Hid (∀ dq os, _) := fun dq os => Calls.regrown_of (P := Try.prog) (w := w5) (d := dq) (os := os) (pl_wait fc (N5.out.keep fc (below_regrown w5 dq os)).p)
        have CR : Hid (∀ dq os, _) := fun dq os => Calls.regrown_of (P := Try.prog) (w := w5) (d := dq) (os := os) (kl_rwait (N5.out.keep fc (below_regrown w5 dq os)))
        have cw := fun dq os => cell_regrown (w := w5) N5.out.win dq os
        generalize d2.l.length = dl2 at *
        generalize bytesP d2.l = by2 at *
        generalize d2.win = wi2 at *
        generalize wait d2 = wt2 at *
        go_wp2_with fail
        refine wp_region_quiet_below (by kernel_rfl) (by kernel_rfl) ?_
        repeat (go_big_quiet_step (first | (go_at_call 19; exact CW.out _ _) | (go_at_call 20; exact CT.out _ _) | (go_at_call 21; exact CR.out _ _)))
        refine wpQuiet_nil ?_
        intro _ hw'
        obtain ⟨⟨dq, osq⟩, hw''⟩ := hw'
        subst hw''
        have N7 : Hid (KL LS (fun _ => False) w (Go.Sort.grow (redrawn w5 dq) osq) B F2 d2 R d2) := (N5.out.keep fc (below_regrown w5 dq osq)).drop
        simp only
        generalize Go.Sort.grow (redrawn w5 dq) osq = w7 at *
        clear CW CT CR cw gl gb gw gt N5
        go_wp2_with fail
        go_roundg (M - (i + 1))
        case measure => omega
        case rel => exact ⟨i + 1, F2, d2, by omega, by go_num, hl2, N7⟩
      · by_cases hk1 : op.kind = 1
        · have e0 : wa.cell? ⟨g, 0, none⟩ = some (.int .i64 1) := hk1 ▸ LX.out.cell 0 (v := .int .i64 op.kind) rfl
          have e4 := LX.out.cell 4 (v := op.rv) rfl
          have hgl := (NX.out.nX g rfl).2.2
          obtain ⟨i0, hi0, hz0, hz1, hz2⟩ := info_rg
          have OE := Lib.hid (empty_own wa 50)
          have BE : Hid (Below wa.heap.size wa (wa.alloc (.cells #[] 50))) := (Below.refl _ _).alloc (Nat.le_refl _) _
          replace hgl := Lib.hid hgl
          have hs := hzi.out.rgs
          cases hra : op.ra with
          | none =>
            obtain ⟨hr0, hr1⟩ := hzi.out.nil hra
            have hrv : op.rv = .slice none 0 0 := by unfold LOp.rv; rw [hra, hr0, hr1]; rfl
            rw [hrv] at e4
            have e5 := (BE.out.cell (p := ⟨g, 4, none⟩) hgl.out).trans e4
            replace hrv := Lib.hid hrv
            replace hr0 := Lib.hid hr0
            clear hra hr1 hz0 hz1 hz2 hs
            go_wp2_with (at_builtin; refine wpList_append_own_none rfl _ _ 27 rfl wa.heap.size 50 i0 2 Try.underlying27 hi0 _ 0 [] rfl OE.out rfl ?_)
            clear hi0 e0 e4 e5
            have O1 : Hid ((wa.alloc (.cells #[] 50)).ownsRow wa.heap.size 50 2 (.slice (some ⟨wa.heap.size, 0, none⟩) 0 0) op.rg.length (rgs op.rg)) := by rw [hr0.out]; exact OE
            have N1 : Hid (KL LS (fun k => k = g) w (wa.alloc (.cells #[] 50)) B F d R d) := NX.out.keep fc BE.out
            have L1 : Hid (Lies (wa.alloc (.cells #[] 50)) g op.cells) := LX.out.keep (by show 0 < 5; decide) BE.out
            clear OE BE hr0 hrv
            obtain ⟨v1, hv1⟩ : ∃ v1 : Value, v1 = .slice (some ⟨wa.heap.size, 0, none⟩) 0 0 := ⟨_, rfl⟩
            rw [← hv1] at O1 ⊢
            clear hv1
            generalize wa.alloc (.cells #[] 50) = w1 at *
            have hl2 : Hid (LenB (acked d op.rg) (i + 1)) := Nat.le_trans (acked_len ..) (by omega)
            have AK : Hid (∀ _ : Unit, _) := fun _ => kl_acked fc op.rg v1 N1.out (own_rgAt O1.out) hzi.out.rgs hzi.out.rg (fun _ p c e q => by have h1 := (O1.out.lt p.block (by rw [e]; rfl)).1; have h2 := fc.lt NX.out.p.s _ q; omega)
            have RK : Hid (∀ w' F', KL LS (fun k => k = g) w w' B F' (acked d op.rg) R d → _) := fun w' F' h => kl_racked fc op.rg op.rv h (hci.out.keep h.bel) hzi.out.rgs (fun hn p c e q => by have h1 := rg_lt (e ▸ hci.out) hn; have h2 := h.geR; omega)
            clear NX LX O1
            refine (AK.out ()).mono ?_
            rintro e w2 ⟨u, v, rfl, F2, hu, hv, hRw, n2, s2⟩
            have hRs := Lib.hid hRw
            clear hRw
            have L2 := Lib.hid (L1.out.same s2)
            have N2 := Lib.hid n2
            have U2 := Lib.hid hu
            have V2 := Lib.hid hv
            have e4 := L2.out.cell 4 (v := op.rv) rfl
            clear n2 s2 hu hv L1 N1 AK
            go_wp2_with fail
            refine (RK.out _ _ N2.out).mono ?_
            rintro e w3 ⟨x, y, rfl, hx, hy, n3, s3, k3⟩
            have U3 : Hid (Calls Try.prog 14 #[u, x] w3 fun e w' => e = .returned (.bool true) ∧ Below w3.heap.size w3 w') := by
              have := lsame_ok (U2.out.keepK k3 (fun k q e => by have := q.1; have := hRs.out; omega)).at hx (by have := told_len d op.rg; omega)
              rw [decide_eq_true rfl] at this
              exact this
            have V3 : Hid (∀ w4, Below w3.heap.size w3 w4 → Calls Try.prog 14 #[v, y] w4 fun e w' => e = .returned (.bool true) ∧ Below w4.heap.size w4 w') := fun w4 b4 => by
              have := lsame_ok ((V2.out.keepK k3 (fun k q e => by have := q.1; have := hRs.out; omega)).keep b4).at (hy.keep b4) (by have := told_len d op.rg; omega)
              rw [decide_eq_true rfl] at this
              exact this
            have N3 : Hid (KL LS (fun k => k = g) w w3 B F2 (acked d op.rg) R (acked d op.rg)) := n3
            have gE : (ackE d op.rg != ackE d op.rg) = false := by simp
            generalize acked d op.rg = d2 at *
            generalize ackE d op.rg = ae at *
            clear n3 s3 hx hy k3 U2 V2 N2 RK e4 L2 hci hzi
            go_wp2_with fail
            refine U3.out.mono ?_
            rintro e w4 ⟨rfl, b4⟩
            have V4 := Lib.hid (V3.out _ b4)
            have N4 := Lib.hid (N3.out.keep fc b4)
            clear U3 V3 N3 b4
            go_wp2_with fail
            refine V4.out.mono ?_
            rintro e w5 ⟨rfl, b5⟩
            have N3 := Lib.hid (N4.out.keep fc b5)
            clear V4 N4 b5
            have FL : Hid (∀ _ : Unit, _) := fun _ => pl_flight fc N3.out.p
            have RF : Hid (∀ w', KL LS (fun k => k = g) w w' B F2 d2 R d2 → _) := fun w' h => kl_rflight h
            go_wp2_with fail
            refine (FL.out ()).mono ?_
            rintro e w4 ⟨rfl, b4⟩
            have N4 := Lib.hid (N3.out.keep fc b4)
            clear b4 FL N3
            go_wp2_with fail
            refine (RF.out _ N4.out).mono ?_
            rintro e w5 ⟨rfl, b5⟩
            have N5 := Lib.hid (N4.out.keep fc b5)
            clear b5 RF N4
            have gl : ((d2.l.length : Int) != (d2.l.length : Int)) = false := by simp
            have gb : (bytesP d2.l != bytesP d2.l) = false := by simp
            have gw : (d2.win != d2.win) = false := by simp
            have gt : (wait d2 != wait d2) = false := by simp
            have CW : Hid (∀ dq os, _) := fun dq os => Calls.regrown_of (P := Try.prog) (w := w5) (d := dq) (os := os) (pl_window fc (N5.out.keep fc (below_regrown w5 dq os)).p)
            have CT : Hid (∀ dq os, _) := fun dq os => Calls.regrown_of (P := Try.prog) (w := w5) (d := dq) (os := os) (pl_wait fc (N5.out.keep fc (below_regrown w5 dq os)).p)
            have CR : Hid (∀ dq os, _) := fun dq os => Calls.regrown_of (P := Try.prog) (w := w5) (d := dq) (os := os) (kl_rwait (N5.out.keep fc (below_regrown w5 dq os)))
            have cw := fun dq os => cell_regrown (w := w5) N5.out.win dq os
            generalize d2.l.length = dl2 at *
            generalize bytesP d2.l = by2 at *
            generalize d2.win = wi2 at *
            generalize wait d2 = wt2 at *
            go_wp2_with fail
            refine wp_region_quiet_below (by kernel_rfl) (by kernel_rfl) ?_
            repeat (go_big_quiet_step (first | (go_at_call 19; exact CW.out _ _) | (go_at_call 20; exact CT.out _ _) | (go_at_call 21; exact CR.out _ _)))
            refine wpQuiet_nil ?_
            intro _ hw'
            obtain ⟨⟨dq, osq⟩, hw''⟩ := hw'
            subst hw''
            have N7 : Hid (KL LS (fun _ => False) w (Go.Sort.grow (redrawn w5 dq) osq) B F2 d2 R d2) := (N5.out.keep fc (below_regrown w5 dq osq)).drop
            simp only
            generalize Go.Sort.grow (redrawn w5 dq) osq = w7 at *
            clear CW CT CR cw gl gb gw gt N5
            go_wp2_with fail
            go_roundg (M - (i + 1))
            case measure => omega
            case rel => exact ⟨i + 1, F2, d2, by omega, by go_num, hl2, N7⟩
          | some ad =>
            have hnews : ∀ j u, (rgs op.rg)[j]? = some u → (wa.alloc (.cells #[] 50)).cell? (ad.add j) = some u := by
              obtain ⟨a', cap', e, q⟩ := hci.out
              unfold LOp.rv at e
              injection e with e _ _
              rw [hra] at e
              rcases q with hq | ⟨g', o, rfl, q⟩
              · intro j u hj; rw [hq] at hj; simp [rgs] at hj
              · injection e with e
                subst e
                refine rgs_all fun k hk => ?_
                obtain ⟨h1, h2⟩ := q k hk
                rw [Addr.add_mid, Addr.add_mid]
                have bb := NX.out.bel.trans (BE.out.mono NX.out.bel.size)
                exact ⟨(bb.cell (World.block_lt_of_cell? w _ h1)).trans h1, (bb.cell (World.block_lt_of_cell? w _ h2)).trans h2⟩
            replace hnews : Hid _ := hnews
            have h1c : Hid _ := rgs_one op.rg
            have hrl : Hid _ := rgs_len op.rg
            have hrv : op.rv = .slice (some ad) op.rg.length op.rc := by unfold LOp.rv; rw [hra]
            rw [hrv] at e4
            have e5 := (BE.out.cell (p := ⟨g, 4, none⟩) hgl.out).trans e4
            clear hrv hra
            go_wp2_with (at_builtin; refine wpList_append_own _ rfl _ _ 27 rfl wa.heap.size 50 i0 (.agg #[.int .i64 0, .int .i64 0]) 2 16 Try.underlying27 hi0 hz0 hz1 hz2 rfl (by decide) _ 0 _ rfl OE.out ad op.rg.length op.rc (rgs op.rg) rfl hrl.out hnews.out h1c.out (by unfold maxLen; omega) (by omega) (by simp) ?_)
            intro v1 w1 hown' hgrow _
            have O1 : Hid (w1.ownsRow wa.heap.size 50 2 v1 op.rg.length (rgs op.rg)) := hown'
            have B1 : Hid (Below wa.heap.size wa w1) := BE.out.grown hgrow BE.out.size (fun k hk => (OE.out.lt k hk).1)
            have N1 : Hid (KL LS (fun k => k = g) w w1 B F d R d) := NX.out.keep fc B1.out
            have L1 : Hid (Lies w1 g op.cells) := LX.out.keep (by show 0 < 5; decide) B1.out
            clear hown' hgrow OE BE hnews h1c hrl hi0 hz0 hz1 hz2 B1 e0 e4 e5
            have hl2 : Hid (LenB (acked d op.rg) (i + 1)) := Nat.le_trans (acked_len ..) (by omega)
            have AK : Hid (∀ _ : Unit, _) := fun _ => kl_acked fc op.rg v1 N1.out (own_rgAt O1.out) hzi.out.rgs hzi.out.rg (fun _ p c e q => by have h1 := (O1.out.lt p.block (by rw [e]; rfl)).1; have h2 := fc.lt NX.out.p.s _ q; omega)
            have RK : Hid (∀ w' F', KL LS (fun k => k = g) w w' B F' (acked d op.rg) R d → _) := fun w' F' h => kl_racked fc op.rg op.rv h (hci.out.keep h.bel) hzi.out.rgs (fun hn p c e q => by have h1 := rg_lt (e ▸ hci.out) hn; have h2 := h.geR; omega)
            clear NX LX O1
            go_wp2_with fail
            refine (AK.out ()).mono ?_
            rintro e w2 ⟨u, v, rfl, F2, hu, hv, hRw, n2, s2⟩
            have hRs := Lib.hid hRw
            clear hRw
            have L2 := Lib.hid (L1.out.same s2)
            have N2 := Lib.hid n2
            have U2 := Lib.hid hu
            have V2 := Lib.hid hv
            have e4 := L2.out.cell 4 (v := op.rv) rfl
            clear n2 s2 hu hv L1 N1 AK
            go_wp2_with fail
            refine (RK.out _ _ N2.out).mono ?_
            rintro e w3 ⟨x, y, rfl, hx, hy, n3, s3, k3⟩
            have U3 : Hid (Calls Try.prog 14 #[u, x] w3 fun e w' => e = .returned (.bool true) ∧ Below w3.heap.size w3 w') := by
              have := lsame_ok (U2.out.keepK k3 (fun k q e => by have := q.1; have := hRs.out; omega)).at hx (by have := told_len d op.rg; omega)
              rw [decide_eq_true rfl] at this
              exact this
            have V3 : Hid (∀ w4, Below w3.heap.size w3 w4 → Calls Try.prog 14 #[v, y] w4 fun e w' => e = .returned (.bool true) ∧ Below w4.heap.size w4 w') := fun w4 b4 => by
              have := lsame_ok ((V2.out.keepK k3 (fun k q e => by have := q.1; have := hRs.out; omega)).keep b4).at (hy.keep b4) (by have := told_len d op.rg; omega)
              rw [decide_eq_true rfl] at this
              exact this
            have N3 : Hid (KL LS (fun k => k = g) w w3 B F2 (acked d op.rg) R (acked d op.rg)) := n3
            have gE : (ackE d op.rg != ackE d op.rg) = false := by simp
            generalize acked d op.rg = d2 at *
            generalize ackE d op.rg = ae at *
            clear n3 s3 hx hy k3 U2 V2 N2 RK e4 L2 hci hzi
            go_wp2_with fail
            refine U3.out.mono ?_
            rintro e w4 ⟨rfl, b4⟩
            have V4 := Lib.hid (V3.out _ b4)
            have N4 := Lib.hid (N3.out.keep fc b4)
            clear U3 V3 N3 b4
            go_wp2_with fail
            refine V4.out.mono ?_
            rintro e w5 ⟨rfl, b5⟩
            have N3 := Lib.hid (N4.out.keep fc b5)
            clear V4 N4 b5
            have FL : Hid (∀ _ : Unit, _) := fun _ => pl_flight fc N3.out.p
            have RF : Hid (∀ w', KL LS (fun k => k = g) w w' B F2 d2 R d2 → _) := fun w' h => kl_rflight h
            go_wp2_with fail
            refine (FL.out ()).mono ?_
            rintro e w4 ⟨rfl, b4⟩
            have N4 := Lib.hid (N3.out.keep fc b4)
            clear b4 FL N3
            go_wp2_with fail
            refine (RF.out _ N4.out).mono ?_
            rintro e w5 ⟨rfl, b5⟩
            have N5 := Lib.hid (N4.out.keep fc b5)
            clear b5 RF N4
            have gl : ((d2.l.length : Int) != (d2.l.length : Int)) = false := by simp
            have gb : (bytesP d2.l != bytesP d2.l) = false := by simp
            have gw : (d2.win != d2.win) = false := by simp
            have gt : (wait d2 != wait d2) = false := by simp
            have CW : Hid (∀ dq os, _) := fun dq os => Calls.regrown_of (P := Try.prog) (w := w5) (d := dq) (os := os) (pl_window fc (N5.out.keep fc (below_regrown w5 dq os)).p)
            have CT : Hid (∀ dq os, _) := fun dq os => Calls.regrown_of (P := Try.prog) (w := w5) (d := dq) (os := os) (pl_wait fc (N5.out.keep fc (below_regrown w5 dq os)).p)
            have CR : Hid (∀ dq os, _) := fun dq os => Calls.regrown_of (P := Try.prog) (w := w5) (d := dq) (os := os) (kl_rwait (N5.out.keep fc (below_regrown w5 dq os)))
            have cw := fun dq os => cell_regrown (w := w5) N5.out.win dq os
            generalize d2.l.length = dl2 at *
            generalize bytesP d2.l = by2 at *
            generalize d2.win = wi2 at *
            generalize wait d2 = wt2 at *
            go_wp2_with fail
            refine wp_region_quiet_below (by kernel_rfl) (by kernel_rfl) ?_
            repeat (go_big_quiet_step (first | (go_at_call 19; exact CW.out _ _) | (go_at_call 20; exact CT.out _ _) | (go_at_call 21; exact CR.out _ _)))
            refine wpQuiet_nil ?_
            intro _ hw'
            obtain ⟨⟨dq, osq⟩, hw''⟩ := hw'
            subst hw''
            have N7 : Hid (KL LS (fun _ => False) w (Go.Sort.grow (redrawn w5 dq) osq) B F2 d2 R d2) := (N5.out.keep fc (below_regrown w5 dq osq)).drop
            simp only
            generalize Go.Sort.grow (redrawn w5 dq) osq = w7 at *
            clear CW CT CR cw gl gb gw gt N5
            go_wp2_with fail
            go_roundg (M - (i + 1))
            case measure => omega
            case rel => exact ⟨i + 1, F2, d2, by omega, by go_num, hl2, N7⟩
        · by_cases hk2 : op.kind = 2
          · have e0 : wa.cell? ⟨g, 0, none⟩ = some (.int .i64 2) := hk2 ▸ LX.out.cell 0 (v := .int .i64 op.kind) rfl
            have AS : Hid (∀ w', KL LS (fun k => k = g) w w' B F d R d → _) := fun w' h => kl_expire fc op.now h hzi.out.now
            have RS : Hid (∀ w' F', KL LS (fun k => k = g) w w' B F' (expire d op.now) R d → _) := fun w' F' h => kl_rexpire fc op.now h hzi.out.now
            go_wp2_with fail
            clear e0
            refine wp_region_held (S := fun w' => w'.cell? ⟨g, 2, none⟩ = some (.int .i64 op.now)) (by kernel_rfl) ?_
            change wpAnyH _ .any _ _ _ 10 (Array.replicate 10 false) _ wa.drew
            have N1 : Hid (KL LS (fun k => k = g) w wa.drew B F d R d) := NX.out.keep fc (drewB _ _)
            have L1 : Hid (Lies wa.drew g op.cells) := LX.out.of_block ((drewB wa.heap.size wa).block g (NX.out.nX g rfl).2.2)
            have hS : wa.drew.cell? ⟨g, 2, none⟩ = some (.int .i64 op.now) := L1.out.cell 2 (v := .int .i64 op.now) rfl
            clear NX LX
            refine obTakeH (i := 0) (d := 95) (v := ptr B) rfl rfl (by kernel_rfl) (by kernel_rfl) (by kernel_rfl) (fun _ _ _ h => h) rfl (fun w hS => by obtain s1 := hS; go_simp) hS ?_
            refine obTakeH (i := 1) (d := 96) (v := .pointer (some ⟨g, 2, none⟩)) rfl rfl (by kernel_rfl) (by kernel_rfl) (by kernel_rfl) (fun _ _ _ h => h) rfl (fun w hS => by obtain s1 := hS; go_simp) hS ?_
            refine obTakeH (i := 2) (d := 97) (v := .int .i64 op.now) rfl rfl (by kernel_rfl) (by kernel_rfl) (by kernel_rfl) (fun _ _ _ h => h) rfl (fun w hS => by obtain s1 := hS; go_simp) hS ?_
            refine obTakeH (i := 4) (d := 99) (v := ptr R) rfl rfl (by kernel_rfl) (by kernel_rfl) (by kernel_rfl) (fun _ _ _ h => h) rfl (fun w hS => by obtain s1 := hS; go_simp) hS ?_
            refine obTakeH (i := 5) (d := 100) (v := .pointer (some ⟨g, 2, none⟩)) rfl rfl (by kernel_rfl) (by kernel_rfl) (by kernel_rfl) (fun _ _ _ h => h) rfl (fun w hS => by obtain s1 := hS; go_simp) hS ?_
            refine obTakeH (i := 6) (d := 101) (v := .int .i64 op.now) rfl rfl (by kernel_rfl) (by kernel_rfl) (by kernel_rfl) (fun _ _ _ h => h) rfl (fun w hS => by obtain s1 := hS; go_simp) hS ?_
            simp only [Act.put, List.setIfInBounds_toArray, List.set_cons_succ, List.set_cons_zero]
            refine wpAnyH_all (rs := [3]) (by kernel_rfl) (by simp) (fun j hj => ?_)
            obtain rfl : j = 3 := by simpa using hj
            refine wpOp_step rfl (fun K' hK => ?_)
            clear hj
            refine obCall2 (k1 := 95) (k2 := 97) (d := 98) (x1 := ptr B) (x2 := .int .i64 op.now) 15 _ rfl rfl _ _ _ _ (enter_exp _ _) rfl rfl (AS.out _ N1.out) (fun e w2 hR => ?_)
            obtain ⟨v2, rfl, F2, hv2, hRw, n2, s2⟩ := hR
            have hRs := Lib.hid hRw
            clear hRw
            have L2 : Hid (Lies w2 g op.cells) := L1.out.same s2
            have N2 := Lib.hid n2
            have V2 := Lib.hid hv2
            refine ⟨_, rfl, hK _ _ ⟨L2.out.cell 2 (v := .int .i64 op.now) rfl, ?_⟩⟩
            clear hK K' n2 N1 AS hS L1 s2 hv2
            simp only [Act.put, List.setIfInBounds_toArray, List.set_cons_succ, List.set_cons_zero]
            refine wpAnyH_all (rs := [7]) (by kernel_rfl) (by simp) (fun j hj => ?_)
            obtain rfl : j = 7 := by simpa using hj
            refine wpOp_step rfl (fun K' hK => ?_)
            clear hj
            refine obCall2 (k1 := 99) (k2 := 101) (d := 102) (x1 := ptr R) (x2 := .int .i64 op.now) 16 _ rfl rfl _ _ _ _ (enter_rexp _ _) rfl rfl (RS.out _ _ N2.out) (fun e w3 hR => ?_)
            obtain ⟨v3, rfl, hv3, n3, s3, k3⟩ := hR
            have L3 : Hid (Lies w3 g op.cells) := L2.out.same s3
            have N3 : Hid (KL LS (fun k => k = g) w w3 B F2 (expire d op.now) R (expire d op.now)) := n3
            have V3 : Hid (Calls Try.prog 14 #[v2, v3] w3 fun e w' => e = .returned (.bool true) ∧ Below w3.heap.size w3 w') := by
              have := lsame_ok (V2.out.keepK k3 (fun k q e => by have := q.1; have := hRs.out; omega)).at hv3 (by have := exp_len d op.now; omega)
              rw [decide_eq_true rfl] at this
              exact this
            refine ⟨_, rfl, hK _ _ ⟨L3.out.cell 2 (v := .int .i64 op.now) rfl, ?_⟩⟩
            clear hK K' n3 N2 RS L2 s3 V2 hv3 k3
            simp only [Act.put, List.setIfInBounds_toArray, List.set_cons_succ, List.set_cons_zero]
            refine wpAnyH_all (rs := [8]) (by kernel_rfl) (by simp) (fun j hj => ?_)
            obtain rfl : j = 8 := by simpa using hj
            refine wpOp_step rfl (fun K' hK => ?_)
            clear hj
            refine obCall2 (k1 := 98) (k2 := 102) (d := 103) (x1 := v2) (x2 := v3) 14 _ rfl rfl _ _ _ _ (enter_same _ _) rfl rfl V3.out (fun e w4 hR => ?_)
            obtain ⟨rfl, b4⟩ := hR
            have L4 : Hid (Lies w4 g op.cells) := L3.out.keep (by show 0 < 5; decide) b4
            have N4 := Lib.hid (N3.out.keep fc b4)
            refine ⟨_, rfl, hK _ _ ⟨L4.out.cell 2 (v := .int .i64 op.now) rfl, ?_⟩⟩
            clear hK K' N3 V3 L3 b4
            have hS : w4.cell? ⟨g, 2, none⟩ = some (.int .i64 op.now) := L4.out.cell 2 (v := .int .i64 op.now) rfl
            simp only [Act.put, List.setIfInBounds_toArray, List.set_cons_succ, List.set_cons_zero]
            refine wpAnyH_all (rs := [9]) (by kernel_rfl) (by simp) (fun j hj => ?_)
            obtain rfl : j = 9 := by simpa using hj
            refine wpOp_step rfl (fun K' hK => ?_)
            clear hj
            go_simp
            refine hK _ _ ⟨hS, ?_⟩
            clear hK K' hS
            refine wpAnyH_done (by kernel_rfl) ?_ 0
            have hl2 : Hid (LenB (expire d op.now) (i + 1)) := Nat.le_trans (expire_len ..) (by omega)
            generalize expire d op.now = d2 at *
            clear L4
            have N3 := N4
            clear N4
            have FL : Hid (∀ _ : Unit, _) := fun _ => pl_flight fc N3.out.p
            have RF : Hid (∀ w', KL LS (fun k => k = g) w w' B F2 d2 R d2 → _) := fun w' h => kl_rflight h
            go_wp2_with fail
            refine (FL.out ()).mono ?_
            rintro e w4 ⟨rfl, b4⟩
            have N4 := Lib.hid (N3.out.keep fc b4)
            clear b4 FL N3
            go_wp2_with fail
            refine (RF.out _ N4.out).mono ?_
            rintro e w5 ⟨rfl, b5⟩
            have N5 := Lib.hid (N4.out.keep fc b5)
            clear b5 RF N4
            have gl : ((d2.l.length : Int) != (d2.l.length : Int)) = false := by simp
            have gb : (bytesP d2.l != bytesP d2.l) = false := by simp
            have gw : (d2.win != d2.win) = false := by simp
            have gt : (wait d2 != wait d2) = false := by simp
            have CW : Hid (∀ dq os, _) := fun dq os => Calls.regrown_of (P := Try.prog) (w := w5) (d := dq) (os := os) (pl_window fc (N5.out.keep fc (below_regrown w5 dq os)).p)
            have CT : Hid (∀ dq os, _) := fun dq os => Calls.regrown_of (P := Try.prog) (w := w5) (d := dq) (os := os) (pl_wait fc (N5.out.keep fc (below_regrown w5 dq os)).p)
            have CR : Hid (∀ dq os, _) := fun dq os => Calls.regrown_of (P := Try.prog) (w := w5) (d := dq) (os := os) (kl_rwait (N5.out.keep fc (below_regrown w5 dq os)))
            have cw := fun dq os => cell_regrown (w := w5) N5.out.win dq os
            generalize d2.l.length = dl2 at *
            generalize bytesP d2.l = by2 at *
            generalize d2.win = wi2 at *
            generalize wait d2 = wt2 at *
            go_wp2_with fail
            refine wp_region_quiet_below (by kernel_rfl) (by kernel_rfl) ?_
            repeat (go_big_quiet_step (first | (go_at_call 19; exact CW.out _ _) | (go_at_call 20; exact CT.out _ _) | (go_at_call 21; exact CR.out _ _)))
            refine wpQuiet_nil ?_
            intro _ hw'
            obtain ⟨⟨dq, osq⟩, hw''⟩ := hw'
            subst hw''
            have N7 : Hid (KL LS (fun _ => False) w (Go.Sort.grow (redrawn w5 dq) osq) B F2 d2 R d2) := (N5.out.keep fc (below_regrown w5 dq osq)).drop
            simp only
            generalize Go.Sort.grow (redrawn w5 dq) osq = w7 at *
            clear CW CT CR cw gl gb gw gt N5
            go_wp2_with fail
            go_roundg (M - (i + 1))
            case measure => omega
            case rel => exact ⟨i + 1, F2, d2, by omega, by go_num, hl2, N7⟩
          · have hne1 : (op.kind == 0) = false := by simpa using hk0
            have hne2 : (op.kind == 1) = false := by simpa using hk1
            have hne3 : (op.kind == 2) = false := by simpa using hk2
            have e0 := LX.out.cell 0 (v := .int .i64 op.kind) rfl
            have hl2 : Hid (LenB d (i + 1)) := by show d.l.length ≤ i + 1; omega
            obtain ⟨F2, hF2⟩ : ∃ F2, F2 = F := ⟨_, rfl⟩
            obtain ⟨d2, hd2⟩ : ∃ d2, d2 = d := ⟨_, rfl⟩
            have N3 := NX
            rw [← hF2, ← hd2] at N3
            rw [← hd2] at hl2
            clear NX LX hF2 hd2
            have FL : Hid (∀ _ : Unit, _) := fun _ => pl_flight fc N3.out.p
            have RF : Hid (∀ w', KL LS (fun k => k = g) w w' B F2 d2 R d2 → _) := fun w' h => kl_rflight h
            go_wp2_with fail
            refine (FL.out ()).mono ?_
            rintro e w4 ⟨rfl, b4⟩
            have N4 := Lib.hid (N3.out.keep fc b4)
            clear b4 FL N3
            go_wp2_with fail
            refine (RF.out _ N4.out).mono ?_
            rintro e w5 ⟨rfl, b5⟩
            have N5 := Lib.hid (N4.out.keep fc b5)
            clear b5 RF N4
            have gl : ((d2.l.length : Int) != (d2.l.length : Int)) = false := by simp
            have gb : (bytesP d2.l != bytesP d2.l) = false := by simp
            have gw : (d2.win != d2.win) = false := by simp
            have gt : (wait d2 != wait d2) = false := by simp
            have CW : Hid (∀ dq os, _) := fun dq os => Calls.regrown_of (P := Try.prog) (w := w5) (d := dq) (os := os) (pl_window fc (N5.out.keep fc (below_regrown w5 dq os)).p)
            have CT : Hid (∀ dq os, _) := fun dq os => Calls.regrown_of (P := Try.prog) (w := w5) (d := dq) (os := os) (pl_wait fc (N5.out.keep fc (below_regrown w5 dq os)).p)
            have CR : Hid (∀ dq os, _) := fun dq os => Calls.regrown_of (P := Try.prog) (w := w5) (d := dq) (os := os) (kl_rwait (N5.out.keep fc (below_regrown w5 dq os)))
            have cw := fun dq os => cell_regrown (w := w5) N5.out.win dq os
            generalize d2.l.length = dl2 at *
            generalize bytesP d2.l = by2 at *
            generalize d2.win = wi2 at *
            generalize wait d2 = wt2 at *
            go_wp2_with fail
            refine wp_region_quiet_below (by kernel_rfl) (by kernel_rfl) ?_
            repeat (go_big_quiet_step (first | (go_at_call 19; exact CW.out _ _) | (go_at_call 20; exact CT.out _ _) | (go_at_call 21; exact CR.out _ _)))
            refine wpQuiet_nil ?_
            intro _ hw'
            obtain ⟨⟨dq, osq⟩, hw''⟩ := hw'
            subst hw''
            have N7 : Hid (KL LS (fun _ => False) w (Go.Sort.grow (redrawn w5 dq) osq) B F2 d2 R d2) := (N5.out.keep fc (below_regrown w5 dq osq)).drop
            simp only
            generalize Go.Sort.grow (redrawn w5 dq) osq = w7 at *
            clear CW CT CR cw gl gb gw gt N5
            go_wp2_with fail
            go_roundg (M - (i + 1))
            case measure => omega
            case rel => exact ⟨i + 1, F2, d2, by omega, by go_num, hl2, N7⟩
    · clear hc
      by_cases hin : i < m
      · have q1 : decide (i < m) = true := decide_eq_true hin
        have q2 : decide ((i : Int) < 150) = false := decide_eq_false (by omega)
        have q3 : decide (i < 150) = false := decide_eq_false (by omega)
        go_wp2_with fail
        go_ret
        exact ⟨rfl, N.out.bel⟩
      · have q1 : decide (i < m) = false := decide_eq_false hin
        go_wp2_with fail
        go_ret
        exact ⟨rfl, N.out.bel⟩
set_option maxHeartbeats 4000000 in
theorem keeps_none {LS : LSt} (fc : Face LS) (a : Option Addr) (m cap : Nat) (hm : m = 0) (w : World) :
    Calls Try.prog 3 #[.slice a m cap] w fun e w' => e = .returned (.bool true) ∧ Below w.heap.size w w' := by
  have NP : Hid (∀ w', Below w.heap.size w w' → _) := fun w' b => pl_new fc w w' b
  have NR : Hid (∀ w' B F d, PL LS w w' B F d → _) := fun w' B F d h => kl_new fc (w0 := w) (w := w') (B := B) (F := F) (d := d) h
  go_enter Try.func3, Try.ntmps3
  go_wp2_with fail
  refine (NP.out _ (Below.refl _ _)).mono ?_
  rintro e w1 ⟨B, F0, rfl, n1, -⟩
  have N1 : Hid (PL LS w w1 B F0 ld0) := n1
  clear n1 NP
  go_wp2_with fail
  refine (NR.out _ _ _ _ N1.out).mono ?_
  rintro e w2 ⟨R, rfl, n2⟩
  have N2 : Hid (KL LS (fun _ => False) w w2 B F0 ld0 R ld0) := n2
  clear n2 N1 NR
  go_wp2_with fail
  go_loopg [5] 0 (fun g iv wr => ∃ (i : Nat) (F : Nat → Prop) (d : Ld), i + g = 0 ∧ iv = .int .i64 i ∧ Hid (d.l.length ≤ i) ∧ Hid (KL LS (fun _ => False) w wr B F d R d))
  case atStart => exact ⟨0, F0, ld0, by omega, rfl, Nat.le_refl 0, N2⟩
  case round =>
    clear N2
    obtain ⟨i, F, d, hi, rfl, hdl, N⟩ := hrel
    have q1 : decide (i < m) = false := decide_eq_false (by omega)
    go_wp2_with fail
    go_ret
    exact ⟨rfl, N.out.bel⟩
theorem keeps_walk {LS : LSt} (fc : Face LS) (a : Option Addr) (m cap : Nat) (f : Nat → LOp) (w : World) (hm : m ≤ maxLen) (hz : ∀ i, i < m → LOpB (f i)) (hs : LOps w a m f) :
    Calls Try.prog 3 #[.slice a m cap] w fun e w' => e = .returned (.bool true) ∧ Below w.heap.size w w' := by
  have hm' : m ≤ 9223372036854775807 := by unfold maxLen at hm; omega
  rcases hs with h0 | ⟨b, off, rfl, hb, hc⟩
  · exact keeps_none fc a m cap h0 w
  · by_cases h : m ≤ 150
    · exact keeps_some fc f b off m cap m w hb hm' (.inl ⟨rfl, h⟩) hz hc
    · exact keeps_some fc f b off m cap 150 w hb hm' (.inr ⟨rfl, by omega⟩) hz hc
end Go.Proofs.Ytfjampommgkfeaa
