/-
  Where a range stands of which something holds: place, over any closure of one captured variable. At most sixteen ranges; no other condition.
-/
import Derived.Test.YtlbhlmccjieieaaAkRow
import Derived.Test.YtlbhlmccjieieaaObDraw
import Derived.Test.YtlbhlmccjieieaaLibSearch
namespace Go.Proofs.Ytlbhlmccjieieaa
set_option maxRecDepth 100000
open Go.RowKit Go.Sort

/-- A call of a function value with captured variables, by what it answers. -/
theorem obCallF (f : FuncId) (o : Oper) {k0 k1 d : Nat} {tys : Array TypeId} {x : Value} {caps : Array Value} {R : Ending → World → Prop} (ho : o.op = .call { callee := .value (.tmp k0), args := #[.tmp k1], argTypes := tys }) (hd : o.dst = some d) (a : Act) (w : World) (K : Act → World → Prop) (Q : Exit → Act → World → Prop)
    (hcf : ∀ w, (callFunc f (#[x] ++ caps)).run Try.prog w = .ok (.enter f (#[x] ++ caps)) w) (h0 : a.eval (.tmp k0) = .func (.func f) #[] caps) (h1 : a.eval (.tmp k1) = x) (C : Calls Try.prog f (#[x] ++ caps) w R) (hK : ∀ e w', R e w' → ∃ v, e = .returned v ∧ K (a.put (some d) v) w') : o.wp Try.prog a w K Q := by
  unfold Oper.wp
  have hr : (execOp a.eval o).run Try.prog w = .ok (.enter f (#[x] ++ caps)) w := by
    unfold execOp
    rw [ho]
    simp only [go_sem] at h0 h1 hcf ⊢
    simp [go_sem, h0, h1, hcf]
  rw [hr]
  exact C.mono fun e w' h => by
    obtain ⟨v, rfl, hk⟩ := hK e w' h
    rw [hd]
    exact hk
set_option maxHeartbeats 1000000 in
theorem plc_ok (i g B b1 b2 M cap : Nat) (x y : Int) (p : Bool) (f : FuncId) (caps : Array Value) (w : World) (hi : i < M) (c1 : w.cell? ⟨b1, 0, none⟩ = some (.func (.func f) #[] caps)) (c2 : w.cell? ⟨b2, 0, none⟩ = some (.pointer (some ⟨B, 0, none⟩)))
    (c3 : w.cell? ⟨B, 0, none⟩ = some (.slice (some ⟨g, 0, none⟩) M cap)) (c4 : w.cell? ⟨g, 2 * i, none⟩ = some (.int .i64 x)) (c5 : w.cell? ⟨g, 2 * i + 1, none⟩ = some (.int .i64 y)) (hcf : ∀ x w, (callFunc f (#[x] ++ caps)).run Try.prog w = .ok (.enter f (#[x] ++ caps)) w)
    (C : Calls Try.prog f (#[.agg #[.int .i64 x, .int .i64 y]] ++ caps) w.drew fun e w'' => e = .returned (.bool p) ∧ Below w.heap.size w w'') :
    Calls Try.prog 29 #[.int .i64 (i : Int), .pointer (some ⟨b1, 0, none⟩), .pointer (some ⟨b2, 0, none⟩)] w fun e w' => e = .returned (.bool p) ∧ Below w.heap.size w w' := by
  have ia := fun w' => at_rgs g 0 M cap i w' hi (i : Int) rfl (2 * i) (by omega)
  have keep : Hid (∀ w'', Below w.heap.size w w'' → (fun w' => w'.cell? ⟨b1, 0, none⟩ = some (.func (.func f) #[] caps) ∧ w'.cell? ⟨b2, 0, none⟩ = some (.pointer (some ⟨B, 0, none⟩)) ∧ w'.cell? ⟨B, 0, none⟩ = some (.slice (some ⟨g, 0, none⟩) M cap) ∧ w'.cell? ⟨g, 2 * i, none⟩ = some (.int .i64 x) ∧ w'.cell? ⟨g, 2 * i + 1, none⟩ = some (.int .i64 y)) w'') := fun w'' b => ⟨(b.cell (World.block_lt_of_cell? w _ c1)).trans c1, (b.cell (World.block_lt_of_cell? w _ c2)).trans c2, (b.cell (World.block_lt_of_cell? w _ c3)).trans c3, (b.cell (World.block_lt_of_cell? w _ c4)).trans c4, (b.cell (World.block_lt_of_cell? w _ c5)).trans c5⟩
  replace C : Hid (Calls Try.prog f (#[.agg #[.int .i64 x, .int .i64 y]] ++ caps) w.drew fun e w'' => e = .returned (.bool p) ∧ Below w.heap.size w w'') := C
  replace hcf : Hid _ := hcf
  go_enter Try.func29, Try.ntmps29
  go_wp2
  refine wp_region_held (S := fun w' => w'.cell? ⟨b1, 0, none⟩ = some (.func (.func f) #[] caps) ∧ w'.cell? ⟨b2, 0, none⟩ = some (.pointer (some ⟨B, 0, none⟩)) ∧ w'.cell? ⟨B, 0, none⟩ = some (.slice (some ⟨g, 0, none⟩) M cap) ∧ w'.cell? ⟨g, 2 * i, none⟩ = some (.int .i64 x) ∧ w'.cell? ⟨g, 2 * i + 1, none⟩ = some (.int .i64 y)) (by kernel_rfl) ?_
  change wpAnyH _ .any _ _ _ 10 (Array.replicate 10 false) _ w.drew
  have hS := keep.out w.drew (drewB _ _)
  refine obTakeH (i := 0) (d := 5) (v := .func (.func f) #[] caps) rfl rfl (by kernel_rfl) (by kernel_rfl) (by kernel_rfl) (fun _ _ _ h => h) rfl (fun w hS => by obtain ⟨s1, s2, s3, s4, s5⟩ := hS; go_simp) hS ?_
  refine obTakeH (i := 1) (d := 6) (v := .pointer (some ⟨B, 0, none⟩)) rfl rfl (by kernel_rfl) (by kernel_rfl) (by kernel_rfl) (fun _ _ _ h => h) rfl (fun w hS => by obtain ⟨s1, s2, s3, s4, s5⟩ := hS; go_simp) hS ?_
  refine obTakeH (i := 2) (d := 7) (v := .pointer (some ⟨B, 0, none⟩)) rfl rfl (by kernel_rfl) (by kernel_rfl) (by kernel_rfl) (fun _ _ _ h => h) rfl (fun w hS => by obtain ⟨s1, s2, s3, s4, s5⟩ := hS; go_simp) hS ?_
  refine obTakeH (i := 3) (d := 8) (v := .pointer (some ⟨B, 0, none⟩)) rfl rfl (by kernel_rfl) (by kernel_rfl) (by kernel_rfl) (fun _ _ _ h => h) rfl (fun w hS => by obtain ⟨s1, s2, s3, s4, s5⟩ := hS; go_simp) hS ?_
  refine obTakeH (i := 4) (d := 9) (v := .slice (some ⟨g, 0, none⟩) M cap) rfl rfl (by kernel_rfl) (by kernel_rfl) (by kernel_rfl) (fun _ _ _ h => h) rfl (fun w hS => by obtain ⟨s1, s2, s3, s4, s5⟩ := hS; go_simp) hS ?_
  refine obTakeH (i := 5) (d := 10) (v := .int .i64 (i : Int)) rfl rfl (by kernel_rfl) (by kernel_rfl) (by kernel_rfl) (fun _ _ _ h => h) rfl (fun w hS => by obtain ⟨s1, s2, s3, s4, s5⟩ := hS; go_simp) hS ?_
  refine obTakeH (i := 6) (d := 11) (v := .pointer (some ⟨g, 2 * i, none⟩)) rfl rfl (by kernel_rfl) (by kernel_rfl) (by kernel_rfl) (fun _ _ _ h => h) rfl (fun w hS => by obtain ⟨s1, s2, s3, s4, s5⟩ := hS; go_simp) hS ?_
  refine obTakeH (i := 7) (d := 12) (v := .agg #[.int .i64 x, .int .i64 y]) rfl rfl (by kernel_rfl) (by kernel_rfl) (by kernel_rfl) (fun _ _ _ h => h) rfl (fun w hS => by obtain ⟨s1, s2, s3, s4, s5⟩ := hS; go_simp) hS ?_
  simp only [Act.put, List.setIfInBounds_toArray, List.set_cons_succ, List.set_cons_zero]
  clear ia
  refine wpAnyH_all (rs := [8]) (by kernel_rfl) (by simp) (fun i hi => ?_)
  obtain rfl : i = 8 := by simpa using hi
  refine wpOp_step rfl (fun K' hK => ?_)
  clear hi
  simp only [Region.wanted]
  refine obCallF f _ (k0 := 5) (k1 := 12) (d := 13) rfl rfl _ _ _ _ (fun w => hcf.out _ w) rfl rfl C.out ?_
  rintro e w1 ⟨rfl, b1⟩
  refine ⟨_, rfl, hK _ _ ⟨keep.out w1 b1, ?_⟩⟩
  clear hK K'
  replace b1 : Hid _ := b1
  refine wpAnyH_all (rs := [9]) (by kernel_rfl) (by simp) (fun i hi => ?_)
  obtain rfl : i = 9 := by simpa using hi
  refine wpOp_step rfl (fun K' hK => ?_)
  clear hi
  go_simp
  refine hK _ _ ⟨keep.out w1 b1.out, ?_⟩
  clear hK K' keep hS c1 c2 c3 c4 c5
  refine wpAnyH_done (by kernel_rfl) ?_ 0
  go_wp2
  go_ret
  exact ⟨rfl, b1.out⟩
set_option maxHeartbeats 1000000 in
theorem place_ok (B K : Nat) (sv : Value) (l : List Rg) (f : FuncId) (p : Rg → Bool) (a : Int) (w : World) (h0 : w.cell? ⟨B, 0, none⟩ = some sv) (ho : w.ownsRow 0 38 2 sv l.length (rgs l)) (hl : l.length ≤ 16) (hK : w.cell? ⟨K, 0, none⟩ = some (.int .i64 a))
    (hcf : ∀ x w, (callFunc f (#[x] ++ #[.pointer (some ⟨K, 0, none⟩)])).run Try.prog w = .ok (.enter f (#[x] ++ #[.pointer (some ⟨K, 0, none⟩)])) w) (mono : ∀ i j, i ≤ j → j < l.length → p (l.getD i (0, 0)) = true → p (l.getD j (0, 0)) = true)
    (C : ∀ x y w', w'.cell? ⟨K, 0, none⟩ = some (.int .i64 a) → Calls Try.prog f (#[.agg #[.int .i64 x, .int .i64 y]] ++ #[.pointer (some ⟨K, 0, none⟩)]) w' fun e w'' => e = .returned (.bool (p (x, y))) ∧ Below w'.heap.size w' w'') :
    Calls Try.prog 20 #[.pointer (some ⟨B, 0, none⟩), .func (.func f) #[] #[.pointer (some ⟨K, 0, none⟩)]] w fun e w' => ∃ k : Nat, e = .returned (.int .i64 (k : Int)) ∧ k ≤ l.length ∧ (∀ i, i < k → p (l.getD i (0, 0)) = false) ∧ (k < l.length → p (l.getD k (0, 0)) = true) ∧ Below w.heap.size w w' := by
  obtain ⟨s, cap, rfl, hr⟩ := own_rgAt ho
  have hlt : B < w.heap.size := World.block_lt_of_cell? w _ h0
  have hKt : K < w.heap.size := World.block_lt_of_cell? w _ hK
  obtain ⟨w1, hw1⟩ : ∃ w1, w1 = (w.alloc (.cells #[.pointer (some ⟨B, 0, none⟩)] 24)).alloc (.cells #[.func (.func f) #[] #[.pointer (some ⟨K, 0, none⟩)]] 52) := ⟨_, rfl⟩
  have bw : Below w.heap.size w w1 := by
    rw [hw1]
    exact (((Below.refl w.heap.size w).alloc (Nat.le_refl _) _).alloc (by simp) _)
  have c1 : w1.cell? ⟨w.heap.size + 1, 0, none⟩ = some (.func (.func f) #[] #[.pointer (some ⟨K, 0, none⟩)]) := by rw [hw1]; simp
  have c2 : w1.cell? ⟨w.heap.size, 0, none⟩ = some (.pointer (some ⟨B, 0, none⟩)) := by rw [hw1]; simp
  have c3 := (bw.cell hlt).trans h0
  have cK := (bw.cell hKt).trans hK
  have C1 : Hid (Calls Try.prog 28 #[.int .i64 (l.length : Int), .func (.func 29) #[] #[.pointer (some ⟨w.heap.size + 1, 0, none⟩), .pointer (some ⟨w.heap.size, 0, none⟩)]] w1 fun e w' => ∃ k : Nat, e = .returned (.int .i64 (k : Int)) ∧ k ≤ l.length ∧ (∀ i, i < k → p (l.getD i (0, 0)) = false) ∧ (k < l.length → p (l.getD k (0, 0)) = true) ∧ Below w.heap.size w w') := by
    refine (search_ok l.length 29 #[.pointer (some ⟨w.heap.size + 1, 0, none⟩), .pointer (some ⟨w.heap.size, 0, none⟩)] (fun i => if i < l.length then p (l.getD i (0, 0)) else true) (fun w' => Below w1.heap.size w1 w') w1 (Below.refl _ _) (by omega) (by intro x w; simp [go_sem]) ?_ ?_).mono ?_
    · intro i j hij h
      by_cases q : j < l.length
      · rw [if_pos (by omega)] at h
        rw [if_pos q]
        exact mono i j hij q h
      · rw [if_neg q]
    · intro i hi w' b
      rw [if_pos hi]
      rcases hr with rfl | ⟨g, o, rfl, hc⟩
      · simp at hi
      · obtain rfl : o = 0 := by
          rcases ho.2 with ⟨e, -⟩ | ⟨g', cap', cur, e, -⟩
          · cases e
          · injection e with e1 _ e2
            injection e1 with e1
            injection e1
        obtain ⟨d1, d2⟩ := hc i hi
        rw [Nat.zero_add] at d1 d2
        have bb := bw.trans (b.mono bw.size)
        have z := World.block_lt_of_cell? w _ d1
        refine (plc_ok i g B (w.heap.size + 1) w.heap.size l.length cap _ _ (p (l.getD i (0, 0))) f _ w' hi ((b.cell (World.block_lt_of_cell? _ _ c1)).trans c1) ((b.cell (World.block_lt_of_cell? _ _ c2)).trans c2) ((bb.cell hlt).trans h0) ((bb.cell z).trans d1) ((bb.cell (World.block_lt_of_cell? w _ d2)).trans d2) hcf ?_).mono ?_
        · exact (C _ _ w'.drew ((bb.cell hKt).trans hK)).mono fun e w'' h => ⟨h.1, (drewB _ w').trans h.2⟩
        · intro e w'' h
          exact ⟨h.1, b.trans (h.2.mono b.size)⟩
    · rintro e w' ⟨k, rfl, hk, k1, k2, b⟩
      refine ⟨k, rfl, hk, fun i hi => ?_, fun q => ?_, bw.trans (b.mono bw.size)⟩
      · have := k1 i hi
        rwa [if_pos (by omega)] at this
      · have := k2 k (Nat.le_refl _) q
        rwa [if_pos q] at this
  replace C : Hid _ := C
  replace mono : Hid _ := mono
  replace hr : Hid _ := hr
  replace hcf : Hid _ := hcf
  replace bw : Hid _ := bw
  subst hw1
  clear c1 c2 c3 cK ho
  go_enter Try.func20, Try.ntmps20
  go_wp2_with fail
  refine C1.out.mono ?_
  rintro e w' ⟨k, rfl, h⟩
  replace h : Hid _ := h
  go_wp2
  go_ret
  exact ⟨k, rfl, h.out⟩
end Go.Proofs.Ytlbhlmccjieieaa
